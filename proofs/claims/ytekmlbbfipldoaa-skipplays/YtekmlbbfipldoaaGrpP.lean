/- Several texts in one. -/
import Derived.Test.YtekmlbbfipldoaaSrtOrd
import Derived.Test.YtekmlbbfipldoaaHeld
import Derived.Test.YtekmlbbfipldoaaKeyCmp
import Derived.Test.YtekmlbbfipldoaaSmall
import Derived.BigQuiet
import Derived.Deep.RegionHeld3
import Derived.Deep.DeepCutAuto
import Derived.Deep.LoopGhost
import Derived.Test.YtekmlbbfipldoaaEnTwin
import Derived.Test.YtekmlbbfipldoaaKeyCheck
import Derived.Test.YtekmlbbfipldoaaClone
import Derived.LaidEqlPtr

/- A skip list, as it lies in memory. -/
namespace Go.Proofs.Ytekmlbbfipldoaa
set_option maxRecDepth 20000
open Go.RowKit
set_option linter.unusedVariables false

/-- nothing but blocks of F, and new ones, has turned -/
structure Keeps (F : Nat → Prop) (w w' : World) : Prop where
  os : w'.os = w.os
  tape : w'.tape = w.tape
  output : w'.output = w.output
  size : w.heap.size ≤ w'.heap.size
  block : ∀ k, k < w.heap.size → ¬ F k → w'.heap[k]? = w.heap[k]?

theorem Keeps.refl (F : Nat → Prop) (w : World) : Keeps F w w := ⟨rfl, rfl, rfl, Nat.le_refl _, fun _ _ _ => rfl⟩

theorem Keeps.trans {F : Nat → Prop} {a b c : World} (h : Keeps F a b) (k : Keeps F b c) : Keeps F a c :=
  ⟨k.os.trans h.os, k.tape.trans h.tape, k.output.trans h.output, Nat.le_trans h.size k.size, fun i hi hn => (k.block i (Nat.lt_of_lt_of_le hi h.size) hn).trans (h.block i hi hn)⟩

theorem Keeps.mono {F G : Nat → Prop} {a b : World} (h : Keeps F a b) (hF : ∀ i, F i → G i) : Keeps G a b := ⟨h.os, h.tape, h.output, h.size, fun i hi hn => h.block i hi fun hf => hn (hF i hf)⟩

theorem Keeps.below {F : Nat → Prop} {a b : World} (h : Keeps F a b) {B : Nat} (hF : ∀ i, F i → B ≤ i) (hB : B ≤ a.heap.size) : Below B a b :=
  ⟨h.os, h.tape, h.output, h.size, fun i hi => h.block i (Nat.lt_of_lt_of_le hi hB) fun hf => by have := hF i hf; omega⟩

theorem Below.keeps {a b : World} (h : Below a.heap.size a b) (F : Nat → Prop) : Keeps F a b :=
  ⟨h.os, h.tape, h.output, h.size, fun i hi hn => h.block i hi⟩

theorem Keeps.setCell {F : Nat → Prop} {a w : World} (h : Keeps F a w) {p : Addr} (hp : F p.block) (u : Value) : Keeps F a (w.setCell p u) :=
  h.trans ⟨rfl, rfl, rfl, by simp, fun k _ hk => Below.heap_setCell _ _ _ _ (fun e => hk (by rw [e]; exact hp))⟩

theorem Keeps.drew {F : Nat → Prop} {a w : World} (h : Keeps F a w) : Keeps F a w.drew := ⟨h.os, h.tape, h.output, h.size, h.block⟩

theorem Keeps.cell {F : Nat → Prop} {a b : World} (h : Keeps F a b) {p : Addr} {v : Value} (hp : ¬ F p.block) (hc : a.cell? p = some v) : b.cell? p = some v := by
  rw [← hc]
  exact World.cell?_of_block (h.block _ (World.block_lt_of_cell? _ _ hc) hp)

/-- a tower: its block, its entry as it lies there and as it is, its height -/
structure Tow where
  b : Nat
  x : Value
  y : Value
  e : EnB
  h : Nat

def ptrT : Option Nat → Value
  | none => .pointer none
  | some b => .pointer (some ⟨b, 0, none⟩)

/-- the first tower that stands in a row -/
def fstT (ts : List Tow) (r : Nat) : Option Nat := (ts.find? (fun t => decide (r < t.h))).map (·.b)

/-- the block of a place: the head's, or the tower's ahead of it -/
def nb (l : Nat) (ts : List Tow) (a : Nat) : Nat := if a = 0 then l else match ts[a - 1]? with | some t => t.b | none => 0

def nh (ts : List Tow) (a : Nat) : Nat := if a = 0 then 8 else match ts[a - 1]? with | some t => t.h | none => 0

/-- the eight pointers of a tower -/
structure NodeAt (w : World) (b hh : Nat) (rest : List Tow) : Prop where
  cel : ∀ r, r < 8 → w.cell? ⟨b, 4 + r, none⟩ = some (if r < hh then ptrT (fstT rest r) else .pointer none)
  frz : ∀ r, r < 8 → w.frozen? ⟨b, 4 + r, none⟩ = false
  blk : ∃ ca ty, w.heap[b]? = some (.cells ca ty (0, 0))

theorem NodeAt.lt {w : World} {b hh : Nat} {rest : List Tow} (h : NodeAt w b hh rest) : b < w.heap.size := World.block_lt_of_cell? w _ (h.cel 0 (by omega))

theorem NodeAt.below {w w' : World} {b hh : Nat} {rest : List Tow} (h : NodeAt w b hh rest) (hb : Below w.heap.size w w') : NodeAt w' b hh rest :=
  ⟨fun r hr => (hb.cell (p := ⟨b, 4 + r, none⟩) h.lt).trans (h.cel r hr), fun r hr => by rw [hb.frozen (p := ⟨b, 4 + r, none⟩) h.lt]; exact h.frz r hr, by rw [hb.block b h.lt]; exact h.blk⟩

/-- the entry of a tower -/
structure EntAt (w : World) (t : Tow) : Prop where
  bx : Box4 w t.b t.x (.int .u64 (t.e.2.1 : Int)) (.int .u8 (t.e.2.2.1.toNat : Int)) t.y
  rx : Rd w t.x t.e.1
  ry : Rd w t.y t.e.2.2.2

theorem EntAt.below {w w' : World} {t : Tow} (h : EntAt w t) (hb : Below w.heap.size w w') : EntAt w' t :=
  ⟨h.bx.below hb (Nat.le_refl _), h.rx.below hb (Nat.le_refl _), h.ry.below hb (Nat.le_refl _)⟩

/-- it lies in the world -/
def LtB (w : World) (x : Value) : Prop := ∀ q, x.ownBlock = some q → q < w.heap.size

theorem LtB.grow {w w' : World} {x : Value} (h : LtB w x) (hs : w.heap.size ≤ w'.heap.size) : LtB w' x := fun q hq => Nat.lt_of_lt_of_le (h q hq) hs

/-- a list: its head's block, its towers -/
structure SkAt (w : World) (l : Nat) (ts : List Tow) : Prop where
  nod : ∀ a, a ≤ ts.length → NodeAt w (nb l ts a) (nh ts a) (ts.drop a)
  ent : ∀ t ∈ ts, EntAt w t
  inj : ∀ a b, a ≤ ts.length → b ≤ ts.length → nb l ts a = nb l ts b → a = b
  ht : ∀ t ∈ ts, 1 ≤ t.h ∧ t.h ≤ 8
  out : ∀ t ∈ ts, ∀ a, a ≤ ts.length → (∀ q, t.x.ownBlock = some q → q ≠ nb l ts a) ∧ (∀ q, t.y.ownBlock = some q → q ≠ nb l ts a)
  ris : riseB (ts.map (·.e)) = true
  len : ts.length ≤ 1000
  inn : ∀ t ∈ ts, LtB w t.x ∧ LtB w t.y

theorem SkAt.below {w w' : World} {l : Nat} {ts : List Tow} (h : SkAt w l ts) (hb : Below w.heap.size w w') : SkAt w' l ts :=
  ⟨fun a ha => (h.nod a ha).below hb, fun t ht => (h.ent t ht).below hb, h.inj, h.ht, h.out, h.ris, h.len, fun t ht => ⟨(h.inn t ht).1.grow hb.size, (h.inn t ht).2.grow hb.size⟩⟩

theorem SkAt.drew {w : World} {l : Nat} {ts : List Tow} (h : SkAt w l ts) : SkAt w.drew l ts := h.below (Below.refl _ _).drew

theorem nb_succ (l : Nat) {ts : List Tow} {i : Nat} (h : i < ts.length) : nb l ts (i + 1) = ts[i].b := by
  unfold nb; rw [if_neg (by omega), Nat.add_sub_cancel, List.getElem?_eq_getElem h]

theorem nh_succ {ts : List Tow} {i : Nat} (h : i < ts.length) : nh ts (i + 1) = ts[i].h := by
  unfold nh; rw [if_neg (by omega), Nat.add_sub_cancel, List.getElem?_eq_getElem h]

/-- the next one in a row, or none -/
theorem fst_drop (ts : List Tow) (a r : Nat) : (fstT (ts.drop a) r = none ∧ ∀ i (h : i < ts.length), a ≤ i → ¬ r < ts[i].h) ∨ ∃ (j : Nat) (hj : j < ts.length), a ≤ j ∧ r < ts[j].h ∧ fstT (ts.drop a) r = some ts[j].b ∧ ∀ i (h : i < ts.length), a ≤ i → i < j → ¬ r < ts[i].h := by
  unfold fstT
  cases hf : (ts.drop a).find? (fun t => decide (r < t.h)) with
  | none =>
    left
    refine ⟨rfl, fun i hi hai hr => ?_⟩
    have := (List.find?_eq_none.1 hf) (ts[i]) (by
      rw [List.mem_iff_getElem]
      refine ⟨i - a, by rw [List.length_drop]; omega, ?_⟩
      rw [List.getElem_drop]
      congr 1
      omega)
    simp [hr] at this
  | some t =>
    right
    obtain ⟨h1, us, bs, h2, h3⟩ := List.find?_eq_some_iff_append.1 hf
    have hl : a + us.length < ts.length := by
      have := congrArg List.length h2
      rw [List.length_drop, List.length_append, List.length_cons] at this
      omega
    have hget : ∀ i (h : i < ts.length), a ≤ i → ts[i] = (ts.drop a)[i - a]'(by rw [List.length_drop]; omega) := fun i h hai => by
      rw [List.getElem_drop]; congr 1; omega
    have htj : ts[a + us.length] = t := by
      rw [hget _ hl (by omega)]
      simp only [h2]
      rw [List.getElem_append_right (by omega)]
      simp
    refine ⟨a + us.length, hl, by omega, by rw [htj]; simpa using h1, by rw [htj]; rfl, fun i hi hai hij hr => ?_⟩
    rw [hget i hi hai] at hr
    simp only [h2] at hr
    rw [List.getElem_append_left (by omega)] at hr
    have := h3 _ (List.getElem_mem (by omega : i - a < us.length))
    simp [hr] at this

def esT (ts : List Tow) : List EnB := ts.map (·.e)

theorem esT_len (ts : List Tow) : (esT ts).length = ts.length := by unfold esT; rw [List.length_map]
theorem esT_get {ts : List Tow} {i : Nat} (h : i < ts.length) : (esT ts)[i]'(by rw [esT_len]; exact h) = ts[i].e := by unfold esT; rw [List.getElem_map]

/-- where one stands in a row: all up to there are ahead of the version, what stands behind in the row isn't -/
structure PredT (ts : List Tow) (K : EnB) (r a : Nat) : Prop where
  le : a ≤ ts.length
  lt : ∀ i (h : i < ts.length), i < a → ltE ts[i].e K = true
  hi : r < nh ts a
  no : ∀ i (h : i < ts.length), a ≤ i → r < ts[i].h → ltE ts[i].e K = false

theorem PredT.cnt {ts : List Tow} {K : EnB} {a : Nat} (h : PredT ts K 0 a) (hh : ∀ t ∈ ts, 1 ≤ t.h ∧ t.h ≤ 8) : cntE (esT ts) K = a := by
  refine cnt_split (by rw [esT_len]; exact h.le) (fun x hx hxa => ?_) (fun x hx hax => ?_)
  · rw [esT_len] at hx; rw [esT_get hx]; exact h.lt x hx hxa
  · rw [esT_len] at hx; rw [esT_get hx]; exact h.no x hx hax (by have := (hh _ (List.getElem_mem hx)).1; omega)

end Go.Proofs.Ytekmlbbfipldoaa

/- A tower more, in plain terms. -/
namespace Go.Proofs.Ytekmlbbfipldoaa
set_option maxRecDepth 20000
open Go.RowKit
set_option linter.unusedVariables false

theorem fst_append (xs ys : List Tow) (r : Nat) : fstT (xs ++ ys) r = match fstT xs r with | some b => some b | none => fstT ys r := by
  unfold fstT
  rw [List.find?_append]
  cases xs.find? (fun t => decide (r < t.h)) <;> rfl

theorem fst_cons (t : Tow) (ts : List Tow) (r : Nat) : fstT (t :: ts) r = if r < t.h then some t.b else fstT ts r := by
  unfold fstT
  rw [List.find?_cons]
  by_cases h : r < t.h <;> simp [h]

theorem fst_none {xs : List Tow} {r : Nat} (h : ∀ t ∈ xs, ¬ r < t.h) : fstT xs r = none := by
  unfold fstT
  rw [List.find?_eq_none.2 (fun t ht => by simpa using h t ht)]
  rfl

theorem fst_some {xs : List Tow} {r : Nat} {t : Tow} (ht : t ∈ xs) (h : r < t.h) : ∃ b, fstT xs r = some b := by
  unfold fstT
  cases hf : xs.find? (fun t => decide (r < t.h)) with
  | none => have := List.find?_eq_none.1 hf t ht; simp [h] at this
  | some u => exact ⟨u.b, rfl⟩

/-- the towers between two places -/
theorem mem_mid {ts : List Tow} {a c : Nat} {t : Tow} (h : t ∈ (ts.drop a).take (c - a)) : ∃ (i : Nat) (hi : i < ts.length), a ≤ i ∧ i < c ∧ ts[i] = t := by
  obtain ⟨j, hj, rfl⟩ := List.getElem_of_mem h
  rw [List.length_take, List.length_drop] at hj
  refine ⟨a + j, by omega, by omega, by omega, ?_⟩
  rw [List.getElem_take, List.getElem_drop]

theorem mid_mem {ts : List Tow} {a c i : Nat} (hi : i < ts.length) (ha : a ≤ i) (hc : i < c) : ts[i] ∈ (ts.drop a).take (c - a) := by
  rw [List.mem_iff_getElem]
  refine ⟨i - a, by rw [List.length_take, List.length_drop]; omega, ?_⟩
  rw [List.getElem_take, List.getElem_drop]
  congr 1
  omega

/-- a tower among the others -/
def insT (ts : List Tow) (c : Nat) (T : Tow) : List Tow := ts.take c ++ T :: ts.drop c

theorem insT_len {ts : List Tow} {c : Nat} {T : Tow} (hc : c ≤ ts.length) : (insT ts c T).length = ts.length + 1 := by
  unfold insT
  rw [List.length_append, List.length_cons, List.length_take, List.length_drop]
  omega

theorem insT_drop {ts : List Tow} {c a : Nat} {T : Tow} (hc : c ≤ ts.length) (ha : a ≤ c) : (insT ts c T).drop a = (ts.drop a).take (c - a) ++ T :: ts.drop c := by
  unfold insT
  rw [List.drop_append_of_le_length (by rw [List.length_take]; omega), List.drop_take]

theorem drop_mid {ts : List Tow} {c a : Nat} (ha : a ≤ c) : ts.drop a = (ts.drop a).take (c - a) ++ ts.drop c := by
  have h := List.take_append_drop (c - a) (ts.drop a)
  rw [List.drop_drop, show a + (c - a) = c by omega] at h
  exact h.symm

theorem insT_behind {ts : List Tow} {c a : Nat} {T : Tow} (hc : c ≤ ts.length) (ha : c ≤ a) : (insT ts c T).drop (a + 1) = ts.drop a := by
  have hl : (ts.take c ++ [T]).length = c + 1 := by rw [List.length_append, List.length_take]; simp; omega
  have e1 : (insT ts c T).drop (c + 1) = ts.drop c := by
    unfold insT
    rw [show (ts.take c ++ T :: ts.drop c) = (ts.take c ++ [T]) ++ ts.drop c by simp, ← hl]
    exact List.drop_left
  have e2 : (insT ts c T).drop (a + 1) = ((insT ts c T).drop (c + 1)).drop (a - c) := by
    rw [List.drop_drop]
    congr 1
    omega
  rw [e2, e1, List.drop_drop]
  congr 1
  omega

theorem insT_lo {ts : List Tow} {c i : Nat} {T : Tow} (hc : c ≤ ts.length) (hi : i < c) : (insT ts c T)[i]? = ts[i]? := by
  unfold insT
  rw [List.getElem?_append_left (by rw [List.length_take]; omega), List.getElem?_take, if_pos hi]

theorem insT_mid {ts : List Tow} {c : Nat} {T : Tow} (hc : c ≤ ts.length) : (insT ts c T)[c]? = some T := by
  unfold insT
  rw [List.getElem?_append_right (by rw [List.length_take]; omega), List.length_take, Nat.min_eq_left hc, Nat.sub_self]
  rfl

theorem insT_hi {ts : List Tow} {c i : Nat} {T : Tow} (hc : c ≤ ts.length) (hi : c < i) : (insT ts c T)[i]? = ts[i - 1]? := by
  unfold insT
  rw [List.getElem?_append_right (by rw [List.length_take]; omega), List.length_take, Nat.min_eq_left hc]
  obtain ⟨k, hk⟩ : ∃ k, i - c = k + 1 := ⟨i - c - 1, by omega⟩
  rw [hk, List.getElem?_cons_succ, List.getElem?_drop]
  congr 1
  omega

theorem nb_ins_lo {l : Nat} {ts : List Tow} {c a : Nat} {T : Tow} (hc : c ≤ ts.length) (ha : a ≤ c) : nb l (insT ts c T) a = nb l ts a ∧ nh (insT ts c T) a = nh ts a := by
  cases a with
  | zero => exact ⟨rfl, rfl⟩
  | succ i =>
    unfold nb nh
    rw [Nat.add_sub_cancel, insT_lo hc (by omega)]
    exact ⟨rfl, rfl⟩

theorem nb_ins_at {l : Nat} {ts : List Tow} {c : Nat} {T : Tow} (hc : c ≤ ts.length) : nb l (insT ts c T) (c + 1) = T.b ∧ nh (insT ts c T) (c + 1) = T.h := by
  unfold nb nh
  rw [if_neg (by omega), if_neg (by omega), Nat.add_sub_cancel, insT_mid hc]
  exact ⟨rfl, rfl⟩

theorem nb_ins_hi {l : Nat} {ts : List Tow} {c a : Nat} {T : Tow} (hc : c ≤ ts.length) (ha : c < a) (hal : a ≤ ts.length) : nb l (insT ts c T) (a + 1) = nb l ts a ∧ nh (insT ts c T) (a + 1) = nh ts a := by
  unfold nb nh
  rw [if_neg (by omega), if_neg (by omega), if_neg (by omega), if_neg (by omega), Nat.add_sub_cancel, insT_hi hc ha]
  exact ⟨rfl, rfl⟩

theorem pred_le {ts : List Tow} {K : EnB} {r a c : Nat} (h : PredT ts K r a) (h0 : PredT ts K 0 c) (hh : ∀ t ∈ ts, 1 ≤ t.h ∧ t.h ≤ 8) : a ≤ c := by
  by_cases hac : a ≤ c
  · exact hac
  · exfalso
    have hl : c < ts.length := by have := h.le; omega
    have h1 := h.lt c hl (by omega)
    have h2 := h0.no c hl (Nat.le_refl _) (by have := (hh _ (List.getElem_mem hl)).1; omega)
    rw [h1] at h2
    cases h2

/-- what a place points to, with a tower more -/
theorem fst_ins {ts : List Tow} {T : Tow} {K : EnB} {A : Nat → Nat} (hA : ∀ r, r < 8 → PredT ts K r (A r)) (hh : ∀ t ∈ ts, 1 ≤ t.h ∧ t.h ≤ 8) {a r : Nat} (hr : r < 8) (ha : a ≤ A 0) (hn : r < nh ts a) :
    fstT ((insT ts (A 0) T).drop a) r = if r < T.h ∧ a = A r then some T.b else fstT (ts.drop a) r := by
  have h0 := hA 0 (by omega)
  have hP := hA r hr
  have hle := pred_le hP h0 hh
  rw [insT_drop h0.le ha, fst_append, fst_cons]
  have e2 : fstT (ts.drop a) r = match fstT ((ts.drop a).take (A 0 - a)) r with | some b => some b | none => fstT (ts.drop (A 0)) r := by
    conv => lhs; rw [drop_mid ha]
    exact fst_append _ _ _
  by_cases hrT : r < T.h
  · by_cases hae : a = A r
    · rw [if_pos hrT, if_pos (⟨hrT, hae⟩ : r < T.h ∧ a = A r), fst_none (xs := (ts.drop a).take (A 0 - a)) (fun t ht hrt => by
        obtain ⟨i, hi, h1, h2, rfl⟩ := mem_mid ht
        have k1 := hP.no i hi (by omega) hrt
        have k2 := h0.lt i hi h2
        rw [k1] at k2
        cases k2)]
    · rw [if_pos hrT, if_neg (fun h : r < T.h ∧ a = A r => hae h.2)]
      have hlt : a < A r := by
        by_cases hlt : a < A r
        · exact hlt
        · exfalso
          obtain ⟨i, rfl⟩ : ∃ i, a = i + 1 := ⟨a - 1, by omega⟩
          have hi : i < ts.length := by have := h0.le; omega
          rw [nh_succ hi] at hn
          have k1 := hP.no i hi (by omega) hn
          have k2 := h0.lt i hi (by omega)
          rw [k1] at k2
          cases k2
      obtain ⟨j, hj⟩ : ∃ j, A r = j + 1 := ⟨A r - 1, by omega⟩
      have hjl : j < ts.length := by have := hP.le; omega
      have hjh := hP.hi
      rw [hj, nh_succ hjl] at hjh
      obtain ⟨b, hb⟩ := fst_some (mid_mem (a := a) (c := A 0) hjl (by omega) (by omega)) hjh
      rw [e2, hb]
  · rw [if_neg hrT, if_neg (fun h : r < T.h ∧ a = A r => hrT h.1), e2]

theorem fst_new {ts : List Tow} {K : EnB} {A : Nat → Nat} (hA : ∀ r, r < 8 → PredT ts K r (A r)) (hh : ∀ t ∈ ts, 1 ≤ t.h ∧ t.h ≤ 8) {r : Nat} (hr : r < 8) : fstT (ts.drop (A r)) r = fstT (ts.drop (A 0)) r := by
  have h0 := hA 0 (by omega)
  have hP := hA r hr
  have hle := pred_le hP h0 hh
  conv => lhs; rw [drop_mid hle]
  rw [fst_append, fst_none (xs := (ts.drop (A r)).take (A 0 - A r)) (fun t ht hrt => by
    obtain ⟨i, hi, h1, h2, rfl⟩ := mem_mid ht
    have k1 := hP.no i hi (by omega) hrt
    have k2 := h0.lt i hi h2
    rw [k1] at k2
    cases k2)]

/-- A TOWER MORE: the pointers to it laid in each of its rows, nothing else turned -/
theorem sk_insert {w w' : World} {l : Nat} {ts : List Tow} {T : Tow} {A : Nat → Nat} (h : SkAt w l ts) (hA : ∀ r, r < 8 → PredT ts T.e r (A r)) (hT : 1 ≤ T.h ∧ T.h ≤ 8) (hnew : ∀ a, a ≤ ts.length → T.b ≠ nb l ts a)
    (hK : Keeps (fun i => (∃ a, a ≤ ts.length ∧ i = nb l ts a) ∨ i = T.b) w w') (hc : ∀ a, a ≤ ts.length → ∀ r, r < 8 → w'.cell? ⟨nb l ts a, 4 + r, none⟩ = (if r < T.h ∧ a = A r then some (ptrT (some T.b)) else w.cell? ⟨nb l ts a, 4 + r, none⟩))
    (hz : ∀ a, a ≤ ts.length → ∀ r, r < 8 → w'.frozen? ⟨nb l ts a, 4 + r, none⟩ = false) (hbl : ∀ a, a ≤ ts.length → ∃ ca ty, w'.heap[nb l ts a]? = some (.cells ca ty (0, 0))) (hTbl : ∃ ca ty, w'.heap[T.b]? = some (.cells ca ty (0, 0))) (hE : ∀ t ∈ ts, ∀ i, i < 4 → w'.cell? ⟨t.b, i, none⟩ = w.cell? ⟨t.b, i, none⟩)
    (hTc : ∀ r, r < 8 → w'.cell? ⟨T.b, 4 + r, none⟩ = some (if r < T.h then ptrT (fstT (ts.drop (A r)) r) else .pointer none)) (hTz : ∀ r, r < 8 → w'.frozen? ⟨T.b, 4 + r, none⟩ = false) (hTe : EntAt w' T)
    (hTo : ∀ a, a ≤ ts.length → (∀ q, T.x.ownBlock = some q → q ≠ nb l ts a) ∧ (∀ q, T.y.ownBlock = some q → q ≠ nb l ts a)) (hTn : (∀ q, T.x.ownBlock = some q → q ≠ T.b) ∧ (∀ q, T.y.ownBlock = some q → q ≠ T.b))
    (htb : ∀ t ∈ ts, (∀ q, t.x.ownBlock = some q → q ≠ T.b) ∧ (∀ q, t.y.ownBlock = some q → q ≠ T.b)) (hTi : LtB w' T.x ∧ LtB w' T.y) (hne : anyE (esT ts) T.e = false) (hl : ts.length + 1 ≤ 1000) : SkAt w' l (insT ts (A 0) T) := by
  have h0 := hA 0 (by omega)
  have hcl := h0.le
  have hcnt := h0.cnt h.ht
  have places : ∀ a, a ≤ (insT ts (A 0) T).length → (a ≤ A 0 ∧ nb l (insT ts (A 0) T) a = nb l ts a ∧ nh (insT ts (A 0) T) a = nh ts a) ∨ (a = A 0 + 1) ∨ (∃ i, A 0 < i ∧ i ≤ ts.length ∧ a = i + 1 ∧ nb l (insT ts (A 0) T) a = nb l ts i ∧ nh (insT ts (A 0) T) a = nh ts i) := fun a ha => by
    rw [insT_len hcl] at ha
    by_cases h1 : a ≤ A 0
    · exact .inl ⟨h1, nb_ins_lo hcl h1⟩
    · by_cases h2 : a = A 0 + 1
      · exact .inr (.inl h2)
      · exact .inr (.inr ⟨a - 1, by omega, by omega, by omega, by
          have := nb_ins_hi (l := l) (T := T) hcl (by omega : A 0 < a - 1) (by omega)
          rwa [show a - 1 + 1 = a by omega] at this⟩)
  have mems : ∀ t, t ∈ insT ts (A 0) T → t = T ∨ t ∈ ts := fun t ht => by
    unfold insT at ht
    rcases List.mem_append.1 ht with h1 | h1
    · exact .inr (List.mem_of_mem_take h1)
    · rcases List.mem_cons.1 h1 with h2 | h2
      · exact .inl h2
      · exact .inr (List.mem_of_mem_drop h2)
  refine ⟨fun a ha => ?_, fun t ht => ?_, fun a b ha hb hab => ?_, fun t ht => ?_, fun t ht a ha => ?_, ?_, by rw [insT_len hcl]; exact hl, fun t ht => ?_⟩
  · rcases places a ha with ⟨h1, h2, h3⟩ | rfl | ⟨i, h1, h2, rfl, h3, h4⟩
    · rw [h2, h3]
      refine ⟨fun r hr => ?_, hz a (by omega), hbl a (by omega)⟩
      rw [hc a (by omega) r hr, (h.nod a (by omega)).cel r hr]
      by_cases hn : r < nh ts a
      · rw [if_pos hn, if_pos hn, fst_ins hA h.ht hr h1 hn]
        split <;> rfl
      · rw [if_neg hn, if_neg hn, if_neg (fun e => hn (by rw [e.2]; exact (hA r hr).hi))]
    · obtain ⟨k1, k2⟩ := nb_ins_at (l := l) (T := T) hcl
      rw [k1, k2, insT_behind hcl (Nat.le_refl _)]
      refine ⟨fun r hr => ?_, hTz, hTbl⟩
      rw [hTc r hr, fst_new hA h.ht hr]
    · rw [h3, h4, insT_behind hcl (Nat.le_of_lt h1)]
      refine ⟨fun r hr => ?_, hz i h2, hbl i h2⟩
      rw [hc i h2 r hr, (h.nod i h2).cel r hr, if_neg (fun e => by have := pred_le (hA r hr) h0 h.ht; omega)]
  · rcases mems t ht with rfl | h1
    · exact hTe
    · have he := h.ent t h1
      have hnot : ∀ q, (t.x.ownBlock = some q ∨ t.y.ownBlock = some q) → ¬ ((∃ a, a ≤ ts.length ∧ q = nb l ts a) ∨ q = T.b) := fun q hq => by
        rintro (⟨a, ha, rfl⟩ | rfl)
        · rcases hq with hq | hq
          · exact (h.out t h1 a ha).1 _ hq rfl
          · exact (h.out t h1 a ha).2 _ hq rfl
        · rcases hq with hq | hq
          · exact (htb t h1).1 _ hq rfl
          · exact (htb t h1).2 _ hq rfl
      have rdk : ∀ {v : Value} {lst : List UInt8}, Rd w v lst → (∀ q, v.ownBlock = some q → ¬ ((∃ a, a ≤ ts.length ∧ q = nb l ts a) ∨ q = T.b)) → Rd w' v lst := fun {v lst} hr hq => by
        rcases hr with hr | ⟨b, off, cap, rfl, k1, k2, k3⟩
        · exact .inl hr
        · exact .inr ⟨b, off, cap, rfl, k1, k2, fun j u hu => hK.cell (p := ⟨b, off + j, none⟩) (hq b rfl) (k3 j u hu)⟩
      refine ⟨⟨?_, ?_, ?_, ?_⟩, rdk he.rx (fun q hq => hnot q (.inl hq)), rdk he.ry (fun q hq => hnot q (.inr hq))⟩
      · rw [hE t h1 0 (by omega)]; exact he.bx.c0
      · rw [hE t h1 1 (by omega)]; exact he.bx.c1
      · rw [hE t h1 2 (by omega)]; exact he.bx.c2
      · rw [hE t h1 3 (by omega)]; exact he.bx.c3
  · obtain ⟨k1, _⟩ := nb_ins_at (l := l) (T := T) hcl
    rcases places a ha with ⟨h1, h2, _⟩ | rfl | ⟨i, h1, h2, rfl, h3, _⟩ <;> rcases places b hb with ⟨g1, g2, _⟩ | rfl | ⟨j, g1, g2, rfl, g3, _⟩
    · rw [h2, g2] at hab; exact h.inj a b (by omega) (by omega) hab
    · rw [h2, k1] at hab; exact absurd hab.symm (hnew a (by omega))
    · rw [h2, g3] at hab; have := h.inj a j (by omega) g2 hab; omega
    · rw [k1, g2] at hab; exact absurd hab (hnew b (by omega))
    · rfl
    · rw [k1, g3] at hab; exact absurd hab (hnew j g2)
    · rw [h3, g2] at hab; have := h.inj i b h2 (by omega) hab; omega
    · rw [h3, k1] at hab; exact absurd hab.symm (hnew i h2)
    · rw [h3, g3] at hab; have := h.inj i j h2 g2 hab; omega
  · rcases mems t ht with rfl | h1
    · exact hT
    · exact h.ht t h1
  · obtain ⟨k1, _⟩ := nb_ins_at (l := l) (T := T) hcl
    rcases places a ha with ⟨h1, h2, _⟩ | rfl | ⟨i, h1, h2, rfl, h3, _⟩
    · rw [h2]
      rcases mems t ht with rfl | h4
      · exact hTo a (by omega)
      · exact h.out t h4 a (by omega)
    · rw [k1]
      rcases mems t ht with rfl | h4
      · exact hTn
      · exact htb t h4
    · rw [h3]
      rcases mems t ht with rfl | h4
      · exact hTo i h2
      · exact h.out t h4 i h2
  · have h9 := ins_rises (esT ts) T.e h.ris hne
    rw [hcnt] at h9
    unfold insT
    rw [List.map_append, List.map_cons, List.map_take, List.map_drop]
    exact h9
  · rcases mems t ht with rfl | h1
    · exact hTi
    · exact ⟨(h.inn t h1).1.grow hK.size, (h.inn t h1).2.grow hK.size⟩

end Go.Proofs.Ytekmlbbfipldoaa

/- (*skip.List).ahead. -/
namespace Go.Proofs.Ytekmlbbfipldoaa
set_option maxRecDepth 20000
open Go.RowKit
set_option linter.unusedVariables false
set_option linter.unusedSimpArgs false

/-- a pointer to a place's tower -/
abbrev ndP (l : Nat) (ts : List Tow) (a : Nat) : Value := .pointer (some ⟨nb l ts a, 0, none⟩)

/-- eight cells, that may be written -/
structure Arr8 (w : World) (b : Nat) (V : Nat → Value) : Prop where
  cel : ∀ r, r < 8 → w.cell? ⟨b, r, none⟩ = some (V r)
  frz : ∀ r, r < 8 → w.frozen? ⟨b, r, none⟩ = false

theorem Arr8.lt {w : World} {b : Nat} {V : Nat → Value} (h : Arr8 w b V) : b < w.heap.size := World.block_lt_of_cell? w _ (h.cel 0 (by omega))

theorem Arr8.below {w w' : World} {b : Nat} {V : Nat → Value} (h : Arr8 w b V) (hb : Below w.heap.size w w') : Arr8 w' b V :=
  ⟨fun r hr => (hb.cell (p := ⟨b, r, none⟩) h.lt).trans (h.cel r hr), fun r hr => by rw [hb.frozen (p := ⟨b, r, none⟩) h.lt]; exact h.frz r hr⟩

theorem arr8_new (w : World) (t : TypeId) : Arr8 (w.alloc (.cells #[.pointer none, .pointer none, .pointer none, .pointer none, .pointer none, .pointer none, .pointer none, .pointer none] t)) w.heap.size (fun _ => .pointer none) := by
  have h := heap_alloc_new w (.cells #[.pointer none, .pointer none, .pointer none, .pointer none, .pointer none, .pointer none, .pointer none, .pointer none] t)
  refine ⟨fun r hr => ?_, fun r hr => ?_⟩
  · have c := cell_of_row (w.alloc (.cells #[.pointer none, .pointer none, .pointer none, .pointer none, .pointer none, .pointer none, .pointer none, .pointer none] t)) w.heap.size r _ t (0, 0) h
    have : r = 0 ∨ r = 1 ∨ r = 2 ∨ r = 3 ∨ r = 4 ∨ r = 5 ∨ r = 6 ∨ r = 7 := by omega
    rcases this with rfl | rfl | rfl | rfl | rfl | rfl | rfl | rfl <;> exact c.trans rfl
  · exact frozen_of_row (w.alloc (.cells #[.pointer none, .pointer none, .pointer none, .pointer none, .pointer none, .pointer none, .pointer none, .pointer none] t)) w.heap.size r _ t h

theorem Arr8.store {w : World} {b : Nat} {V : Nat → Value} (h : Arr8 w b V) {i : Nat} (hi : i < 8) (u : Value) : Arr8 (w.setCell ⟨b, i, none⟩ u) b (fun r => if r = i then u else V r) := by
  refine ⟨fun r hr => ?_, fun r hr => by rw [World.frozen?_setCell]; exact h.frz r hr⟩
  by_cases e : r = i
  · subst e
    simp only [if_true]
    simp [go_sem, h.cel r hr]
  · simp only [e, if_false]
    have : (w.setCell ⟨b, i, none⟩ u).cell? ⟨b, r, none⟩ = w.cell? ⟨b, r, none⟩ := by
      simp [go_sem, h.cel i hi, e]
    rw [this]
    exact h.cel r hr

/-- where the loop over the rows has come to: j rows are left -/
structure AhI (w wr : World) (l : Nat) (ts : List Tow) (K : EnB) (ka : Option Addr) (kn kc : Nat) (ks kk : Int) (A : Nat → Nat) (a j : Nat) : Prop where
  be : Below w.heap.size w wr
  bk : Box wr w.heap.size (.slice ka kn kc) (.int .u64 ks) (.int .u8 kk)
  br : Arr8 wr (w.heap.size + 1) (fun _ => .pointer none)
  bp : Arr8 wr (w.heap.size + 2) (fun r => if j ≤ r then ndP l ts (A r) else .pointer none)
  ok : ∀ r, r < 8 → j ≤ r → PredT ts K r (A r)
  le : a ≤ ts.length
  lt : ∀ i (h : i < ts.length), i < a → ltE ts[i].e K = true
  hi : j ≤ nh ts a

theorem lt_pre {ts : List Tow} {K : EnB} (hr : riseB (ts.map (·.e)) = true) {j : Nat} (hj : j < ts.length) (h : ltE ts[j].e K = true) : ∀ i (hi : i < ts.length), i < j + 1 → ltE ts[i].e K = true := fun i hi hij => by
  have h9 := ahead_lt (es := esT ts) hr (K := K) (i := i) (j := j) (by rw [esT_len]; exact hj) (by omega) (by rw [esT_get hj]; exact h)
  rwa [esT_get hi] at h9

theorem no_suf {ts : List Tow} {K : EnB} (hr : riseB (ts.map (·.e)) = true) {j : Nat} (hj : j < ts.length) (h : ltE ts[j].e K = false) : ∀ i (hi : i < ts.length), j ≤ i → ltE ts[i].e K = false := fun i hi hij => by
  have h9 := behind_ge (es := esT ts) hr (K := K) (i := j) (j := i) (by rw [esT_len]; exact hi) hij (by rw [esT_get hj]; exact h)
  rwa [esT_get hi] at h9

/-- the cells that a step looks at: the place's pointer in the row, the next one's version, the version asked for -/
structure StpK (w : World) (b h tb kb : Nat) (tp v0 v1 v2 k0 k1 k2 : Value) : Prop where
  p : w.cell? ⟨b, 4 + h, none⟩ = some tp
  a0 : w.cell? ⟨tb, 0, none⟩ = some v0
  a1 : w.cell? ⟨tb, 1, none⟩ = some v1
  a2 : w.cell? ⟨tb, 2, none⟩ = some v2
  b0 : w.cell? ⟨kb, 0, none⟩ = some k0
  b1 : w.cell? ⟨kb, 1, none⟩ = some k1
  b2 : w.cell? ⟨kb, 2, none⟩ = some k2

theorem StpK.below {w w' : World} {b h tb kb : Nat} {tp v0 v1 v2 k0 k1 k2 : Value} (s : StpK w b h tb kb tp v0 v1 v2 k0 k1 k2) (hb : Below w.heap.size w w') : StpK w' b h tb kb tp v0 v1 v2 k0 k1 k2 :=
  ⟨(hb.cell (World.block_lt_of_cell? w _ s.p)).trans s.p, (hb.cell (World.block_lt_of_cell? w _ s.a0)).trans s.a0, (hb.cell (World.block_lt_of_cell? w _ s.a1)).trans s.a1, (hb.cell (World.block_lt_of_cell? w _ s.a2)).trans s.a2, (hb.cell (World.block_lt_of_cell? w _ s.b0)).trans s.b0, (hb.cell (World.block_lt_of_cell? w _ s.b1)).trans s.b1, (hb.cell (World.block_lt_of_cell? w _ s.b2)).trans s.b2⟩

theorem below_store8 {B : Nat} {a w : World} (h : Below B a w) {b : Nat} (hb : B ≤ b) (u0 u1 u2 u3 u4 u5 u6 u7 : Value) : Below B a ((((((((w.setCell ⟨b, 0, none⟩ u0).setCell ⟨b, 1, none⟩ u1).setCell ⟨b, 2, none⟩ u2).setCell ⟨b, 3, none⟩ u3).setCell ⟨b, 4, none⟩ u4).setCell ⟨b, 5, none⟩ u5).setCell ⟨b, 6, none⟩ u6).setCell ⟨b, 7, none⟩ u7) :=
  (((((((h.setCell (p := ⟨b, 0, none⟩) hb u0).setCell (p := ⟨b, 1, none⟩) hb u1).setCell (p := ⟨b, 2, none⟩) hb u2).setCell (p := ⟨b, 3, none⟩) hb u3).setCell (p := ⟨b, 4, none⟩) hb u4).setCell (p := ⟨b, 5, none⟩) hb u5).setCell (p := ⟨b, 6, none⟩) hb u6).setCell (p := ⟨b, 7, none⟩) hb u7

theorem Arr8.other {w : World} {b b' : Nat} {V : Nat → Value} (h : Arr8 w b V) (hne : b ≠ b') (i : Nat) (u : Value) : Arr8 (w.setCell ⟨b', i, none⟩ u) b V :=
  ⟨fun r hr => by rw [cell_other w ⟨b', i, none⟩ ⟨b, r, none⟩ u hne]; exact h.cel r hr, fun r hr => by rw [World.frozen?_setCell]; exact h.frz r hr⟩

/-- one row more is done -/
theorem AhI.next {w wr w2 : World} {l : Nat} {ts : List Tow} {K : EnB} {ka : Option Addr} {kn kc : Nat} {ks kk : Int} {A : Nat → Nat} {a h a' : Nat} (I : AhI w wr l ts K ka kn kc ks kk A a (h + 1)) (hb : Below wr.heap.size wr w2) (hP : PredT ts K h a') (h8 : h < 8) : AhI w (w2.setCell ⟨w.heap.size + 2, h, none⟩ (ndP l ts a')) l ts K ka kn kc ks kk (fun r => if r = h then a' else A r) a' h := by
  have bp := (I.bp.below hb).store h8 (ndP l ts a')
  refine ⟨(bsplit I.be hb).setCell (p := ⟨w.heap.size + 2, h, none⟩) (by show w.heap.size ≤ w.heap.size + 2; omega) _, (I.bk.below hb (Nat.le_refl _)).other ⟨w.heap.size + 2, h, none⟩ (by show w.heap.size ≠ w.heap.size + 2; omega) _, (I.br.below hb).other (by omega) _ _, ⟨fun r hr => ?_, bp.frz⟩, fun r hr hhr => ?_, hP.le, hP.lt, Nat.le_of_lt hP.hi⟩
  · rw [bp.cel r hr]
    by_cases e : r = h
    · subst e; simp
    · simp only [e, if_false]
      by_cases h2 : h ≤ r
      · rw [if_pos h2, if_pos (by omega)]
      · rw [if_neg h2, if_neg (by omega)]
  · by_cases e : r = h
    · subst e; simp only [if_true]; exact hP
    · simp only [e, if_false]; exact I.ok r hr (by omega)

set_option maxHeartbeats 8000000 in
theorem ahead_any (w : World) (l : Nat) (ts : List Tow) (kv : Value) (K : EnB) (hS : SkAt w l ts) (hk : Rd w kv K.1) :
    Calls Try.prog 32 #[.pointer (some ⟨l, 0, none⟩), .agg #[kv, .int .u64 (K.2.1 : Int), .int .u8 (K.2.2.1.toNat : Int)]] w fun e w' => ∃ A : Nat → Nat, e = .returned (.agg #[ndP l ts (A 0), ndP l ts (A 1), ndP l ts (A 2), ndP l ts (A 3), ndP l ts (A 4), ndP l ts (A 5), ndP l ts (A 6), ndP l ts (A 7)]) ∧ (∀ r, r < 8 → PredT ts K r (A r)) ∧ Below w.heap.size w w' := by
  have HS : Hid (SkAt w l ts) := hS
  obtain ⟨ka, kc, rfl⟩ := hk.len
  obtain ⟨kn, hkn⟩ : ∃ n, K.1.length = n := ⟨_, rfl⟩
  obtain ⟨ks, hks⟩ : ∃ z : Int, (K.2.1 : Int) = z := ⟨_, rfl⟩
  obtain ⟨kk, hkk⟩ : ∃ z : Int, (K.2.2.1.toNat : Int) = z := ⟨_, rfl⟩
  have HKS : Hid ((K.2.1 : Int) = ks ∧ (K.2.2.1.toNat : Int) = kk) := ⟨hks, hkk⟩
  rw [hkn] at hk ⊢
  rw [hks, hkk]
  have HK : Hid (Rd w (.slice ka kn kc) K.1) := hk
  have hb0 := below_box w #[.slice ka kn kc, .int .u64 ks, .int .u8 kk] 36
  have hb1 := below_box4 (w.alloc (.cells #[.slice ka kn kc, .int .u64 ks, .int .u8 kk] 36)) (.cells #[.pointer none, .pointer none, .pointer none, .pointer none, .pointer none, .pointer none, .pointer none, .pointer none] 65)
  have hb2 := below_box4 ((w.alloc (.cells #[.slice ka kn kc, .int .u64 ks, .int .u8 kk] 36)).alloc (.cells #[.pointer none, .pointer none, .pointer none, .pointer none, .pointer none, .pointer none, .pointer none, .pointer none] 65)) (.cells #[.pointer none, .pointer none, .pointer none, .pointer none, .pointer none, .pointer none, .pointer none, .pointer none] 65)
  have s1 : (w.alloc (.cells #[.slice ka kn kc, .int .u64 ks, .int .u8 kk] 36)).heap.size = w.heap.size + 1 := by simp
  have s2 : ((w.alloc (.cells #[.slice ka kn kc, .int .u64 ks, .int .u8 kk] 36)).alloc (.cells #[.pointer none, .pointer none, .pointer none, .pointer none, .pointer none, .pointer none, .pointer none, .pointer none] 65)).heap.size = w.heap.size + 2 := by simp
  have BK := ((box_new w (.slice ka kn kc) (.int .u64 ks) (.int .u8 kk) 36).below hb1 (Nat.le_refl _)).below hb2 (Nat.le_refl _)
  have BR := (arr8_new (w.alloc (.cells #[.slice ka kn kc, .int .u64 ks, .int .u8 kk] 36)) 65).below hb2
  have BP := arr8_new ((w.alloc (.cells #[.slice ka kn kc, .int .u64 ks, .int .u8 kk] 36)).alloc (.cells #[.pointer none, .pointer none, .pointer none, .pointer none, .pointer none, .pointer none, .pointer none, .pointer none] 65)) 65
  rw [s1] at BR
  rw [s2] at BP
  obtain ⟨w1, hw1⟩ : ∃ W, ((w.alloc (.cells #[.slice ka kn kc, .int .u64 ks, .int .u8 kk] 36)).alloc (.cells #[.pointer none, .pointer none, .pointer none, .pointer none, .pointer none, .pointer none, .pointer none, .pointer none] 65)).alloc (.cells #[.pointer none, .pointer none, .pointer none, .pointer none, .pointer none, .pointer none, .pointer none, .pointer none] 65) = W := ⟨_, rfl⟩
  have hB1 := bsplit (bsplit hb0 hb1) hb2
  rw [hw1] at BK BR BP hB1
  have HI0 : Hid (AhI w w1 l ts K ka kn kc ks kk (fun _ => 0) 0 8) := ⟨hB1, BK, BR, ⟨fun r hr => by simp only [show ¬ 8 ≤ r by omega, if_false]; exact BP.cel r hr, BP.frz⟩, fun r h1 h2 => by omega, Nat.zero_le _, fun i h h2 => absurd h2 (Nat.not_lt_zero _), Nat.le_refl _⟩
  obtain ⟨n, hn⟩ : ∃ n, ts.length = n := ⟨_, rfl⟩
  have HN : Hid (ts.length = n) := hn
  clear hk hkn hks hkk hb0 hb1 hb2 s1 s2 BK BR BP hB1 hS hn
  go_enter Try.func32, Try.ntmps32
  go_wp2_with fail
  clear hw1
  go_loopg [6, 7] 8 (fun gk av hv wr => ∃ (j a : Nat) (A : Nat → Nat), j = gk ∧ av = ndP l ts a ∧ hv = .int .i64 ((j : Int) - 1) ∧ j ≤ 8 ∧ Hid (AhI w wr l ts K ka kn kc ks kk A a j))
  case atStart => exact ⟨8, 0, fun _ => 0, rfl, rfl, rfl, Nat.le_refl _, HI0⟩
  case round =>
    obtain ⟨j, a, A, hgj, rfl, rfl, hj8, HI⟩ := hrel
    subst hgj
    by_cases hj0 : j = 0
    · subst hj0
      have p0 := HI.out.bp.cel 0 (by decide)
      have r0 := HI.out.br.cel 0 (by decide)
      have f0 := HI.out.br.frz 0 (by decide)
      have p1 := HI.out.bp.cel 1 (by decide)
      have r1 := HI.out.br.cel 1 (by decide)
      have f1 := HI.out.br.frz 1 (by decide)
      have p2 := HI.out.bp.cel 2 (by decide)
      have r2 := HI.out.br.cel 2 (by decide)
      have f2 := HI.out.br.frz 2 (by decide)
      have p3 := HI.out.bp.cel 3 (by decide)
      have r3 := HI.out.br.cel 3 (by decide)
      have f3 := HI.out.br.frz 3 (by decide)
      have p4 := HI.out.bp.cel 4 (by decide)
      have r4 := HI.out.br.cel 4 (by decide)
      have f4 := HI.out.br.frz 4 (by decide)
      have p5 := HI.out.bp.cel 5 (by decide)
      have r5 := HI.out.br.cel 5 (by decide)
      have f5 := HI.out.br.frz 5 (by decide)
      have p6 := HI.out.bp.cel 6 (by decide)
      have r6 := HI.out.br.cel 6 (by decide)
      have f6 := HI.out.br.frz 6 (by decide)
      have p7 := HI.out.bp.cel 7 (by decide)
      have r7 := HI.out.br.cel 7 (by decide)
      have f7 := HI.out.br.frz 7 (by decide)
      simp only [Nat.zero_le, if_true] at p0 p1 p2 p3 p4 p5 p6 p7
      have HBE : Hid (Below w.heap.size w wr) := HI.out.be
      have HOK : Hid (∀ r, r < 8 → PredT ts K r (A r)) := fun r hr => HI.out.ok r hr (Nat.zero_le _)
      go_wp2
      refine bodyPost_ret (v := .agg #[ndP l ts (A 0), ndP l ts (A 1), ndP l ts (A 2), ndP l ts (A 3), ndP l ts (A 4), ndP l ts (A 5), ndP l ts (A 6), ndP l ts (A 7)]) (by simp [results, Try.results32, go_sem, r0, r1, r2, r3, r4, r5, r6, r7]) rfl ⟨A, rfl, HOK.out, below_store8 HBE.out (by omega) _ _ _ _ _ _ _ _⟩
    · obtain ⟨h, rfl⟩ : ∃ h, j = h + 1 := ⟨j - 1, by omega⟩
      have hIv : ((h + 1 : Nat) : Int) - 1 = (h : Int) := by omega
      rw [hIv]
      have h0I : (0 : Int) ≤ (h : Int) := by omega
      have h8I : (h : Int) < 8 := by omega
      clear hIv
      go_wp2_with fail
      obtain ⟨wo, hwo⟩ : ∃ W, W = wr := ⟨_, rfl⟩
      subst hwo
      go_loopg [6] (n - a) (fun gk av wr => ∃ a' : Nat, gk + a' = n ∧ av = ndP l ts a' ∧ Hid (∀ i (hi : i < ts.length), i < a' → ltE ts[i].e K = true) ∧ Hid (h < nh ts a') ∧ Hid (Below wo.heap.size wo wr))
      case atStart => exact ⟨a, by have := HI.out.le; rw [HN.out] at this; omega, rfl, HI.out.lt, HI.out.hi, Below.refl _ _⟩
      case round =>
        obtain ⟨a', hga, rfl, HLT, HH, HB⟩ := hrel
        have hS2 := HS.out.below (bsplit HI.out.be HB.out)
        have han : a' ≤ ts.length := by rw [HN.out]; omega
        have hcel := (hS2.nod a' han).cel h (by omega)
        rw [if_pos HH.out] at hcel
        have bp9 := (HI.out.bp.below HB.out).cel h (by omega)
        have fp9 := (HI.out.bp.below HB.out).frz h (by omega)
        simp only [show ¬ h + 1 ≤ h by omega, if_false] at bp9
        rcases fst_drop ts a' h with ⟨hf, hno⟩ | ⟨jj, hjj, haj, hjh, hf, hno⟩
        · rw [hf] at hcel
          simp only [ptrT] at hcel
          have HPR : Hid (PredT ts K h a') := ⟨han, HLT.out, HH.out, fun i hi hai hr => absurd hr (hno i hi hai)⟩
          clear hf hno hS2 han
          go_wp2_with fail
          go_quiet (fail)
          have BEL : Below wo.heap.size wo (wr.drewN nq) := below_drewN HB.out _
          go_wp2_with fail
          go_roundg h
          case measure => exact Nat.lt_succ_self h
          case rel => exact ⟨h, a', fun r => if r = h then a' else A r, rfl, rfl, rfl, by omega, HI.out.next BEL HPR.out (by omega)⟩
        · rw [hf] at hcel
          simp only [ptrT] at hcel
          obtain ⟨t, ht⟩ : ∃ t, ts[jj] = t := ⟨_, rfl⟩
          have hent := hS2.ent ts[jj] (List.getElem_mem hjj)
          rw [ht] at hcel hent
          have hent2 := hent
          obtain ⟨⟨c0, c1, c2, c3⟩, rx, ry⟩ := hent2
          obtain ⟨x1, x2, ex⟩ := rx.len
          rw [ex] at c0 rx
          obtain ⟨tb, htb⟩ : ∃ z, t.b = z := ⟨_, rfl⟩
          obtain ⟨nl, hnl⟩ : ∃ z, t.e.1.length = z := ⟨_, rfl⟩
          obtain ⟨sq, hsq⟩ : ∃ z : Int, (t.e.2.1 : Int) = z := ⟨_, rfl⟩
          obtain ⟨ek, hek⟩ : ∃ z : Int, (t.e.2.2.1.toNat : Int) = z := ⟨_, rfl⟩
          rw [htb] at hcel c0 c1 c2
          rw [hnl] at c0 rx
          rw [hsq] at c1
          rw [hek] at c2
          obtain ⟨cr, hcr⟩ : ∃ r, cmpE t.e K = r := ⟨_, rfl⟩
          have hcm := compare_any wr.drew (.slice x1 nl x2) (.slice ka kn kc) t.e.1 K.1 sq ek ks kk cr rx.drew (HK.out.below (bsplit HI.out.be HB.out) (Nat.le_refl _)).drew (by rw [← hcr, ← hsq, ← hek, ← HKS.out.1, ← HKS.out.2]; rfl)
          have BKr := HI.out.bk.below HB.out (Nat.le_refl _)
          have T0 : StpK wr.drew (nb l ts a') h tb w.heap.size (.pointer (some ⟨tb, 0, none⟩)) (.slice x1 nl x2) (.int .u64 sq) (.int .u8 ek) (.slice ka kn kc) (.int .u64 ks) (.int .u8 kk) := ⟨hcel, c0, c1, c2, BKr.c0, BKr.c1, BKr.c2⟩
          obtain ⟨d0, d1, d2, _⟩ := BKr
          have HTB : Hid (nb l ts (jj + 1) = tb ∧ nh ts (jj + 1) = t.h) := ⟨by rw [nb_succ l hjj, ht]; exact htb, by rw [nh_succ hjj, ht]⟩
          have HJH : Hid (h < t.h) := by rw [ht] at hjh; exact hjh
          have HJ : Hid (jj < ts.length ∧ a' ≤ jj) := ⟨hjj, haj⟩
          by_cases hlt : cr < 0
          · have hltE : ltE ts[jj].e K = true := by rw [ht]; exact decide_eq_true (by rw [hcr]; exact hlt)
            have HLT2 : Hid (∀ i (hi : i < ts.length), i < jj + 1 → ltE ts[i].e K = true) := lt_pre HS.out.ris hjj hltE
            have q1 : n - (jj + 1) < gk := by rw [HN.out] at hjj; omega
            have q2 : n - (jj + 1) + (jj + 1) = n := by rw [HN.out] at hjj; omega
            have HH2 : Hid (h < nh ts (jj + 1)) := by show h < _; rw [HTB.out.2]; exact HJH.out
            clear hf hno hS2 han rx ry hent ex htb hnl hsq hek hcr ht c3 bp9 fp9 hltE hjh
            go_wp2_with fail
            go_region_held3 (fun w' => w'.cell? ⟨nb l ts a', 4 + h, none⟩ = some (.pointer (some ⟨tb, 0, none⟩)) ∧ (w'.cell? ⟨tb, 0, none⟩ = some (.slice x1 nl x2) ∧ w'.cell? ⟨tb, 1, none⟩ = some (.int .u64 sq) ∧ w'.cell? ⟨tb, 2, none⟩ = some (.int .u8 ek)) ∧ (w'.cell? ⟨w.heap.size, 0, none⟩ = some (.slice ka kn kc) ∧ w'.cell? ⟨w.heap.size, 1, none⟩ = some (.int .u64 ks) ∧ w'.cell? ⟨w.heap.size, 2, none⟩ = some (.int .u8 kk)))
              (first | with_reducible exact ⟨T6.p, ⟨T6.a0, T6.a1, T6.a2⟩, ⟨T6.b0, T6.b1, T6.b2⟩⟩ | exact ⟨T0.p, ⟨T0.a0, T0.a1, T0.a2⟩, ⟨T0.b0, T0.b1, T0.b2⟩⟩)
              (first
                | (go_at_call 33; refine hcm.mono ?_; rintro e w6 ⟨rfl, hb6⟩
                   have T6 := T0.below hb6
                   have HB6 : Hid (Below wo.heap.size wo w6) := bsplit HB.out.drew hb6
                   clear hcm hb6)
                | fail)
            clear T0 d0 d1 d2 c0 c1 c2 hcel
            have e9 := T6.p
            go_wp2_with fail
            go_roundg (n - (jj + 1))
            case measure => exact q1
            case rel => exact ⟨jj + 1, q2, by show _ = Value.pointer (some ⟨nb l ts (jj + 1), 0, none⟩); rw [HTB.out.1], HLT2, HH2, HB6⟩
          · have hltE : ltE ts[jj].e K = false := by rw [ht]; exact decide_eq_false (by rw [hcr]; exact hlt)
            have HPR : Hid (PredT ts K h a') := ⟨han, HLT.out, HH.out, fun i hi hai hr => by
              by_cases hij : i < jj
              · exact absurd hr (hno i hi hai hij)
              · exact no_suf HS.out.ris hjj hltE i hi (by omega)⟩
            clear hf hno hS2 han rx ry hent ex htb hnl hsq hek hcr ht c3 hltE hjh bp9 fp9
            go_wp2_with fail
            go_region_held3 (fun w' => w'.cell? ⟨nb l ts a', 4 + h, none⟩ = some (.pointer (some ⟨tb, 0, none⟩)) ∧ (w'.cell? ⟨tb, 0, none⟩ = some (.slice x1 nl x2) ∧ w'.cell? ⟨tb, 1, none⟩ = some (.int .u64 sq) ∧ w'.cell? ⟨tb, 2, none⟩ = some (.int .u8 ek)) ∧ (w'.cell? ⟨w.heap.size, 0, none⟩ = some (.slice ka kn kc) ∧ w'.cell? ⟨w.heap.size, 1, none⟩ = some (.int .u64 ks) ∧ w'.cell? ⟨w.heap.size, 2, none⟩ = some (.int .u8 kk)))
              (first | with_reducible exact ⟨T6.p, ⟨T6.a0, T6.a1, T6.a2⟩, ⟨T6.b0, T6.b1, T6.b2⟩⟩ | exact ⟨T0.p, ⟨T0.a0, T0.a1, T0.a2⟩, ⟨T0.b0, T0.b1, T0.b2⟩⟩)
              (first
                | (go_at_call 33; refine hcm.mono ?_; rintro e w6 ⟨rfl, hb6⟩
                   have T6 := T0.below hb6
                   have HB6 : Hid (Below wo.heap.size wo w6) := bsplit HB.out.drew hb6
                   clear hcm hb6)
                | fail)
            have bp9 := (HI.out.bp.below HB6.out).cel h (by omega)
            have fp9 := (HI.out.bp.below HB6.out).frz h (by omega)
            simp only [show ¬ h + 1 ≤ h by omega, if_false] at bp9
            have BEL : Below wo.heap.size wo w6 := HB6.out
            clear T0 T6 d0 d1 d2 c0 c1 c2 hcel
            go_wp2_with fail
            go_roundg h
            case measure => exact Nat.lt_succ_self h
            case rel => exact ⟨h, a', fun r => if r = h then a' else A r, rfl, rfl, rfl, by omega, HI.out.next BEL HPR.out (by omega)⟩

end Go.Proofs.Ytekmlbbfipldoaa

/- skip's small functions. -/
namespace Go.Proofs.Ytekmlbbfipldoaa
set_option maxRecDepth 20000
open Go.RowKit
set_option linter.unusedVariables false
set_option linter.unusedSimpArgs false

theorem isRow_any (w : World) (h : Int) (r : Bool) (hr : decide (1 ≤ h ∧ h ≤ 8) = r) :
    Calls Try.prog 41 #[.int .i64 h] w fun e w' => e = .returned (.bool r) ∧ w' = w := by
  by_cases h1 : 1 ≤ h
  · by_cases h2 : h ≤ 8
    · have : r = true := by rw [← hr]; simp [h1, h2]
      subst this
      clear hr
      go_enter Try.func41, Try.ntmps41
      go_wp2
      go_ret
      exact ⟨rfl, rfl⟩
    · have : r = false := by rw [← hr]; simp [h2]
      subst this
      clear hr
      go_enter Try.func41, Try.ntmps41
      go_wp2
      go_ret
      exact ⟨ret_bool (by simp), rfl⟩
  · have : r = false := by rw [← hr]; simp; omega
    subst this
    clear hr
    go_enter Try.func41, Try.ntmps41
    go_wp2
    go_ret
    exact ⟨rfl, rfl⟩

/-- may an entry of this height be inserted? -/
def chkSk (e : EnB) (h : Int) : Int := if chk e.1.length (e.2.1 : Int) (e.2.2.1.toNat : Int) = 0 then (if 1 ≤ h ∧ h ≤ 8 then (if 512 < e.2.2.2.length then 3 else 0) else 1) else chk e.1.length (e.2.1 : Int) (e.2.2.1.toNat : Int)

set_option maxHeartbeats 2000000 in
theorem skcheck_any (w : World) (xa ya : Option Addr) (xc yc : Nat) (e : EnB) (h c : Int) (hc : chkSk e h = c) :
    Calls Try.prog 31 #[enV (.slice xa e.1.length xc) (e.2.1 : Int) (e.2.2.1.toNat : Int) (.slice ya e.2.2.2.length yc), .int .i64 h] w fun o w' => o = .returned (.int .i64 c) ∧ Below w.heap.size w w' := by
  obtain ⟨nl, hnl⟩ : ∃ z, e.1.length = z := ⟨_, rfl⟩
  obtain ⟨ml, hml⟩ : ∃ z, e.2.2.2.length = z := ⟨_, rfl⟩
  obtain ⟨s, hs⟩ : ∃ z : Int, (e.2.1 : Int) = z := ⟨_, rfl⟩
  obtain ⟨k, hk⟩ : ∃ z : Int, (e.2.2.1.toNat : Int) = z := ⟨_, rfl⟩
  obtain ⟨ck, hck⟩ : ∃ z, chk nl s k = z := ⟨_, rfl⟩
  unfold chkSk at hc
  rw [hnl, hml, hs, hk, hck] at hc
  rw [hnl, hml, hs, hk]
  have HC : Hid ((if ck = 0 then (if 1 ≤ h ∧ h ≤ 8 then (if 512 < ml then 3 else 0) else 1) else ck) = c) := hc
  have hb0 := below_box4 w (.cells #[.slice xa nl xc, .int .u64 s, .int .u8 k, .slice ya ml yc] 38)
  have HB0 : Hid (Below w.heap.size w (w.alloc (.cells #[.slice xa nl xc, .int .u64 s, .int .u8 k, .slice ya ml yc] 38))) := hb0
  have B0 := box4_new w (.slice xa nl xc) (.int .u64 s) (.int .u8 k) (.slice ya ml yc) 38
  have hcv := check_any (w.alloc (.cells #[.slice xa nl xc, .int .u64 s, .int .u8 k, .slice ya ml yc] 38)) xa nl xc s k (by omega) (by omega)
  rw [hck] at hcv
  obtain ⟨c0, c1, c2, c3⟩ := B0
  have B0 := box4_new w (.slice xa nl xc) (.int .u64 s) (.int .u8 k) (.slice ya ml yc) 38
  clear hc hnl hml hs hk hck hb0
  go_enter Try.func31, Try.ntmps31
  go_wp2_with fail
  refine hcv.mono ?_
  rintro o w1 ⟨rfl, hb1⟩
  have HB1 : Hid (Below w.heap.size w w1) := bsplit HB0.out hb1
  clear c0 c1 c2 c3
  obtain ⟨c0, c1, c2, c3⟩ := B0.below hb1 (Nat.le_refl _)
  clear hcv hb1
  by_cases h0 : ck = 0
  · subst h0
    by_cases hr : 1 ≤ h ∧ h ≤ 8
    · have hir := isRow_any w1 h true (decide_eq_true hr)
      by_cases hm : 512 < ml
      · have hmI : (512 : Int) < (ml : Int) := by omega
        have HE : Hid (c = 3) := by show c = 3; rw [← HC.out, if_pos rfl, if_pos hr, if_pos hm]
        clear hr
        go_wp2_with fail
        refine hir.mono ?_
        rintro o w2 ⟨rfl, rfl⟩
        go_wp2
        go_ret
        exact ⟨by rw [HE.out]; rfl, HB1.out⟩
      · have hmI : ¬ (512 : Int) < (ml : Int) := by omega
        have HE : Hid (c = 0) := by show c = 0; rw [← HC.out, if_pos rfl, if_pos hr, if_neg hm]
        clear hr
        go_wp2_with fail
        refine hir.mono ?_
        rintro o w2 ⟨rfl, rfl⟩
        go_wp2
        go_ret
        exact ⟨by rw [HE.out]; rfl, HB1.out⟩
    · have hir := isRow_any w1 h false (decide_eq_false hr)
      have HE : Hid (c = 1) := by show c = 1; rw [← HC.out, if_pos rfl, if_neg hr]
      clear hr
      go_wp2_with fail
      refine hir.mono ?_
      rintro o w2 ⟨rfl, rfl⟩
      go_wp2
      go_ret
      exact ⟨by rw [HE.out]; rfl, HB1.out⟩
  · have h0b : (ck == 0) = false := by simpa using h0
    have HE : Hid (c = ck) := by show c = ck; rw [← HC.out, if_neg h0]
    go_wp2
    go_ret
    exact ⟨by rw [HE.out]; rfl, HB1.out⟩

theorem ltB_ownN {B : Nat} {w : World} {x : Value} {l : List UInt8} (h : OwnN B w x l) : LtB w x := fun q hq => by
  rcases h with ⟨rfl, _⟩ | h
  · simp [Value.ownBlock] at hq
  · obtain ⟨g, k, e⟩ := h.shape
    subst e
    simp only [Value.ownBlock, Option.some.injEq] at hq
    subst hq
    exact h.lt.2

theorem from_ownN {B : Nat} {w : World} {x : Value} {l : List UInt8} (h : OwnN B w x l) : From B x := fun a n c e => by
  rcases h with ⟨h, _⟩ | h
  · rw [h] at e; cases e
  · exact h.from a n c e

theorem Box4.other {w : World} {b : Nat} {v0 v1 v2 v3 : Value} (h : Box4 w b v0 v1 v2 v3) (p : Addr) (hne : b ≠ p.block) (u : Value) : Box4 (w.setCell p u) b v0 v1 v2 v3 :=
  ⟨by rw [cell_other w p ⟨b, 0, none⟩ u hne]; exact h.c0, by rw [cell_other w p ⟨b, 1, none⟩ u hne]; exact h.c1, by rw [cell_other w p ⟨b, 2, none⟩ u hne]; exact h.c2, by rw [cell_other w p ⟨b, 3, none⟩ u hne]; exact h.c3⟩

theorem box_other4 {w : World} {b b' : Nat} {v0 v1 v2 : Value} (h : Box w b v0 v1 v2) (hne : b ≠ b') (u0 u1 u2 u3 : Value) : Box ((((w.setCell ⟨b', 0, none⟩ u0).setCell ⟨b', 1, none⟩ u1).setCell ⟨b', 2, none⟩ u2).setCell ⟨b', 3, none⟩ u3) b v0 v1 v2 :=
  (((h.other ⟨b', 0, none⟩ hne u0).other ⟨b', 1, none⟩ hne u1).other ⟨b', 2, none⟩ hne u2).other ⟨b', 3, none⟩ hne u3

theorem rd_store3 {w : World} {v : Value} {l : List UInt8} {b : Nat} (h : Rd w v l) (hb : ∀ g, v.ownBlock = some g → g ≠ b) (u0 u1 u2 : Value) : Rd (((w.setCell ⟨b, 0, none⟩ u0).setCell ⟨b, 1, none⟩ u1).setCell ⟨b, 2, none⟩ u2) v l := by
  rcases h with h | ⟨g, off, cap, rfl, h1, h2, h3⟩
  · exact .inl h
  · have h0 : Rd w (.slice (some ⟨g, off, none⟩) l.length cap) l := .inr ⟨g, off, cap, rfl, h1, h2, h3⟩
    have hne := hb g rfl
    exact ((h0.other ⟨b, 0, none⟩ hne u0).other ⟨b, 1, none⟩ hne u1).other ⟨b, 2, none⟩ hne u2

theorem from_ne {B b : Nat} {v : Value} (hf : From B v) (h : b < B) : ∀ g, v.ownBlock = some g → g ≠ b := fun g hg => by
  cases v with
  | slice a n c =>
    cases a with
    | none => simp [Value.ownBlock] at hg
    | some a =>
      have h9 := hf a n c rfl
      simp only [Value.ownBlock, Option.some.injEq] at hg
      omega
  | _ => simp [Value.ownBlock] at hg

theorem clone_keep {W w2 : World} {o : Obj} {x : Value} {l : List UInt8} (h : OwnN (W.alloc o).drew.heap.size w2 x l) (u0 u1 u2 : Value) : Rd (((w2.setCell ⟨W.heap.size, 0, none⟩ u0).setCell ⟨W.heap.size, 1, none⟩ u1).setCell ⟨W.heap.size, 2, none⟩ u2) x l ∧ From W.heap.size x ∧ LtB (((w2.setCell ⟨W.heap.size, 0, none⟩ u0).setCell ⟨W.heap.size, 1, none⟩ u1).setCell ⟨W.heap.size, 2, none⟩ u2) x := by
  have hs : (W.alloc o).drew.heap.size = W.heap.size + 1 := by simp
  have hf := from_ownN h
  rw [hs] at hf
  exact ⟨rd_store3 h.rd (from_ne hf (Nat.lt_succ_self _)) _ _ _, fun a n c e => by have := hf a n c e; omega, (ltB_ownN h).grow (by simp)⟩

theorem box_stored {w : World} {b : Nat} {v0 v1 v2 : Value} (h : Box w b v0 v1 v2) (u0 u1 u2 : Value) : Box (((w.setCell ⟨b, 0, none⟩ u0).setCell ⟨b, 1, none⟩ u1).setCell ⟨b, 2, none⟩ u2) b u0 u1 u2 :=
  ⟨by simp [go_sem, h.c0, h.c1, h.c2], by simp [go_sem, h.c0, h.c1, h.c2], by simp [go_sem, h.c0, h.c1, h.c2], by simp [go_sem, h.f0], by simp [go_sem, h.f1], by simp [go_sem, h.f2]⟩

set_option maxHeartbeats 4000000 in
theorem skapart_any (w : World) (xv yv : Value) (l m : List UInt8) (s k : Int) (hx : Rd w xv l) (hy : Rd w yv m) (hl : l.length ≤ 1000000) (hm : m.length ≤ 1000000) :
    Calls Try.prog 34 #[enV xv s k yv] w fun e w' => ∃ x y, e = .returned (enV x s k y) ∧ (Rd w' x l ∧ From (w.heap.size + 2) x) ∧ (Rd w' y m ∧ From (w.heap.size + 2) y) ∧ (LtB w' x ∧ LtB w' y) ∧ Below w.heap.size w w' := by
  obtain ⟨xa, xc, rfl⟩ := hx.len
  obtain ⟨ya, yc, rfl⟩ := hy.len
  obtain ⟨nl, hnl⟩ : ∃ z, l.length = z := ⟨_, rfl⟩
  obtain ⟨ml, hml⟩ : ∃ z, m.length = z := ⟨_, rfl⟩
  have HNL : Hid (l.length = nl ∧ m.length = ml ∧ nl ≤ 1000000 ∧ ml ≤ 1000000) := ⟨hnl, hml, by omega, by omega⟩
  rw [hnl] at hx ⊢
  rw [hml] at hy ⊢
  have hb0 := below_box4 w (.cells #[.slice xa nl xc, .int .u64 s, .int .u8 k, .slice ya ml yc] 38)
  have hb1 := below_box4 (w.alloc (.cells #[.slice xa nl xc, .int .u64 s, .int .u8 k, .slice ya ml yc] 38)) (.cells #[.slice none 0 0, .int .u64 0, .int .u8 0, .slice none 0 0] 38)
  have s1 : (w.alloc (.cells #[.slice xa nl xc, .int .u64 s, .int .u8 k, .slice ya ml yc] 38)).heap.size = w.heap.size + 1 := by simp
  have s2 : ((w.alloc (.cells #[.slice xa nl xc, .int .u64 s, .int .u8 k, .slice ya ml yc] 38)).alloc (.cells #[.slice none 0 0, .int .u64 0, .int .u8 0, .slice none 0 0] 38)).heap.size = w.heap.size + 2 := by simp
  have BE := (box4_new w (.slice xa nl xc) (.int .u64 s) (.int .u8 k) (.slice ya ml yc) 38).below hb1 (Nat.le_refl _)
  have BR := box4f_new (w.alloc (.cells #[.slice xa nl xc, .int .u64 s, .int .u8 k, .slice ya ml yc] 38)) (.slice none 0 0) (.int .u64 0) (.int .u8 0) (.slice none 0 0) 38
  rw [s1] at BR
  obtain ⟨W, hW⟩ : ∃ W, (w.alloc (.cells #[.slice xa nl xc, .int .u64 s, .int .u8 k, .slice ya ml yc] 38)).alloc (.cells #[.slice none 0 0, .int .u64 0, .int .u8 0, .slice none 0 0] 38) = W := ⟨_, rfl⟩
  have hBW := bsplit hb0 hb1
  rw [hW] at BE BR hBW s2
  have HBW : Hid (Below w.heap.size w W) := hBW
  have HSZ : Hid (W.heap.size = w.heap.size + 2) := s2
  have HX : Hid (∀ V, Below W.heap.size W V → Arg V (.slice xa nl xc) l) := fun V hV => ((hx.below hBW (Nat.le_refl _)).below hV (Nat.le_refl _)).arg
  have HY : Hid (∀ V, Below W.heap.size W V → Arg V (.slice ya ml yc) m) := fun V hV => ((hy.below hBW (Nat.le_refl _)).below hV (Nat.le_refl _)).arg
  have pW0 : Below W.heap.size W W.drew := (Below.refl _ _).drew
  have pW1 : Below W.heap.size W (W.alloc (.cells #[.slice none 0 0, .int .u64 0, .int .u8 0] 36)).drew := (below_box4 W _).drew
  have BK1 := (box_new W (.slice none 0 0) (.int .u64 0) (.int .u8 0) 36).drew
  have BE0 := BE.below pW0 (Nat.le_refl _)
  have BE1 := BE.below pW1 (Nat.le_refl _)
  clear hx hy hl hm hnl hml hb0 hb1 s1 s2 hBW
  go_enter Try.func34, Try.ntmps34
  go_upto_region 1 with fail
  clear hW
  go_cut [3] (fun kv wx => ∃ (bk : Nat) (xa2 : Option Addr) (xc2 : Nat), kv = .pointer (some ⟨bk, 0, none⟩) ∧ W.heap.size ≤ bk ∧ Hid (Box wx bk (.slice xa2 nl xc2) (.int .u64 s) (.int .u8 k)) ∧ Hid (Rd wx (.slice xa2 nl xc2) l ∧ From W.heap.size (.slice xa2 nl xc2) ∧ LtB wx (.slice xa2 nl xc2)) ∧ Hid (Below W.heap.size W wx))
  case first =>
    go_region_held3 (fun w' => w'.cell? ⟨w.heap.size, 0, none⟩ = some (.slice xa nl xc) ∧ w'.cell? ⟨w.heap.size, 1, none⟩ = some (.int .u64 s) ∧ w'.cell? ⟨w.heap.size, 2, none⟩ = some (.int .u8 k))
      (first | with_reducible exact ⟨BE4.c0, BE4.c1, BE4.c2⟩ | with_reducible exact ⟨BE3.c0, BE3.c1, BE3.c2⟩ | with_reducible exact ⟨BE2s.c0, BE2s.c1, BE2s.c2⟩ | with_reducible exact ⟨BE2.c0, BE2.c1, BE2.c2⟩ | with_reducible exact ⟨BE1.c0, BE1.c1, BE1.c2⟩ | exact ⟨BE0.c0, BE0.c1, BE0.c2⟩)
      (first
        | (go_at_call 45
           refine (clone_any _ _ l (by first | with_reducible exact HX.out _ pW0 | with_reducible exact HX.out _ pW1) (by have := HNL.out; omega)).mono ?_
           rintro e w2 ⟨x2, rfl, o2, hb2⟩
           obtain ⟨xa2, xc2, ex2⟩ := o2.rd.len
           rw [HNL.out.1] at ex2
           subst ex2
           have HB2 : Hid (Below W.heap.size W w2) := by first | exact bsplit pW0 hb2 | exact bsplit pW1 hb2
           have BE2 := BE.below HB2.out (Nat.le_refl _)
           have BE4 := BE2.below (below_box4 w2 (.cells #[.slice none 0 0, .int .u64 0, .int .u8 0] 36)) (Nat.le_refl _)
           have BE3 := BE2.below (below_box4 w2 (.cells #[.slice xa2 nl xc2, .int .u64 s, .int .u8 k] 36)) (Nat.le_refl _)
           have BE2s : Box4 (((w2.setCell ⟨W.heap.size, 0, none⟩ (.slice xa2 nl xc2)).setCell ⟨W.heap.size, 1, none⟩ (.int .u64 s)).setCell ⟨W.heap.size, 2, none⟩ (.int .u8 k)) w.heap.size (.slice xa nl xc) (.int .u64 s) (.int .u8 k) (.slice ya ml yc) := by
             have hne : w.heap.size ≠ W.heap.size := by rw [HSZ.out]; omega
             exact ((BE2.other ⟨W.heap.size, 0, none⟩ hne _).other ⟨W.heap.size, 1, none⟩ hne _).other ⟨W.heap.size, 2, none⟩ hne _
           first
             | (have BK2 := BK1.below hb2 (Nat.le_refl _)
                obtain ⟨c0, c1, c2, f0, f1, f2⟩ := BK2)
             | skip)
        | fail)
    all_goals (go_wp2_with fail; go_meet; first
      | exact ⟨_, xa2, xc2, rfl, HB2.out.size, box_new w2 _ _ _ _, ⟨o2.rd.below (below_box4 w2 _) (Nat.le_refl _), from_ownN o2, (ltB_ownN o2).grow (below_box4 w2 _).size⟩, bsplit HB2.out (below_box4 w2 _)⟩
      | exact ⟨_, xa2, xc2, rfl, Nat.le_refl _, box_stored (BK1.below hb2 (Nat.le_refl _)) _ _ _, clone_keep o2 _ _ _, below_store3 HB2.out (Nat.le_refl _) _ _ _⟩)
  case rest =>
    obtain ⟨bk, xa2, xc2, rfl, hbk, BK, HX2, HB2⟩ := hcut
    have hcl := clone_any wc.drew _ m (arg_drew (HY.out _ HB2.out)) (by have := HNL.out; omega)
    have BEc := (BE.below HB2.out (Nat.le_refl _)).drew
    have BKc := BK.out.drew
    have BRc := BR.below HB2.out (Nat.le_refl _)
    have HBX : Hid (Below w.heap.size w wc) := bsplit HBW.out HB2.out
    have HWC : Hid (w.heap.size + 2 ≤ wc.heap.size) := by have := HB2.out.size; rw [HSZ.out] at this; exact this
    have HNE : Hid (w.heap.size ≠ w.heap.size + 1 ∧ bk ≠ w.heap.size + 1) := ⟨by omega, by rw [HSZ.out] at hbk; omega⟩
    clear pW0 pW1 BK1 BE0 BE1
    obtain ⟨d0, d1, d2, d3⟩ := BEc
    have BEc := (BE.below HB2.out (Nat.le_refl _)).drew
    obtain ⟨e0, e1, e2, _⟩ := BK.out
    go_wp2_with fail
    go_region_held3 (fun w' => (w'.cell? ⟨bk, 0, none⟩ = some (.slice xa2 nl xc2) ∧ w'.cell? ⟨bk, 1, none⟩ = some (.int .u64 s) ∧ w'.cell? ⟨bk, 2, none⟩ = some (.int .u8 k)) ∧ w'.cell? ⟨w.heap.size, 3, none⟩ = some (.slice ya ml yc))
      (first | with_reducible exact ⟨⟨b7.c0, b7.c1, b7.c2⟩, E7.c3⟩ | with_reducible exact ⟨⟨b6.c0, b6.c1, b6.c2⟩, E6.c3⟩ | exact ⟨⟨BKc.c0, BKc.c1, BKc.c2⟩, BEc.c3⟩)
      (first
        | (go_at_call 45; refine hcl.mono ?_; rintro e w6 ⟨y, rfl, oy, hb6⟩
           obtain ⟨ya2, yc2, ey2⟩ := oy.rd.len
           rw [HNL.out.2.1] at ey2
           subst ey2
           have HB6 : Hid (Below w.heap.size w w6) := bsplit HBX.out.drew hb6
           obtain ⟨⟨c0, c1, c2, c3⟩, f0, f1, f2, f3⟩ := BRc.below (bsplit (Below.refl _ _).drew hb6) (Nat.le_refl _)
           have b6 := BKc.below hb6 (Nat.le_refl _)
           have E6 := BEc.below hb6 (Nat.le_refl _)
           have b7 := box_other4 b6 HNE.out.2 (.slice xa2 nl xc2) (.int .u64 s) (.int .u8 k) (.slice ya2 ml yc2)
           have E7 := E6.stored (w.heap.size + 1) HNE.out.1 (.slice xa2 nl xc2) (.int .u64 s) (.int .u8 k) (.slice ya2 ml yc2)
           have HX6 : Hid (Rd w6 (.slice xa2 nl xc2) l ∧ From (w.heap.size + 2) (.slice xa2 nl xc2)) := ⟨HX2.out.1.drew.below hb6 (Nat.le_refl _), by rw [← HSZ.out]; exact HX2.out.2.1⟩
           have HLB : Hid (LtB w6 (.slice xa2 nl xc2) ∧ LtB w6 (.slice ya2 ml yc2)) := ⟨HX2.out.2.2.grow hb6.size, ltB_ownN oy⟩
           have HY6 : Hid (Rd w6 (.slice ya2 ml yc2) m ∧ From (w.heap.size + 2) (.slice ya2 ml yc2)) := ⟨oy.rd, fun a n c e => Nat.le_trans HWC.out (from_ownN oy a n c e)⟩
           clear hb6 oy)
        | fail)
    clear hcl d0 d1 d2 d3 e0 e1 e2 BKc BEc b6 b7 E6 E7
    go_wp2
    refine bodyPost_ret (v := enV (.slice xa2 nl xc2) s k (.slice ya2 ml yc2)) (by simp [results, Try.results34, go_sem, c0, c1, c2, c3]) rfl ⟨_, _, rfl, ⟨rd_store4 HX6.out.1 (from_ne HX6.out.2 (by omega)) _ _ _ _, HX6.out.2⟩, ⟨rd_store4 HY6.out.1 (from_ne HY6.out.2 (by omega)) _ _ _ _, HY6.out.2⟩, ⟨HLB.out.1.grow (by simp), HLB.out.2.grow (by simp)⟩, below_store4 HB6.out (Nat.le_succ _) _ _ _ _⟩

end Go.Proofs.Ytekmlbbfipldoaa

/- skip.New, (*skip.List).From, Before. -/
namespace Go.Proofs.Ytekmlbbfipldoaa
set_option maxRecDepth 20000
open Go.RowKit
set_option linter.unusedVariables false
set_option linter.unusedSimpArgs false

theorem sknew_any (w : World) :
    Calls Try.prog 10 #[] w fun e w' => e = .returned (.pointer (some ⟨w.heap.size, 0, none⟩)) ∧ SkAt w' w.heap.size [] ∧ Below w.heap.size w w' := by
  go_enter Try.func10, Try.ntmps10
  go_wp2
  go_ret
  refine ⟨rfl, ?_, below_box4 w _⟩
  refine ⟨fun a ha => ?_, fun t ht => by simp at ht, fun a b ha hb _ => by simp at ha hb; omega, fun t ht => by simp at ht, fun t ht => by simp at ht, rfl, by simp, fun t ht => by simp at ht⟩
  have ha0 : a = 0 := by simpa using ha
  subst ha0
  have h := heap_alloc_new w (.cells #[.slice none 0 0, .int .u64 0, .int .u8 0, .slice none 0 0, .pointer none, .pointer none, .pointer none, .pointer none, .pointer none, .pointer none, .pointer none, .pointer none] 69)
  refine ⟨fun r hr => ?_, fun r hr => frozen_of_row _ w.heap.size (4 + r) _ 69 h, ⟨_, _, h⟩⟩
  have c := cell_of_row _ w.heap.size (4 + r) _ 69 (0, 0) h
  have : r = 0 ∨ r = 1 ∨ r = 2 ∨ r = 3 ∨ r = 4 ∨ r = 5 ∨ r = 6 ∨ r = 7 := by omega
  rcases this with rfl | rfl | rfl | rfl | rfl | rfl | rfl | rfl <;> exact c.trans rfl

/-- what is found: an entry, or none -/
def FoundE (q : Option EnB) (w w' : World) (o : Ending) : Prop :=
  Below w.heap.size w w' ∧ match q with
    | none => o = .returned (.tuple #[enV (.slice none 0 0) 0 0 (.slice none 0 0), .bool false])
    | some e => ∃ x y, o = .returned (.tuple #[enV x (e.2.1 : Int) (e.2.2.1.toNat : Int) y, .bool true]) ∧ (Rd w' x e.1 ∧ From w.heap.size x) ∧ (Rd w' y e.2.2.2 ∧ From w.heap.size y)

theorem infoTow : (Try.prog.info? 67).map (fun i => (i.zero, i.size, i.bytes)) = some (some (.agg #[.slice none 0 0, .int .u64 0, .int .u8 0, .slice none 0 0, .pointer none, .pointer none, .pointer none, .pointer none, .pointer none, .pointer none, .pointer none, .pointer none]), 12, 128) := by kernel_rfl

/-- in the lowest row stand all -/
theorem fst_low {ts : List Tow} (hh : ∀ t ∈ ts, 1 ≤ t.h ∧ t.h ≤ 8) (c : Nat) : fstT (ts.drop c) 0 = (ts[c]?).map (·.b) := by
  rcases fst_drop ts c 0 with ⟨h1, h2⟩ | ⟨j, hj, h1, h2, h3, h4⟩
  · rw [h1]
    by_cases hc : c < ts.length
    · exact absurd (by have := (hh _ (List.getElem_mem hc)).1; omega) (h2 c hc (Nat.le_refl _))
    · rw [List.getElem?_eq_none (by omega)]; rfl
  · by_cases hcj : c = j
    · subst hcj; rw [h3, List.getElem?_eq_getElem hj]; rfl
    · exact absurd (by have := (hh _ (List.getElem_mem (show c < ts.length by omega))).1; omega) (h4 c (by omega) (Nat.le_refl _) (by omega))

set_option maxHeartbeats 4000000 in
theorem skfrom_any (w : World) (l : Nat) (ts : List Tow) (kv : Value) (K : EnB) (hS : SkAt w l ts) (hk : Rd w kv K.1) (hsm : ∀ t ∈ ts, t.e.1.length ≤ 1000000 ∧ t.e.2.2.2.length ≤ 1000000) :
    Calls Try.prog 23 #[.pointer (some ⟨l, 0, none⟩), .agg #[kv, .int .u64 (K.2.1 : Int), .int .u8 (K.2.2.1.toNat : Int)]] w fun o w' => FoundE ((esT ts)[cntE (esT ts) K]?) w w' o := by
  have HS : Hid (SkAt w l ts) := hS
  have HSM : Hid (∀ t ∈ ts, t.e.1.length ≤ 1000000 ∧ t.e.2.2.2.length ≤ 1000000) := hsm
  obtain ⟨ka, kc, rfl⟩ := hk.len
  obtain ⟨kn, hkn⟩ : ∃ n, K.1.length = n := ⟨_, rfl⟩
  obtain ⟨ks, hks⟩ : ∃ z : Int, (K.2.1 : Int) = z := ⟨_, rfl⟩
  obtain ⟨kk, hkk⟩ : ∃ z : Int, (K.2.2.1.toNat : Int) = z := ⟨_, rfl⟩
  have hb0 := below_box w #[.slice ka kn kc, .int .u64 ks, .int .u8 kk] 36
  have hb1 := below_box4 (w.alloc (.cells #[.slice ka kn kc, .int .u64 ks, .int .u8 kk] 36)) (.cells #[.slice none 0 0, .int .u64 0, .int .u8 0, .slice none 0 0] 38)
  have s1 : (w.alloc (.cells #[.slice ka kn kc, .int .u64 ks, .int .u8 kk] 36)).heap.size = w.heap.size + 1 := by simp
  have s2 : ((w.alloc (.cells #[.slice ka kn kc, .int .u64 ks, .int .u8 kk] 36)).alloc (.cells #[.slice none 0 0, .int .u64 0, .int .u8 0, .slice none 0 0] 38)).heap.size = w.heap.size + 2 := by simp
  have BK := (box_new w (.slice ka kn kc) (.int .u64 ks) (.int .u8 kk) 36).below hb1 (Nat.le_refl _)
  have BR := box4f_new (w.alloc (.cells #[.slice ka kn kc, .int .u64 ks, .int .u8 kk] 36)) (.slice none 0 0) (.int .u64 0) (.int .u8 0) (.slice none 0 0) 38
  rw [s1] at BR
  obtain ⟨W, hW⟩ : ∃ W, (w.alloc (.cells #[.slice ka kn kc, .int .u64 ks, .int .u8 kk] 36)).alloc (.cells #[.slice none 0 0, .int .u64 0, .int .u8 0, .slice none 0 0] 38) = W := ⟨_, rfl⟩
  have hBW := bsplit hb0 hb1
  rw [hW] at BK BR hBW s2
  have HBW : Hid (Below w.heap.size w W) := hBW
  have HSZ : Hid (W.heap.size = w.heap.size + 2) := s2
  have hah := ahead_any W l ts (.slice ka K.1.length kc) K (hS.below hBW) (hk.below hBW (Nat.le_refl _))
  rw [hkn, hks, hkk] at hah
  rw [hkn, hks, hkk]
  obtain ⟨Q, hQ⟩ : ∃ Q, ((esT ts)[cntE (esT ts) K]?) = Q := ⟨_, rfl⟩
  have HQ : Hid (((esT ts)[cntE (esT ts) K]?) = Q) := hQ
  rw [hQ]
  obtain ⟨d0, d1, d2, _⟩ := BK
  clear hS hk hkn hks hkk hb0 hb1 s1 s2 hBW hsm hQ
  go_enter Try.func23, Try.ntmps23
  go_wp2_with fail
  clear hW
  refine hah.mono ?_
  rintro o w1 ⟨A, rfl, hA, hb1⟩
  have HB1 : Hid (Below w.heap.size w w1) := bsplit HBW.out hb1
  have BR1 := BR.below hb1 (Nat.le_refl _)
  have h0 := hA 0 (by omega)
  have hcnt := h0.cnt HS.out.ht
  have hcl := h0.le
  obtain ⟨c, hc⟩ : ∃ c, A 0 = c := ⟨_, rfl⟩
  rw [hc] at hcnt hcl
  simp only [hc]
  have i0 : ∀ V : World, (Instr.index 65 (.agg #[ndP l ts c, ndP l ts (A 1), ndP l ts (A 2), ndP l ts (A 3), ndP l ts (A 4), ndP l ts (A 5), ndP l ts (A 6), ndP l ts (A 7)]) (.int .i64 0)).run Try.prog V = .ok (ndP l ts c) V := fun _ => by kernel_rfl
  have hS1 := HS.out.below HB1.out
  clear hah hA h0 BR d0 d1 d2
  have hcel := (hS1.nod c hcl).cel 0 (by omega)
  rw [fst_low HS.out.ht, if_pos (by have := HS.out.ht; unfold nh; split <;> first | omega | (split <;> first | (rename_i t ht; have := this t (List.mem_of_getElem? ht); omega) | (rename_i ht; have := List.getElem?_eq_none_iff.1 ht; omega))), Nat.add_zero] at hcel
  by_cases hlt : c < ts.length
  · obtain ⟨t, ht⟩ : ∃ t, ts[c] = t := ⟨_, rfl⟩
    have htm : t ∈ ts := by rw [← ht]; exact List.getElem_mem hlt
    rw [List.getElem?_eq_getElem hlt, ht] at hcel
    simp only [Option.map_some, ptrT] at hcel
    have HQE : Hid (Q = some t.e) := by show Q = _; rw [← HQ.out, hcnt, List.getElem?_eq_getElem (by rw [esT_len]; exact hlt), esT_get hlt, ht]
    have hent := hS1.ent t htm
    obtain ⟨⟨c0, c1, c2, c3⟩, rx, ry⟩ := hent
    obtain ⟨x1, xc, ex⟩ := rx.len
    obtain ⟨y1, yc, ey⟩ := ry.len
    rw [ex] at c0 rx
    rw [ey] at c3 ry
    obtain ⟨tb, htb⟩ : ∃ z, t.b = z := ⟨_, rfl⟩
    obtain ⟨sq, hsq⟩ : ∃ z : Int, (t.e.2.1 : Int) = z := ⟨_, rfl⟩
    obtain ⟨ek, hek⟩ : ∃ z : Int, (t.e.2.2.1.toNat : Int) = z := ⟨_, rfl⟩
    have HSE : Hid ((t.e.2.1 : Int) = sq ∧ (t.e.2.2.1.toNat : Int) = ek) := ⟨hsq, hek⟩
    rw [hsq] at c1
    rw [hek] at c2
    have hap := skapart_any w1 (.slice x1 t.e.1.length xc) (.slice y1 t.e.2.2.2.length yc) t.e.1 t.e.2.2.2 sq ek rx ry (HSM.out t htm).1 (HSM.out t htm).2
    have HW1 : Hid (w.heap.size + 2 ≤ w1.heap.size + 2) := by show _ ≤ _; have := HB1.out.size; omega
    rw [htb] at hcel c0 c1 c2 c3
    clear rx ry ex ey hsq hek ht hS1 hcnt htm hlt
    go_wp2_with fail
    refine hap.mono ?_
    rintro o w2 ⟨x, y, rfl, rx2, ry2, _, hb2⟩
    obtain ⟨⟨r0, r1, r2, r3⟩, f0, f1, f2, f3⟩ := BR1.below hb2 (Nat.le_refl _)
    have HB2 : Hid (Below w.heap.size w w2) := bsplit HB1.out hb2
    have HX : Hid ((Rd w2 x t.e.1 ∧ From (w.heap.size + 2) x) ∧ (Rd w2 y t.e.2.2.2 ∧ From (w.heap.size + 2) y)) := ⟨⟨rx2.1, fun a n c e => by have := rx2.2 a n c e; have := HW1.out; omega⟩, ⟨ry2.1, fun a n c e => by have := ry2.2 a n c e; have := HW1.out; omega⟩⟩
    obtain ⟨xa, xc2, rfl⟩ := rx2.1.len
    obtain ⟨ya, yc2, rfl⟩ := ry2.1.len
    clear hap hb2 rx2 ry2 c0 c1 c2 c3
    go_wp2
    refine bodyPost_ret (v := .tuple #[enV (.slice xa t.e.1.length xc2) sq ek (.slice ya t.e.2.2.2.length yc2), .bool true]) (by simp [results, Try.results23, go_sem, r0, r1, r2, r3]) rfl ?_
    refine ⟨below_store4 HB2.out (Nat.le_succ _) _ _ _ _, ?_⟩
    rw [HQE.out]
    exact ⟨_, _, by rw [HSE.out.1, HSE.out.2], ⟨rd_store4 HX.out.1.1 (from_ne HX.out.1.2 (by omega)) _ _ _ _, fun a n c e => by have := HX.out.1.2 a n c e; omega⟩, ⟨rd_store4 HX.out.2.1 (from_ne HX.out.2.2 (by omega)) _ _ _ _, fun a n c e => by have := HX.out.2.2 a n c e; omega⟩⟩
  · rw [List.getElem?_eq_none (by omega)] at hcel
    simp only [Option.map_none, ptrT] at hcel
    have HQE : Hid (Q = none) := by show Q = _; rw [← HQ.out, hcnt, List.getElem?_eq_none (by rw [esT_len]; omega)]
    clear hS1 hcnt hlt
    obtain ⟨⟨r0, r1, r2, r3⟩, f0, f1, f2, f3⟩ := BR1
    go_wp2
    refine bodyPost_ret (v := .tuple #[enV (.slice none 0 0) 0 0 (.slice none 0 0), .bool false]) (by simp [results, Try.results23, go_sem, r0, r1, r2, r3]) rfl ?_
    refine ⟨below_store4 HB1.out (Nat.le_succ _) _ _ _ _, ?_⟩
    rw [HQE.out]

set_option maxHeartbeats 4000000 in
theorem skbefore_any (w : World) (l : Nat) (ts : List Tow) (kv : Value) (K : EnB) (hS : SkAt w l ts) (hk : Rd w kv K.1) (hsm : ∀ t ∈ ts, t.e.1.length ≤ 1000000 ∧ t.e.2.2.2.length ≤ 1000000) :
    Calls Try.prog 25 #[.pointer (some ⟨l, 0, none⟩), .agg #[kv, .int .u64 (K.2.1 : Int), .int .u8 (K.2.2.1.toNat : Int)]] w fun o w' => FoundE (if cntE (esT ts) K = 0 then none else (esT ts)[cntE (esT ts) K - 1]?) w w' o := by
  have HS : Hid (SkAt w l ts) := hS
  have HSM : Hid (∀ t ∈ ts, t.e.1.length ≤ 1000000 ∧ t.e.2.2.2.length ≤ 1000000) := hsm
  obtain ⟨ka, kc, rfl⟩ := hk.len
  obtain ⟨kn, hkn⟩ : ∃ n, K.1.length = n := ⟨_, rfl⟩
  obtain ⟨ks, hks⟩ : ∃ z : Int, (K.2.1 : Int) = z := ⟨_, rfl⟩
  obtain ⟨kk, hkk⟩ : ∃ z : Int, (K.2.2.1.toNat : Int) = z := ⟨_, rfl⟩
  have hb0 := below_box w #[.slice ka kn kc, .int .u64 ks, .int .u8 kk] 36
  have hb1 := below_box4 (w.alloc (.cells #[.slice ka kn kc, .int .u64 ks, .int .u8 kk] 36)) (.cells #[.slice none 0 0, .int .u64 0, .int .u8 0, .slice none 0 0] 38)
  have s1 : (w.alloc (.cells #[.slice ka kn kc, .int .u64 ks, .int .u8 kk] 36)).heap.size = w.heap.size + 1 := by simp
  have s2 : ((w.alloc (.cells #[.slice ka kn kc, .int .u64 ks, .int .u8 kk] 36)).alloc (.cells #[.slice none 0 0, .int .u64 0, .int .u8 0, .slice none 0 0] 38)).heap.size = w.heap.size + 2 := by simp
  have BK := (box_new w (.slice ka kn kc) (.int .u64 ks) (.int .u8 kk) 36).below hb1 (Nat.le_refl _)
  have BR := box4f_new (w.alloc (.cells #[.slice ka kn kc, .int .u64 ks, .int .u8 kk] 36)) (.slice none 0 0) (.int .u64 0) (.int .u8 0) (.slice none 0 0) 38
  rw [s1] at BR
  obtain ⟨W, hW⟩ : ∃ W, (w.alloc (.cells #[.slice ka kn kc, .int .u64 ks, .int .u8 kk] 36)).alloc (.cells #[.slice none 0 0, .int .u64 0, .int .u8 0, .slice none 0 0] 38) = W := ⟨_, rfl⟩
  have hBW := bsplit hb0 hb1
  rw [hW] at BK BR hBW s2
  have HBW : Hid (Below w.heap.size w W) := hBW
  have HSZ : Hid (W.heap.size = w.heap.size + 2) := s2
  have hah := ahead_any W l ts (.slice ka K.1.length kc) K (hS.below hBW) (hk.below hBW (Nat.le_refl _))
  rw [hkn, hks, hkk] at hah
  rw [hkn, hks, hkk]
  obtain ⟨Q, hQ⟩ : ∃ Q, (if cntE (esT ts) K = 0 then none else (esT ts)[cntE (esT ts) K - 1]?) = Q := ⟨_, rfl⟩
  have HQ : Hid ((if cntE (esT ts) K = 0 then none else (esT ts)[cntE (esT ts) K - 1]?) = Q) := hQ
  rw [hQ]
  obtain ⟨d0, d1, d2, _⟩ := BK
  clear hS hk hkn hks hkk hb0 hb1 s1 s2 hBW hsm hQ
  go_enter Try.func25, Try.ntmps25
  go_wp2_with fail
  clear hW
  refine hah.mono ?_
  rintro o w1 ⟨A, rfl, hA, hb1⟩
  have HB1 : Hid (Below w.heap.size w w1) := bsplit HBW.out hb1
  have BR1 := BR.below hb1 (Nat.le_refl _)
  have h0 := hA 0 (by omega)
  have hcnt := h0.cnt HS.out.ht
  have hcl := h0.le
  obtain ⟨c, hc⟩ : ∃ c, A 0 = c := ⟨_, rfl⟩
  rw [hc] at hcnt hcl
  simp only [hc]
  have i0 : ∀ V : World, (Instr.index 65 (.agg #[ndP l ts c, ndP l ts (A 1), ndP l ts (A 2), ndP l ts (A 3), ndP l ts (A 4), ndP l ts (A 5), ndP l ts (A 6), ndP l ts (A 7)]) (.int .i64 0)).run Try.prog V = .ok (ndP l ts c) V := fun _ => by kernel_rfl
  have hS1 := HS.out.below HB1.out
  clear hah hA h0 BR d0 d1 d2
  by_cases hc0 : c = 0
  · subst hc0
    have hnb : nb l ts 0 = l := rfl
    have HQE : Hid (Q = none) := by show Q = _; rw [← HQ.out, hcnt, if_pos rfl]
    simp only [ndP, hnb] at i0 ⊢
    obtain ⟨ji, hji, _, _, _⟩ := info_parts infoTow
    have i2 := run_eql_ptr_same w1 ⟨l, 0, none⟩ Try.underlying63 hji
    clear hS1 hcnt hnb
    obtain ⟨⟨r0, r1, r2, r3⟩, f0, f1, f2, f3⟩ := BR1
    go_wp2
    refine bodyPost_ret (v := .tuple #[enV (.slice none 0 0) 0 0 (.slice none 0 0), .bool false]) (by simp [results, Try.results25, go_sem, r0, r1, r2, r3]) rfl ?_
    refine ⟨below_store4 HB1.out (Nat.le_succ _) _ _ _ _, ?_⟩
    rw [HQE.out]
  · obtain ⟨i, rfl⟩ : ∃ i, c = i + 1 := ⟨c - 1, by omega⟩
    have hlt : i < ts.length := by omega
    obtain ⟨t, ht⟩ : ∃ t, ts[i] = t := ⟨_, rfl⟩
    have htm : t ∈ ts := by rw [← ht]; exact List.getElem_mem hlt
    have hnb : nb l ts (i + 1) = t.b := by rw [nb_succ l hlt, ht]
    have hne : ¬ t.b = l := fun e => by
      have := HS.out.inj (i + 1) 0 (by omega) (by omega) (by rw [hnb]; exact e)
      omega
    have HQE : Hid (Q = some t.e) := by show Q = _; rw [← HQ.out, hcnt, if_neg (by omega), Nat.add_sub_cancel, List.getElem?_eq_getElem (by rw [esT_len]; exact hlt), esT_get hlt, ht]
    simp only [ndP, hnb] at i0 ⊢
    have hent := hS1.ent t htm
    obtain ⟨⟨c0, c1, c2, c3⟩, rx, ry⟩ := hent
    obtain ⟨x1, xc, ex⟩ := rx.len
    obtain ⟨y1, yc, ey⟩ := ry.len
    rw [ex] at c0 rx
    rw [ey] at c3 ry
    obtain ⟨tb, htb⟩ : ∃ z, t.b = z := ⟨_, rfl⟩
    obtain ⟨sq, hsq⟩ : ∃ z : Int, (t.e.2.1 : Int) = z := ⟨_, rfl⟩
    obtain ⟨ek, hek⟩ : ∃ z : Int, (t.e.2.2.1.toNat : Int) = z := ⟨_, rfl⟩
    have HSE : Hid ((t.e.2.1 : Int) = sq ∧ (t.e.2.2.1.toNat : Int) = ek) := ⟨hsq, hek⟩
    rw [hsq] at c1
    rw [hek] at c2
    have hap := skapart_any w1 (.slice x1 t.e.1.length xc) (.slice y1 t.e.2.2.2.length yc) t.e.1 t.e.2.2.2 sq ek rx ry (HSM.out t htm).1 (HSM.out t htm).2
    have HW1 : Hid (w.heap.size + 2 ≤ w1.heap.size + 2) := by show _ ≤ _; have := HB1.out.size; omega
    rw [htb] at c0 c1 c2 c3 hne
    simp only [htb] at i0 ⊢
    obtain ⟨ji, hji, _, hjs, _⟩ := info_parts infoTow
    obtain ⟨ca1, ty1, hca1⟩ := (hS1.nod (i + 1) (by omega)).blk
    obtain ⟨ca2, ty2, hca2⟩ := (hS1.nod 0 (by omega)).blk
    rw [hnb, htb] at hca1
    have i2 := run_eql_ptr_other w1 (a := ⟨tb, 0, none⟩) (b := ⟨l, 0, none⟩) Try.underlying63 hji (by rw [hjs]; decide) (fun e => hne (by injection e)) hca1 hca2
    clear rx ry ex ey hsq hek ht hS1 hcnt htm hlt hnb htb
    go_wp2_with fail
    refine hap.mono ?_
    rintro o w2 ⟨x, y, rfl, rx2, ry2, _, hb2⟩
    obtain ⟨⟨r0, r1, r2, r3⟩, f0, f1, f2, f3⟩ := BR1.below hb2 (Nat.le_refl _)
    have HB2 : Hid (Below w.heap.size w w2) := bsplit HB1.out hb2
    have HX : Hid ((Rd w2 x t.e.1 ∧ From (w.heap.size + 2) x) ∧ (Rd w2 y t.e.2.2.2 ∧ From (w.heap.size + 2) y)) := ⟨⟨rx2.1, fun a n c e => by have := rx2.2 a n c e; have := HW1.out; omega⟩, ⟨ry2.1, fun a n c e => by have := ry2.2 a n c e; have := HW1.out; omega⟩⟩
    obtain ⟨xa, xc2, rfl⟩ := rx2.1.len
    obtain ⟨ya, yc2, rfl⟩ := ry2.1.len
    clear hap hb2 rx2 ry2 c0 c1 c2 c3
    go_wp2
    refine bodyPost_ret (v := .tuple #[enV (.slice xa t.e.1.length xc2) sq ek (.slice ya t.e.2.2.2.length yc2), .bool true]) (by simp [results, Try.results25, go_sem, r0, r1, r2, r3]) rfl ?_
    refine ⟨below_store4 HB2.out (Nat.le_succ _) _ _ _ _, ?_⟩
    rw [HQE.out]
    exact ⟨_, _, by rw [HSE.out.1, HSE.out.2], ⟨rd_store4 HX.out.1.1 (from_ne HX.out.1.2 (by omega)) _ _ _ _, fun a n c e => by have := HX.out.1.2 a n c e; omega⟩, ⟨rd_store4 HX.out.2.1 (from_ne HX.out.2.2 (by omega)) _ _ _ _, fun a n c e => by have := HX.out.2.2 a n c e; omega⟩⟩

end Go.Proofs.Ytekmlbbfipldoaa
