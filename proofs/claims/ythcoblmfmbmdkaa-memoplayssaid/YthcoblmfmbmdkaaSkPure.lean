/- A skip list, as it lies in memory. -/
import Derived.Test.YthcoblmfmbmdkaaSrtOrd
import Derived.Test.YthcoblmfmbmdkaaHeld
namespace Go.Proofs.Ythcoblmfmbmdkaa
set_option maxRecDepth 20000
open Go.RowKit
set_option linter.unusedVariables false

/-- nothing but blocks of F, and new ones, has turned -/
structure Keeps (F : Nat → Prop) (w w' : World) : Prop where
  os : w'.os = w.os
  tape : w'.tape = w.tape
  output : w'.output = w.output
  size : w.heap.size ≤ w'.heap.size
  block : ∀ k, k < w.heap.size → ¬ F k → w'.heap[k]? = w.heap[k]?

theorem Keeps.refl (F : Nat → Prop) (w : World) : Keeps F w w := ⟨rfl, rfl, rfl, Nat.le_refl _, fun _ _ _ => rfl⟩

theorem Keeps.trans {F : Nat → Prop} {a b c : World} (h : Keeps F a b) (k : Keeps F b c) : Keeps F a c :=
  ⟨k.os.trans h.os, k.tape.trans h.tape, k.output.trans h.output, Nat.le_trans h.size k.size, fun i hi hn => (k.block i (Nat.lt_of_lt_of_le hi h.size) hn).trans (h.block i hi hn)⟩

theorem Keeps.mono {F G : Nat → Prop} {a b : World} (h : Keeps F a b) (hF : ∀ i, F i → G i) : Keeps G a b := ⟨h.os, h.tape, h.output, h.size, fun i hi hn => h.block i hi fun hf => hn (hF i hf)⟩

theorem Keeps.below {F : Nat → Prop} {a b : World} (h : Keeps F a b) {B : Nat} (hF : ∀ i, F i → B ≤ i) (hB : B ≤ a.heap.size) : Below B a b :=
  ⟨h.os, h.tape, h.output, h.size, fun i hi => h.block i (Nat.lt_of_lt_of_le hi hB) fun hf => by have := hF i hf; omega⟩

theorem Below.keeps {a b : World} (h : Below a.heap.size a b) (F : Nat → Prop) : Keeps F a b :=
  ⟨h.os, h.tape, h.output, h.size, fun i hi hn => h.block i hi⟩

theorem Keeps.setCell {F : Nat → Prop} {a w : World} (h : Keeps F a w) {p : Addr} (hp : F p.block) (u : Value) : Keeps F a (w.setCell p u) :=
  h.trans ⟨rfl, rfl, rfl, by simp, fun k _ hk => Below.heap_setCell _ _ _ _ (fun e => hk (by rw [e]; exact hp))⟩

theorem Keeps.drew {F : Nat → Prop} {a w : World} (h : Keeps F a w) : Keeps F a w.drew := ⟨h.os, h.tape, h.output, h.size, h.block⟩

theorem Keeps.cell {F : Nat → Prop} {a b : World} (h : Keeps F a b) {p : Addr} {v : Value} (hp : ¬ F p.block) (hc : a.cell? p = some v) : b.cell? p = some v := by
  rw [← hc]
  exact World.cell?_of_block (h.block _ (World.block_lt_of_cell? _ _ hc) hp)

/-- a tower: its block, its entry as it lies there and as it is, its height -/
structure Tow where
  b : Nat
  x : Value
  y : Value
  e : EnB
  h : Nat

def ptrT : Option Nat → Value
  | none => .pointer none
  | some b => .pointer (some ⟨b, 0, none⟩)

/-- the first tower that stands in a row -/
def fstT (ts : List Tow) (r : Nat) : Option Nat := (ts.find? (fun t => decide (r < t.h))).map (·.b)

/-- the block of a place: the head's, or the tower's ahead of it -/
def nb (l : Nat) (ts : List Tow) (a : Nat) : Nat := if a = 0 then l else match ts[a - 1]? with | some t => t.b | none => 0

def nh (ts : List Tow) (a : Nat) : Nat := if a = 0 then 8 else match ts[a - 1]? with | some t => t.h | none => 0

/-- the eight pointers of a tower -/
structure NodeAt (w : World) (b hh : Nat) (rest : List Tow) : Prop where
  cel : ∀ r, r < 8 → w.cell? ⟨b, 4 + r, none⟩ = some (if r < hh then ptrT (fstT rest r) else .pointer none)
  frz : ∀ r, r < 8 → w.frozen? ⟨b, 4 + r, none⟩ = false
  blk : ∃ ca ty, w.heap[b]? = some (.cells ca ty (0, 0))

theorem NodeAt.lt {w : World} {b hh : Nat} {rest : List Tow} (h : NodeAt w b hh rest) : b < w.heap.size := World.block_lt_of_cell? w _ (h.cel 0 (by omega))

theorem NodeAt.below {w w' : World} {b hh : Nat} {rest : List Tow} (h : NodeAt w b hh rest) (hb : Below w.heap.size w w') : NodeAt w' b hh rest :=
  ⟨fun r hr => (hb.cell (p := ⟨b, 4 + r, none⟩) h.lt).trans (h.cel r hr), fun r hr => by rw [hb.frozen (p := ⟨b, 4 + r, none⟩) h.lt]; exact h.frz r hr, by rw [hb.block b h.lt]; exact h.blk⟩

/-- the entry of a tower -/
structure EntAt (w : World) (t : Tow) : Prop where
  bx : Box4 w t.b t.x (.int .u64 (t.e.2.1 : Int)) (.int .u8 (t.e.2.2.1.toNat : Int)) t.y
  rx : Rd w t.x t.e.1
  ry : Rd w t.y t.e.2.2.2

theorem EntAt.below {w w' : World} {t : Tow} (h : EntAt w t) (hb : Below w.heap.size w w') : EntAt w' t :=
  ⟨h.bx.below hb (Nat.le_refl _), h.rx.below hb (Nat.le_refl _), h.ry.below hb (Nat.le_refl _)⟩

/-- it lies in the world -/
def LtB (w : World) (x : Value) : Prop := ∀ q, x.ownBlock = some q → q < w.heap.size

theorem LtB.grow {w w' : World} {x : Value} (h : LtB w x) (hs : w.heap.size ≤ w'.heap.size) : LtB w' x := fun q hq => Nat.lt_of_lt_of_le (h q hq) hs

/-- a list: its head's block, its towers -/
structure SkAt (w : World) (l : Nat) (ts : List Tow) : Prop where
  nod : ∀ a, a ≤ ts.length → NodeAt w (nb l ts a) (nh ts a) (ts.drop a)
  ent : ∀ t ∈ ts, EntAt w t
  inj : ∀ a b, a ≤ ts.length → b ≤ ts.length → nb l ts a = nb l ts b → a = b
  ht : ∀ t ∈ ts, 1 ≤ t.h ∧ t.h ≤ 8
  out : ∀ t ∈ ts, ∀ a, a ≤ ts.length → (∀ q, t.x.ownBlock = some q → q ≠ nb l ts a) ∧ (∀ q, t.y.ownBlock = some q → q ≠ nb l ts a)
  ris : riseB (ts.map (·.e)) = true
  len : ts.length ≤ 4000
  inn : ∀ t ∈ ts, LtB w t.x ∧ LtB w t.y

theorem SkAt.below {w w' : World} {l : Nat} {ts : List Tow} (h : SkAt w l ts) (hb : Below w.heap.size w w') : SkAt w' l ts :=
  ⟨fun a ha => (h.nod a ha).below hb, fun t ht => (h.ent t ht).below hb, h.inj, h.ht, h.out, h.ris, h.len, fun t ht => ⟨(h.inn t ht).1.grow hb.size, (h.inn t ht).2.grow hb.size⟩⟩

theorem SkAt.drew {w : World} {l : Nat} {ts : List Tow} (h : SkAt w l ts) : SkAt w.drew l ts := h.below (Below.refl _ _).drew

theorem nb_succ (l : Nat) {ts : List Tow} {i : Nat} (h : i < ts.length) : nb l ts (i + 1) = ts[i].b := by
  unfold nb; rw [if_neg (by omega), Nat.add_sub_cancel, List.getElem?_eq_getElem h]

theorem nh_succ {ts : List Tow} {i : Nat} (h : i < ts.length) : nh ts (i + 1) = ts[i].h := by
  unfold nh; rw [if_neg (by omega), Nat.add_sub_cancel, List.getElem?_eq_getElem h]

/-- the next one in a row, or none -/
theorem fst_drop (ts : List Tow) (a r : Nat) : (fstT (ts.drop a) r = none ∧ ∀ i (h : i < ts.length), a ≤ i → ¬ r < ts[i].h) ∨ ∃ (j : Nat) (hj : j < ts.length), a ≤ j ∧ r < ts[j].h ∧ fstT (ts.drop a) r = some ts[j].b ∧ ∀ i (h : i < ts.length), a ≤ i → i < j → ¬ r < ts[i].h := by
  unfold fstT
  cases hf : (ts.drop a).find? (fun t => decide (r < t.h)) with
  | none =>
    left
    refine ⟨rfl, fun i hi hai hr => ?_⟩
    have := (List.find?_eq_none.1 hf) (ts[i]) (by
      rw [List.mem_iff_getElem]
      refine ⟨i - a, by rw [List.length_drop]; omega, ?_⟩
      rw [List.getElem_drop]
      congr 1
      omega)
    simp [hr] at this
  | some t =>
    right
    obtain ⟨h1, us, bs, h2, h3⟩ := List.find?_eq_some_iff_append.1 hf
    have hl : a + us.length < ts.length := by
      have := congrArg List.length h2
      rw [List.length_drop, List.length_append, List.length_cons] at this
      omega
    have hget : ∀ i (h : i < ts.length), a ≤ i → ts[i] = (ts.drop a)[i - a]'(by rw [List.length_drop]; omega) := fun i h hai => by
      rw [List.getElem_drop]; congr 1; omega
    have htj : ts[a + us.length] = t := by
      rw [hget _ hl (by omega)]
      simp only [h2]
      rw [List.getElem_append_right (by omega)]
      simp
    refine ⟨a + us.length, hl, by omega, by rw [htj]; simpa using h1, by rw [htj]; rfl, fun i hi hai hij hr => ?_⟩
    rw [hget i hi hai] at hr
    simp only [h2] at hr
    rw [List.getElem_append_left (by omega)] at hr
    have := h3 _ (List.getElem_mem (by omega : i - a < us.length))
    simp [hr] at this

def esT (ts : List Tow) : List EnB := ts.map (·.e)

theorem esT_len (ts : List Tow) : (esT ts).length = ts.length := by unfold esT; rw [List.length_map]
theorem esT_get {ts : List Tow} {i : Nat} (h : i < ts.length) : (esT ts)[i]'(by rw [esT_len]; exact h) = ts[i].e := by unfold esT; rw [List.getElem_map]

/-- where one stands in a row: all up to there are ahead of the version, what stands behind in the row isn't -/
structure PredT (ts : List Tow) (K : EnB) (r a : Nat) : Prop where
  le : a ≤ ts.length
  lt : ∀ i (h : i < ts.length), i < a → ltE ts[i].e K = true
  hi : r < nh ts a
  no : ∀ i (h : i < ts.length), a ≤ i → r < ts[i].h → ltE ts[i].e K = false

theorem PredT.cnt {ts : List Tow} {K : EnB} {a : Nat} (h : PredT ts K 0 a) (hh : ∀ t ∈ ts, 1 ≤ t.h ∧ t.h ≤ 8) : cntE (esT ts) K = a := by
  refine cnt_split (by rw [esT_len]; exact h.le) (fun x hx hxa => ?_) (fun x hx hax => ?_)
  · rw [esT_len] at hx; rw [esT_get hx]; exact h.lt x hx hxa
  · rw [esT_len] at hx; rw [esT_get hx]; exact h.no x hx hax (by have := (hh _ (List.getElem_mem hx)).1; omega)

end Go.Proofs.Ythcoblmfmbmdkaa
