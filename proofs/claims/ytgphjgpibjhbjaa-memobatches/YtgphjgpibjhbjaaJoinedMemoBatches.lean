/- Several texts in one. -/
import Derived.Test.YtgphjgpibjhbjaaSrtOrd
import Derived.Test.YtgphjgpibjhbjaaHeld
import Derived.Test.YtgphjgpibjhbjaaTbNew
import Derived.Deep.RegionLaw
import Derived.Test.YtgphjgpibjhbjaaKeyCmp
import Derived.Test.YtgphjgpibjhbjaaSmall
import Derived.BigQuiet
import Derived.Deep.RegionHeld3
import Derived.Deep.DeepCutAuto
import Derived.Deep.LoopGhost
import Derived.Test.YtgphjgpibjhbjaaEnRow
import Derived.Test.YtgphjgpibjhbjaaKeyCheck
import Derived.Test.YtgphjgpibjhbjaaClone
import Derived.LaidEqlPtr
import Derived.Test.YtgphjgpibjhbjaaBoxes
import Derived.RangeFuncNested
import Derived.RangeFuncBound
import Derived.RangeFuncCalls
import Derived.RangeFuncLeaves
import Derived.RangeFuncFrom
import Derived.Shelf.Abstract
import Derived.Shelf.RegionOpen
import Derived.WalkKit
import Derived.OwnWalkIn
import Derived.TacticsInMore
import Derived.LoopNIn
import Derived.LoopIn
import Derived.Deep.AppendLies
import Derived.Test.YtgphjgpibjhbjaaTbCover
import Derived.Test.YtgphjgpibjhbjaaConvStr
import Derived.Lib.SmallJoins
import Derived.Test.YtgphjgpibjhbjaaLists
import Derived.Deep.CutRange

/- A skip list, as it lies in memory. -/
namespace Go.Proofs.Ytgphjgpibjhbjaa
set_option maxRecDepth 20000
open Go.RowKit
set_option linter.unusedVariables false

/-- nothing but blocks of F, and new ones, has turned -/
structure Keeps (F : Nat → Prop) (w w' : World) : Prop where
  os : w'.os = w.os
  tape : w'.tape = w.tape
  output : w'.output = w.output
  size : w.heap.size ≤ w'.heap.size
  block : ∀ k, k < w.heap.size → ¬ F k → w'.heap[k]? = w.heap[k]?

theorem Keeps.refl (F : Nat → Prop) (w : World) : Keeps F w w := ⟨rfl, rfl, rfl, Nat.le_refl _, fun _ _ _ => rfl⟩

theorem Keeps.trans {F : Nat → Prop} {a b c : World} (h : Keeps F a b) (k : Keeps F b c) : Keeps F a c :=
  ⟨k.os.trans h.os, k.tape.trans h.tape, k.output.trans h.output, Nat.le_trans h.size k.size, fun i hi hn => (k.block i (Nat.lt_of_lt_of_le hi h.size) hn).trans (h.block i hi hn)⟩

theorem Keeps.mono {F G : Nat → Prop} {a b : World} (h : Keeps F a b) (hF : ∀ i, F i → G i) : Keeps G a b := ⟨h.os, h.tape, h.output, h.size, fun i hi hn => h.block i hi fun hf => hn (hF i hf)⟩

theorem Keeps.below {F : Nat → Prop} {a b : World} (h : Keeps F a b) {B : Nat} (hF : ∀ i, F i → B ≤ i) (hB : B ≤ a.heap.size) : Below B a b :=
  ⟨h.os, h.tape, h.output, h.size, fun i hi => h.block i (Nat.lt_of_lt_of_le hi hB) fun hf => by have := hF i hf; omega⟩

theorem Below.keeps {a b : World} (h : Below a.heap.size a b) (F : Nat → Prop) : Keeps F a b :=
  ⟨h.os, h.tape, h.output, h.size, fun i hi hn => h.block i hi⟩

theorem Keeps.setCell {F : Nat → Prop} {a w : World} (h : Keeps F a w) {p : Addr} (hp : F p.block) (u : Value) : Keeps F a (w.setCell p u) :=
  h.trans ⟨rfl, rfl, rfl, by simp, fun k _ hk => Below.heap_setCell _ _ _ _ (fun e => hk (by rw [e]; exact hp))⟩

theorem Keeps.drew {F : Nat → Prop} {a w : World} (h : Keeps F a w) : Keeps F a w.drew := ⟨h.os, h.tape, h.output, h.size, h.block⟩

theorem Keeps.cell {F : Nat → Prop} {a b : World} (h : Keeps F a b) {p : Addr} {v : Value} (hp : ¬ F p.block) (hc : a.cell? p = some v) : b.cell? p = some v := by
  rw [← hc]
  exact World.cell?_of_block (h.block _ (World.block_lt_of_cell? _ _ hc) hp)

/-- a tower: its block, its entry as it lies there and as it is, its height -/
structure Tow where
  b : Nat
  x : Value
  y : Value
  e : EnB
  h : Nat

def ptrT : Option Nat → Value
  | none => .pointer none
  | some b => .pointer (some ⟨b, 0, none⟩)

/-- the first tower that stands in a row -/
def fstT (ts : List Tow) (r : Nat) : Option Nat := (ts.find? (fun t => decide (r < t.h))).map (·.b)

/-- the block of a place: the head's, or the tower's ahead of it -/
def nb (l : Nat) (ts : List Tow) (a : Nat) : Nat := if a = 0 then l else match ts[a - 1]? with | some t => t.b | none => 0

def nh (ts : List Tow) (a : Nat) : Nat := if a = 0 then 8 else match ts[a - 1]? with | some t => t.h | none => 0

/-- the eight pointers of a tower -/
structure NodeAt (w : World) (b hh : Nat) (rest : List Tow) : Prop where
  cel : ∀ r, r < 8 → w.cell? ⟨b, 4 + r, none⟩ = some (if r < hh then ptrT (fstT rest r) else .pointer none)
  frz : ∀ r, r < 8 → w.frozen? ⟨b, 4 + r, none⟩ = false
  blk : ∃ ca ty, w.heap[b]? = some (.cells ca ty (0, 0))

theorem NodeAt.lt {w : World} {b hh : Nat} {rest : List Tow} (h : NodeAt w b hh rest) : b < w.heap.size := World.block_lt_of_cell? w _ (h.cel 0 (by omega))

theorem NodeAt.below {w w' : World} {b hh : Nat} {rest : List Tow} (h : NodeAt w b hh rest) (hb : Below w.heap.size w w') : NodeAt w' b hh rest :=
  ⟨fun r hr => (hb.cell (p := ⟨b, 4 + r, none⟩) h.lt).trans (h.cel r hr), fun r hr => by rw [hb.frozen (p := ⟨b, 4 + r, none⟩) h.lt]; exact h.frz r hr, by rw [hb.block b h.lt]; exact h.blk⟩

/-- the entry of a tower -/
structure EntAt (w : World) (t : Tow) : Prop where
  bx : Box4 w t.b t.x (.int .u64 (t.e.2.1 : Int)) (.int .u8 (t.e.2.2.1.toNat : Int)) t.y
  rx : Rd w t.x t.e.1
  ry : Rd w t.y t.e.2.2.2

theorem EntAt.below {w w' : World} {t : Tow} (h : EntAt w t) (hb : Below w.heap.size w w') : EntAt w' t :=
  ⟨h.bx.below hb (Nat.le_refl _), h.rx.below hb (Nat.le_refl _), h.ry.below hb (Nat.le_refl _)⟩

/-- it lies in the world -/
def LtB (w : World) (x : Value) : Prop := ∀ q, x.ownBlock = some q → q < w.heap.size

theorem LtB.grow {w w' : World} {x : Value} (h : LtB w x) (hs : w.heap.size ≤ w'.heap.size) : LtB w' x := fun q hq => Nat.lt_of_lt_of_le (h q hq) hs

/-- a list: its head's block, its towers -/
structure SkAt (w : World) (l : Nat) (ts : List Tow) : Prop where
  nod : ∀ a, a ≤ ts.length → NodeAt w (nb l ts a) (nh ts a) (ts.drop a)
  ent : ∀ t ∈ ts, EntAt w t
  inj : ∀ a b, a ≤ ts.length → b ≤ ts.length → nb l ts a = nb l ts b → a = b
  ht : ∀ t ∈ ts, 1 ≤ t.h ∧ t.h ≤ 8
  out : ∀ t ∈ ts, ∀ a, a ≤ ts.length → (∀ q, t.x.ownBlock = some q → q ≠ nb l ts a) ∧ (∀ q, t.y.ownBlock = some q → q ≠ nb l ts a)
  ris : riseB (ts.map (·.e)) = true
  len : ts.length ≤ 4000
  inn : ∀ t ∈ ts, LtB w t.x ∧ LtB w t.y

theorem SkAt.below {w w' : World} {l : Nat} {ts : List Tow} (h : SkAt w l ts) (hb : Below w.heap.size w w') : SkAt w' l ts :=
  ⟨fun a ha => (h.nod a ha).below hb, fun t ht => (h.ent t ht).below hb, h.inj, h.ht, h.out, h.ris, h.len, fun t ht => ⟨(h.inn t ht).1.grow hb.size, (h.inn t ht).2.grow hb.size⟩⟩

theorem SkAt.drew {w : World} {l : Nat} {ts : List Tow} (h : SkAt w l ts) : SkAt w.drew l ts := h.below (Below.refl _ _).drew

theorem nb_succ (l : Nat) {ts : List Tow} {i : Nat} (h : i < ts.length) : nb l ts (i + 1) = ts[i].b := by
  unfold nb; rw [if_neg (by omega), Nat.add_sub_cancel, List.getElem?_eq_getElem h]

theorem nh_succ {ts : List Tow} {i : Nat} (h : i < ts.length) : nh ts (i + 1) = ts[i].h := by
  unfold nh; rw [if_neg (by omega), Nat.add_sub_cancel, List.getElem?_eq_getElem h]

/-- the next one in a row, or none -/
theorem fst_drop (ts : List Tow) (a r : Nat) : (fstT (ts.drop a) r = none ∧ ∀ i (h : i < ts.length), a ≤ i → ¬ r < ts[i].h) ∨ ∃ (j : Nat) (hj : j < ts.length), a ≤ j ∧ r < ts[j].h ∧ fstT (ts.drop a) r = some ts[j].b ∧ ∀ i (h : i < ts.length), a ≤ i → i < j → ¬ r < ts[i].h := by
  unfold fstT
  cases hf : (ts.drop a).find? (fun t => decide (r < t.h)) with
  | none =>
    left
    refine ⟨rfl, fun i hi hai hr => ?_⟩
    have := (List.find?_eq_none.1 hf) (ts[i]) (by
      rw [List.mem_iff_getElem]
      refine ⟨i - a, by rw [List.length_drop]; omega, ?_⟩
      rw [List.getElem_drop]
      congr 1
      omega)
    simp [hr] at this
  | some t =>
    right
    obtain ⟨h1, us, bs, h2, h3⟩ := List.find?_eq_some_iff_append.1 hf
    have hl : a + us.length < ts.length := by
      have := congrArg List.length h2
      rw [List.length_drop, List.length_append, List.length_cons] at this
      omega
    have hget : ∀ i (h : i < ts.length), a ≤ i → ts[i] = (ts.drop a)[i - a]'(by rw [List.length_drop]; omega) := fun i h hai => by
      rw [List.getElem_drop]; congr 1; omega
    have htj : ts[a + us.length] = t := by
      rw [hget _ hl (by omega)]
      simp only [h2]
      rw [List.getElem_append_right (by omega)]
      simp
    refine ⟨a + us.length, hl, by omega, by rw [htj]; simpa using h1, by rw [htj]; rfl, fun i hi hai hij hr => ?_⟩
    rw [hget i hi hai] at hr
    simp only [h2] at hr
    rw [List.getElem_append_left (by omega)] at hr
    have := h3 _ (List.getElem_mem (by omega : i - a < us.length))
    simp [hr] at this

def esT (ts : List Tow) : List EnB := ts.map (·.e)

theorem esT_len (ts : List Tow) : (esT ts).length = ts.length := by unfold esT; rw [List.length_map]
theorem esT_get {ts : List Tow} {i : Nat} (h : i < ts.length) : (esT ts)[i]'(by rw [esT_len]; exact h) = ts[i].e := by unfold esT; rw [List.getElem_map]

/-- where one stands in a row: all up to there are ahead of the version, what stands behind in the row isn't -/
structure PredT (ts : List Tow) (K : EnB) (r a : Nat) : Prop where
  le : a ≤ ts.length
  lt : ∀ i (h : i < ts.length), i < a → ltE ts[i].e K = true
  hi : r < nh ts a
  no : ∀ i (h : i < ts.length), a ≤ i → r < ts[i].h → ltE ts[i].e K = false

theorem PredT.cnt {ts : List Tow} {K : EnB} {a : Nat} (h : PredT ts K 0 a) (hh : ∀ t ∈ ts, 1 ≤ t.h ∧ t.h ≤ 8) : cntE (esT ts) K = a := by
  refine cnt_split (by rw [esT_len]; exact h.le) (fun x hx hxa => ?_) (fun x hx hax => ?_)
  · rw [esT_len] at hx; rw [esT_get hx]; exact h.lt x hx hxa
  · rw [esT_len] at hx; rw [esT_get hx]; exact h.no x hx hax (by have := (hh _ (List.getElem_mem hx)).1; omega)

end Go.Proofs.Ytgphjgpibjhbjaa

/- (*tomb.Set).Add: a set and the blocks that are its own. -/
namespace Go.Proofs.Ytgphjgpibjhbjaa
set_option maxRecDepth 100000
open Go.RowKit
set_option linter.unusedVariables false
set_option linter.unusedSimpArgs false

/-- a set; G has its blocks -/
def SetF (G : Nat → Prop) (w : World) (t : Nat) (ss : List SpB) : Prop :=
  ∃ v cs, Boxed w t 114 v ∧ w.ownsRow 0 46 3 v ss.length cs ∧
    (∀ j (h : j < ss.length), ∃ x y, cs[j * 3]? = some x ∧ cs[j * 3 + 1]? = some y ∧ cs[j * 3 + 2]? = some (.int .u64 (ss[j].2.2 : Int)) ∧ OwnN 0 w x ss[j].1 ∧ OwnN 0 w y ss[j].2.1) ∧
    G t ∧ (∀ q, v.ownBlock = some q → G q) ∧ (∀ z ∈ cs, ∀ q, z.ownBlock = some q → G q) ∧ ∀ q, G q → q < w.heap.size

theorem SetF.o {G : Nat → Prop} {w : World} {t : Nat} {ss : List SpB} (h : SetF G w t ss) : SetO 0 w t ss := by
  obtain ⟨v, cs, h1, h2, h3, _⟩ := h
  exact ⟨Nat.zero_le _, v, h1, cs, h2, h3⟩

theorem SetF.at {G : Nat → Prop} {w : World} {t : Nat} {ss : List SpB} (h : SetF G w t ss) : SetAt w t ss := h.o.at

theorem row_same9 {B n s : Nat} {e : TypeId} {w w' : World} {v : Value} {cs : List Value} (h : w.ownsRow B e s v n cs) (hk : ∀ q, v.ownBlock = some q → w'.heap[q]? = w.heap[q]?) : w'.ownsRow B e s v n cs := by
  obtain ⟨h1, h2⟩ := h
  refine ⟨h1, ?_⟩
  rcases h2 with h2 | ⟨q, cap, cur, rfl, hB, hq, r⟩
  · exact .inl h2
  · exact .inr ⟨q, cap, cur, rfl, hB, by rw [hk q rfl]; exact hq, r⟩

theorem ownN_same9 {B : Nat} {w w' : World} {v : Value} {l : List UInt8} (h : OwnN B w v l) (hk : ∀ q, v.ownBlock = some q → w'.heap[q]? = w.heap[q]?) : OwnN B w' v l := by
  rcases h with h | ⟨g, cap, cur, rfl, hB, hg, r⟩
  · exact .inl h
  · exact .inr ⟨g, cap, cur, rfl, hB, by rw [hk g rfl]; exact hg, r⟩

/-- its blocks are what they were -/
theorem SetF.same {G : Nat → Prop} {w w' : World} {t : Nat} {ss : List SpB} (h : SetF G w t ss) (hs : w.heap.size ≤ w'.heap.size) (hk : ∀ q, G q → w'.heap[q]? = w.heap[q]?) : SetF G w' t ss := by
  obtain ⟨v, cs, h1, h2, h3, h4, h5, h6, h7⟩ := h
  refine ⟨v, cs, (hk t h4).trans h1, row_same9 h2 (fun q hq => hk q (h5 q hq)), fun j hj => ?_, h4, h5, h6, fun q hq => Nat.lt_of_lt_of_le (h7 q hq) hs⟩
  obtain ⟨x, y, c0, c1, c2, ox, oy⟩ := h3 j hj
  exact ⟨x, y, c0, c1, c2, ownN_same9 ox (fun q hq => hk q (h6 x (List.mem_of_getElem? c0) q hq)), ownN_same9 oy (fun q hq => hk q (h6 y (List.mem_of_getElem? c1) q hq))⟩

theorem SetF.below {G : Nat → Prop} {w w' : World} {t : Nat} {ss : List SpB} (h : SetF G w t ss) (hb : Below w.heap.size w w') : SetF G w' t ss :=
  h.same hb.size (fun q hq => hb.block q (by obtain ⟨_, _, _, _, _, _, _, _, h7⟩ := h; exact h7 q hq))

theorem SetF.keeps {F G : Nat → Prop} {w w' : World} {t : Nat} {ss : List SpB} (h : SetF G w t ss) (hk : Keeps F w w') (hF : ∀ q, G q → ¬ F q) : SetF G w' t ss :=
  h.same hk.size (fun q hq => hk.block q (by obtain ⟨_, _, _, _, _, _, _, _, h7⟩ := h; exact h7 q hq) (hF q hq))

/-- what Add answers, and what it leaves -/
def AddPostG (G : Nat → Prop) (w : World) (t : Nat) (ss : List SpB) (o : SpB) (c : Int) (e : Ending) (w' : World) : Prop :=
  e = .returned (.int .i64 c) ∧ Keeps G w w' ∧ ∃ G' : Nat → Prop, SetF G' w' t (if c = 0 then ss ++ [o] else ss) ∧ ∀ q, G' q → G q ∨ w.heap.size ≤ q

theorem keeps_of {G : Nat → Prop} {w w' w'' : World} {t : Nat} (hB : Below w.heap.size w w') {v : Value} (hg : w'.grownBy w'' v.ownBlock) (h1 : ∀ q, v.ownBlock = some q → G q) : Keeps G w w'' :=
  (Below.keeps hB G).trans ⟨hg.os, hg.tape, hg.output, hg.size, fun q hq hn => hg.block q hq (fun e => hn (h1 q e.symm))⟩

theorem ownN_lt9 {B : Nat} {w : World} {x : Value} {l : List UInt8} (h : OwnN B w x l) : ∀ q, x.ownBlock = some q → B ≤ q ∧ q < w.heap.size := fun q hq => by
  rcases h with ⟨rfl, _⟩ | h
  · cases hq
  · obtain ⟨g, c, rfl⟩ := h.shape
    simp only [Value.ownBlock, Option.some.injEq] at hq
    subst hq
    exact h.lt

/-- one more: what the row holds -/
theorem push_el {n : Nat} {w w' : World} {v x y : Value} {es : List SpB} {cs : List Value} (o : SpB) (hl : es.length = n) (hrow : w.ownsRow 0 46 3 v n cs)
    (hel : ∀ j (h : j < es.length), ∃ x y, cs[j * 3]? = some x ∧ cs[j * 3 + 1]? = some y ∧ cs[j * 3 + 2]? = some (.int .u64 (es[j].2.2 : Int)) ∧ OwnN 0 w x es[j].1 ∧ OwnN 0 w y es[j].2.1)
    (hx : OwnN 0 w x o.1) (hy : OwnN 0 w y o.2.1) (hg : w.grownBy w' v.ownBlock) : ∀ j (h : j < (es ++ [o]).length), ∃ x' y', (cs ++ [x, y, .int .u64 (o.2.2 : Int)])[j * 3]? = some x' ∧ (cs ++ [x, y, .int .u64 (o.2.2 : Int)])[j * 3 + 1]? = some y' ∧ (cs ++ [x, y, .int .u64 (o.2.2 : Int)])[j * 3 + 2]? = some (.int .u64 ((es ++ [o])[j].2.2 : Int)) ∧ OwnN 0 w' x' (es ++ [o])[j].1 ∧ OwnN 0 w' y' (es ++ [o])[j].2.1 := by
  subst hl
  have hcl : cs.length = es.length * 3 := hrow.1
  intro j h
  by_cases hj : j < es.length
  · obtain ⟨x', y', c0, c1, c2, ox, oy⟩ := hel j hj
    refine ⟨x', y', ?_, ?_, ?_, ?_, ?_⟩
    · rw [List.getElem?_append_left (by omega)]; exact c0
    · rw [List.getElem?_append_left (by omega)]; exact c1
    · rw [List.getElem?_append_left (by omega), List.getElem_append_left hj]; exact c2
    · rw [List.getElem_append_left hj]; exact ownN_kept ox (by decide) hrow hg
    · rw [List.getElem_append_left hj]; exact ownN_kept oy (by decide) hrow hg
  · have hje : j = es.length := by rw [List.length_append] at h; simp at h; omega
    subst hje
    have e : (es ++ [o])[es.length]'h = o := by simp
    rw [e]
    refine ⟨x, y, ?_, ?_, ?_, ownN_kept hx (by decide) hrow hg, ownN_kept hy (by decide) hrow hg⟩
    · rw [List.getElem?_append_right (by omega), show es.length * 3 - cs.length = 0 by omega]; rfl
    · rw [List.getElem?_append_right (by omega), show es.length * 3 + 1 - cs.length = 1 by omega]; rfl
    · rw [List.getElem?_append_right (by omega), show es.length * 3 + 2 - cs.length = 2 by omega]; rfl

/-- its box is written: a set again -/
theorem setF_of {G : Nat → Prop} {n t : Nat} {w : World} {u o : Value} {ss : List SpB} {cs : List Value} (hn : ss.length = n + 1) (hrow : w.ownsRow 0 46 3 u (n + 1) cs)
    (hel : ∀ j (h : j < ss.length), ∃ x y, cs[j * 3]? = some x ∧ cs[j * 3 + 1]? = some y ∧ cs[j * 3 + 2]? = some (.int .u64 (ss[j].2.2 : Int)) ∧ OwnN 0 w x ss[j].1 ∧ OwnN 0 w y ss[j].2.1)
    (hb : Boxed w t 114 o) (h0 : G t) (h1 : ∀ q, u.ownBlock = some q → G q) (h2 : ∀ z ∈ cs, ∀ q, z.ownBlock = some q → G q) (h3 : ∀ q, G q → q < w.heap.size) : SetF G (w.setCell ⟨t, 0, none⟩ u) t ss := by
  have hg := grownBy_setCell' w t u
  have hN : ∀ x l, OwnN 0 w x l → OwnN 0 (w.setCell ⟨t, 0, none⟩ u) x l := fun x l ho => by
    rcases ho with ho | ho
    · exact .inl ho
    · obtain ⟨g, c, rfl⟩ := ho.shape
      exact .inr (Own.of_row (ho.row.kept hg (.inr (fun e => hb.not_row (by decide) ho.row e.symm))) (by simp))
  refine ⟨u, cs, hb.set u, by rw [hn]; exact hrow.kept hg (.inr (fun e => hb.not_row (by decide) hrow e.symm)), fun j hj => ?_, h0, h1, h2, fun q hq => Nat.lt_of_lt_of_le (h3 q hq) hg.size⟩
  obtain ⟨x, y, c0, c1, c2, ox, oy⟩ := hel j hj
  exact ⟨x, y, c0, c1, c2, hN _ _ ox, hN _ _ oy⟩

set_option maxHeartbeats 4000000 in
theorem taddG_any (w : World) (G : Nat → Prop) (t : Nat) (ss : List SpB) (x y : Value) (l m : List UInt8) (s : Nat) (c : Int) (hS : SetF G w t ss) (hx : Rd w x l) (hy : Rd w y m) (hn : ss.length ≤ 100000) (hc : chkSp l m (s : Int) = c) :
    Calls Try.prog 57 #[.pointer (some ⟨t, 0, none⟩), spV x y (s : Int)] w (AddPostG G w t ss (l, m, s) c) := by
  obtain ⟨i0, hi, hz0, hz1, hz2⟩ := info_parts infoSp
  have HSF : Hid (SetF G w t ss) := hS
  have hB : 0 ≤ w.heap.size := Nat.zero_le _
  obtain ⟨hBt, v, hv, ha⟩ := hS.o
  obtain ⟨xa, xc, rfl⟩ := hx.len
  obtain ⟨ya, yc, rfl⟩ := hy.len
  obtain ⟨nl, hnl⟩ : ∃ nl, l.length = nl := ⟨_, rfl⟩
  obtain ⟨ml, hml⟩ : ∃ ml, m.length = ml := ⟨_, rfl⟩
  rw [hnl] at hx ⊢
  rw [hml] at hy ⊢
  obtain ⟨va, vc, ev⟩ := ha.rd.shape
  subst ev
  obtain ⟨N, hN⟩ : ∃ N, ss.length = N := ⟨_, rfl⟩
  rw [hN] at hv ha hn
  have HN : Hid (ss.length = N) := hN
  have hb0 := below_box w #[.slice xa nl xc, .slice ya ml yc, .int .u64 (s : Int)] 46
  have HB0 : Hid (Below w.heap.size w (w.alloc (.cells #[.slice xa nl xc, .slice ya ml yc, .int .u64 (s : Int)] 46))) := hb0
  have BX := box_new w (.slice xa nl xc) (.slice ya ml yc) (.int .u64 (s : Int)) 46
  have hck := tcheck_any (w.alloc (.cells #[.slice xa nl xc, .slice ya ml yc, .int .u64 (s : Int)] 46)) (.slice xa nl xc) (.slice ya ml yc) l m (s : Int) c (hx.below hb0 (Nat.le_refl _)) (hy.below hb0 (Nat.le_refl _)) hc
  have he : ∀ w : World, (binOp .eql 81 (.pointer (some ⟨t, 0, none⟩)) (.pointer none)).run Try.prog w = .ok (.bool false) w := fun _ => rfl
  have HS : Hid (0 ≤ t ∧ Boxed w t 114 (.slice va N vc) ∧ AllS 0 w (.slice va N vc) ss) := ⟨hBt, hv, ha⟩
  have HX : Hid (Rd w (.slice xa nl xc) l ∧ Rd w (.slice ya ml yc) m) := ⟨hx, hy⟩
  have HLM : Hid (l.length = nl ∧ m.length = ml) := ⟨hnl, hml⟩
  have HC : Hid (chkSp l m (s : Int) = c) := hc
  have BX' := BX
  obtain ⟨z0, z1, z2, _, _, _⟩ := BX'
  clear hN hb0 hx hy hnl hml hc ha
  go_enter Try.func57, Try.ntmps57
  go_wp2_with fail
  refine hck.mono ?_
  rintro e w1 ⟨rfl, hb1⟩
  have hbw : Below w.heap.size w w1 := bsplit HB0.out hb1
  have HBW : Hid (Below w.heap.size w w1) := hbw
  have HB1 : Hid (Below 0 w w1) := hbw.mono hB
  have HS1 : Hid (Boxed w1 t 114 (.slice va N vc) ∧ AllS 0 w1 (.slice va N vc) ss) := ⟨(hbw.block t HS.out.2.1.lt).trans HS.out.2.1, HS.out.2.2.below hbw⟩
  clear z0 z1 z2
  have B1 := BX.below hb1 (Nat.le_refl _)
  clear hck hb1 hbw BX
  by_cases h0 : c = 0
  · subst h0
    have hlen : l.length ≤ 64 ∧ m.length ≤ 64 := by
      have h9 := HC.out
      unfold chkSp at h9
      split at h9
      · rename_i hh; exact ⟨hh.1.2, hh.2.1.2⟩
      · omega
    have ra := (HX.out.1.below HBW.out (Nat.le_refl _)).arg
    have rb := (HX.out.2.below HBW.out (Nat.le_refl _)).arg
    have hap := tapart_any w1.drew (.slice xa nl xc) (.slice ya ml yc) l m (s : Int) (arg_drew ra) (arg_drew rb) (by omega) (by omega)
    have tb : w1.drew.cell? ⟨t, 0, none⟩ = some (.slice va N vc) := HS1.out.1.cell
    have bs := B1.drew
    have HNE : Hid (t ≠ w.heap.size ∧ ∀ q, (Value.slice va N vc).ownBlock = some q → q < w.heap.size) := ⟨by have := HS.out.2.1.lt; omega, fun q hq => (HS.out.2.2.lt q hq).2⟩
    have HSD : Hid (Boxed w1.drew t 114 (.slice va N vc) ∧ AllS 0 w1.drew (.slice va N vc) ss) := HS1.out
    have HBD : Hid (Below w.heap.size w w1.drew) := HBW.out.drew
    clear hlen ra rb B1
    go_wp2_with fail
    obtain ⟨z0, z1, z2, _, _, _⟩ := bs
    go_region_law
      (first
        | (go_simp
           go_at_call 62
           refine Calls.mono hap ?_
           rintro e w2 ⟨ux, uy, rfl, ox, oy, hb2⟩
           obtain ⟨u1, u2, hu⟩ := ox.rd.len
           subst hu
           obtain ⟨u3, u4, hu⟩ := oy.rd.len
           subst hu
           rw [HLM.out.1] at ox ⊢
           rw [HLM.out.2] at oy ⊢
           have t2 := (hb2.cell (p := ⟨t, 0, none⟩) (World.block_lt_of_cell? _ _ tb)).trans tb
           have hbe := below_box4 w2 (.cells #[.slice u1 nl u2, .slice u3 ml u4, .int .u64 (s : Int)] 46)
           have t3 := (hbe.cell (p := ⟨t, 0, none⟩) (World.block_lt_of_cell? _ _ t2)).trans t2)
        | (have hB9 := bsplit (bsplit HBD.out hb2) hbe
           obtain ⟨v9, cs, hbx9, hrow, hel, g0, g1, g2, g3⟩ := HSF.out.below hB9
           have hT2 : Boxed (w2.alloc (.cells #[.slice u1 nl u2, .slice u3 ml u4, .int .u64 (s : Int)] 46)) t 114 (.slice va N vc) := (hbe.block t (Nat.lt_of_lt_of_le HSD.out.1.lt hb2.size)).trans ((hb2.block t HSD.out.1.lt).trans HSD.out.1)
           have hB2 : Below 0 w (w2.alloc (.cells #[.slice u1 nl u2, .slice u3 ml u4, .int .u64 (s : Int)] 46)) := (bsplit (bsplit HBD.out hb2) hbe).mono hB
           have oxe := (ox.below hbe (Nat.le_refl _)).mono (C := 0) (by have := HBD.out.size; omega)
           have oye := (oy.below hbe (Nat.le_refl _)).mono (C := 0) (by have := HBD.out.size; omega)
           have ev9 : v9 = .slice va N vc := by have h8 := hT2.cell; have h9 := hbx9.cell; rw [h8] at h9; cases h9; rfl
           subst ev9
           rw [HN.out] at hrow
           refine step_append_lies _ rfl (.tmp 17) (.tmp 20) 38 rfl 0 46 i0 (.agg #[.slice none 0 0, .slice none 0 0, .int .u64 0]) 3 56 Try.underlying38 hi hz0 hz1 hz2 rfl (by decide) (.slice va N vc) N cs rfl hrow ⟨w2.heap.size, 0, none⟩ 1 1 [.slice u1 nl u2, .slice u3 ml u4, .int .u64 (s : Int)] rfl rfl (laidT3 _ _ _ _ _) (oneS _ _ _ _ _ _ _) (by decide) (by simp only [maxLen]; omega) (by omega) (Nat.le_trans hB (bsplit (bsplit HBD.out hb2) hbe).size) _ rfl ?_
           intro g4 c4 w4 hown hgrow hat hlt4
           have hT4 := hT2.kept hgrow (hT2.not_row (by decide) hrow)
           have t4 := hT4.cell
           have f4 := hT4.frozen
           have HB4 : Hid (Below 0 w w4) := hB2.grown hgrow (Nat.le_trans hB hB2.size) (fun k' e => (hrow.lt k' e).1)
           have HGQ : Hid (∀ q, (Value.slice (some ⟨g4, 0, none⟩) (N + 1) c4).ownBlock = some q → G q ∨ w.heap.size ≤ q) := fun q hq => by
             simp only [Value.ownBlock, Option.some.injEq] at hq
             subst hq
             rcases hat with h9 | h9
             · exact .inl (g1 _ h9)
             · exact .inr (by rw [h9]; exact hB9.size)
           have HGC : Hid (∀ z ∈ cs ++ [.slice u1 nl u2, .slice u3 ml u4, .int .u64 (s : Int)], ∀ q, z.ownBlock = some q → (G q ∨ w.heap.size ≤ q) ∧ q < w4.heap.size) := fun z hz q hq => by
             have hs4 : (w2.alloc (.cells #[.slice u1 nl u2, .slice u3 ml u4, .int .u64 (s : Int)] 46)).heap.size ≤ w4.heap.size := hgrow.size
             have hsd := HBD.out.size
             have hs2 := hbe.size
             rcases List.mem_append.1 hz with hz | hz
             · exact ⟨.inl (g2 z hz q hq), Nat.lt_of_lt_of_le (g3 q (g2 z hz q hq)) hs4⟩
             · simp only [List.mem_cons, List.not_mem_nil, or_false] at hz
               rcases hz with rfl | rfl | rfl
               · have h9 := ownN_lt9 ox q hq
                 exact ⟨.inr (by omega), by omega⟩
               · have h9 := ownN_lt9 oy q hq
                 exact ⟨.inr (by omega), by omega⟩
               · simp [Value.ownBlock] at hq
           have HOW : Hid (w4.ownsRow 0 46 3 (.slice (some ⟨g4, 0, none⟩) (N + 1) c4) (N + 1) (cs ++ [.slice u1 nl u2, .slice u3 ml u4, .int .u64 (s : Int)]) ∧ g4 < w4.heap.size) := ⟨hown, hlt4⟩
           have HKG : Hid (Keeps G w w4) := keeps_of (t := t) hB9 hgrow g1
           have HEL : Hid (∀ j (h : j < (ss ++ [(l, m, s)]).length), ∃ x y, (cs ++ [.slice u1 nl u2, .slice u3 ml u4, .int .u64 (s : Int)])[j * 3]? = some x ∧ (cs ++ [.slice u1 nl u2, .slice u3 ml u4, .int .u64 (s : Int)])[j * 3 + 1]? = some y ∧ (cs ++ [.slice u1 nl u2, .slice u3 ml u4, .int .u64 (s : Int)])[j * 3 + 2]? = some (.int .u64 ((ss ++ [(l, m, s)])[j].2.2 : Int)) ∧ OwnN 0 w4 x (ss ++ [(l, m, s)])[j].1 ∧ OwnN 0 w4 y (ss ++ [(l, m, s)])[j].2.1) := push_el (l, m, s) HN.out hrow hel oxe oye hgrow
           have HT4 : Hid (Boxed w4 t 114 (.slice va N vc)) := hT4)
        | fail)
    all_goals
      go_wp2
      go_ret
      refine ⟨rfl, HKG.out.setCell (p := ⟨t, 0, none⟩) (by obtain ⟨_, _, _, _, _, h9, _⟩ := HSF.out; exact h9) _, fun q => (G q ∨ w.heap.size ≤ q) ∧ q < w4.heap.size, ?_, fun q hq => hq.1⟩
      rw [if_pos rfl]
      exact setF_of (n := N) (by rw [List.length_append, HN.out]; rfl) HOW.out.1 HEL.out HT4.out (by obtain ⟨_, _, _, _, _, h9, _, _, h8⟩ := HSF.out; exact ⟨.inl h9, HT4.out.lt⟩) (fun q hq => ⟨HGQ.out q hq, by simp only [Value.ownBlock, Option.some.injEq] at hq; subst hq; exact HOW.out.2⟩) HGC.out (fun q hq => hq.2)
  · go_wp2
    go_ret
    refine ⟨rfl, Below.keeps HBW.out G, G, ?_, fun q hq => .inl hq⟩
    rw [if_neg h0]
    exact HSF.out.below HBW.out

end Go.Proofs.Ytgphjgpibjhbjaa

/- A tower more, in plain terms. -/
namespace Go.Proofs.Ytgphjgpibjhbjaa
set_option maxRecDepth 20000
open Go.RowKit
set_option linter.unusedVariables false

theorem fst_append (xs ys : List Tow) (r : Nat) : fstT (xs ++ ys) r = match fstT xs r with | some b => some b | none => fstT ys r := by
  unfold fstT
  rw [List.find?_append]
  cases xs.find? (fun t => decide (r < t.h)) <;> rfl

theorem fst_cons (t : Tow) (ts : List Tow) (r : Nat) : fstT (t :: ts) r = if r < t.h then some t.b else fstT ts r := by
  unfold fstT
  rw [List.find?_cons]
  by_cases h : r < t.h <;> simp [h]

theorem fst_none {xs : List Tow} {r : Nat} (h : ∀ t ∈ xs, ¬ r < t.h) : fstT xs r = none := by
  unfold fstT
  rw [List.find?_eq_none.2 (fun t ht => by simpa using h t ht)]
  rfl

theorem fst_some {xs : List Tow} {r : Nat} {t : Tow} (ht : t ∈ xs) (h : r < t.h) : ∃ b, fstT xs r = some b := by
  unfold fstT
  cases hf : xs.find? (fun t => decide (r < t.h)) with
  | none => have := List.find?_eq_none.1 hf t ht; simp [h] at this
  | some u => exact ⟨u.b, rfl⟩

/-- the towers between two places -/
theorem mem_mid {ts : List Tow} {a c : Nat} {t : Tow} (h : t ∈ (ts.drop a).take (c - a)) : ∃ (i : Nat) (hi : i < ts.length), a ≤ i ∧ i < c ∧ ts[i] = t := by
  obtain ⟨j, hj, rfl⟩ := List.getElem_of_mem h
  rw [List.length_take, List.length_drop] at hj
  refine ⟨a + j, by omega, by omega, by omega, ?_⟩
  rw [List.getElem_take, List.getElem_drop]

theorem mid_mem {ts : List Tow} {a c i : Nat} (hi : i < ts.length) (ha : a ≤ i) (hc : i < c) : ts[i] ∈ (ts.drop a).take (c - a) := by
  rw [List.mem_iff_getElem]
  refine ⟨i - a, by rw [List.length_take, List.length_drop]; omega, ?_⟩
  rw [List.getElem_take, List.getElem_drop]
  congr 1
  omega

/-- a tower among the others -/
def insT (ts : List Tow) (c : Nat) (T : Tow) : List Tow := ts.take c ++ T :: ts.drop c

theorem insT_len {ts : List Tow} {c : Nat} {T : Tow} (hc : c ≤ ts.length) : (insT ts c T).length = ts.length + 1 := by
  unfold insT
  rw [List.length_append, List.length_cons, List.length_take, List.length_drop]
  omega

theorem insT_drop {ts : List Tow} {c a : Nat} {T : Tow} (hc : c ≤ ts.length) (ha : a ≤ c) : (insT ts c T).drop a = (ts.drop a).take (c - a) ++ T :: ts.drop c := by
  unfold insT
  rw [List.drop_append_of_le_length (by rw [List.length_take]; omega), List.drop_take]

theorem drop_mid {ts : List Tow} {c a : Nat} (ha : a ≤ c) : ts.drop a = (ts.drop a).take (c - a) ++ ts.drop c := by
  have h := List.take_append_drop (c - a) (ts.drop a)
  rw [List.drop_drop, show a + (c - a) = c by omega] at h
  exact h.symm

theorem insT_behind {ts : List Tow} {c a : Nat} {T : Tow} (hc : c ≤ ts.length) (ha : c ≤ a) : (insT ts c T).drop (a + 1) = ts.drop a := by
  have hl : (ts.take c ++ [T]).length = c + 1 := by rw [List.length_append, List.length_take]; simp; omega
  have e1 : (insT ts c T).drop (c + 1) = ts.drop c := by
    unfold insT
    rw [show (ts.take c ++ T :: ts.drop c) = (ts.take c ++ [T]) ++ ts.drop c by simp, ← hl]
    exact List.drop_left
  have e2 : (insT ts c T).drop (a + 1) = ((insT ts c T).drop (c + 1)).drop (a - c) := by
    rw [List.drop_drop]
    congr 1
    omega
  rw [e2, e1, List.drop_drop]
  congr 1
  omega

theorem insT_lo {ts : List Tow} {c i : Nat} {T : Tow} (hc : c ≤ ts.length) (hi : i < c) : (insT ts c T)[i]? = ts[i]? := by
  unfold insT
  rw [List.getElem?_append_left (by rw [List.length_take]; omega), List.getElem?_take, if_pos hi]

theorem insT_mid {ts : List Tow} {c : Nat} {T : Tow} (hc : c ≤ ts.length) : (insT ts c T)[c]? = some T := by
  unfold insT
  rw [List.getElem?_append_right (by rw [List.length_take]; omega), List.length_take, Nat.min_eq_left hc, Nat.sub_self]
  rfl

theorem insT_hi {ts : List Tow} {c i : Nat} {T : Tow} (hc : c ≤ ts.length) (hi : c < i) : (insT ts c T)[i]? = ts[i - 1]? := by
  unfold insT
  rw [List.getElem?_append_right (by rw [List.length_take]; omega), List.length_take, Nat.min_eq_left hc]
  obtain ⟨k, hk⟩ : ∃ k, i - c = k + 1 := ⟨i - c - 1, by omega⟩
  rw [hk, List.getElem?_cons_succ, List.getElem?_drop]
  congr 1
  omega

theorem nb_ins_lo {l : Nat} {ts : List Tow} {c a : Nat} {T : Tow} (hc : c ≤ ts.length) (ha : a ≤ c) : nb l (insT ts c T) a = nb l ts a ∧ nh (insT ts c T) a = nh ts a := by
  cases a with
  | zero => exact ⟨rfl, rfl⟩
  | succ i =>
    unfold nb nh
    rw [Nat.add_sub_cancel, insT_lo hc (by omega)]
    exact ⟨rfl, rfl⟩

theorem nb_ins_at {l : Nat} {ts : List Tow} {c : Nat} {T : Tow} (hc : c ≤ ts.length) : nb l (insT ts c T) (c + 1) = T.b ∧ nh (insT ts c T) (c + 1) = T.h := by
  unfold nb nh
  rw [if_neg (by omega), if_neg (by omega), Nat.add_sub_cancel, insT_mid hc]
  exact ⟨rfl, rfl⟩

theorem nb_ins_hi {l : Nat} {ts : List Tow} {c a : Nat} {T : Tow} (hc : c ≤ ts.length) (ha : c < a) (hal : a ≤ ts.length) : nb l (insT ts c T) (a + 1) = nb l ts a ∧ nh (insT ts c T) (a + 1) = nh ts a := by
  unfold nb nh
  rw [if_neg (by omega), if_neg (by omega), if_neg (by omega), if_neg (by omega), Nat.add_sub_cancel, insT_hi hc ha]
  exact ⟨rfl, rfl⟩

theorem pred_le {ts : List Tow} {K : EnB} {r a c : Nat} (h : PredT ts K r a) (h0 : PredT ts K 0 c) (hh : ∀ t ∈ ts, 1 ≤ t.h ∧ t.h ≤ 8) : a ≤ c := by
  by_cases hac : a ≤ c
  · exact hac
  · exfalso
    have hl : c < ts.length := by have := h.le; omega
    have h1 := h.lt c hl (by omega)
    have h2 := h0.no c hl (Nat.le_refl _) (by have := (hh _ (List.getElem_mem hl)).1; omega)
    rw [h1] at h2
    cases h2

/-- what a place points to, with a tower more -/
theorem fst_ins {ts : List Tow} {T : Tow} {K : EnB} {A : Nat → Nat} (hA : ∀ r, r < 8 → PredT ts K r (A r)) (hh : ∀ t ∈ ts, 1 ≤ t.h ∧ t.h ≤ 8) {a r : Nat} (hr : r < 8) (ha : a ≤ A 0) (hn : r < nh ts a) :
    fstT ((insT ts (A 0) T).drop a) r = if r < T.h ∧ a = A r then some T.b else fstT (ts.drop a) r := by
  have h0 := hA 0 (by omega)
  have hP := hA r hr
  have hle := pred_le hP h0 hh
  rw [insT_drop h0.le ha, fst_append, fst_cons]
  have e2 : fstT (ts.drop a) r = match fstT ((ts.drop a).take (A 0 - a)) r with | some b => some b | none => fstT (ts.drop (A 0)) r := by
    conv => lhs; rw [drop_mid ha]
    exact fst_append _ _ _
  by_cases hrT : r < T.h
  · by_cases hae : a = A r
    · rw [if_pos hrT, if_pos (⟨hrT, hae⟩ : r < T.h ∧ a = A r), fst_none (xs := (ts.drop a).take (A 0 - a)) (fun t ht hrt => by
        obtain ⟨i, hi, h1, h2, rfl⟩ := mem_mid ht
        have k1 := hP.no i hi (by omega) hrt
        have k2 := h0.lt i hi h2
        rw [k1] at k2
        cases k2)]
    · rw [if_pos hrT, if_neg (fun h : r < T.h ∧ a = A r => hae h.2)]
      have hlt : a < A r := by
        by_cases hlt : a < A r
        · exact hlt
        · exfalso
          obtain ⟨i, rfl⟩ : ∃ i, a = i + 1 := ⟨a - 1, by omega⟩
          have hi : i < ts.length := by have := h0.le; omega
          rw [nh_succ hi] at hn
          have k1 := hP.no i hi (by omega) hn
          have k2 := h0.lt i hi (by omega)
          rw [k1] at k2
          cases k2
      obtain ⟨j, hj⟩ : ∃ j, A r = j + 1 := ⟨A r - 1, by omega⟩
      have hjl : j < ts.length := by have := hP.le; omega
      have hjh := hP.hi
      rw [hj, nh_succ hjl] at hjh
      obtain ⟨b, hb⟩ := fst_some (mid_mem (a := a) (c := A 0) hjl (by omega) (by omega)) hjh
      rw [e2, hb]
  · rw [if_neg hrT, if_neg (fun h : r < T.h ∧ a = A r => hrT h.1), e2]

theorem fst_new {ts : List Tow} {K : EnB} {A : Nat → Nat} (hA : ∀ r, r < 8 → PredT ts K r (A r)) (hh : ∀ t ∈ ts, 1 ≤ t.h ∧ t.h ≤ 8) {r : Nat} (hr : r < 8) : fstT (ts.drop (A r)) r = fstT (ts.drop (A 0)) r := by
  have h0 := hA 0 (by omega)
  have hP := hA r hr
  have hle := pred_le hP h0 hh
  conv => lhs; rw [drop_mid hle]
  rw [fst_append, fst_none (xs := (ts.drop (A r)).take (A 0 - A r)) (fun t ht hrt => by
    obtain ⟨i, hi, h1, h2, rfl⟩ := mem_mid ht
    have k1 := hP.no i hi (by omega) hrt
    have k2 := h0.lt i hi h2
    rw [k1] at k2
    cases k2)]

/-- A TOWER MORE: the pointers to it laid in each of its rows, nothing else turned -/
theorem sk_insert {w w' : World} {l : Nat} {ts : List Tow} {T : Tow} {A : Nat → Nat} (h : SkAt w l ts) (hA : ∀ r, r < 8 → PredT ts T.e r (A r)) (hT : 1 ≤ T.h ∧ T.h ≤ 8) (hnew : ∀ a, a ≤ ts.length → T.b ≠ nb l ts a)
    (hK : Keeps (fun i => (∃ a, a ≤ ts.length ∧ i = nb l ts a) ∨ i = T.b) w w') (hc : ∀ a, a ≤ ts.length → ∀ r, r < 8 → w'.cell? ⟨nb l ts a, 4 + r, none⟩ = (if r < T.h ∧ a = A r then some (ptrT (some T.b)) else w.cell? ⟨nb l ts a, 4 + r, none⟩))
    (hz : ∀ a, a ≤ ts.length → ∀ r, r < 8 → w'.frozen? ⟨nb l ts a, 4 + r, none⟩ = false) (hbl : ∀ a, a ≤ ts.length → ∃ ca ty, w'.heap[nb l ts a]? = some (.cells ca ty (0, 0))) (hTbl : ∃ ca ty, w'.heap[T.b]? = some (.cells ca ty (0, 0))) (hE : ∀ t ∈ ts, ∀ i, i < 4 → w'.cell? ⟨t.b, i, none⟩ = w.cell? ⟨t.b, i, none⟩)
    (hTc : ∀ r, r < 8 → w'.cell? ⟨T.b, 4 + r, none⟩ = some (if r < T.h then ptrT (fstT (ts.drop (A r)) r) else .pointer none)) (hTz : ∀ r, r < 8 → w'.frozen? ⟨T.b, 4 + r, none⟩ = false) (hTe : EntAt w' T)
    (hTo : ∀ a, a ≤ ts.length → (∀ q, T.x.ownBlock = some q → q ≠ nb l ts a) ∧ (∀ q, T.y.ownBlock = some q → q ≠ nb l ts a)) (hTn : (∀ q, T.x.ownBlock = some q → q ≠ T.b) ∧ (∀ q, T.y.ownBlock = some q → q ≠ T.b))
    (htb : ∀ t ∈ ts, (∀ q, t.x.ownBlock = some q → q ≠ T.b) ∧ (∀ q, t.y.ownBlock = some q → q ≠ T.b)) (hTi : LtB w' T.x ∧ LtB w' T.y) (hne : anyE (esT ts) T.e = false) (hl : ts.length + 1 ≤ 4000) : SkAt w' l (insT ts (A 0) T) := by
  have h0 := hA 0 (by omega)
  have hcl := h0.le
  have hcnt := h0.cnt h.ht
  have places : ∀ a, a ≤ (insT ts (A 0) T).length → (a ≤ A 0 ∧ nb l (insT ts (A 0) T) a = nb l ts a ∧ nh (insT ts (A 0) T) a = nh ts a) ∨ (a = A 0 + 1) ∨ (∃ i, A 0 < i ∧ i ≤ ts.length ∧ a = i + 1 ∧ nb l (insT ts (A 0) T) a = nb l ts i ∧ nh (insT ts (A 0) T) a = nh ts i) := fun a ha => by
    rw [insT_len hcl] at ha
    by_cases h1 : a ≤ A 0
    · exact .inl ⟨h1, nb_ins_lo hcl h1⟩
    · by_cases h2 : a = A 0 + 1
      · exact .inr (.inl h2)
      · exact .inr (.inr ⟨a - 1, by omega, by omega, by omega, by
          have := nb_ins_hi (l := l) (T := T) hcl (by omega : A 0 < a - 1) (by omega)
          rwa [show a - 1 + 1 = a by omega] at this⟩)
  have mems : ∀ t, t ∈ insT ts (A 0) T → t = T ∨ t ∈ ts := fun t ht => by
    unfold insT at ht
    rcases List.mem_append.1 ht with h1 | h1
    · exact .inr (List.mem_of_mem_take h1)
    · rcases List.mem_cons.1 h1 with h2 | h2
      · exact .inl h2
      · exact .inr (List.mem_of_mem_drop h2)
  refine ⟨fun a ha => ?_, fun t ht => ?_, fun a b ha hb hab => ?_, fun t ht => ?_, fun t ht a ha => ?_, ?_, by rw [insT_len hcl]; exact hl, fun t ht => ?_⟩
  · rcases places a ha with ⟨h1, h2, h3⟩ | rfl | ⟨i, h1, h2, rfl, h3, h4⟩
    · rw [h2, h3]
      refine ⟨fun r hr => ?_, hz a (by omega), hbl a (by omega)⟩
      rw [hc a (by omega) r hr, (h.nod a (by omega)).cel r hr]
      by_cases hn : r < nh ts a
      · rw [if_pos hn, if_pos hn, fst_ins hA h.ht hr h1 hn]
        split <;> rfl
      · rw [if_neg hn, if_neg hn, if_neg (fun e => hn (by rw [e.2]; exact (hA r hr).hi))]
    · obtain ⟨k1, k2⟩ := nb_ins_at (l := l) (T := T) hcl
      rw [k1, k2, insT_behind hcl (Nat.le_refl _)]
      refine ⟨fun r hr => ?_, hTz, hTbl⟩
      rw [hTc r hr, fst_new hA h.ht hr]
    · rw [h3, h4, insT_behind hcl (Nat.le_of_lt h1)]
      refine ⟨fun r hr => ?_, hz i h2, hbl i h2⟩
      rw [hc i h2 r hr, (h.nod i h2).cel r hr, if_neg (fun e => by have := pred_le (hA r hr) h0 h.ht; omega)]
  · rcases mems t ht with rfl | h1
    · exact hTe
    · have he := h.ent t h1
      have hnot : ∀ q, (t.x.ownBlock = some q ∨ t.y.ownBlock = some q) → ¬ ((∃ a, a ≤ ts.length ∧ q = nb l ts a) ∨ q = T.b) := fun q hq => by
        rintro (⟨a, ha, rfl⟩ | rfl)
        · rcases hq with hq | hq
          · exact (h.out t h1 a ha).1 _ hq rfl
          · exact (h.out t h1 a ha).2 _ hq rfl
        · rcases hq with hq | hq
          · exact (htb t h1).1 _ hq rfl
          · exact (htb t h1).2 _ hq rfl
      have rdk : ∀ {v : Value} {lst : List UInt8}, Rd w v lst → (∀ q, v.ownBlock = some q → ¬ ((∃ a, a ≤ ts.length ∧ q = nb l ts a) ∨ q = T.b)) → Rd w' v lst := fun {v lst} hr hq => by
        rcases hr with hr | ⟨b, off, cap, rfl, k1, k2, k3⟩
        · exact .inl hr
        · exact .inr ⟨b, off, cap, rfl, k1, k2, fun j u hu => hK.cell (p := ⟨b, off + j, none⟩) (hq b rfl) (k3 j u hu)⟩
      refine ⟨⟨?_, ?_, ?_, ?_⟩, rdk he.rx (fun q hq => hnot q (.inl hq)), rdk he.ry (fun q hq => hnot q (.inr hq))⟩
      · rw [hE t h1 0 (by omega)]; exact he.bx.c0
      · rw [hE t h1 1 (by omega)]; exact he.bx.c1
      · rw [hE t h1 2 (by omega)]; exact he.bx.c2
      · rw [hE t h1 3 (by omega)]; exact he.bx.c3
  · obtain ⟨k1, _⟩ := nb_ins_at (l := l) (T := T) hcl
    rcases places a ha with ⟨h1, h2, _⟩ | rfl | ⟨i, h1, h2, rfl, h3, _⟩ <;> rcases places b hb with ⟨g1, g2, _⟩ | rfl | ⟨j, g1, g2, rfl, g3, _⟩
    · rw [h2, g2] at hab; exact h.inj a b (by omega) (by omega) hab
    · rw [h2, k1] at hab; exact absurd hab.symm (hnew a (by omega))
    · rw [h2, g3] at hab; have := h.inj a j (by omega) g2 hab; omega
    · rw [k1, g2] at hab; exact absurd hab (hnew b (by omega))
    · rfl
    · rw [k1, g3] at hab; exact absurd hab (hnew j g2)
    · rw [h3, g2] at hab; have := h.inj i b h2 (by omega) hab; omega
    · rw [h3, k1] at hab; exact absurd hab.symm (hnew i h2)
    · rw [h3, g3] at hab; have := h.inj i j h2 g2 hab; omega
  · rcases mems t ht with rfl | h1
    · exact hT
    · exact h.ht t h1
  · obtain ⟨k1, _⟩ := nb_ins_at (l := l) (T := T) hcl
    rcases places a ha with ⟨h1, h2, _⟩ | rfl | ⟨i, h1, h2, rfl, h3, _⟩
    · rw [h2]
      rcases mems t ht with rfl | h4
      · exact hTo a (by omega)
      · exact h.out t h4 a (by omega)
    · rw [k1]
      rcases mems t ht with rfl | h4
      · exact hTn
      · exact htb t h4
    · rw [h3]
      rcases mems t ht with rfl | h4
      · exact hTo i h2
      · exact h.out t h4 i h2
  · have h9 := ins_rises (esT ts) T.e h.ris hne
    rw [hcnt] at h9
    unfold insT
    rw [List.map_append, List.map_cons, List.map_take, List.map_drop]
    exact h9
  · rcases mems t ht with rfl | h1
    · exact hTi
    · exact ⟨(h.inn t h1).1.grow hK.size, (h.inn t h1).2.grow hK.size⟩

end Go.Proofs.Ytgphjgpibjhbjaa

/- (*skip.List).ahead. -/
namespace Go.Proofs.Ytgphjgpibjhbjaa
set_option maxRecDepth 20000
open Go.RowKit
set_option linter.unusedVariables false
set_option linter.unusedSimpArgs false

/-- a pointer to a place's tower -/
abbrev ndP (l : Nat) (ts : List Tow) (a : Nat) : Value := .pointer (some ⟨nb l ts a, 0, none⟩)

/-- eight cells, that may be written -/
structure Arr8 (w : World) (b : Nat) (V : Nat → Value) : Prop where
  cel : ∀ r, r < 8 → w.cell? ⟨b, r, none⟩ = some (V r)
  frz : ∀ r, r < 8 → w.frozen? ⟨b, r, none⟩ = false

theorem Arr8.lt {w : World} {b : Nat} {V : Nat → Value} (h : Arr8 w b V) : b < w.heap.size := World.block_lt_of_cell? w _ (h.cel 0 (by omega))

theorem Arr8.below {w w' : World} {b : Nat} {V : Nat → Value} (h : Arr8 w b V) (hb : Below w.heap.size w w') : Arr8 w' b V :=
  ⟨fun r hr => (hb.cell (p := ⟨b, r, none⟩) h.lt).trans (h.cel r hr), fun r hr => by rw [hb.frozen (p := ⟨b, r, none⟩) h.lt]; exact h.frz r hr⟩

theorem arr8_new (w : World) (t : TypeId) : Arr8 (w.alloc (.cells #[.pointer none, .pointer none, .pointer none, .pointer none, .pointer none, .pointer none, .pointer none, .pointer none] t)) w.heap.size (fun _ => .pointer none) := by
  have h := heap_alloc_new w (.cells #[.pointer none, .pointer none, .pointer none, .pointer none, .pointer none, .pointer none, .pointer none, .pointer none] t)
  refine ⟨fun r hr => ?_, fun r hr => ?_⟩
  · have c := cell_of_row (w.alloc (.cells #[.pointer none, .pointer none, .pointer none, .pointer none, .pointer none, .pointer none, .pointer none, .pointer none] t)) w.heap.size r _ t (0, 0) h
    have : r = 0 ∨ r = 1 ∨ r = 2 ∨ r = 3 ∨ r = 4 ∨ r = 5 ∨ r = 6 ∨ r = 7 := by omega
    rcases this with rfl | rfl | rfl | rfl | rfl | rfl | rfl | rfl <;> exact c.trans rfl
  · exact frozen_of_row (w.alloc (.cells #[.pointer none, .pointer none, .pointer none, .pointer none, .pointer none, .pointer none, .pointer none, .pointer none] t)) w.heap.size r _ t h

theorem Arr8.store {w : World} {b : Nat} {V : Nat → Value} (h : Arr8 w b V) {i : Nat} (hi : i < 8) (u : Value) : Arr8 (w.setCell ⟨b, i, none⟩ u) b (fun r => if r = i then u else V r) := by
  refine ⟨fun r hr => ?_, fun r hr => by rw [World.frozen?_setCell]; exact h.frz r hr⟩
  by_cases e : r = i
  · subst e
    simp only [if_true]
    simp [go_sem, h.cel r hr]
  · simp only [e, if_false]
    have : (w.setCell ⟨b, i, none⟩ u).cell? ⟨b, r, none⟩ = w.cell? ⟨b, r, none⟩ := by
      simp [go_sem, h.cel i hi, e]
    rw [this]
    exact h.cel r hr

/-- where the loop over the rows has come to: j rows are left -/
structure AhI (w wr : World) (l : Nat) (ts : List Tow) (K : EnB) (ka : Option Addr) (kn kc : Nat) (ks kk : Int) (A : Nat → Nat) (a j : Nat) : Prop where
  be : Below w.heap.size w wr
  bk : Box wr w.heap.size (.slice ka kn kc) (.int .u64 ks) (.int .u8 kk)
  br : Arr8 wr (w.heap.size + 1) (fun _ => .pointer none)
  bp : Arr8 wr (w.heap.size + 2) (fun r => if j ≤ r then ndP l ts (A r) else .pointer none)
  ok : ∀ r, r < 8 → j ≤ r → PredT ts K r (A r)
  le : a ≤ ts.length
  lt : ∀ i (h : i < ts.length), i < a → ltE ts[i].e K = true
  hi : j ≤ nh ts a

theorem lt_pre {ts : List Tow} {K : EnB} (hr : riseB (ts.map (·.e)) = true) {j : Nat} (hj : j < ts.length) (h : ltE ts[j].e K = true) : ∀ i (hi : i < ts.length), i < j + 1 → ltE ts[i].e K = true := fun i hi hij => by
  have h9 := ahead_lt (es := esT ts) hr (K := K) (i := i) (j := j) (by rw [esT_len]; exact hj) (by omega) (by rw [esT_get hj]; exact h)
  rwa [esT_get hi] at h9

theorem no_suf {ts : List Tow} {K : EnB} (hr : riseB (ts.map (·.e)) = true) {j : Nat} (hj : j < ts.length) (h : ltE ts[j].e K = false) : ∀ i (hi : i < ts.length), j ≤ i → ltE ts[i].e K = false := fun i hi hij => by
  have h9 := behind_ge (es := esT ts) hr (K := K) (i := j) (j := i) (by rw [esT_len]; exact hi) hij (by rw [esT_get hj]; exact h)
  rwa [esT_get hi] at h9

/-- the cells that a step looks at: the place's pointer in the row, the next one's version, the version asked for -/
structure StpK (w : World) (b h tb kb : Nat) (tp v0 v1 v2 k0 k1 k2 : Value) : Prop where
  p : w.cell? ⟨b, 4 + h, none⟩ = some tp
  a0 : w.cell? ⟨tb, 0, none⟩ = some v0
  a1 : w.cell? ⟨tb, 1, none⟩ = some v1
  a2 : w.cell? ⟨tb, 2, none⟩ = some v2
  b0 : w.cell? ⟨kb, 0, none⟩ = some k0
  b1 : w.cell? ⟨kb, 1, none⟩ = some k1
  b2 : w.cell? ⟨kb, 2, none⟩ = some k2

theorem StpK.below {w w' : World} {b h tb kb : Nat} {tp v0 v1 v2 k0 k1 k2 : Value} (s : StpK w b h tb kb tp v0 v1 v2 k0 k1 k2) (hb : Below w.heap.size w w') : StpK w' b h tb kb tp v0 v1 v2 k0 k1 k2 :=
  ⟨(hb.cell (World.block_lt_of_cell? w _ s.p)).trans s.p, (hb.cell (World.block_lt_of_cell? w _ s.a0)).trans s.a0, (hb.cell (World.block_lt_of_cell? w _ s.a1)).trans s.a1, (hb.cell (World.block_lt_of_cell? w _ s.a2)).trans s.a2, (hb.cell (World.block_lt_of_cell? w _ s.b0)).trans s.b0, (hb.cell (World.block_lt_of_cell? w _ s.b1)).trans s.b1, (hb.cell (World.block_lt_of_cell? w _ s.b2)).trans s.b2⟩

theorem below_store8 {B : Nat} {a w : World} (h : Below B a w) {b : Nat} (hb : B ≤ b) (u0 u1 u2 u3 u4 u5 u6 u7 : Value) : Below B a ((((((((w.setCell ⟨b, 0, none⟩ u0).setCell ⟨b, 1, none⟩ u1).setCell ⟨b, 2, none⟩ u2).setCell ⟨b, 3, none⟩ u3).setCell ⟨b, 4, none⟩ u4).setCell ⟨b, 5, none⟩ u5).setCell ⟨b, 6, none⟩ u6).setCell ⟨b, 7, none⟩ u7) :=
  (((((((h.setCell (p := ⟨b, 0, none⟩) hb u0).setCell (p := ⟨b, 1, none⟩) hb u1).setCell (p := ⟨b, 2, none⟩) hb u2).setCell (p := ⟨b, 3, none⟩) hb u3).setCell (p := ⟨b, 4, none⟩) hb u4).setCell (p := ⟨b, 5, none⟩) hb u5).setCell (p := ⟨b, 6, none⟩) hb u6).setCell (p := ⟨b, 7, none⟩) hb u7

theorem Arr8.other {w : World} {b b' : Nat} {V : Nat → Value} (h : Arr8 w b V) (hne : b ≠ b') (i : Nat) (u : Value) : Arr8 (w.setCell ⟨b', i, none⟩ u) b V :=
  ⟨fun r hr => by rw [cell_other w ⟨b', i, none⟩ ⟨b, r, none⟩ u hne]; exact h.cel r hr, fun r hr => by rw [World.frozen?_setCell]; exact h.frz r hr⟩

/-- one row more is done -/
theorem AhI.next {w wr w2 : World} {l : Nat} {ts : List Tow} {K : EnB} {ka : Option Addr} {kn kc : Nat} {ks kk : Int} {A : Nat → Nat} {a h a' : Nat} (I : AhI w wr l ts K ka kn kc ks kk A a (h + 1)) (hb : Below wr.heap.size wr w2) (hP : PredT ts K h a') (h8 : h < 8) : AhI w (w2.setCell ⟨w.heap.size + 2, h, none⟩ (ndP l ts a')) l ts K ka kn kc ks kk (fun r => if r = h then a' else A r) a' h := by
  have bp := (I.bp.below hb).store h8 (ndP l ts a')
  refine ⟨(bsplit I.be hb).setCell (p := ⟨w.heap.size + 2, h, none⟩) (by show w.heap.size ≤ w.heap.size + 2; omega) _, (I.bk.below hb (Nat.le_refl _)).other ⟨w.heap.size + 2, h, none⟩ (by show w.heap.size ≠ w.heap.size + 2; omega) _, (I.br.below hb).other (by omega) _ _, ⟨fun r hr => ?_, bp.frz⟩, fun r hr hhr => ?_, hP.le, hP.lt, Nat.le_of_lt hP.hi⟩
  · rw [bp.cel r hr]
    by_cases e : r = h
    · subst e; simp
    · simp only [e, if_false]
      by_cases h2 : h ≤ r
      · rw [if_pos h2, if_pos (by omega)]
      · rw [if_neg h2, if_neg (by omega)]
  · by_cases e : r = h
    · subst e; simp only [if_true]; exact hP
    · simp only [e, if_false]; exact I.ok r hr (by omega)

set_option maxHeartbeats 8000000 in
theorem ahead_any (w : World) (l : Nat) (ts : List Tow) (kv : Value) (K : EnB) (hS : SkAt w l ts) (hk : Rd w kv K.1) :
    Calls Try.prog 75 #[.pointer (some ⟨l, 0, none⟩), .agg #[kv, .int .u64 (K.2.1 : Int), .int .u8 (K.2.2.1.toNat : Int)]] w fun e w' => ∃ A : Nat → Nat, e = .returned (.agg #[ndP l ts (A 0), ndP l ts (A 1), ndP l ts (A 2), ndP l ts (A 3), ndP l ts (A 4), ndP l ts (A 5), ndP l ts (A 6), ndP l ts (A 7)]) ∧ (∀ r, r < 8 → PredT ts K r (A r)) ∧ Below w.heap.size w w' := by
  have HS : Hid (SkAt w l ts) := hS
  obtain ⟨ka, kc, rfl⟩ := hk.len
  obtain ⟨kn, hkn⟩ : ∃ n, K.1.length = n := ⟨_, rfl⟩
  obtain ⟨ks, hks⟩ : ∃ z : Int, (K.2.1 : Int) = z := ⟨_, rfl⟩
  obtain ⟨kk, hkk⟩ : ∃ z : Int, (K.2.2.1.toNat : Int) = z := ⟨_, rfl⟩
  have HKS : Hid ((K.2.1 : Int) = ks ∧ (K.2.2.1.toNat : Int) = kk) := ⟨hks, hkk⟩
  rw [hkn] at hk ⊢
  rw [hks, hkk]
  have HK : Hid (Rd w (.slice ka kn kc) K.1) := hk
  have hb0 := below_box w #[.slice ka kn kc, .int .u64 ks, .int .u8 kk] 42
  have hb1 := below_box4 (w.alloc (.cells #[.slice ka kn kc, .int .u64 ks, .int .u8 kk] 42)) (.cells #[.pointer none, .pointer none, .pointer none, .pointer none, .pointer none, .pointer none, .pointer none, .pointer none] 108)
  have hb2 := below_box4 ((w.alloc (.cells #[.slice ka kn kc, .int .u64 ks, .int .u8 kk] 42)).alloc (.cells #[.pointer none, .pointer none, .pointer none, .pointer none, .pointer none, .pointer none, .pointer none, .pointer none] 108)) (.cells #[.pointer none, .pointer none, .pointer none, .pointer none, .pointer none, .pointer none, .pointer none, .pointer none] 108)
  have s1 : (w.alloc (.cells #[.slice ka kn kc, .int .u64 ks, .int .u8 kk] 42)).heap.size = w.heap.size + 1 := by simp
  have s2 : ((w.alloc (.cells #[.slice ka kn kc, .int .u64 ks, .int .u8 kk] 42)).alloc (.cells #[.pointer none, .pointer none, .pointer none, .pointer none, .pointer none, .pointer none, .pointer none, .pointer none] 108)).heap.size = w.heap.size + 2 := by simp
  have BK := ((box_new w (.slice ka kn kc) (.int .u64 ks) (.int .u8 kk) 42).below hb1 (Nat.le_refl _)).below hb2 (Nat.le_refl _)
  have BR := (arr8_new (w.alloc (.cells #[.slice ka kn kc, .int .u64 ks, .int .u8 kk] 42)) 108).below hb2
  have BP := arr8_new ((w.alloc (.cells #[.slice ka kn kc, .int .u64 ks, .int .u8 kk] 42)).alloc (.cells #[.pointer none, .pointer none, .pointer none, .pointer none, .pointer none, .pointer none, .pointer none, .pointer none] 108)) 108
  rw [s1] at BR
  rw [s2] at BP
  obtain ⟨w1, hw1⟩ : ∃ W, ((w.alloc (.cells #[.slice ka kn kc, .int .u64 ks, .int .u8 kk] 42)).alloc (.cells #[.pointer none, .pointer none, .pointer none, .pointer none, .pointer none, .pointer none, .pointer none, .pointer none] 108)).alloc (.cells #[.pointer none, .pointer none, .pointer none, .pointer none, .pointer none, .pointer none, .pointer none, .pointer none] 108) = W := ⟨_, rfl⟩
  have hB1 := bsplit (bsplit hb0 hb1) hb2
  rw [hw1] at BK BR BP hB1
  have HI0 : Hid (AhI w w1 l ts K ka kn kc ks kk (fun _ => 0) 0 8) := ⟨hB1, BK, BR, ⟨fun r hr => by simp only [show ¬ 8 ≤ r by omega, if_false]; exact BP.cel r hr, BP.frz⟩, fun r h1 h2 => by omega, Nat.zero_le _, fun i h h2 => absurd h2 (Nat.not_lt_zero _), Nat.le_refl _⟩
  obtain ⟨n, hn⟩ : ∃ n, ts.length = n := ⟨_, rfl⟩
  have HN : Hid (ts.length = n) := hn
  clear hk hkn hks hkk hb0 hb1 hb2 s1 s2 BK BR BP hB1 hS hn
  go_enter Try.func75, Try.ntmps75
  go_wp2_with fail
  clear hw1
  go_loopg [6, 7] 8 (fun gk av hv wr => ∃ (j a : Nat) (A : Nat → Nat), j = gk ∧ av = ndP l ts a ∧ hv = .int .i64 ((j : Int) - 1) ∧ j ≤ 8 ∧ Hid (AhI w wr l ts K ka kn kc ks kk A a j))
  case atStart => exact ⟨8, 0, fun _ => 0, rfl, rfl, rfl, Nat.le_refl _, HI0⟩
  case round =>
    obtain ⟨j, a, A, hgj, rfl, rfl, hj8, HI⟩ := hrel
    subst hgj
    by_cases hj0 : j = 0
    · subst hj0
      have p0 := HI.out.bp.cel 0 (by decide)
      have r0 := HI.out.br.cel 0 (by decide)
      have f0 := HI.out.br.frz 0 (by decide)
      have p1 := HI.out.bp.cel 1 (by decide)
      have r1 := HI.out.br.cel 1 (by decide)
      have f1 := HI.out.br.frz 1 (by decide)
      have p2 := HI.out.bp.cel 2 (by decide)
      have r2 := HI.out.br.cel 2 (by decide)
      have f2 := HI.out.br.frz 2 (by decide)
      have p3 := HI.out.bp.cel 3 (by decide)
      have r3 := HI.out.br.cel 3 (by decide)
      have f3 := HI.out.br.frz 3 (by decide)
      have p4 := HI.out.bp.cel 4 (by decide)
      have r4 := HI.out.br.cel 4 (by decide)
      have f4 := HI.out.br.frz 4 (by decide)
      have p5 := HI.out.bp.cel 5 (by decide)
      have r5 := HI.out.br.cel 5 (by decide)
      have f5 := HI.out.br.frz 5 (by decide)
      have p6 := HI.out.bp.cel 6 (by decide)
      have r6 := HI.out.br.cel 6 (by decide)
      have f6 := HI.out.br.frz 6 (by decide)
      have p7 := HI.out.bp.cel 7 (by decide)
      have r7 := HI.out.br.cel 7 (by decide)
      have f7 := HI.out.br.frz 7 (by decide)
      simp only [Nat.zero_le, if_true] at p0 p1 p2 p3 p4 p5 p6 p7
      have HBE : Hid (Below w.heap.size w wr) := HI.out.be
      have HOK : Hid (∀ r, r < 8 → PredT ts K r (A r)) := fun r hr => HI.out.ok r hr (Nat.zero_le _)
      go_wp2
      refine bodyPost_ret (v := .agg #[ndP l ts (A 0), ndP l ts (A 1), ndP l ts (A 2), ndP l ts (A 3), ndP l ts (A 4), ndP l ts (A 5), ndP l ts (A 6), ndP l ts (A 7)]) (by simp [results, Try.results75, go_sem, r0, r1, r2, r3, r4, r5, r6, r7]) rfl ⟨A, rfl, HOK.out, below_store8 HBE.out (by omega) _ _ _ _ _ _ _ _⟩
    · obtain ⟨h, rfl⟩ : ∃ h, j = h + 1 := ⟨j - 1, by omega⟩
      have hIv : ((h + 1 : Nat) : Int) - 1 = (h : Int) := by omega
      rw [hIv]
      have h0I : (0 : Int) ≤ (h : Int) := by omega
      have h8I : (h : Int) < 8 := by omega
      clear hIv
      go_wp2_with fail
      obtain ⟨wo, hwo⟩ : ∃ W, W = wr := ⟨_, rfl⟩
      subst hwo
      go_loopg [6] (n - a) (fun gk av wr => ∃ a' : Nat, gk + a' = n ∧ av = ndP l ts a' ∧ Hid (∀ i (hi : i < ts.length), i < a' → ltE ts[i].e K = true) ∧ Hid (h < nh ts a') ∧ Hid (Below wo.heap.size wo wr))
      case atStart => exact ⟨a, by have := HI.out.le; rw [HN.out] at this; omega, rfl, HI.out.lt, HI.out.hi, Below.refl _ _⟩
      case round =>
        obtain ⟨a', hga, rfl, HLT, HH, HB⟩ := hrel
        have hS2 := HS.out.below (bsplit HI.out.be HB.out)
        have han : a' ≤ ts.length := by rw [HN.out]; omega
        have hcel := (hS2.nod a' han).cel h (by omega)
        rw [if_pos HH.out] at hcel
        have bp9 := (HI.out.bp.below HB.out).cel h (by omega)
        have fp9 := (HI.out.bp.below HB.out).frz h (by omega)
        simp only [show ¬ h + 1 ≤ h by omega, if_false] at bp9
        rcases fst_drop ts a' h with ⟨hf, hno⟩ | ⟨jj, hjj, haj, hjh, hf, hno⟩
        · rw [hf] at hcel
          simp only [ptrT] at hcel
          have HPR : Hid (PredT ts K h a') := ⟨han, HLT.out, HH.out, fun i hi hai hr => absurd hr (hno i hi hai)⟩
          clear hf hno hS2 han
          go_wp2_with fail
          go_quiet (fail)
          have BEL : Below wo.heap.size wo (wr.drewN nq) := below_drewN HB.out _
          go_wp2_with fail
          go_roundg h
          case measure => exact Nat.lt_succ_self h
          case rel => exact ⟨h, a', fun r => if r = h then a' else A r, rfl, rfl, rfl, by omega, HI.out.next BEL HPR.out (by omega)⟩
        · rw [hf] at hcel
          simp only [ptrT] at hcel
          obtain ⟨t, ht⟩ : ∃ t, ts[jj] = t := ⟨_, rfl⟩
          have hent := hS2.ent ts[jj] (List.getElem_mem hjj)
          rw [ht] at hcel hent
          have hent2 := hent
          obtain ⟨⟨c0, c1, c2, c3⟩, rx, ry⟩ := hent2
          obtain ⟨x1, x2, ex⟩ := rx.len
          rw [ex] at c0 rx
          obtain ⟨tb, htb⟩ : ∃ z, t.b = z := ⟨_, rfl⟩
          obtain ⟨nl, hnl⟩ : ∃ z, t.e.1.length = z := ⟨_, rfl⟩
          obtain ⟨sq, hsq⟩ : ∃ z : Int, (t.e.2.1 : Int) = z := ⟨_, rfl⟩
          obtain ⟨ek, hek⟩ : ∃ z : Int, (t.e.2.2.1.toNat : Int) = z := ⟨_, rfl⟩
          rw [htb] at hcel c0 c1 c2
          rw [hnl] at c0 rx
          rw [hsq] at c1
          rw [hek] at c2
          obtain ⟨cr, hcr⟩ : ∃ r, cmpE t.e K = r := ⟨_, rfl⟩
          have hcm := compare_any wr.drew (.slice x1 nl x2) (.slice ka kn kc) t.e.1 K.1 sq ek ks kk cr rx.drew (HK.out.below (bsplit HI.out.be HB.out) (Nat.le_refl _)).drew (by rw [← hcr, ← hsq, ← hek, ← HKS.out.1, ← HKS.out.2]; rfl)
          have BKr := HI.out.bk.below HB.out (Nat.le_refl _)
          have T0 : StpK wr.drew (nb l ts a') h tb w.heap.size (.pointer (some ⟨tb, 0, none⟩)) (.slice x1 nl x2) (.int .u64 sq) (.int .u8 ek) (.slice ka kn kc) (.int .u64 ks) (.int .u8 kk) := ⟨hcel, c0, c1, c2, BKr.c0, BKr.c1, BKr.c2⟩
          obtain ⟨d0, d1, d2, _⟩ := BKr
          have HTB : Hid (nb l ts (jj + 1) = tb ∧ nh ts (jj + 1) = t.h) := ⟨by rw [nb_succ l hjj, ht]; exact htb, by rw [nh_succ hjj, ht]⟩
          have HJH : Hid (h < t.h) := by rw [ht] at hjh; exact hjh
          have HJ : Hid (jj < ts.length ∧ a' ≤ jj) := ⟨hjj, haj⟩
          by_cases hlt : cr < 0
          · have hltE : ltE ts[jj].e K = true := by rw [ht]; exact decide_eq_true (by rw [hcr]; exact hlt)
            have HLT2 : Hid (∀ i (hi : i < ts.length), i < jj + 1 → ltE ts[i].e K = true) := lt_pre HS.out.ris hjj hltE
            have q1 : n - (jj + 1) < gk := by rw [HN.out] at hjj; omega
            have q2 : n - (jj + 1) + (jj + 1) = n := by rw [HN.out] at hjj; omega
            have HH2 : Hid (h < nh ts (jj + 1)) := by show h < _; rw [HTB.out.2]; exact HJH.out
            clear hf hno hS2 han rx ry hent ex htb hnl hsq hek hcr ht c3 bp9 fp9 hltE hjh
            go_wp2_with fail
            go_region_held3 (fun w' => w'.cell? ⟨nb l ts a', 4 + h, none⟩ = some (.pointer (some ⟨tb, 0, none⟩)) ∧ (w'.cell? ⟨tb, 0, none⟩ = some (.slice x1 nl x2) ∧ w'.cell? ⟨tb, 1, none⟩ = some (.int .u64 sq) ∧ w'.cell? ⟨tb, 2, none⟩ = some (.int .u8 ek)) ∧ (w'.cell? ⟨w.heap.size, 0, none⟩ = some (.slice ka kn kc) ∧ w'.cell? ⟨w.heap.size, 1, none⟩ = some (.int .u64 ks) ∧ w'.cell? ⟨w.heap.size, 2, none⟩ = some (.int .u8 kk)))
              (first | with_reducible exact ⟨T6.p, ⟨T6.a0, T6.a1, T6.a2⟩, ⟨T6.b0, T6.b1, T6.b2⟩⟩ | exact ⟨T0.p, ⟨T0.a0, T0.a1, T0.a2⟩, ⟨T0.b0, T0.b1, T0.b2⟩⟩)
              (first
                | (go_at_call 81; refine hcm.mono ?_; rintro e w6 ⟨rfl, hb6⟩
                   have T6 := T0.below hb6
                   have HB6 : Hid (Below wo.heap.size wo w6) := bsplit HB.out.drew hb6
                   clear hcm hb6)
                | fail)
            clear T0 d0 d1 d2 c0 c1 c2 hcel
            have e9 := T6.p
            go_wp2_with fail
            go_roundg (n - (jj + 1))
            case measure => exact q1
            case rel => exact ⟨jj + 1, q2, by show _ = Value.pointer (some ⟨nb l ts (jj + 1), 0, none⟩); rw [HTB.out.1], HLT2, HH2, HB6⟩
          · have hltE : ltE ts[jj].e K = false := by rw [ht]; exact decide_eq_false (by rw [hcr]; exact hlt)
            have HPR : Hid (PredT ts K h a') := ⟨han, HLT.out, HH.out, fun i hi hai hr => by
              by_cases hij : i < jj
              · exact absurd hr (hno i hi hai hij)
              · exact no_suf HS.out.ris hjj hltE i hi (by omega)⟩
            clear hf hno hS2 han rx ry hent ex htb hnl hsq hek hcr ht c3 hltE hjh bp9 fp9
            go_wp2_with fail
            go_region_held3 (fun w' => w'.cell? ⟨nb l ts a', 4 + h, none⟩ = some (.pointer (some ⟨tb, 0, none⟩)) ∧ (w'.cell? ⟨tb, 0, none⟩ = some (.slice x1 nl x2) ∧ w'.cell? ⟨tb, 1, none⟩ = some (.int .u64 sq) ∧ w'.cell? ⟨tb, 2, none⟩ = some (.int .u8 ek)) ∧ (w'.cell? ⟨w.heap.size, 0, none⟩ = some (.slice ka kn kc) ∧ w'.cell? ⟨w.heap.size, 1, none⟩ = some (.int .u64 ks) ∧ w'.cell? ⟨w.heap.size, 2, none⟩ = some (.int .u8 kk)))
              (first | with_reducible exact ⟨T6.p, ⟨T6.a0, T6.a1, T6.a2⟩, ⟨T6.b0, T6.b1, T6.b2⟩⟩ | exact ⟨T0.p, ⟨T0.a0, T0.a1, T0.a2⟩, ⟨T0.b0, T0.b1, T0.b2⟩⟩)
              (first
                | (go_at_call 81; refine hcm.mono ?_; rintro e w6 ⟨rfl, hb6⟩
                   have T6 := T0.below hb6
                   have HB6 : Hid (Below wo.heap.size wo w6) := bsplit HB.out.drew hb6
                   clear hcm hb6)
                | fail)
            have bp9 := (HI.out.bp.below HB6.out).cel h (by omega)
            have fp9 := (HI.out.bp.below HB6.out).frz h (by omega)
            simp only [show ¬ h + 1 ≤ h by omega, if_false] at bp9
            have BEL : Below wo.heap.size wo w6 := HB6.out
            clear T0 T6 d0 d1 d2 c0 c1 c2 hcel
            go_wp2_with fail
            go_roundg h
            case measure => exact Nat.lt_succ_self h
            case rel => exact ⟨h, a', fun r => if r = h then a' else A r, rfl, rfl, rfl, by omega, HI.out.next BEL HPR.out (by omega)⟩

end Go.Proofs.Ytgphjgpibjhbjaa

/- bartizanref03.Few: entries, not too many, nor too long; Twins: entries of their own. -/
namespace Go.Proofs.Ytgphjgpibjhbjaa
open Go.RowKit
set_option linter.unusedVariables false

/-- an entry, cut -/
def cutE (e : EnB) : EnB := (e.1.take 80, e.2.1, e.2.2.1, e.2.2.2.take 600)

def fewE (n : Nat) (es : List EnB) : List EnB := (es.take n).map cutE

theorem fewE_take {n : Nat} {es : List EnB} {j : Nat} (h : j < es.length) (hn : j < n) : fewE n (es.take (j + 1)) = fewE n (es.take j) ++ [cutE es[j]] := by
  unfold fewE
  rw [List.take_take, List.take_take, Nat.min_eq_right (by omega), Nat.min_eq_right (by omega), List.take_succ_eq_append_getElem h, List.map_append]
  rfl

theorem fewE_stay {n : Nat} {es : List EnB} {j : Nat} (hn : ¬ j < n) : fewE n (es.take (j + 1)) = fewE n (es.take j) := by
  unfold fewE
  rw [List.take_take, List.take_take, Nat.min_eq_left (by omega), Nat.min_eq_left (by omega)]

theorem fewE_len (n : Nat) (es : List EnB) : (fewE n es).length ≤ n := by
  unfold fewE; rw [List.length_map, List.length_take]; omega

theorem ownrow_len {B n m c : Nat} {w : World} {a : Option Addr} {e : TypeId} {s : Nat} {cs : List Value} (h : w.ownsRow B e s (.slice a m c) n cs) : m = n := by
  rcases h.2 with ⟨e1, e2⟩ | ⟨g, cap', cur, e1, _⟩
  · cases e1; exact e2.symm
  · cases e1; rfl

theorem own_ne_new {B n : Nat} {w : World} {v : Value} {e : TypeId} {s : Nat} {cs : List Value} (h : w.ownsRow B e s v n cs) : some w.heap.size ≠ v.ownBlock := by
  intro e'
  have := (h.lt _ e'.symm).2
  omega

end Go.Proofs.Ytgphjgpibjhbjaa

/- bartizanref03.Twin, Twins: entries of their own. -/
namespace Go.Proofs.Ytgphjgpibjhbjaa
open Go.RowKit
set_option linter.unusedVariables false

/-- an entry's value -/
abbrev enV (x : Value) (s k : Int) (y : Value) : Value := .agg #[x, .int .u64 s, .int .u8 k, y]

end Go.Proofs.Ytgphjgpibjhbjaa

/- skip's small functions. -/
namespace Go.Proofs.Ytgphjgpibjhbjaa
set_option maxRecDepth 20000
open Go.RowKit
set_option linter.unusedVariables false
set_option linter.unusedSimpArgs false

theorem isRow_any (w : World) (h : Int) (r : Bool) (hr : decide (1 ≤ h ∧ h ≤ 8) = r) :
    Calls Try.prog 73 #[.int .i64 h] w fun e w' => e = .returned (.bool r) ∧ w' = w := by
  by_cases h1 : 1 ≤ h
  · by_cases h2 : h ≤ 8
    · have : r = true := by rw [← hr]; simp [h1, h2]
      subst this
      clear hr
      go_enter Try.func73, Try.ntmps73
      go_wp2
      go_ret
      exact ⟨rfl, rfl⟩
    · have : r = false := by rw [← hr]; simp [h2]
      subst this
      clear hr
      go_enter Try.func73, Try.ntmps73
      go_wp2
      go_ret
      exact ⟨ret_bool (by simp), rfl⟩
  · have : r = false := by rw [← hr]; simp; omega
    subst this
    clear hr
    go_enter Try.func73, Try.ntmps73
    go_wp2
    go_ret
    exact ⟨rfl, rfl⟩

/-- may an entry of this height be inserted? -/
def chkSk (e : EnB) (h : Int) : Int := if chk e.1.length (e.2.1 : Int) (e.2.2.1.toNat : Int) = 0 then (if 1 ≤ h ∧ h ≤ 8 then (if 512 < e.2.2.2.length then 3 else 0) else 1) else chk e.1.length (e.2.1 : Int) (e.2.2.1.toNat : Int)

set_option maxHeartbeats 2000000 in
theorem skcheck_any (w : World) (xa ya : Option Addr) (xc yc : Nat) (e : EnB) (h c : Int) (hc : chkSk e h = c) :
    Calls Try.prog 80 #[enV (.slice xa e.1.length xc) (e.2.1 : Int) (e.2.2.1.toNat : Int) (.slice ya e.2.2.2.length yc), .int .i64 h] w fun o w' => o = .returned (.int .i64 c) ∧ Below w.heap.size w w' := by
  obtain ⟨nl, hnl⟩ : ∃ z, e.1.length = z := ⟨_, rfl⟩
  obtain ⟨ml, hml⟩ : ∃ z, e.2.2.2.length = z := ⟨_, rfl⟩
  obtain ⟨s, hs⟩ : ∃ z : Int, (e.2.1 : Int) = z := ⟨_, rfl⟩
  obtain ⟨k, hk⟩ : ∃ z : Int, (e.2.2.1.toNat : Int) = z := ⟨_, rfl⟩
  obtain ⟨ck, hck⟩ : ∃ z, chk nl s k = z := ⟨_, rfl⟩
  unfold chkSk at hc
  rw [hnl, hml, hs, hk, hck] at hc
  rw [hnl, hml, hs, hk]
  have HC : Hid ((if ck = 0 then (if 1 ≤ h ∧ h ≤ 8 then (if 512 < ml then 3 else 0) else 1) else ck) = c) := hc
  have hb0 := below_box4 w (.cells #[.slice xa nl xc, .int .u64 s, .int .u8 k, .slice ya ml yc] 44)
  have HB0 : Hid (Below w.heap.size w (w.alloc (.cells #[.slice xa nl xc, .int .u64 s, .int .u8 k, .slice ya ml yc] 44))) := hb0
  have B0 := box4_new w (.slice xa nl xc) (.int .u64 s) (.int .u8 k) (.slice ya ml yc) 44
  have hcv := check_any (w.alloc (.cells #[.slice xa nl xc, .int .u64 s, .int .u8 k, .slice ya ml yc] 44)) xa nl xc s k (by omega) (by omega)
  rw [hck] at hcv
  obtain ⟨c0, c1, c2, c3⟩ := B0
  have B0 := box4_new w (.slice xa nl xc) (.int .u64 s) (.int .u8 k) (.slice ya ml yc) 44
  clear hc hnl hml hs hk hck hb0
  go_enter Try.func80, Try.ntmps80
  go_wp2_with fail
  refine hcv.mono ?_
  rintro o w1 ⟨rfl, hb1⟩
  have HB1 : Hid (Below w.heap.size w w1) := bsplit HB0.out hb1
  clear c0 c1 c2 c3
  obtain ⟨c0, c1, c2, c3⟩ := B0.below hb1 (Nat.le_refl _)
  clear hcv hb1
  by_cases h0 : ck = 0
  · subst h0
    by_cases hr : 1 ≤ h ∧ h ≤ 8
    · have hir := isRow_any w1 h true (decide_eq_true hr)
      by_cases hm : 512 < ml
      · have hmI : (512 : Int) < (ml : Int) := by omega
        have HE : Hid (c = 3) := by show c = 3; rw [← HC.out, if_pos rfl, if_pos hr, if_pos hm]
        clear hr
        go_wp2_with fail
        refine hir.mono ?_
        rintro o w2 ⟨rfl, rfl⟩
        go_wp2
        go_ret
        exact ⟨by rw [HE.out]; rfl, HB1.out⟩
      · have hmI : ¬ (512 : Int) < (ml : Int) := by omega
        have HE : Hid (c = 0) := by show c = 0; rw [← HC.out, if_pos rfl, if_pos hr, if_neg hm]
        clear hr
        go_wp2_with fail
        refine hir.mono ?_
        rintro o w2 ⟨rfl, rfl⟩
        go_wp2
        go_ret
        exact ⟨by rw [HE.out]; rfl, HB1.out⟩
    · have hir := isRow_any w1 h false (decide_eq_false hr)
      have HE : Hid (c = 1) := by show c = 1; rw [← HC.out, if_pos rfl, if_neg hr]
      clear hr
      go_wp2_with fail
      refine hir.mono ?_
      rintro o w2 ⟨rfl, rfl⟩
      go_wp2
      go_ret
      exact ⟨by rw [HE.out]; rfl, HB1.out⟩
  · have h0b : (ck == 0) = false := by simpa using h0
    have HE : Hid (c = ck) := by show c = ck; rw [← HC.out, if_neg h0]
    go_wp2
    go_ret
    exact ⟨by rw [HE.out]; rfl, HB1.out⟩

theorem ltB_ownN {B : Nat} {w : World} {x : Value} {l : List UInt8} (h : OwnN B w x l) : LtB w x := fun q hq => by
  rcases h with ⟨rfl, _⟩ | h
  · simp [Value.ownBlock] at hq
  · obtain ⟨g, k, e⟩ := h.shape
    subst e
    simp only [Value.ownBlock, Option.some.injEq] at hq
    subst hq
    exact h.lt.2

theorem from_ownN {B : Nat} {w : World} {x : Value} {l : List UInt8} (h : OwnN B w x l) : From B x := fun a n c e => by
  rcases h with ⟨h, _⟩ | h
  · rw [h] at e; cases e
  · exact h.from a n c e

theorem Box4.other {w : World} {b : Nat} {v0 v1 v2 v3 : Value} (h : Box4 w b v0 v1 v2 v3) (p : Addr) (hne : b ≠ p.block) (u : Value) : Box4 (w.setCell p u) b v0 v1 v2 v3 :=
  ⟨by rw [cell_other w p ⟨b, 0, none⟩ u hne]; exact h.c0, by rw [cell_other w p ⟨b, 1, none⟩ u hne]; exact h.c1, by rw [cell_other w p ⟨b, 2, none⟩ u hne]; exact h.c2, by rw [cell_other w p ⟨b, 3, none⟩ u hne]; exact h.c3⟩

theorem box_other4 {w : World} {b b' : Nat} {v0 v1 v2 : Value} (h : Box w b v0 v1 v2) (hne : b ≠ b') (u0 u1 u2 u3 : Value) : Box ((((w.setCell ⟨b', 0, none⟩ u0).setCell ⟨b', 1, none⟩ u1).setCell ⟨b', 2, none⟩ u2).setCell ⟨b', 3, none⟩ u3) b v0 v1 v2 :=
  (((h.other ⟨b', 0, none⟩ hne u0).other ⟨b', 1, none⟩ hne u1).other ⟨b', 2, none⟩ hne u2).other ⟨b', 3, none⟩ hne u3

theorem rd_store3 {w : World} {v : Value} {l : List UInt8} {b : Nat} (h : Rd w v l) (hb : ∀ g, v.ownBlock = some g → g ≠ b) (u0 u1 u2 : Value) : Rd (((w.setCell ⟨b, 0, none⟩ u0).setCell ⟨b, 1, none⟩ u1).setCell ⟨b, 2, none⟩ u2) v l := by
  rcases h with h | ⟨g, off, cap, rfl, h1, h2, h3⟩
  · exact .inl h
  · have h0 : Rd w (.slice (some ⟨g, off, none⟩) l.length cap) l := .inr ⟨g, off, cap, rfl, h1, h2, h3⟩
    have hne := hb g rfl
    exact ((h0.other ⟨b, 0, none⟩ hne u0).other ⟨b, 1, none⟩ hne u1).other ⟨b, 2, none⟩ hne u2

theorem from_ne {B b : Nat} {v : Value} (hf : From B v) (h : b < B) : ∀ g, v.ownBlock = some g → g ≠ b := fun g hg => by
  cases v with
  | slice a n c =>
    cases a with
    | none => simp [Value.ownBlock] at hg
    | some a =>
      have h9 := hf a n c rfl
      simp only [Value.ownBlock, Option.some.injEq] at hg
      omega
  | _ => simp [Value.ownBlock] at hg

theorem clone_keep {W w2 : World} {o : Obj} {x : Value} {l : List UInt8} (h : OwnN (W.alloc o).drew.heap.size w2 x l) (u0 u1 u2 : Value) : Rd (((w2.setCell ⟨W.heap.size, 0, none⟩ u0).setCell ⟨W.heap.size, 1, none⟩ u1).setCell ⟨W.heap.size, 2, none⟩ u2) x l ∧ From W.heap.size x ∧ LtB (((w2.setCell ⟨W.heap.size, 0, none⟩ u0).setCell ⟨W.heap.size, 1, none⟩ u1).setCell ⟨W.heap.size, 2, none⟩ u2) x := by
  have hs : (W.alloc o).drew.heap.size = W.heap.size + 1 := by simp
  have hf := from_ownN h
  rw [hs] at hf
  exact ⟨rd_store3 h.rd (from_ne hf (Nat.lt_succ_self _)) _ _ _, fun a n c e => by have := hf a n c e; omega, (ltB_ownN h).grow (by simp)⟩

theorem box_stored {w : World} {b : Nat} {v0 v1 v2 : Value} (h : Box w b v0 v1 v2) (u0 u1 u2 : Value) : Box (((w.setCell ⟨b, 0, none⟩ u0).setCell ⟨b, 1, none⟩ u1).setCell ⟨b, 2, none⟩ u2) b u0 u1 u2 :=
  ⟨by simp [go_sem, h.c0, h.c1, h.c2], by simp [go_sem, h.c0, h.c1, h.c2], by simp [go_sem, h.c0, h.c1, h.c2], by simp [go_sem, h.f0], by simp [go_sem, h.f1], by simp [go_sem, h.f2]⟩

set_option maxHeartbeats 4000000 in
theorem skapart_any (w : World) (xv yv : Value) (l m : List UInt8) (s k : Int) (hx : Rd w xv l) (hy : Rd w yv m) (hl : l.length ≤ 1000000) (hm : m.length ≤ 1000000) :
    Calls Try.prog 61 #[enV xv s k yv] w fun e w' => ∃ x y, e = .returned (enV x s k y) ∧ (Rd w' x l ∧ From (w.heap.size + 2) x) ∧ (Rd w' y m ∧ From (w.heap.size + 2) y) ∧ (LtB w' x ∧ LtB w' y) ∧ Below w.heap.size w w' := by
  obtain ⟨xa, xc, rfl⟩ := hx.len
  obtain ⟨ya, yc, rfl⟩ := hy.len
  obtain ⟨nl, hnl⟩ : ∃ z, l.length = z := ⟨_, rfl⟩
  obtain ⟨ml, hml⟩ : ∃ z, m.length = z := ⟨_, rfl⟩
  have HNL : Hid (l.length = nl ∧ m.length = ml ∧ nl ≤ 1000000 ∧ ml ≤ 1000000) := ⟨hnl, hml, by omega, by omega⟩
  rw [hnl] at hx ⊢
  rw [hml] at hy ⊢
  have hb0 := below_box4 w (.cells #[.slice xa nl xc, .int .u64 s, .int .u8 k, .slice ya ml yc] 44)
  have hb1 := below_box4 (w.alloc (.cells #[.slice xa nl xc, .int .u64 s, .int .u8 k, .slice ya ml yc] 44)) (.cells #[.slice none 0 0, .int .u64 0, .int .u8 0, .slice none 0 0] 44)
  have s1 : (w.alloc (.cells #[.slice xa nl xc, .int .u64 s, .int .u8 k, .slice ya ml yc] 44)).heap.size = w.heap.size + 1 := by simp
  have s2 : ((w.alloc (.cells #[.slice xa nl xc, .int .u64 s, .int .u8 k, .slice ya ml yc] 44)).alloc (.cells #[.slice none 0 0, .int .u64 0, .int .u8 0, .slice none 0 0] 44)).heap.size = w.heap.size + 2 := by simp
  have BE := (box4_new w (.slice xa nl xc) (.int .u64 s) (.int .u8 k) (.slice ya ml yc) 44).below hb1 (Nat.le_refl _)
  have BR := box4f_new (w.alloc (.cells #[.slice xa nl xc, .int .u64 s, .int .u8 k, .slice ya ml yc] 44)) (.slice none 0 0) (.int .u64 0) (.int .u8 0) (.slice none 0 0) 44
  rw [s1] at BR
  obtain ⟨W, hW⟩ : ∃ W, (w.alloc (.cells #[.slice xa nl xc, .int .u64 s, .int .u8 k, .slice ya ml yc] 44)).alloc (.cells #[.slice none 0 0, .int .u64 0, .int .u8 0, .slice none 0 0] 44) = W := ⟨_, rfl⟩
  have hBW := bsplit hb0 hb1
  rw [hW] at BE BR hBW s2
  have HBW : Hid (Below w.heap.size w W) := hBW
  have HSZ : Hid (W.heap.size = w.heap.size + 2) := s2
  have HX : Hid (∀ V, Below W.heap.size W V → Arg V (.slice xa nl xc) l) := fun V hV => ((hx.below hBW (Nat.le_refl _)).below hV (Nat.le_refl _)).arg
  have HY : Hid (∀ V, Below W.heap.size W V → Arg V (.slice ya ml yc) m) := fun V hV => ((hy.below hBW (Nat.le_refl _)).below hV (Nat.le_refl _)).arg
  have pW0 : Below W.heap.size W W.drew := (Below.refl _ _).drew
  have pW1 : Below W.heap.size W (W.alloc (.cells #[.slice none 0 0, .int .u64 0, .int .u8 0] 42)).drew := (below_box4 W _).drew
  have BK1 := (box_new W (.slice none 0 0) (.int .u64 0) (.int .u8 0) 42).drew
  have BE0 := BE.below pW0 (Nat.le_refl _)
  have BE1 := BE.below pW1 (Nat.le_refl _)
  clear hx hy hl hm hnl hml hb0 hb1 s1 s2 hBW
  go_enter Try.func61, Try.ntmps61
  go_upto_region 1 with fail
  clear hW
  go_cut [3] (fun kv wx => ∃ (bk : Nat) (xa2 : Option Addr) (xc2 : Nat), kv = .pointer (some ⟨bk, 0, none⟩) ∧ W.heap.size ≤ bk ∧ Hid (Box wx bk (.slice xa2 nl xc2) (.int .u64 s) (.int .u8 k)) ∧ Hid (Rd wx (.slice xa2 nl xc2) l ∧ From W.heap.size (.slice xa2 nl xc2) ∧ LtB wx (.slice xa2 nl xc2)) ∧ Hid (Below W.heap.size W wx))
  case first =>
    go_region_held3 (fun w' => w'.cell? ⟨w.heap.size, 0, none⟩ = some (.slice xa nl xc) ∧ w'.cell? ⟨w.heap.size, 1, none⟩ = some (.int .u64 s) ∧ w'.cell? ⟨w.heap.size, 2, none⟩ = some (.int .u8 k))
      (first | with_reducible exact ⟨BE4.c0, BE4.c1, BE4.c2⟩ | with_reducible exact ⟨BE3.c0, BE3.c1, BE3.c2⟩ | with_reducible exact ⟨BE2s.c0, BE2s.c1, BE2s.c2⟩ | with_reducible exact ⟨BE2.c0, BE2.c1, BE2.c2⟩ | with_reducible exact ⟨BE1.c0, BE1.c1, BE1.c2⟩ | exact ⟨BE0.c0, BE0.c1, BE0.c2⟩)
      (first
        | (go_at_call 74
           refine (clone_any _ _ l (by first | with_reducible exact HX.out _ pW0 | with_reducible exact HX.out _ pW1) (by have := HNL.out; omega)).mono ?_
           rintro e w2 ⟨x2, rfl, o2, hb2⟩
           obtain ⟨xa2, xc2, ex2⟩ := o2.rd.len
           rw [HNL.out.1] at ex2
           subst ex2
           have HB2 : Hid (Below W.heap.size W w2) := by first | exact bsplit pW0 hb2 | exact bsplit pW1 hb2
           have BE2 := BE.below HB2.out (Nat.le_refl _)
           have BE4 := BE2.below (below_box4 w2 (.cells #[.slice none 0 0, .int .u64 0, .int .u8 0] 42)) (Nat.le_refl _)
           have BE3 := BE2.below (below_box4 w2 (.cells #[.slice xa2 nl xc2, .int .u64 s, .int .u8 k] 42)) (Nat.le_refl _)
           have BE2s : Box4 (((w2.setCell ⟨W.heap.size, 0, none⟩ (.slice xa2 nl xc2)).setCell ⟨W.heap.size, 1, none⟩ (.int .u64 s)).setCell ⟨W.heap.size, 2, none⟩ (.int .u8 k)) w.heap.size (.slice xa nl xc) (.int .u64 s) (.int .u8 k) (.slice ya ml yc) := by
             have hne : w.heap.size ≠ W.heap.size := by rw [HSZ.out]; omega
             exact ((BE2.other ⟨W.heap.size, 0, none⟩ hne _).other ⟨W.heap.size, 1, none⟩ hne _).other ⟨W.heap.size, 2, none⟩ hne _
           first
             | (have BK2 := BK1.below hb2 (Nat.le_refl _)
                obtain ⟨c0, c1, c2, f0, f1, f2⟩ := BK2)
             | skip)
        | fail)
    all_goals (go_wp2_with fail; go_meet; first
      | exact ⟨_, xa2, xc2, rfl, HB2.out.size, box_new w2 _ _ _ _, ⟨o2.rd.below (below_box4 w2 _) (Nat.le_refl _), from_ownN o2, (ltB_ownN o2).grow (below_box4 w2 _).size⟩, bsplit HB2.out (below_box4 w2 _)⟩
      | exact ⟨_, xa2, xc2, rfl, Nat.le_refl _, box_stored (BK1.below hb2 (Nat.le_refl _)) _ _ _, clone_keep o2 _ _ _, below_store3 HB2.out (Nat.le_refl _) _ _ _⟩)
  case rest =>
    obtain ⟨bk, xa2, xc2, rfl, hbk, BK, HX2, HB2⟩ := hcut
    have hcl := clone_any wc.drew _ m (arg_drew (HY.out _ HB2.out)) (by have := HNL.out; omega)
    have BEc := (BE.below HB2.out (Nat.le_refl _)).drew
    have BKc := BK.out.drew
    have BRc := BR.below HB2.out (Nat.le_refl _)
    have HBX : Hid (Below w.heap.size w wc) := bsplit HBW.out HB2.out
    have HWC : Hid (w.heap.size + 2 ≤ wc.heap.size) := by have := HB2.out.size; rw [HSZ.out] at this; exact this
    have HNE : Hid (w.heap.size ≠ w.heap.size + 1 ∧ bk ≠ w.heap.size + 1) := ⟨by omega, by rw [HSZ.out] at hbk; omega⟩
    clear pW0 pW1 BK1 BE0 BE1
    obtain ⟨d0, d1, d2, d3⟩ := BEc
    have BEc := (BE.below HB2.out (Nat.le_refl _)).drew
    obtain ⟨e0, e1, e2, _⟩ := BK.out
    go_wp2_with fail
    go_region_held3 (fun w' => (w'.cell? ⟨bk, 0, none⟩ = some (.slice xa2 nl xc2) ∧ w'.cell? ⟨bk, 1, none⟩ = some (.int .u64 s) ∧ w'.cell? ⟨bk, 2, none⟩ = some (.int .u8 k)) ∧ w'.cell? ⟨w.heap.size, 3, none⟩ = some (.slice ya ml yc))
      (first | with_reducible exact ⟨⟨b7.c0, b7.c1, b7.c2⟩, E7.c3⟩ | with_reducible exact ⟨⟨b6.c0, b6.c1, b6.c2⟩, E6.c3⟩ | exact ⟨⟨BKc.c0, BKc.c1, BKc.c2⟩, BEc.c3⟩)
      (first
        | (go_at_call 74; refine hcl.mono ?_; rintro e w6 ⟨y, rfl, oy, hb6⟩
           obtain ⟨ya2, yc2, ey2⟩ := oy.rd.len
           rw [HNL.out.2.1] at ey2
           subst ey2
           have HB6 : Hid (Below w.heap.size w w6) := bsplit HBX.out.drew hb6
           obtain ⟨⟨c0, c1, c2, c3⟩, f0, f1, f2, f3⟩ := BRc.below (bsplit (Below.refl _ _).drew hb6) (Nat.le_refl _)
           have b6 := BKc.below hb6 (Nat.le_refl _)
           have E6 := BEc.below hb6 (Nat.le_refl _)
           have b7 := box_other4 b6 HNE.out.2 (.slice xa2 nl xc2) (.int .u64 s) (.int .u8 k) (.slice ya2 ml yc2)
           have E7 := E6.stored (w.heap.size + 1) HNE.out.1 (.slice xa2 nl xc2) (.int .u64 s) (.int .u8 k) (.slice ya2 ml yc2)
           have HX6 : Hid (Rd w6 (.slice xa2 nl xc2) l ∧ From (w.heap.size + 2) (.slice xa2 nl xc2)) := ⟨HX2.out.1.drew.below hb6 (Nat.le_refl _), by rw [← HSZ.out]; exact HX2.out.2.1⟩
           have HLB : Hid (LtB w6 (.slice xa2 nl xc2) ∧ LtB w6 (.slice ya2 ml yc2)) := ⟨HX2.out.2.2.grow hb6.size, ltB_ownN oy⟩
           have HY6 : Hid (Rd w6 (.slice ya2 ml yc2) m ∧ From (w.heap.size + 2) (.slice ya2 ml yc2)) := ⟨oy.rd, fun a n c e => Nat.le_trans HWC.out (from_ownN oy a n c e)⟩
           clear hb6 oy)
        | fail)
    clear hcl d0 d1 d2 d3 e0 e1 e2 BKc BEc b6 b7 E6 E7
    go_wp2
    refine bodyPost_ret (v := enV (.slice xa2 nl xc2) s k (.slice ya2 ml yc2)) (by simp [results, Try.results61, go_sem, c0, c1, c2, c3]) rfl ⟨_, _, rfl, ⟨rd_store4 HX6.out.1 (from_ne HX6.out.2 (by omega)) _ _ _ _, HX6.out.2⟩, ⟨rd_store4 HY6.out.1 (from_ne HY6.out.2 (by omega)) _ _ _ _, HY6.out.2⟩, ⟨HLB.out.1.grow (by simp), HLB.out.2.grow (by simp)⟩, below_store4 HB6.out (Nat.le_succ _) _ _ _ _⟩

end Go.Proofs.Ytgphjgpibjhbjaa

/- skip.New, (*skip.List).From, Before. -/
namespace Go.Proofs.Ytgphjgpibjhbjaa
set_option maxRecDepth 20000
open Go.RowKit
set_option linter.unusedVariables false
set_option linter.unusedSimpArgs false

theorem sknew_any (w : World) :
    Calls Try.prog 33 #[] w fun e w' => e = .returned (.pointer (some ⟨w.heap.size, 0, none⟩)) ∧ SkAt w' w.heap.size [] ∧ Below w.heap.size w w' := by
  go_enter Try.func33, Try.ntmps33
  go_wp2
  go_ret
  refine ⟨rfl, ?_, below_box4 w _⟩
  refine ⟨fun a ha => ?_, fun t ht => by simp at ht, fun a b ha hb _ => by simp at ha hb; omega, fun t ht => by simp at ht, fun t ht => by simp at ht, rfl, by simp, fun t ht => by simp at ht⟩
  have ha0 : a = 0 := by simpa using ha
  subst ha0
  have h := heap_alloc_new w (.cells #[.slice none 0 0, .int .u64 0, .int .u8 0, .slice none 0 0, .pointer none, .pointer none, .pointer none, .pointer none, .pointer none, .pointer none, .pointer none, .pointer none] 112)
  refine ⟨fun r hr => ?_, fun r hr => frozen_of_row _ w.heap.size (4 + r) _ 112 h, ⟨_, _, h⟩⟩
  have c := cell_of_row _ w.heap.size (4 + r) _ 112 (0, 0) h
  have : r = 0 ∨ r = 1 ∨ r = 2 ∨ r = 3 ∨ r = 4 ∨ r = 5 ∨ r = 6 ∨ r = 7 := by omega
  rcases this with rfl | rfl | rfl | rfl | rfl | rfl | rfl | rfl <;> exact c.trans rfl

/-- what is found: an entry, or none -/
def FoundE (q : Option EnB) (w w' : World) (o : Ending) : Prop :=
  Below w.heap.size w w' ∧ match q with
    | none => o = .returned (.tuple #[enV (.slice none 0 0) 0 0 (.slice none 0 0), .bool false])
    | some e => ∃ x y, o = .returned (.tuple #[enV x (e.2.1 : Int) (e.2.2.1.toNat : Int) y, .bool true]) ∧ (Rd w' x e.1 ∧ From w.heap.size x) ∧ (Rd w' y e.2.2.2 ∧ From w.heap.size y)

theorem infoTow : (Try.prog.info? 110).map (fun i => (i.zero, i.size, i.bytes)) = some (some (.agg #[.slice none 0 0, .int .u64 0, .int .u8 0, .slice none 0 0, .pointer none, .pointer none, .pointer none, .pointer none, .pointer none, .pointer none, .pointer none, .pointer none]), 12, 128) := by kernel_rfl

/-- in the lowest row stand all -/
theorem fst_low {ts : List Tow} (hh : ∀ t ∈ ts, 1 ≤ t.h ∧ t.h ≤ 8) (c : Nat) : fstT (ts.drop c) 0 = (ts[c]?).map (·.b) := by
  rcases fst_drop ts c 0 with ⟨h1, h2⟩ | ⟨j, hj, h1, h2, h3, h4⟩
  · rw [h1]
    by_cases hc : c < ts.length
    · exact absurd (by have := (hh _ (List.getElem_mem hc)).1; omega) (h2 c hc (Nat.le_refl _))
    · rw [List.getElem?_eq_none (by omega)]; rfl
  · by_cases hcj : c = j
    · subst hcj; rw [h3, List.getElem?_eq_getElem hj]; rfl
    · exact absurd (by have := (hh _ (List.getElem_mem (show c < ts.length by omega))).1; omega) (h4 c (by omega) (Nat.le_refl _) (by omega))

set_option maxHeartbeats 4000000 in
theorem skfrom_any (w : World) (l : Nat) (ts : List Tow) (kv : Value) (K : EnB) (hS : SkAt w l ts) (hk : Rd w kv K.1) (hsm : ∀ t ∈ ts, t.e.1.length ≤ 1000000 ∧ t.e.2.2.2.length ≤ 1000000) :
    Calls Try.prog 63 #[.pointer (some ⟨l, 0, none⟩), .agg #[kv, .int .u64 (K.2.1 : Int), .int .u8 (K.2.2.1.toNat : Int)]] w fun o w' => FoundE ((esT ts)[cntE (esT ts) K]?) w w' o := by
  have HS : Hid (SkAt w l ts) := hS
  have HSM : Hid (∀ t ∈ ts, t.e.1.length ≤ 1000000 ∧ t.e.2.2.2.length ≤ 1000000) := hsm
  obtain ⟨ka, kc, rfl⟩ := hk.len
  obtain ⟨kn, hkn⟩ : ∃ n, K.1.length = n := ⟨_, rfl⟩
  obtain ⟨ks, hks⟩ : ∃ z : Int, (K.2.1 : Int) = z := ⟨_, rfl⟩
  obtain ⟨kk, hkk⟩ : ∃ z : Int, (K.2.2.1.toNat : Int) = z := ⟨_, rfl⟩
  have hb0 := below_box w #[.slice ka kn kc, .int .u64 ks, .int .u8 kk] 42
  have hb1 := below_box4 (w.alloc (.cells #[.slice ka kn kc, .int .u64 ks, .int .u8 kk] 42)) (.cells #[.slice none 0 0, .int .u64 0, .int .u8 0, .slice none 0 0] 44)
  have s1 : (w.alloc (.cells #[.slice ka kn kc, .int .u64 ks, .int .u8 kk] 42)).heap.size = w.heap.size + 1 := by simp
  have s2 : ((w.alloc (.cells #[.slice ka kn kc, .int .u64 ks, .int .u8 kk] 42)).alloc (.cells #[.slice none 0 0, .int .u64 0, .int .u8 0, .slice none 0 0] 44)).heap.size = w.heap.size + 2 := by simp
  have BK := (box_new w (.slice ka kn kc) (.int .u64 ks) (.int .u8 kk) 42).below hb1 (Nat.le_refl _)
  have BR := box4f_new (w.alloc (.cells #[.slice ka kn kc, .int .u64 ks, .int .u8 kk] 42)) (.slice none 0 0) (.int .u64 0) (.int .u8 0) (.slice none 0 0) 44
  rw [s1] at BR
  obtain ⟨W, hW⟩ : ∃ W, (w.alloc (.cells #[.slice ka kn kc, .int .u64 ks, .int .u8 kk] 42)).alloc (.cells #[.slice none 0 0, .int .u64 0, .int .u8 0, .slice none 0 0] 44) = W := ⟨_, rfl⟩
  have hBW := bsplit hb0 hb1
  rw [hW] at BK BR hBW s2
  have HBW : Hid (Below w.heap.size w W) := hBW
  have HSZ : Hid (W.heap.size = w.heap.size + 2) := s2
  have hah := ahead_any W l ts (.slice ka K.1.length kc) K (hS.below hBW) (hk.below hBW (Nat.le_refl _))
  rw [hkn, hks, hkk] at hah
  rw [hkn, hks, hkk]
  obtain ⟨Q, hQ⟩ : ∃ Q, ((esT ts)[cntE (esT ts) K]?) = Q := ⟨_, rfl⟩
  have HQ : Hid (((esT ts)[cntE (esT ts) K]?) = Q) := hQ
  rw [hQ]
  obtain ⟨d0, d1, d2, _⟩ := BK
  clear hS hk hkn hks hkk hb0 hb1 s1 s2 hBW hsm hQ
  go_enter Try.func63, Try.ntmps63
  go_wp2_with fail
  clear hW
  refine hah.mono ?_
  rintro o w1 ⟨A, rfl, hA, hb1⟩
  have HB1 : Hid (Below w.heap.size w w1) := bsplit HBW.out hb1
  have BR1 := BR.below hb1 (Nat.le_refl _)
  have h0 := hA 0 (by omega)
  have hcnt := h0.cnt HS.out.ht
  have hcl := h0.le
  obtain ⟨c, hc⟩ : ∃ c, A 0 = c := ⟨_, rfl⟩
  rw [hc] at hcnt hcl
  simp only [hc]
  have i0 : ∀ V : World, (Instr.index 108 (.agg #[ndP l ts c, ndP l ts (A 1), ndP l ts (A 2), ndP l ts (A 3), ndP l ts (A 4), ndP l ts (A 5), ndP l ts (A 6), ndP l ts (A 7)]) (.int .i64 0)).run Try.prog V = .ok (ndP l ts c) V := fun _ => by kernel_rfl
  have hS1 := HS.out.below HB1.out
  clear hah hA h0 BR d0 d1 d2
  have hcel := (hS1.nod c hcl).cel 0 (by omega)
  rw [fst_low HS.out.ht, if_pos (by have := HS.out.ht; unfold nh; split <;> first | omega | (split <;> first | (rename_i t ht; have := this t (List.mem_of_getElem? ht); omega) | (rename_i ht; have := List.getElem?_eq_none_iff.1 ht; omega))), Nat.add_zero] at hcel
  by_cases hlt : c < ts.length
  · obtain ⟨t, ht⟩ : ∃ t, ts[c] = t := ⟨_, rfl⟩
    have htm : t ∈ ts := by rw [← ht]; exact List.getElem_mem hlt
    rw [List.getElem?_eq_getElem hlt, ht] at hcel
    simp only [Option.map_some, ptrT] at hcel
    have HQE : Hid (Q = some t.e) := by show Q = _; rw [← HQ.out, hcnt, List.getElem?_eq_getElem (by rw [esT_len]; exact hlt), esT_get hlt, ht]
    have hent := hS1.ent t htm
    obtain ⟨⟨c0, c1, c2, c3⟩, rx, ry⟩ := hent
    obtain ⟨x1, xc, ex⟩ := rx.len
    obtain ⟨y1, yc, ey⟩ := ry.len
    rw [ex] at c0 rx
    rw [ey] at c3 ry
    obtain ⟨tb, htb⟩ : ∃ z, t.b = z := ⟨_, rfl⟩
    obtain ⟨sq, hsq⟩ : ∃ z : Int, (t.e.2.1 : Int) = z := ⟨_, rfl⟩
    obtain ⟨ek, hek⟩ : ∃ z : Int, (t.e.2.2.1.toNat : Int) = z := ⟨_, rfl⟩
    have HSE : Hid ((t.e.2.1 : Int) = sq ∧ (t.e.2.2.1.toNat : Int) = ek) := ⟨hsq, hek⟩
    rw [hsq] at c1
    rw [hek] at c2
    have hap := skapart_any w1 (.slice x1 t.e.1.length xc) (.slice y1 t.e.2.2.2.length yc) t.e.1 t.e.2.2.2 sq ek rx ry (HSM.out t htm).1 (HSM.out t htm).2
    have HW1 : Hid (w.heap.size + 2 ≤ w1.heap.size + 2) := by show _ ≤ _; have := HB1.out.size; omega
    rw [htb] at hcel c0 c1 c2 c3
    clear rx ry ex ey hsq hek ht hS1 hcnt htm hlt
    go_wp2_with fail
    refine hap.mono ?_
    rintro o w2 ⟨x, y, rfl, rx2, ry2, _, hb2⟩
    obtain ⟨⟨r0, r1, r2, r3⟩, f0, f1, f2, f3⟩ := BR1.below hb2 (Nat.le_refl _)
    have HB2 : Hid (Below w.heap.size w w2) := bsplit HB1.out hb2
    have HX : Hid ((Rd w2 x t.e.1 ∧ From (w.heap.size + 2) x) ∧ (Rd w2 y t.e.2.2.2 ∧ From (w.heap.size + 2) y)) := ⟨⟨rx2.1, fun a n c e => by have := rx2.2 a n c e; have := HW1.out; omega⟩, ⟨ry2.1, fun a n c e => by have := ry2.2 a n c e; have := HW1.out; omega⟩⟩
    obtain ⟨xa, xc2, rfl⟩ := rx2.1.len
    obtain ⟨ya, yc2, rfl⟩ := ry2.1.len
    clear hap hb2 rx2 ry2 c0 c1 c2 c3
    go_wp2
    refine bodyPost_ret (v := .tuple #[enV (.slice xa t.e.1.length xc2) sq ek (.slice ya t.e.2.2.2.length yc2), .bool true]) (by simp [results, Try.results63, go_sem, r0, r1, r2, r3]) rfl ?_
    refine ⟨below_store4 HB2.out (Nat.le_succ _) _ _ _ _, ?_⟩
    rw [HQE.out]
    exact ⟨_, _, by rw [HSE.out.1, HSE.out.2], ⟨rd_store4 HX.out.1.1 (from_ne HX.out.1.2 (by omega)) _ _ _ _, fun a n c e => by have := HX.out.1.2 a n c e; omega⟩, ⟨rd_store4 HX.out.2.1 (from_ne HX.out.2.2 (by omega)) _ _ _ _, fun a n c e => by have := HX.out.2.2 a n c e; omega⟩⟩
  · rw [List.getElem?_eq_none (by omega)] at hcel
    simp only [Option.map_none, ptrT] at hcel
    have HQE : Hid (Q = none) := by show Q = _; rw [← HQ.out, hcnt, List.getElem?_eq_none (by rw [esT_len]; omega)]
    clear hS1 hcnt hlt
    obtain ⟨⟨r0, r1, r2, r3⟩, f0, f1, f2, f3⟩ := BR1
    go_wp2
    refine bodyPost_ret (v := .tuple #[enV (.slice none 0 0) 0 0 (.slice none 0 0), .bool false]) (by simp [results, Try.results63, go_sem, r0, r1, r2, r3]) rfl ?_
    refine ⟨below_store4 HB1.out (Nat.le_succ _) _ _ _ _, ?_⟩
    rw [HQE.out]

end Go.Proofs.Ytgphjgpibjhbjaa

/- (*skip.List).Insert. -/
namespace Go.Proofs.Ytgphjgpibjhbjaa
set_option maxRecDepth 20000
open Go.RowKit
set_option linter.unusedVariables false
set_option linter.unusedSimpArgs false

theorem arr8_of (w : World) (v0 v1 v2 v3 v4 v5 v6 v7 : Value) (t : TypeId) (V : Nat → Value) (h0 : V 0 = v0) (h1 : V 1 = v1) (h2 : V 2 = v2) (h3 : V 3 = v3) (h4 : V 4 = v4) (h5 : V 5 = v5) (h6 : V 6 = v6) (h7 : V 7 = v7) : Arr8 (w.alloc (.cells #[v0, v1, v2, v3, v4, v5, v6, v7] t)) w.heap.size V := by
  have h := heap_alloc_new w (.cells #[v0, v1, v2, v3, v4, v5, v6, v7] t)
  subst h0 h1 h2 h3 h4 h5 h6 h7
  refine ⟨fun r hr => ?_, fun r hr => frozen_of_row _ w.heap.size r _ t h⟩
  have c := cell_of_row _ w.heap.size r _ t (0, 0) h
  have : r = 0 ∨ r = 1 ∨ r = 2 ∨ r = 3 ∨ r = 4 ∨ r = 5 ∨ r = 6 ∨ r = 7 := by omega
  rcases this with rfl | rfl | rfl | rfl | rfl | rfl | rfl | rfl <;> exact c.trans rfl

theorem blk_set {w : World} {b : Nat} (h : ∃ ca ty, w.heap[b]? = some (.cells ca ty (0, 0))) (p : Addr) (u : Value) : ∃ ca ty, (w.setCell p u).heap[b]? = some (.cells ca ty (0, 0)) := by
  obtain ⟨ca, ty, h⟩ := h
  by_cases e : b = p.block
  · subst e
    simp only [World.setCell, Array.getElem?_modify, h, if_true, Option.map_some]
    exact ⟨_, _, rfl⟩
  · exact ⟨ca, ty, by rw [Below.heap_setCell _ _ _ _ e]; exact h⟩

/-- so many of the new tower's rows are done -/
structure InsI (w wr : World) (l tb : Nat) (ts : List Tow) (A : Nat → Nat) (j : Nat) : Prop where
  kp : Keeps (fun i => (∃ a, a ≤ ts.length ∧ i = nb l ts a) ∨ i = tb) w wr
  nc : ∀ a, a ≤ ts.length → ∀ r, r < 8 → wr.cell? ⟨nb l ts a, 4 + r, none⟩ = (if r < j ∧ a = A r then some (ptrT (some tb)) else w.cell? ⟨nb l ts a, 4 + r, none⟩)
  nz : ∀ a, a ≤ ts.length → ∀ r, r < 8 → wr.frozen? ⟨nb l ts a, 4 + r, none⟩ = false
  ne : ∀ a, a ≤ ts.length → ∀ i, i < 4 → wr.cell? ⟨nb l ts a, i, none⟩ = w.cell? ⟨nb l ts a, i, none⟩
  nk : ∀ a, a ≤ ts.length → ∃ ca ty, wr.heap[nb l ts a]? = some (.cells ca ty (0, 0))
  tc : ∀ r, r < 8 → wr.cell? ⟨tb, 4 + r, none⟩ = some (if r < j then ptrT (fstT (ts.drop (A r)) r) else .pointer none)
  tz : ∀ r, r < 8 → wr.frozen? ⟨tb, 4 + r, none⟩ = false
  te : ∀ i, i < 4 → wr.cell? ⟨tb, i, none⟩ = w.cell? ⟨tb, i, none⟩
  tk : ∃ ca ty, wr.heap[tb]? = some (.cells ca ty (0, 0))

theorem cell_same (w : World) (b i j : Nat) (u v : Value) (h : w.cell? ⟨b, i, none⟩ = some v) (hij : j ≠ i) : (w.setCell ⟨b, i, none⟩ u).cell? ⟨b, j, none⟩ = w.cell? ⟨b, j, none⟩ := by
  simp [go_sem, h, hij]

theorem cell_here (w : World) (b i : Nat) (u v : Value) (h : w.cell? ⟨b, i, none⟩ = some v) : (w.setCell ⟨b, i, none⟩ u).cell? ⟨b, i, none⟩ = some u := by
  simp [go_sem, h]

theorem InsI.drew {w wr : World} {l tb : Nat} {ts : List Tow} {A : Nat → Nat} {j : Nat} (h : InsI w wr l tb ts A j) : InsI w wr.drew l tb ts A j := ⟨h.kp.drew, h.nc, h.nz, h.ne, h.nk, h.tc, h.tz, h.te, h.tk⟩

/-- one row more -/
theorem InsI.step {w wr : World} {l tb : Nat} {ts : List Tow} {A : Nat → Nat} {j : Nat} (h : InsI w wr l tb ts A j) (hS : SkAt w l ts) (hj : j < 8) (hA : A j ≤ ts.length) (hnew : ∀ a, a ≤ ts.length → tb ≠ nb l ts a) (hc : w.cell? ⟨nb l ts (A j), 4 + j, none⟩ = some (ptrT (fstT (ts.drop (A j)) j))) :
    InsI w ((wr.setCell ⟨tb, 4 + j, none⟩ (ptrT (fstT (ts.drop (A j)) j))).setCell ⟨nb l ts (A j), 4 + j, none⟩ (ptrT (some tb))) l tb ts A (j + 1) := by
  have htc := h.tc j hj
  have hnc := h.nc (A j) hA j hj
  rw [if_neg (by omega), hc] at hnc
  have hnj := hnew (A j) hA
  have hnc2 : (wr.setCell ⟨tb, 4 + j, none⟩ (ptrT (fstT (ts.drop (A j)) j))).cell? ⟨nb l ts (A j), 4 + j, none⟩ = some (ptrT (fstT (ts.drop (A j)) j)) := by
    rw [cell_other wr ⟨tb, 4 + j, none⟩ ⟨nb l ts (A j), 4 + j, none⟩ _ (Ne.symm hnj)]; exact hnc
  refine ⟨?_, fun a ha r hr => ?_, fun a ha r hr => ?_, fun a ha i hi => ?_, fun a ha => ?_, fun r hr => ?_, fun r hr => ?_, fun i hi => ?_, ?_⟩
  · exact (h.kp.setCell (p := ⟨tb, 4 + j, none⟩) (.inr rfl) _).setCell (p := ⟨nb l ts (A j), 4 + j, none⟩) (.inl ⟨A j, hA, rfl⟩) _
  · by_cases e : a = A j
    · subst e
      by_cases er : r = j
      · subst er
        rw [cell_here _ _ _ _ _ hnc2, if_pos ⟨by omega, rfl⟩]
      · rw [cell_same _ _ _ _ _ _ hnc2 (by omega), cell_other wr ⟨tb, 4 + j, none⟩ ⟨nb l ts (A j), 4 + r, none⟩ _ (Ne.symm hnj), h.nc (A j) ha r hr]
        by_cases h1 : r < j ∧ A j = A r
        · rw [if_pos h1, if_pos ⟨by omega, h1.2⟩]
        · rw [if_neg h1, if_neg (fun h2 => h1 ⟨by omega, h2.2⟩)]
    · have hne : nb l ts a ≠ nb l ts (A j) := fun e2 => e (hS.inj a (A j) ha hA e2)
      rw [cell_other _ ⟨nb l ts (A j), 4 + j, none⟩ ⟨nb l ts a, 4 + r, none⟩ _ hne, cell_other wr ⟨tb, 4 + j, none⟩ ⟨nb l ts a, 4 + r, none⟩ _ (Ne.symm (hnew a ha)), h.nc a ha r hr]
      by_cases h1 : r < j ∧ a = A r
      · rw [if_pos h1, if_pos ⟨by omega, h1.2⟩]
      · rw [if_neg h1, if_neg (fun h2 => h1 ⟨by
          by_cases er : r = j
          · subst er; exact absurd h2.2 e
          · omega, h2.2⟩)]
  · rw [World.frozen?_setCell, World.frozen?_setCell]; exact h.nz a ha r hr
  · by_cases e : a = A j
    · subst e
      rw [cell_same _ _ _ _ _ _ hnc2 (by omega), cell_other wr ⟨tb, 4 + j, none⟩ ⟨nb l ts (A j), i, none⟩ _ (Ne.symm hnj)]
      exact h.ne _ ha i hi
    · have hne : nb l ts a ≠ nb l ts (A j) := fun e2 => e (hS.inj a (A j) ha hA e2)
      rw [cell_other _ ⟨nb l ts (A j), 4 + j, none⟩ ⟨nb l ts a, i, none⟩ _ hne, cell_other wr ⟨tb, 4 + j, none⟩ ⟨nb l ts a, i, none⟩ _ (Ne.symm (hnew a ha))]
      exact h.ne a ha i hi
  · exact blk_set (blk_set (h.nk a ha) _ _) _ _
  · rw [cell_other _ ⟨nb l ts (A j), 4 + j, none⟩ ⟨tb, 4 + r, none⟩ _ hnj]
    by_cases er : r = j
    · subst er
      rw [cell_here _ _ _ _ _ htc, if_pos (by omega)]
    · rw [cell_same _ _ _ _ _ _ htc (by omega), h.tc r hr]
      by_cases h1 : r < j
      · rw [if_pos h1, if_pos (by omega)]
      · rw [if_neg h1, if_neg (by omega)]
  · rw [World.frozen?_setCell, World.frozen?_setCell]; exact h.tz r hr
  · rw [cell_other _ ⟨nb l ts (A j), 4 + j, none⟩ ⟨tb, i, none⟩ _ hnj, cell_same _ _ _ _ _ _ htc (by omega)]
    exact h.te i hi
  · exact blk_set (blk_set h.tk _ _) _ _

/-- what is like a version stands where one looks for it, or nowhere -/
theorem any_at {ts : List Tow} {K : EnB} {c : Nat} (h : PredT ts K 0 c) (hh : ∀ t ∈ ts, 1 ≤ t.h ∧ t.h ≤ 8) (hr : riseB (ts.map (·.e)) = true) : anyE (esT ts) K = true ↔ ∃ hc : c < ts.length, cmpE ts[c].e K = 0 := by
  unfold anyE
  rw [List.any_eq_true]
  constructor
  · rintro ⟨x, hx, hs⟩
    obtain ⟨i, hi, rfl⟩ := List.getElem_of_mem hx
    rw [esT_len] at hi
    rw [esT_get hi] at hs
    have h0 := sameE_iff.1 hs
    by_cases hic : i < c
    · have := h.lt i hi hic
      unfold ltE at this
      rw [decide_eq_true_eq] at this
      omega
    · by_cases e : i = c
      · subst e; exact ⟨hi, h0⟩
      · exfalso
        have hcl : c < ts.length := by omega
        have h1 := h.no c hcl (Nat.le_refl _) (by have := (hh _ (List.getElem_mem hcl)).1; omega)
        unfold ltE at h1
        rw [decide_eq_false_iff_not] at h1
        have h2 := rise_lt (es := esT ts) hr c i (by rw [esT_len]; exact hi) (by omega)
        rw [esT_get hcl, esT_get hi] at h2
        have h3 := cmpE_neg ts[c].e K
        have h4 : cmpE ts[c].e K < 0 := by
          have h5 : cmpE ts[c].e K = cmpE ts[c].e ts[i].e := by
            obtain ⟨e1, e2, e3⟩ := Mth.cmpK_zero.1 h0
            unfold cmpE
            rw [e1, e2, e3]
          omega
        omega
  · rintro ⟨hc, h0⟩
    exact ⟨ts[c].e, by unfold esT; exact List.mem_map.2 ⟨_, List.getElem_mem hc, rfl⟩, sameE_iff.2 h0⟩

theorem chkSk_ok {e : EnB} {h : Int} (hc : chkSk e h = 0) : 1 ≤ h ∧ h ≤ 8 := by
  unfold chkSk at hc
  split at hc
  · split at hc
    · assumption
    · cases hc
  · rename_i h0; exact absurd hc h0

structure Box3 (w : World) (b : Nat) (v0 v1 v2 : Value) : Prop where
  c0 : w.cell? ⟨b, 0, none⟩ = some v0
  c1 : w.cell? ⟨b, 1, none⟩ = some v1
  c2 : w.cell? ⟨b, 2, none⟩ = some v2

theorem Box3.below {w w' : World} {b : Nat} {v0 v1 v2 : Value} (h : Box3 w b v0 v1 v2) (hb : Below w.heap.size w w') : Box3 w' b v0 v1 v2 :=
  ⟨(hb.cell (World.block_lt_of_cell? w _ h.c0)).trans h.c0, (hb.cell (World.block_lt_of_cell? w _ h.c1)).trans h.c1, (hb.cell (World.block_lt_of_cell? w _ h.c2)).trans h.c2⟩

/-- what Insert answers -/
def InsPost (l : Nat) (ts : List Tow) (e : EnB) (hh : Int) (w w' : World) (o : Ending) : Prop :=
  (¬ chkSk e hh = 0 ∧ o = .returned (.int .i64 (chkSk e hh)) ∧ Below w.heap.size w w') ∨
  (chkSk e hh = 0 ∧ anyE (esT ts) e = true ∧ o = .returned (.int .i64 7) ∧ Below w.heap.size w w') ∨
  (chkSk e hh = 0 ∧ anyE (esT ts) e = false ∧ o = .returned (.int .i64 0) ∧ ∃ T : Tow, T.e = e ∧ (T.h : Int) = hh ∧ w.heap.size ≤ T.b ∧ SkAt w' l (insT ts (cntE (esT ts) e) T) ∧ Keeps (fun i => ∃ a, a ≤ ts.length ∧ i = nb l ts a) w w')

/-- what it holds lies behind all that was there -/
def InsPost2 (l : Nat) (ts : List Tow) (e : EnB) (hh : Int) (w w' : World) (o : Ending) : Prop :=
  (¬ chkSk e hh = 0 ∧ o = .returned (.int .i64 (chkSk e hh)) ∧ Below w.heap.size w w') ∨
  (chkSk e hh = 0 ∧ anyE (esT ts) e = true ∧ o = .returned (.int .i64 7) ∧ Below w.heap.size w w') ∨
  (chkSk e hh = 0 ∧ anyE (esT ts) e = false ∧ o = .returned (.int .i64 0) ∧ ∃ T : Tow, T.e = e ∧ (T.h : Int) = hh ∧ (w.heap.size ≤ T.b ∧ From w.heap.size T.x ∧ From w.heap.size T.y) ∧ SkAt w' l (insT ts (cntE (esT ts) e) T) ∧ Keeps (fun i => ∃ a, a ≤ ts.length ∧ i = nb l ts a) w w')

theorem InsPost2.post {l : Nat} {ts : List Tow} {e : EnB} {hh : Int} {w w' : World} {o : Ending} (h : InsPost2 l ts e hh w w' o) : InsPost l ts e hh w w' o := by
  rcases h with h | h | ⟨h1, h2, h3, T, h4, h5, h6, h7⟩
  · exact .inl h
  · exact .inr (.inl h)
  · exact .inr (.inr ⟨h1, h2, h3, T, h4, h5, h6.1, h7⟩)


set_option maxHeartbeats 8000000 in
theorem skinsert_own (w : World) (l : Nat) (ts : List Tow) (xv yv : Value) (e : EnB) (hh : Int) (hS : SkAt w l ts) (hx : Rd w xv e.1) (hy : Rd w yv e.2.2.2) (hl1 : e.1.length ≤ 1000000) (hl2 : e.2.2.2.length ≤ 1000000) (hlen : ts.length + 1 ≤ 4000) :
    Calls Try.prog 70 #[.pointer (some ⟨l, 0, none⟩), enV xv (e.2.1 : Int) (e.2.2.1.toNat : Int) yv, .int .i64 hh] w fun o w' => InsPost2 l ts e hh w w' o := by
  have HS : Hid (SkAt w l ts) := hS
  have HLEN : Hid (ts.length + 1 ≤ 4000) := hlen
  obtain ⟨xa, xc, rfl⟩ := hx.len
  obtain ⟨ya, yc, rfl⟩ := hy.len
  obtain ⟨nl, hnl⟩ : ∃ z, e.1.length = z := ⟨_, rfl⟩
  obtain ⟨ml, hml⟩ : ∃ z, e.2.2.2.length = z := ⟨_, rfl⟩
  obtain ⟨s, hs⟩ : ∃ z : Int, (e.2.1 : Int) = z := ⟨_, rfl⟩
  obtain ⟨k, hk⟩ : ∃ z : Int, (e.2.2.1.toNat : Int) = z := ⟨_, rfl⟩
  have HE : Hid ((e.2.1 : Int) = s ∧ (e.2.2.1.toNat : Int) = k ∧ e.1.length = nl ∧ e.2.2.2.length = ml) := ⟨hs, hk, hnl, hml⟩
  have HLL : Hid (e.1.length ≤ 1000000 ∧ e.2.2.2.length ≤ 1000000) := ⟨hl1, hl2⟩
  have HX : Hid (Rd w (.slice xa nl xc) e.1 ∧ Rd w (.slice ya ml yc) e.2.2.2) := by rw [← hnl, ← hml]; exact ⟨hx, hy⟩
  obtain ⟨c, hc⟩ : ∃ c, chkSk e hh = c := ⟨_, rfl⟩
  have HC : Hid (chkSk e hh = c) := hc
  have hb0 := below_box4 w (.cells #[.slice xa nl xc, .int .u64 s, .int .u8 k, .slice ya ml yc] 44)
  have HB0 : Hid (Below w.heap.size w (w.alloc (.cells #[.slice xa nl xc, .int .u64 s, .int .u8 k, .slice ya ml yc] 44))) := hb0
  have B0 := box4_new w (.slice xa nl xc) (.int .u64 s) (.int .u8 k) (.slice ya ml yc) 44
  have hck := skcheck_any (w.alloc (.cells #[.slice xa nl xc, .int .u64 s, .int .u8 k, .slice ya ml yc] 44)) xa ya xc yc e hh c hc
  rw [hnl, hml, hs, hk] at hck
  rw [hnl, hml, hs, hk]
  obtain ⟨c0, c1, c2, c3⟩ := B0
  have B0 := box4_new w (.slice xa nl xc) (.int .u64 s) (.int .u8 k) (.slice ya ml yc) 44
  clear hS hx hy hl1 hl2 hlen hnl hml hs hk hc hb0
  go_enter Try.func70, Try.ntmps70
  go_wp2_with fail
  refine hck.mono ?_
  rintro o w1 ⟨rfl, hb1⟩
  have HB1 : Hid (Below w.heap.size w w1) := bsplit HB0.out hb1
  have B1 := B0.below hb1 (Nat.le_refl _)
  clear hck hb1 c0 c1 c2 c3 B0
  by_cases h0 : c = 0
  case neg =>
    have h0b : (c == 0) = false := by simpa using h0
    go_wp2
    go_ret
    exact .inl ⟨by rw [HC.out]; exact h0, by rw [HC.out]; rfl, HB1.out⟩
  subst h0
  have hS1 := HS.out.below HB1.out
  have hah := ahead_any w1 l ts (.slice xa nl xc) e hS1 (HX.out.1.below HB1.out (Nat.le_refl _))
  rw [HE.out.1, HE.out.2.1] at hah
  obtain ⟨c0, c1, c2, c3⟩ := B1
  have B1 : Box4 w1 w.heap.size (.slice xa nl xc) (.int .u64 s) (.int .u8 k) (.slice ya ml yc) := ⟨c0, c1, c2, c3⟩
  clear hS1
  go_wp2_with fail
  refine hah.mono ?_
  rintro o w2 ⟨A, rfl, hA, hb2⟩
  clear c0 c1 c2 c3
  have HA : Hid (∀ r, r < 8 → PredT ts e r (A r)) := hA
  have HB2 : Hid (Below w.heap.size w w2) := bsplit HB1.out hb2
  have hba := below_box4 w2 (.cells #[ndP l ts (A 0), ndP l ts (A 1), ndP l ts (A 2), ndP l ts (A 3), ndP l ts (A 4), ndP l ts (A 5), ndP l ts (A 6), ndP l ts (A 7)] 108)
  have AR2 := arr8_of w2 (ndP l ts (A 0)) (ndP l ts (A 1)) (ndP l ts (A 2)) (ndP l ts (A 3)) (ndP l ts (A 4)) (ndP l ts (A 5)) (ndP l ts (A 6)) (ndP l ts (A 7)) 108 (fun r => ndP l ts (A r)) rfl rfl rfl rfl rfl rfl rfl rfl
  have B2 := (B1.below hb2 (Nat.le_refl _)).below hba (Nat.le_refl _)
  obtain ⟨W, hW⟩ : ∃ W, w2.alloc (.cells #[ndP l ts (A 0), ndP l ts (A 1), ndP l ts (A 2), ndP l ts (A 3), ndP l ts (A 4), ndP l ts (A 5), ndP l ts (A 6), ndP l ts (A 7)] 108) = W := ⟨_, rfl⟩
  obtain ⟨ab, hab⟩ : ∃ b, w2.heap.size = b := ⟨_, rfl⟩
  rw [hW] at hba AR2 B2
  rw [hab] at AR2
  have HBW : Hid (Below w.heap.size w W) := bsplit HB2.out hba
  have hSW := HS.out.below HBW.out
  have hP0 := hA 0 (by omega)
  have hcnt := hP0.cnt HS.out.ht
  have hany := any_at hP0 HS.out.ht HS.out.ris
  have a0 := AR2.cel 0 (by omega)
  have n0 := (hSW.nod (A 0) hP0.le).cel 0 (by omega)
  rw [if_pos hP0.hi, fst_low HS.out.ht, Nat.add_zero] at n0
  have HAR : Hid (Arr8 W ab (fun r => ndP l ts (A r))) := AR2
  have HABN : Hid (ab ≠ w.heap.size ∧ w.heap.size < ab ∧ ab < W.heap.size) := ⟨by have := (B1.below hb2 (Nat.le_refl _)).lt; omega, by have := (B1.below hb2 (Nat.le_refl _)).lt; omega, AR2.lt⟩
  clear hah hA hb2 hba B1 AR2
  obtain ⟨AY, hAY⟩ : ∃ r, anyE (esT ts) e = r := ⟨_, rfl⟩
  have HAY : Hid (anyE (esT ts) e = AY) := hAY
  rw [hAY] at hany
  have HANY : Hid (AY = true ↔ ∃ hc : A 0 < ts.length, cmpE ts[A 0].e e = 0) := hany
  have HCNT : Hid (cntE (esT ts) e = A 0) := hcnt
  have HB2h : Hid (Box4 W w.heap.size (.slice xa nl xc) (.int .u64 s) (.int .u8 k) (.slice ya ml yc)) := B2
  have HSW : Hid (SkAt W l ts) := hSW
  obtain ⟨cc, hcc⟩ : ∃ z, nb l ts (A 0) = z := ⟨_, rfl⟩
  have a0' : W.cell? ⟨ab, 0, none⟩ = some (.pointer (some ⟨cc, 0, none⟩)) := by rw [a0]; show some (Value.pointer (some ⟨nb l ts (A 0), 0, none⟩)) = _; rw [hcc]
  rw [hcc] at n0
  obtain ⟨nx, hnx⟩ : ∃ v, ptrT ((ts[A 0]?).map (·.b)) = v := ⟨_, rfl⟩
  rw [hnx] at n0
  have HNX : Hid (ptrT ((ts[A 0]?).map (·.b)) = nx) := hnx
  have HCC : Hid (nb l ts (A 0) = cc) := hcc
  clear a0 hAY hany hcnt hSW hP0 hnx hcc B2
  go_upto_region 8 with fail
  clear hW a0' n0
  go_cut [42] (fun bv wx => bv = .bool AY ∧ Hid (Below W.heap.size W wx))
  case first =>
    by_cases hlt : A 0 < ts.length
    · obtain ⟨t, ht⟩ : ∃ t, ts[A 0] = t := ⟨_, rfl⟩
      obtain ⟨tq, htq⟩ : ∃ z, t.b = z := ⟨_, rfl⟩
      have hnx : nx = .pointer (some ⟨tq, 0, none⟩) := by rw [← HNX.out, List.getElem?_eq_getElem hlt, ht, ← htq]; rfl
      subst hnx
      have hent := HSW.out.ent t (by rw [← ht]; exact List.getElem_mem hlt)
      obtain ⟨⟨c0, c1, c2, c3⟩, rx, ry⟩ := hent
      obtain ⟨x1, x2, ex⟩ := rx.len
      rw [ex] at c0 rx
      obtain ⟨tn, htn⟩ : ∃ z, t.e.1.length = z := ⟨_, rfl⟩
      obtain ⟨sq, hsq⟩ : ∃ z : Int, (t.e.2.1 : Int) = z := ⟨_, rfl⟩
      obtain ⟨ek, hek⟩ : ∃ z : Int, (t.e.2.2.1.toNat : Int) = z := ⟨_, rfl⟩
      rw [htq] at c0 c1 c2
      rw [htn] at c0 rx
      rw [hsq] at c1
      rw [hek] at c2
      obtain ⟨cr, hcr⟩ : ∃ r, cmpE t.e e = r := ⟨_, rfl⟩
      have hcm := compare_any W.drew (.slice x1 tn x2) (.slice xa nl xc) t.e.1 e.1 sq ek s k cr rx.drew (HX.out.1.below HBW.out (Nat.le_refl _)).drew (by rw [← hcr, ← hsq, ← hek, ← HE.out.1, ← HE.out.2.1]; rfl)
      have HAE : Hid (AY = true ↔ cr = 0) := ⟨fun h => by obtain ⟨_, h2⟩ := HANY.out.1 h; rw [ht, hcr] at h2; exact h2, fun h => HANY.out.2 ⟨hlt, by rw [ht, hcr]; exact h⟩⟩
      obtain ⟨b0, b1, b2, b3⟩ := HB2h.out
      have A0 : Box3 W.drew tq (.slice x1 tn x2) (.int .u64 sq) (.int .u8 ek) := ⟨c0, c1, c2⟩
      have E0 := HB2h.out.drew
      clear rx ry ex htn hsq hek hcr ht htq c3 hlt
      go_region_held3 (fun w' => (w'.cell? ⟨tq, 0, none⟩ = some (.slice x1 tn x2) ∧ w'.cell? ⟨tq, 1, none⟩ = some (.int .u64 sq) ∧ w'.cell? ⟨tq, 2, none⟩ = some (.int .u8 ek)) ∧ (w'.cell? ⟨w.heap.size, 0, none⟩ = some (.slice xa nl xc) ∧ w'.cell? ⟨w.heap.size, 1, none⟩ = some (.int .u64 s) ∧ w'.cell? ⟨w.heap.size, 2, none⟩ = some (.int .u8 k)))
        (first | with_reducible exact ⟨⟨A6.c0, A6.c1, A6.c2⟩, ⟨E6.c0, E6.c1, E6.c2⟩⟩ | exact ⟨⟨A0.c0, A0.c1, A0.c2⟩, ⟨E0.c0, E0.c1, E0.c2⟩⟩)
        (first
          | (go_at_call 81; refine hcm.mono ?_; rintro o w6 ⟨rfl, hb6⟩
             have A6 := A0.below hb6
             have E6 := E0.below hb6 (Nat.le_refl _)
             have HB6 : Hid (Below W.heap.size W w6) := bsplit (Below.refl _ _).drew hb6
             clear hcm hb6)
          | fail)
      go_wp2_with fail
      go_meet
      refine ⟨?_, HB6⟩
      congr 1
      rw [Bool.eq_iff_iff, HAE.out]
      simp
    · have hnx : nx = .pointer none := by rw [← HNX.out, List.getElem?_eq_none (by omega)]; rfl
      subst hnx
      have HF : Hid (AY = false) := by
        show AY = false
        cases ha : AY with
        | false => rfl
        | true => obtain ⟨h1, _⟩ := HANY.out.1 ha; exact absurd h1 hlt
      clear hlt
      go_quiet (fail)
      go_wp2_with fail
      go_meet
      exact ⟨by rw [HF.out], below_drewN (Below.refl _ _) _⟩
  case rest =>
    obtain ⟨rfl, HBX⟩ := hcut
    have HBWX : Hid (Below w.heap.size w wc) := bsplit HBW.out HBX.out
    cases AY with
    | true =>
      go_wp2
      go_ret
      exact .inr (.inl ⟨HC.out, HAY.out, rfl, HBWX.out⟩)
    | false =>
      have hap := skapart_any wc (.slice xa nl xc) (.slice ya ml yc) e.1 e.2.2.2 s k (HX.out.1.below HBWX.out (Nat.le_refl _)) (HX.out.2.below HBWX.out (Nat.le_refl _)) HLL.out.1 HLL.out.2
      obtain ⟨b0, b1, b2, b3⟩ := HB2h.out.below HBX.out (Nat.le_refl _)
      go_wp2_with fail
      refine hap.mono ?_
      rintro o w4 ⟨x, y, rfl, rx, ry, lb, hb4⟩
      obtain ⟨x2, xc2, ex⟩ := rx.1.len
      obtain ⟨y2, yc2, ey⟩ := ry.1.len
      rw [HE.out.2.2.1] at ex
      rw [HE.out.2.2.2] at ey
      subst ex ey
      have HXY : Hid ((Rd w4 (.slice x2 nl xc2) e.1 ∧ From (wc.heap.size + 2) (.slice x2 nl xc2)) ∧ (Rd w4 (.slice y2 ml yc2) e.2.2.2 ∧ From (wc.heap.size + 2) (.slice y2 ml yc2)) ∧ (LtB w4 (.slice x2 nl xc2) ∧ LtB w4 (.slice y2 ml yc2))) := ⟨rx, ry, lb⟩
      have HB4 : Hid (Below w.heap.size w w4) := bsplit HBWX.out hb4
      have hbt := below_box4 w4 (.cells #[.slice x2 nl xc2, .int .u64 s, .int .u8 k, .slice y2 ml yc2, .pointer none, .pointer none, .pointer none, .pointer none, .pointer none, .pointer none, .pointer none, .pointer none] 110)
      have hnw := heap_alloc_new w4 (.cells #[.slice x2 nl xc2, .int .u64 s, .int .u8 k, .slice y2 ml yc2, .pointer none, .pointer none, .pointer none, .pointer none, .pointer none, .pointer none, .pointer none, .pointer none] 110)
      have ht4 : Box4 (w4.alloc (.cells #[.slice x2 nl xc2, .int .u64 s, .int .u8 k, .slice y2 ml yc2, .pointer none, .pointer none, .pointer none, .pointer none, .pointer none, .pointer none, .pointer none, .pointer none] 110)) w4.heap.size (.slice x2 nl xc2) (.int .u64 s) (.int .u8 k) (.slice y2 ml yc2) := by
        have c := fun i => cell_of_row (w4.alloc (.cells #[.slice x2 nl xc2, .int .u64 s, .int .u8 k, .slice y2 ml yc2, .pointer none, .pointer none, .pointer none, .pointer none, .pointer none, .pointer none, .pointer none, .pointer none] 110)) w4.heap.size i _ _ (0, 0) hnw
        exact ⟨(c 0).trans rfl, (c 1).trans rfl, (c 2).trans rfl, (c 3).trans rfl⟩
      have htc : ∀ r, r < 8 → (w4.alloc (.cells #[.slice x2 nl xc2, .int .u64 s, .int .u8 k, .slice y2 ml yc2, .pointer none, .pointer none, .pointer none, .pointer none, .pointer none, .pointer none, .pointer none, .pointer none] 110)).cell? ⟨w4.heap.size, 4 + r, none⟩ = some (.pointer none) := fun r hr => by
        have c := cell_of_row (w4.alloc (.cells #[.slice x2 nl xc2, .int .u64 s, .int .u8 k, .slice y2 ml yc2, .pointer none, .pointer none, .pointer none, .pointer none, .pointer none, .pointer none, .pointer none, .pointer none] 110)) w4.heap.size (4 + r) _ _ (0, 0) hnw
        have : r = 0 ∨ r = 1 ∨ r = 2 ∨ r = 3 ∨ r = 4 ∨ r = 5 ∨ r = 6 ∨ r = 7 := by omega
        rcases this with rfl | rfl | rfl | rfl | rfl | rfl | rfl | rfl <;> exact c.trans rfl
      have htz : ∀ r, r < 8 → (w4.alloc (.cells #[.slice x2 nl xc2, .int .u64 s, .int .u8 k, .slice y2 ml yc2, .pointer none, .pointer none, .pointer none, .pointer none, .pointer none, .pointer none, .pointer none, .pointer none] 110)).frozen? ⟨w4.heap.size, 4 + r, none⟩ = false := fun r hr => frozen_of_row _ w4.heap.size (4 + r) _ _ hnw
      obtain ⟨w5, hw5⟩ : ∃ V, w4.alloc (.cells #[.slice x2 nl xc2, .int .u64 s, .int .u8 k, .slice y2 ml yc2, .pointer none, .pointer none, .pointer none, .pointer none, .pointer none, .pointer none, .pointer none, .pointer none] 110) = V := ⟨_, rfl⟩
      obtain ⟨tb, htb⟩ : ∃ z, w4.heap.size = z := ⟨_, rfl⟩
      rw [hw5] at hbt hnw ht4 htc htz
      rw [htb] at hnw ht4 htc htz
      have HB5 : Hid (Below w.heap.size w w5) := bsplit HB4.out hbt
      have HS5 : Hid (SkAt w5 l ts) := HS.out.below HB5.out
      have HTB : Hid (w.heap.size ≤ tb ∧ ab < tb ∧ (∀ a, a ≤ ts.length → nb l ts a < w.heap.size)) := by
        refine ⟨by rw [← htb]; exact HB4.out.size, ?_, fun a ha => (HS.out.nod a ha).lt⟩
        have := HABN.out.2.2
        have := HBX.out.size
        have := hb4.size
        omega
      have HAR5 : Hid (∀ r, r < 8 → w5.cell? ⟨ab, r, none⟩ = some (ndP l ts (A r))) := fun r hr => (((HAR.out.below HBX.out).below hb4).below hbt).cel r hr
      have HI0 : Hid (InsI w5 w5 l tb ts A 0) := ⟨Keeps.refl _ _, fun a ha r hr => by rw [if_neg (by omega)], fun a ha r hr => (HS5.out.nod a ha).frz r hr, fun a ha i hi => rfl, fun a ha => (HS5.out.nod a ha).blk, fun r hr => by rw [if_neg (by omega)]; exact htc r hr, htz, fun i hi => rfl, ⟨_, _, hnw⟩⟩
      have HT4 : Hid (Box4 w5 tb (.slice x2 nl xc2) (.int .u64 s) (.int .u8 k) (.slice y2 ml yc2)) := ht4
      have HXY5 : Hid (Rd w5 (.slice x2 nl xc2) e.1 ∧ Rd w5 (.slice y2 ml yc2) e.2.2.2 ∧ LtB w5 (.slice x2 nl xc2) ∧ LtB w5 (.slice y2 ml yc2)) := ⟨rx.1.below hbt (Nat.le_refl _), ry.1.below hbt (Nat.le_refl _), lb.1.grow hbt.size, lb.2.grow hbt.size⟩
      have HTL : Hid (w4.heap.size = tb) := htb
      obtain ⟨hh1, hh8⟩ := chkSk_ok HC.out
      obtain ⟨hn, rfl⟩ : ∃ n : Nat, hh = (n : Int) := ⟨hh.toNat, by omega⟩
      have hn8 : hn ≤ 8 := by omega
      have hn1 : 1 ≤ hn := by omega
      clear hap hb4 rx ry lb hbt hnw ht4 htc htz b0 b1 b2 b3
      go_wp2_with fail
      clear hw5 htb
      go_loopg [48] hn (fun gk iv wr => ∃ j : Nat, gk + j = hn ∧ iv = .int .i64 (j : Int) ∧ Hid (InsI w5 wr l tb ts A j))
      case atStart => exact ⟨0, by omega, rfl, HI0⟩
      case round =>
        obtain ⟨j, hj, rfl, HI⟩ := hrel
        by_cases hlt : j < hn
        · obtain ⟨q1, q2⟩ := gk_nxt hj hlt
          have hPj := HA.out j (by omega)
          have a1 : wr.cell? ⟨ab, j, none⟩ = some (ndP l ts (A j)) := HI.out.kp.cell (p := ⟨ab, j, none⟩) (by
            rintro (⟨a, ha, he⟩ | he)
            · have h1 := HTB.out.2.2 a ha
              have h2 := HABN.out.2.1
              have : ab = nb l ts a := he
              omega
            · have h1 := HTB.out.2.1
              have : ab = tb := he
              omega) (HAR5.out j (by omega))
          have hc5 := (HS5.out.nod (A j) hPj.le).cel j (by omega)
          rw [if_pos hPj.hi] at hc5
          have n1 := HI.out.nc (A j) hPj.le j (by omega)
          rw [if_neg (by omega), hc5] at n1
          have z1 := HI.out.nz (A j) hPj.le j (by omega)
          have t1 := HI.out.tc j (by omega)
          rw [if_neg (by omega)] at t1
          have y1 := HI.out.tz j (by omega)
          have HST : Hid (InsI w5 ((wr.setCell ⟨tb, 4 + j, none⟩ (ptrT (fstT (ts.drop (A j)) j))).setCell ⟨nb l ts (A j), 4 + j, none⟩ (ptrT (some tb))) l tb ts A (j + 1)) := HI.out.step HS5.out (by omega) hPj.le (fun a ha e => by have h1 := HTB.out.2.2 a ha; have h2 := HTB.out.1; omega) hc5
          have e1 : ¬ ab = tb := by have := HTB.out.2.1; omega
          have e2 : ¬ nb l ts (A j) = tb := by have h1 := HTB.out.2.2 (A j) hPj.le; have h2 := HTB.out.1; omega
          obtain ⟨na, hna⟩ : ∃ z, nb l ts (A j) = z := ⟨_, rfl⟩
          have a1' : wr.cell? ⟨ab, j, none⟩ = some (.pointer (some ⟨na, 0, none⟩)) := by rw [a1, ← hna]
          rw [hna] at n1 z1 HST e2
          have j0 : (0 : Int) ≤ (j : Int) := by omega
          have j8 : (j : Int) < 8 := by omega
          have jn : (j : Int) < (hn : Int) := by omega
          clear a1 hc5 hPj hna
          cases hfs : fstT (ts.drop (A j)) j with
          | none =>
            rw [hfs] at n1 HST
            simp only [ptrT] at n1 HST
            clear hfs
            go_wp2_with fail
            go_region
            go_wp2_with fail
            go_roundg (gk - 1)
            case measure => exact q1
            case rel => exact ⟨j + 1, q2, by go_num, HST.out.drew⟩
          | some fb =>
            rw [hfs] at n1 HST
            simp only [ptrT] at n1 HST
            clear hfs
            go_wp2_with fail
            go_region
            go_wp2_with fail
            go_roundg (gk - 1)
            case measure => exact q1
            case rel => exact ⟨j + 1, q2, by go_num, HST.out.drew⟩
        · have hjn : j = hn := by omega
          subst hjn
          have hni : ¬ (j : Int) < (j : Int) := by omega
          have HFIN : Hid (SkAt wr l (insT ts (A 0) ⟨tb, .slice x2 nl xc2, .slice y2 ml yc2, e, j⟩)) := by
            have kp := HI.out.kp
            have hnode : ∀ a, a ≤ ts.length → tb ≠ nb l ts a := fun a ha e => by have h1 := HTB.out.2.2 a ha; have h2 := HTB.out.1; omega
            have hfx : ∀ {v : Value}, From (wc.heap.size + 2) v → ∀ a, a ≤ ts.length → ∀ q, v.ownBlock = some q → q ≠ nb l ts a := fun {v} hf a ha => from_ne hf (by have h1 := HTB.out.2.2 a ha; have h2 := HBWX.out.size; omega)
            have hlx : ∀ {v : Value}, LtB w4 v → ∀ q, v.ownBlock = some q → q ≠ tb := fun {v} hv q hq e => by have h1 := hv q hq; rw [HTL.out] at h1; omega
            have hrd : ∀ {v : Value} {lst : List UInt8}, Rd w5 v lst → From (wc.heap.size + 2) v → LtB w4 v → Rd wr v lst := fun {v lst} hr hf hv => by
              rcases hr with hr | ⟨b, off, cap, rfl, k1, k2, k3⟩
              · exact .inl hr
              · refine .inr ⟨b, off, cap, rfl, k1, k2, fun i u hu => kp.cell (p := ⟨b, off + i, none⟩) ?_ (k3 i u hu)⟩
                rintro (⟨a, ha, he⟩ | he)
                · exact hfx hf a ha b rfl he
                · exact hlx hv b rfl he
            refine sk_insert (T := ⟨tb, .slice x2 nl xc2, .slice y2 ml yc2, e, j⟩) HS5.out HA.out ⟨hn1, hn8⟩ hnode kp HI.out.nc HI.out.nz HI.out.nk HI.out.tk (fun t ht i hi => ?_) HI.out.tc HI.out.tz ⟨⟨?_, ?_, ?_, ?_⟩, hrd HXY5.out.1 HXY.out.1.2 HXY.out.2.2.1, hrd HXY5.out.2.1 HXY.out.2.1.2 HXY.out.2.2.2⟩ (fun a ha => ⟨hfx HXY.out.1.2 a ha, hfx HXY.out.2.1.2 a ha⟩) ⟨hlx HXY.out.2.2.1, hlx HXY.out.2.2.2⟩ (fun t ht => ?_) ⟨HXY5.out.2.2.1.grow kp.size, HXY5.out.2.2.2.grow kp.size⟩ HAY.out HLEN.out
            · obtain ⟨i0, hi0, rfl⟩ := List.getElem_of_mem ht
              have h1 := HI.out.ne (i0 + 1) (by omega) i hi
              rw [nb_succ l hi0] at h1
              exact h1
            · show wr.cell? ⟨tb, 0, none⟩ = _; rw [HI.out.te 0 (by omega)]; exact HT4.out.c0
            · show wr.cell? ⟨tb, 1, none⟩ = some (.int .u64 (e.2.1 : Int)); rw [HI.out.te 1 (by omega), HE.out.1]; exact HT4.out.c1
            · show wr.cell? ⟨tb, 2, none⟩ = some (.int .u8 (e.2.2.1.toNat : Int)); rw [HI.out.te 2 (by omega), HE.out.2.1]; exact HT4.out.c2
            · show wr.cell? ⟨tb, 3, none⟩ = _; rw [HI.out.te 3 (by omega)]; exact HT4.out.c3
            · have h1 := HS.out.inn t ht
              exact ⟨fun q hq e => by have h2 := h1.1 q hq; have h3 := HTB.out.1; have e' : q = tb := e; omega, fun q hq e => by have h2 := h1.2 q hq; have h3 := HTB.out.1; have e' : q = tb := e; omega⟩
          have HKP : Hid (Keeps (fun i => ∃ a, a ≤ ts.length ∧ i = nb l ts a) w wr) := by
            have kp := HI.out.kp
            refine ⟨kp.os.trans HB5.out.os, kp.tape.trans HB5.out.tape, kp.output.trans HB5.out.output, Nat.le_trans HB5.out.size kp.size, fun i hi hno => ?_⟩
            rw [kp.block i (Nat.lt_of_lt_of_le hi HB5.out.size) (fun h => by
              rcases h with h | h
              · exact hno h
              · have h3 := HTB.out.1; omega)]
            exact HB5.out.block i hi
          go_wp2
          go_ret
          exact .inr (.inr ⟨HC.out, HAY.out, rfl, ⟨tb, .slice x2 nl xc2, .slice y2 ml yc2, e, j⟩, rfl, rfl, ⟨HTB.out.1, fun a n c e => by have h1 := HXY.out.1.2 a n c e; have h2 := HBWX.out.size; omega, fun a n c e => by have h1 := HXY.out.2.1.2 a n c e; have h2 := HBWX.out.size; omega⟩, by rw [HCNT.out]; exact HFIN.out, HKP.out⟩)

theorem skinsert_any (w : World) (l : Nat) (ts : List Tow) (xv yv : Value) (e : EnB) (hh : Int) (hS : SkAt w l ts) (hx : Rd w xv e.1) (hy : Rd w yv e.2.2.2) (hl1 : e.1.length ≤ 1000000) (hl2 : e.2.2.2.length ≤ 1000000) (hlen : ts.length + 1 ≤ 4000) :
    Calls Try.prog 70 #[.pointer (some ⟨l, 0, none⟩), enV xv (e.2.1 : Int) (e.2.2.1.toNat : Int) yv, .int .i64 hh] w fun o w' => InsPost l ts e hh w w' o :=
  (skinsert_own w l ts xv yv e hh hS hx hy hl1 hl2 hlen).mono (fun _ _ h => h.post)

end Go.Proofs.Ytgphjgpibjhbjaa

/- A list stays while other blocks are written; what rises stands in one order alone. -/
namespace Go.Proofs.Ytgphjgpibjhbjaa
open Go.RowKit Go.Shelf
set_option linter.unusedVariables false

theorem nb_cases {l : Nat} {ts : List Tow} {a : Nat} (ha : a ≤ ts.length) : nb l ts a = l ∨ ∃ t ∈ ts, nb l ts a = t.b := by
  rcases a with _ | a
  · exact .inl rfl
  · exact .inr ⟨ts[a], List.getElem_mem _, nb_succ l (by omega)⟩

theorem insT_perm (ts : List Tow) (c : Nat) (T : Tow) : (esT (insT ts c T)).Perm (T.e :: esT ts) := by
  unfold esT insT
  rw [List.map_append, List.map_cons]
  refine List.perm_middle.trans (List.Perm.cons _ ?_)
  rw [← List.map_append, List.take_append_drop]

theorem rise_pw {es : List EnB} (h : riseB es = true) : es.Pairwise (fun a b => cmpE a b < 0) :=
  List.pairwise_iff_getElem.2 (fun i j hi hj hij => rise_lt h i j hj hij)

/-- what rises stands in one order alone -/
theorem rise_unique {es fs : List EnB} (ha : riseB es = true) (hb : riseB fs = true) (hp : es.Perm fs) : es = fs :=
  List.Perm.eq_of_pairwise (le := fun a b => cmpE a b < 0) (fun a b _ _ h1 h2 => by have := cmpE_neg a b; omega) (rise_pw ha) (rise_pw hb) hp

theorem NodeAt.keeps {F : Nat → Prop} {w w' : World} {b hh : Nat} {rest : List Tow} (h : NodeAt w b hh rest) (hk : Keeps F w w') (hF : ¬ F b) : NodeAt w' b hh rest := by
  have e := hk.block b h.lt hF
  refine ⟨fun r hr => hk.cell (p := ⟨b, 4 + r, none⟩) hF (h.cel r hr), fun r hr => ?_, by rw [e]; exact h.blk⟩
  have h1 := h.frz r hr
  unfold World.frozen? at h1 ⊢
  rw [e]
  exact h1

theorem rd_keep {F : Nat → Prop} {w w' : World} {x : Value} {l : List UInt8} (h : Rd w x l) (hk : Keeps F w w') (hF : ∀ q, x.ownBlock = some q → ¬ F q) : Rd w' x l := by
  rcases h with h | ⟨b, off, cap, rfl, h1, h2, h3⟩
  · exact .inl h
  · exact .inr ⟨b, off, cap, rfl, h1, h2, fun j u hu => hk.cell (p := ⟨b, off + j, none⟩) (hF b rfl) (h3 j u hu)⟩

/-- a list stays while other blocks are written -/
theorem SkAt.keeps {F : Nat → Prop} {w w' : World} {l : Nat} {ts : List Tow} (h : SkAt w l ts) (hk : Keeps F w w') (h0 : ¬ F l) (hb : ∀ t ∈ ts, ¬ F t.b) (hxy : ∀ t ∈ ts, (∀ q, t.x.ownBlock = some q → ¬ F q) ∧ (∀ q, t.y.ownBlock = some q → ¬ F q)) : SkAt w' l ts := by
  refine ⟨fun a ha => (h.nod a ha).keeps hk ?_, fun t ht => ?_, h.inj, h.ht, h.out, h.ris, h.len, fun t ht => ⟨(h.inn t ht).1.grow hk.size, (h.inn t ht).2.grow hk.size⟩⟩
  · rcases nb_cases (l := l) ha with e | ⟨t, ht, e⟩
    · rw [e]; exact h0
    · rw [e]; exact hb t ht
  · have e := h.ent t ht
    have hf := hb t ht
    exact ⟨⟨hk.cell (p := ⟨t.b, 0, none⟩) hf e.bx.c0, hk.cell (p := ⟨t.b, 1, none⟩) hf e.bx.c1, hk.cell (p := ⟨t.b, 2, none⟩) hf e.bx.c2, hk.cell (p := ⟨t.b, 3, none⟩) hf e.bx.c3⟩, rd_keep e.rx hk (hxy t ht).1, rd_keep e.ry hk (hxy t ht).2⟩

end Go.Proofs.Ytgphjgpibjhbjaa

/- A memo in memory: its box, its list, its set; they lie apart. -/
namespace Go.Proofs.Ytgphjgpibjhbjaa
set_option maxRecDepth 20000
open Go.RowKit
set_option linter.unusedVariables false
set_option linter.unusedSimpArgs false

/-- the blocks of a list: its nodes, and what they hold -/
def FpK (l : Nat) (ts : List Tow) (q : Nat) : Prop := q = l ∨ ∃ T ∈ ts, q = T.b ∨ T.x.ownBlock = some q ∨ T.y.ownBlock = some q

theorem fpK_nb {l : Nat} {ts : List Tow} {a : Nat} (ha : a ≤ ts.length) : FpK l ts (nb l ts a) := by
  rcases nb_cases (l := l) ha with e | ⟨t, ht, e⟩
  · exact .inl e
  · exact .inr ⟨t, ht, .inl e⟩

theorem fpK_lt {w : World} {l : Nat} {ts : List Tow} (h : SkAt w l ts) {q : Nat} (hq : FpK l ts q) : q < w.heap.size := by
  rcases hq with rfl | ⟨T, hT, rfl | hq | hq⟩
  · exact (h.nod 0 (Nat.zero_le _)).lt
  · obtain ⟨a, ha, rfl⟩ := List.getElem_of_mem hT
    have h9 := (h.nod (a + 1) (by omega)).lt
    rw [nb_succ l ha] at h9
    exact h9
  · exact (h.inn T hT).1 q hq
  · exact (h.inn T hT).2 q hq

theorem from_q {B q : Nat} {v : Value} (h : From B v) (hq : v.ownBlock = some q) : B ≤ q := by
  unfold Value.ownBlock at hq
  split at hq
  · rename_i a n c
    cases hq
    exact h _ _ _ rfl
  · cases hq

/-- a tower more -/
theorem fpK_ins {l c q B : Nat} {ts : List Tow} {T : Tow} (hT : B ≤ T.b ∧ From B T.x ∧ From B T.y) (h : FpK l (insT ts c T) q) : FpK l ts q ∨ B ≤ q := by
  rcases h with h | ⟨U, hU, h⟩
  · exact .inl (.inl h)
  · unfold insT at hU
    have hm : U ∈ ts ∨ U = T := by
      rcases List.mem_append.1 hU with hU | hU
      · exact .inl (List.mem_of_mem_take hU)
      · rcases List.mem_cons.1 hU with hU | hU
        · exact .inr hU
        · exact .inl (List.mem_of_mem_drop hU)
    rcases hm with hm | rfl
    · exact .inl (.inr ⟨U, hm, h⟩)
    · rcases h with rfl | h | h
      · exact .inr hT.1
      · exact .inr (from_q hT.2.1 h)
      · exact .inr (from_q hT.2.2 h)

theorem Box.same9 {w w' : World} {b : Nat} {v0 v1 v2 : Value} (h : Box w b v0 v1 v2) (e : w'.heap[b]? = w.heap[b]?) : Box w' b v0 v1 v2 := by
  obtain ⟨c0, c1, c2, f0, f1, f2⟩ := h
  constructor
  · rw [← c0]; unfold World.cell?; rw [e]
  · rw [← c1]; unfold World.cell?; rw [e]
  · rw [← c2]; unfold World.cell?; rw [e]
  · rw [← f0]; exact World.frozen?_of_block (w := w) e
  · rw [← f1]; exact World.frozen?_of_block (w := w) e
  · rw [← f2]; exact World.frozen?_of_block (w := w) e

/-- a memo: its box, its list and towers, its set and spans, its last number; G has the set's blocks -/
structure MemA (G : Nat → Prop) (W : World) (m l t : Nat) (ts : List Tow) (ss : List SpB) (last : Int) : Prop where
  bx : Box W m (.pointer (some ⟨l, 0, none⟩)) (.pointer (some ⟨t, 0, none⟩)) (.int .u64 last)
  sk : SkAt W l ts
  st : SetF G W t ss
  dm : ¬ G m ∧ ¬ FpK l ts m
  dg : ∀ q, G q → ¬ FpK l ts q

theorem SetF.lt {G : Nat → Prop} {w : World} {t : Nat} {ss : List SpB} (h : SetF G w t ss) {q : Nat} (hq : G q) : q < w.heap.size := by
  obtain ⟨_, _, _, _, _, _, _, _, h7⟩ := h
  exact h7 q hq

theorem MemA.below {G : Nat → Prop} {W W' : World} {m l t : Nat} {ts : List Tow} {ss : List SpB} {last : Int} (h : MemA G W m l t ts ss last) (hb : Below W.heap.size W W') : MemA G W' m l t ts ss last :=
  ⟨h.bx.below hb (Nat.le_refl _), h.sk.below hb, h.st.below hb, h.dm, h.dg⟩

/-- a version is put in -/
theorem MemA.ins {G : Nat → Prop} {W W' : World} {m l t c : Nat} {ts : List Tow} {ss : List SpB} {last : Int} {T : Tow} (h : MemA G W m l t ts ss last) (hT : W.heap.size ≤ T.b ∧ From W.heap.size T.x ∧ From W.heap.size T.y) (hS : SkAt W' l (insT ts c T)) (hk : Keeps (fun i => ∃ a, a ≤ ts.length ∧ i = nb l ts a) W W') : MemA G W' m l t (insT ts c T) ss last := by
  have hF : ∀ q, (∃ a, a ≤ ts.length ∧ q = nb l ts a) → FpK l ts q := fun q ⟨a, ha, e⟩ => by rw [e]; exact fpK_nb ha
  refine ⟨h.bx.same9 (hk.block m h.bx.lt (fun hf => h.dm.2 (hF m hf))), hS, h.st.keeps hk (fun q hq hf => h.dg q hq (hF q hf)), ⟨h.dm.1, fun hf => ?_⟩, fun q hq hf => ?_⟩
  · rcases fpK_ins hT hf with h9 | h9
    · exact h.dm.2 h9
    · have := h.bx.lt; omega
  · rcases fpK_ins hT hf with h9 | h9
    · exact h.dg q hq h9
    · have := h.st.lt hq; omega

/-- a span is put in -/
theorem MemA.add {G : Nat → Prop} {W W' : World} {m l t : Nat} {ts : List Tow} {ss : List SpB} {last c : Int} {o : SpB} {e : Ending} (h : MemA G W m l t ts ss last) (hp : AddPostG G W t ss o c e W') : ∃ G' : Nat → Prop, MemA G' W' m l t ts (if c = 0 then ss ++ [o] else ss) last ∧ ∀ q, G' q → G q ∨ W.heap.size ≤ q := by
  obtain ⟨_, hk, G', hS, hG⟩ := hp
  have hn : ∀ q, FpK l ts q → ¬ G q := fun q hq hg => h.dg q hg hq
  refine ⟨G', ⟨h.bx.same9 (hk.block m h.bx.lt h.dm.1), h.sk.keeps hk (hn l (.inl rfl)) (fun T hT => hn _ (.inr ⟨T, hT, .inl rfl⟩)) (fun T hT => ⟨fun q hq => hn q (.inr ⟨T, hT, .inr (.inl hq)⟩), fun q hq => hn q (.inr ⟨T, hT, .inr (.inr hq)⟩)⟩), hS, ⟨fun hg => ?_, h.dm.2⟩, fun q hq hf => ?_⟩, hG⟩
  · rcases hG m hg with h9 | h9
    · exact h.dm.1 h9
    · have := h.bx.lt; omega
  · rcases hG q hq with h9 | h9
    · exact h.dg q h9 hf
    · have := fpK_lt h.sk hf; omega

/-- its last number is written -/
theorem MemA.put {G : Nat → Prop} {W : World} {m l t : Nat} {ts : List Tow} {ss : List SpB} {last : Int} (h : MemA G W m l t ts ss last) (s : Int) : MemA G (W.setCell ⟨m, 2, none⟩ (.int .u64 s)) m l t ts ss s := by
  have hk : Keeps (fun i => i = m) W (W.setCell ⟨m, 2, none⟩ (.int .u64 s)) := Keeps.setCell (F := fun i => i = m) (Keeps.refl _ W) (p := ⟨m, 2, none⟩) rfl _
  have hn : ∀ q, FpK l ts q → ¬ q = m := fun q hq e => h.dm.2 (e ▸ hq)
  refine ⟨?_, h.sk.keeps hk (hn l (.inl rfl)) (fun T hT => hn _ (.inr ⟨T, hT, .inl rfl⟩)) (fun T hT => ⟨fun q hq => hn q (.inr ⟨T, hT, .inr (.inl hq)⟩), fun q hq => hn q (.inr ⟨T, hT, .inr (.inr hq)⟩)⟩), h.st.keeps hk (fun q hq e => h.dm.1 (e ▸ hq)), h.dm, h.dg⟩
  obtain ⟨c0, c1, c2, f0, f1, f2⟩ := h.bx
  constructor <;> simp [go_sem, c0, c1, c2, f0, f1, f2]

end Go.Proofs.Ytgphjgpibjhbjaa

/- memo: numbers and heights. -/
namespace Go.Proofs.Ytgphjgpibjhbjaa
set_option maxRecDepth 20000
open Go.RowKit
set_option linter.unusedVariables false
set_option linter.unusedSimpArgs false

/-- may an op be put at such a height? -/
def noHt (h : Int) : Bool := decide (h < 1 ∨ 8 < h)

theorem noheight_any (w : World) (h : Int) : Calls Try.prog 53 #[.int .i64 h] w fun e w' => e = .returned (.bool (noHt h)) ∧ w' = w := by
  by_cases h1 : h < 1
  · have e : noHt h = true := by unfold noHt; exact decide_eq_true (.inl h1)
    rw [e]
    clear e
    go_enter Try.func53, Try.ntmps53
    go_wp2
    go_ret
    exact ⟨rfl, rfl⟩
  · by_cases h2 : 8 < h
    · have e : noHt h = true := by unfold noHt; exact decide_eq_true (.inr h2)
      rw [e]
      clear e
      go_enter Try.func53, Try.ntmps53
      go_wp2
      go_ret
      exact ⟨rfl, rfl⟩
    · have e : noHt h = false := by unfold noHt; exact decide_eq_false (by omega)
      rw [e]
      clear e
      go_enter Try.func53, Try.ntmps53
      go_wp2
      go_ret
      exact ⟨rfl, rfl⟩

/-- are there so many numbers from s on? -/
def hasN (s c : Int) : Bool := decide (1 ≤ s ∧ s ≤ 72057594037927935 ∧ s + (max c 1 - 1) ≤ 72057594037927935)

set_option maxHeartbeats 1000000 in
theorem hasnum_any (w : World) (s c : Int) (hs0 : 0 ≤ s) (hc0 : 0 ≤ c) (hc1 : c ≤ 1000000) : Calls Try.prog 51 #[.int .u64 s, .int .i64 c] w fun e w' => e = .returned (.bool (hasN s c)) ∧ w' = w := by
  by_cases h1 : 1 ≤ s
  · by_cases h2 : s ≤ 72057594037927935
    · obtain ⟨m, hm⟩ : ∃ m, max c 1 - 1 = m := ⟨_, rfl⟩
      have hm2 : 0 ≤ m ∧ m ≤ 1000000 := by omega
      have q1 : IntKind.i64.wrap (max c 1 - 1) = m := by rw [hm, IntKind.wrap_i64]; omega
      have q2 : IntKind.u64.wrap m = m := by rw [IntKind.wrap_u64]; omega
      have q3 : IntKind.u64.wrap (s + m) = s + m := by rw [IntKind.wrap_u64]; omega
      by_cases h3 : s + m ≤ 72057594037927935
      · have e : hasN s c = true := by unfold hasN; exact decide_eq_true ⟨h1, h2, by omega⟩
        rw [e]
        clear e hm
        go_enter Try.func51, Try.ntmps51
        go_wp2
        go_ret
        exact ⟨rfl, rfl⟩
      · have e : hasN s c = false := by unfold hasN; exact decide_eq_false (by omega)
        rw [e]
        clear e hm
        go_enter Try.func51, Try.ntmps51
        go_wp2
        go_ret
        exact ⟨rfl, rfl⟩
    · have e : hasN s c = false := by unfold hasN; exact decide_eq_false (by omega)
      rw [e]
      clear e
      go_enter Try.func51, Try.ntmps51
      go_wp2
      go_ret
      exact ⟨rfl, rfl⟩
  · have e : hasN s c = false := by unfold hasN; exact decide_eq_false (by omega)
    rw [e]
    clear e
    go_enter Try.func51, Try.ntmps51
    go_wp2
    go_ret
    exact ⟨rfl, rfl⟩

end Go.Proofs.Ytgphjgpibjhbjaa

/- memo.New, Last, heightOf. -/
namespace Go.Proofs.Ytgphjgpibjhbjaa
set_option maxRecDepth 20000
open Go.RowKit
set_option linter.unusedVariables false
set_option linter.unusedSimpArgs false

/-- a set that is one's own has blocks of one's own -/
theorem setF_o {B t : Nat} {w : World} {ss : List SpB} (h : SetO B w t ss) : SetF (fun q => B ≤ q ∧ q < w.heap.size) w t ss := by
  obtain ⟨hB, v, hv, cs, hrow, hel⟩ := h
  have hr0 : w.ownsRow 0 46 3 v ss.length cs := by
    obtain ⟨h1, h2⟩ := hrow
    refine ⟨h1, ?_⟩
    rcases h2 with h2 | ⟨q, cap, cur, e, hb, r⟩
    · exact .inl h2
    · exact .inr ⟨q, cap, cur, e, Nat.zero_le _, r⟩
  refine ⟨v, cs, hv, hr0, fun j hj => ?_, ⟨hB, hv.lt⟩, fun q hq => hrow.lt q hq, fun z hz q hq => ?_, fun q hq => hq.2⟩
  · obtain ⟨x, y, c0, c1, c2, ox, oy⟩ := hel j hj
    exact ⟨x, y, c0, c1, c2, ox.mono (Nat.zero_le _), oy.mono (Nat.zero_le _)⟩
  · obtain ⟨i, hi, rfl⟩ := List.getElem_of_mem hz
    have hl : cs.length = ss.length * 3 := hrow.1
    obtain ⟨x, y, c0, c1, c2, ox, oy⟩ := hel (i / 3) (by omega)
    have hc : cs[i]? = some cs[i] := List.getElem?_eq_getElem hi
    have h3 : i = i / 3 * 3 ∨ i = i / 3 * 3 + 1 ∨ i = i / 3 * 3 + 2 := by omega
    rcases h3 with h3 | h3 | h3
    · rw [← h3, hc] at c0
      cases c0
      exact ownN_lt9 ox q hq
    · rw [← h3, hc] at c1
      cases c1
      exact ownN_lt9 oy q hq
    · rw [← h3, hc] at c2
      rw [Option.some.inj c2] at hq
      simp [Value.ownBlock] at hq

theorem mnew_any (w : World) : Calls Try.prog 10 #[] w fun e w' => ∃ (G : Nat → Prop) (m l t : Nat), e = .returned (.pointer (some ⟨m, 0, none⟩)) ∧ MemA G w' m l t [] [] 0 ∧ (∀ q, G q → w.heap.size ≤ q) ∧ (w.heap.size ≤ m ∧ w.heap.size ≤ l) ∧ Below w.heap.size w w' := by
  have h1 := sknew_any w
  go_enter Try.func10, Try.ntmps10
  go_wp2_with fail
  refine h1.mono ?_
  rintro e w1 ⟨rfl, hs, hb1⟩
  have h2 := tnew_any w1 (.slice none 0 0) [] (AllS.nil 0 w1).rd (by simp)
  have HS : Hid (SkAt w1 w.heap.size []) := hs
  have HB : Hid (Below w.heap.size w w1) := hb1
  clear h1 hs hb1
  go_wp2_with fail
  refine h2.mono ?_
  rintro e w2 ⟨rfl, ht, hb2⟩
  have HT : Hid (SetO w1.heap.size w2 w1.heap.size []) := ht
  have HB2 : Hid (Below w1.heap.size w1 w2) := hb2
  clear h2 ht hb2
  go_wp2
  go_ret
  have hbe := below_box4 w2 (.cells #[.pointer (some ⟨w.heap.size, 0, none⟩), .pointer (some ⟨w1.heap.size, 0, none⟩), .int .u64 0] 84)
  have hl1 : w.heap.size < w1.heap.size := fpK_lt HS.out (.inl rfl)
  have hs2 := HB2.out.size
  refine ⟨_, w2.heap.size, w.heap.size, w1.heap.size, rfl, ⟨box_new w2 _ _ _ _, (HS.out.below HB2.out).below hbe, (setF_o HT.out).below hbe, ⟨fun h => by have := h.2; omega, fun h => ?_⟩, fun q hq h => ?_⟩, fun q hq => Nat.le_trans HB.out.size hq.1, ⟨by omega, Nat.le_refl _⟩, bsplit (bsplit HB.out HB2.out) hbe⟩
  · rcases h with h | ⟨T, hT, _⟩
    · omega
    · simp at hT
  · rcases h with h | ⟨T, hT, _⟩
    · have := hq.1; omega
    · simp at hT

theorem eqMm (m : Nat) : ∀ w : World, (binOp .eql 26 (.pointer (some ⟨m, 0, none⟩)) (.pointer none)).run Try.prog w = .ok (.bool false) w := fun _ => rfl

theorem mlast_any (G : Nat → Prop) (w : World) (m l t : Nat) (ts : List Tow) (ss : List SpB) (last : Int) (h : MemA G w m l t ts ss last) : Calls Try.prog 12 #[.pointer (some ⟨m, 0, none⟩)] w fun e w' => e = .returned (.int .u64 last) ∧ w' = w := by
  have he := eqMm m
  obtain ⟨c0, c1, c2, _, _, _⟩ := h.bx
  go_enter Try.func12, Try.ntmps12
  go_wp2
  go_ret
  exact ⟨rfl, rfl⟩

theorem mspans_any (G : Nat → Prop) (w : World) (m l t : Nat) (ts : List Tow) (ss : List SpB) (last : Int) (h : MemA G w m l t ts ss last) (hn : ss.length ≤ 4000) (hL : ∀ s ∈ ss, s.1.length ≤ 1000 ∧ s.2.1.length ≤ 1000) : Calls Try.prog 19 #[.pointer (some ⟨m, 0, none⟩)] w fun e w' => ∃ v, e = .returned v ∧ AllS w.heap.size w' v ss ∧ Below w.heap.size w w' := by
  have he := eqMm m
  obtain ⟨c0, c1, c2, _, _, _⟩ := h.bx
  have ha := tall_any w t ss h.st.at hn hL
  go_enter Try.func19, Try.ntmps19
  go_wp2_with fail
  refine ha.mono ?_
  rintro e w1 ⟨v, rfl, h1, h2⟩
  go_wp2
  go_ret
  exact ⟨_, rfl, h1, h2⟩

end Go.Proofs.Ytgphjgpibjhbjaa

/- (*skip.List).row's function: it goes along a row. -/
namespace Go.Proofs.Ytgphjgpibjhbjaa
open Go.RowKit Go.Shelf
set_option linter.unusedVariables false

attribute [local go_sem] Oper.semAt_some

/-- what a round must keep: the list, and the row's number -/
def KpR (n0 Bh : Nat) (A B : World) : Prop := Below n0 A B ∧ ∀ v, A.cell? ⟨Bh, 0, none⟩ = some v → B.cell? ⟨Bh, 0, none⟩ = some v

theorem kpR_t {n0 Bh : Nat} {A B C : World} (h : KpR n0 Bh A B) (k : KpR n0 Bh B C) : KpR n0 Bh A C := ⟨h.1.trans k.1, fun v hv => k.2 v (h.2 v hv)⟩

theorem kpR_b {n0 Bh : Nat} {w : World} (hn : n0 ≤ w.heap.size) (W : World) (l : Nat) (o o' : Obj) (hl : w.heap.size ≤ l) (h : W.heap[l]? = some o) (hc : o.isCells = false) (hw : o.isWalk = false) : KpR n0 Bh W (W.putObj l o') := by
  refine ⟨belowK_b hn W l o o' hl h hc hw, fun v hv => cell_kept hv (grownBy_putObj' W l o') (fun r e => ?_)⟩
  cases e
  exact ⟨_, h, hc⟩

/-- the towers of a row -/
def rowT (ts : List Tow) (q : Nat) : List Tow := ts.filter (fun t => decide (q < t.h))

/-- where a block stands -/
def posT (ts : List Tow) (b : Nat) : Nat := ts.findIdx (fun t => t.b == b)

def leftT (ts : List Tow) (v : Value) : Nat := match v with
  | .pointer (some a) => ts.length - posT ts a.block
  | _ => 0

theorem row_none {ts : List Tow} {a q : Nat} (h : ∀ i (hi : i < ts.length), a ≤ i → ¬ q < ts[i].h) : rowT (ts.take a) q = rowT ts q := by
  unfold rowT
  conv => rhs; rw [← List.take_append_drop a ts, List.filter_append]
  rw [show (ts.drop a).filter (fun t => decide (q < t.h)) = [] from List.filter_eq_nil_iff.2 (fun t ht => by
    obtain ⟨i, hi, rfl⟩ := List.getElem_of_mem ht
    rw [List.length_drop] at hi
    rw [List.getElem_drop]
    simpa using h (a + i) (by omega) (by omega)), List.append_nil]

theorem row_next {ts : List Tow} {a q j : Nat} (hj : j < ts.length) (haj : a ≤ j) (hq : q < ts[j].h) (h : ∀ i (hi : i < ts.length), a ≤ i → i < j → ¬ q < ts[i].h) : rowT (ts.take (j + 1)) q = rowT (ts.take a) q ++ [ts[j]] := by
  unfold rowT
  rw [List.take_succ_eq_append_getElem hj, List.filter_append]
  have e1 : [ts[j]].filter (fun t => decide (q < t.h)) = [ts[j]] := by simp [hq]
  rw [e1]
  congr 1
  have e2 : ts.take j = ts.take a ++ (ts.drop a).take (j - a) := by
    rw [← List.take_add, show a + (j - a) = j by omega]
  rw [e2, List.filter_append, show ((ts.drop a).take (j - a)).filter (fun t => decide (q < t.h)) = [] from List.filter_eq_nil_iff.2 (fun t ht => by
    obtain ⟨i, hi, h1, h2, rfl⟩ := mem_mid ht
    simpa using h i hi h1 h2), List.append_nil]

theorem row_pre {ts : List Tow} {a q : Nat} : rowT (ts.take a) q <+: rowT ts q := by
  unfold rowT
  exact (List.take_prefix a ts).filter _

theorem pos_at {w : World} {l : Nat} {ts : List Tow} (h : SkAt w l ts) {j : Nat} (hj : j < ts.length) : posT ts ts[j].b = j := by
  unfold posT
  rw [List.findIdx_eq hj]
  refine ⟨by simp, fun i hi => ?_⟩
  have hne : ts[i].b ≠ ts[j].b := fun e => by
    have := h.inj (i + 1) (j + 1) (by omega) (by omega) (by rw [nb_succ l (by omega), nb_succ l hj]; exact e)
    omega
  simpa using hne

set_option maxRecDepth 100000 in
set_option maxHeartbeats 4000000 in
theorem row_stops (n : Nat) (hn : 1 ≤ n) (v w : World) (l h q Bl Bh : Nat) (ts : List Tow) (hS : SkAt v l ts) (hvw : Below v.heap.size v w) (hq : h = q + 1) (h8 : q < 8) (cl : w.cell? ⟨Bl, 0, none⟩ = some (.pointer (some ⟨l, 0, none⟩))) (ch : w.cell? ⟨Bh, 0, none⟩ = some (.int .i64 (h : Int))) :
    SeqStopsK Fence.wide n Try.prog 72 #[.pointer (some ⟨Bl, 0, none⟩), .pointer (some ⟨Bh, 0, none⟩)] (fun t : {t : Tow // t ∈ ts} => #[enV t.1.x (t.1.e.2.1 : Int) (t.1.e.2.2.1.toNat : Int) t.1.y]) (KpR v.heap.size Bh) (fun xs => xs.map (·.1) = rowT ts q) (fun pre => pre.map (·.1) <+: rowT ts q) (ts.length + 1) w := fun yl J Jx W hW hJ hJx hY h0 => by
  have hvW : Below v.heap.size v W := hvw.trans (hW.mono hvw.size)
  have hSW := hS.below hvW
  have clW : W.cell? ⟨Bl, 0, none⟩ = some (.pointer (some ⟨l, 0, none⟩)) := by rw [hW.cell (p := ⟨Bl, 0, none⟩) (World.block_lt_of_cell? w _ cl)]; exact cl
  have chW : W.cell? ⟨Bh, 0, none⟩ = some (.int .i64 (h : Int)) := by rw [hW.cell (p := ⟨Bh, 0, none⟩) (World.block_lt_of_cell? w _ ch)]; exact ch
  have hIr := isRow_any W (h : Int) true (decide_eq_true ⟨by omega, by omega⟩)
  have n0 := (hSW.nod 0 (Nat.zero_le _)).cel q h8
  have hnb : nb l ts 0 = l := rfl
  have hnh : nh ts 0 = 8 := rfl
  rw [hnb, hnh, if_pos h8, List.drop_zero] at n0
  have HS : Hid (SkAt v l ts) := hS
  have hqI : (h : Int) - 1 = (q : Int) := by omega
  have hq0 : (0 : Int) ≤ (q : Int) := by omega
  have hq8 : (q : Int) < 8 := by omega
  obtain ⟨fv, hfv⟩ : ∃ v, ptrT (fstT ts q) = v := ⟨_, rfl⟩
  rw [hfv] at n0
  have HFV : Hid (ptrT (fstT ts q) = fv) := hfv
  clear hnb hnh hfv hSW cl ch hS hq
  refine callsIn_of_wp Try.func72 rfl trivial ?_ rfl
  simp only [Try.ntmps72, List.size_toArray, List.length_cons, List.length_nil, Nat.reduceAdd, Nat.reduceSub, Array.replicate_succ, Array.replicate_zero, List.push_toArray, List.append_toArray, List.nil_append, List.cons_append]
  gi_wp2_with fail
  refine ⟨trivial, ?_⟩
  refine (callsIn_wide.2 hIr).mono ?_
  rintro e w1 ⟨rfl, hw1⟩
  subst w1
  gi_wp2_with fail
  gi_region
  gi_wp2
  have hJ0 : J [] W.drew := hJ [] W _ none h0 ⟨rfl, rfl, rfl, Nat.le_refl _, fun _ _ _ => rfl⟩ (fun r e => by cases e)
  have HJ : Hid (AbidesFrom W.heap.size J) := hJ
  have hBW : Below v.heap.size v W.drew := hvW.drew
  clear hJ hJx h0 hW clW hIr n0
  gi_loopw [4] (fun tv wr => ∃ a : Nat, a ≤ ts.length ∧ tv = ptrT (fstT (ts.drop a) q) ∧ (∃ pre : List {t : Tow // t ∈ ts}, pre.map (·.1) = rowT (ts.take a) q ∧ J pre wr) ∧ Below v.heap.size v wr ∧ wr.cell? ⟨Bh, 0, none⟩ = some (.int .i64 (h : Int))) (fun tv wr => leftT ts tv)
  case atStart => exact ⟨0, Nat.zero_le _, by rw [List.drop_zero, HFV.out], ⟨[], by simp [rowT], hJ0⟩, hBW, chW⟩
  case round =>
    obtain ⟨a, han, rfl, ⟨pre, hpre, hJa⟩, hBa, hca⟩ := hrel
    have hSa := HS.out.below hBa
    rcases fst_drop ts a q with ⟨hf, hno⟩ | ⟨j, hj, haj, hjh, hf, hno⟩
    · rw [hf]
      have HJ9 : Hid (∃ xs : List {t : Tow // t ∈ ts}, xs.map (·.1) = rowT ts q ∧ J xs wr) := ⟨pre, by rw [hpre]; exact row_none hno, hJa⟩
      simp only [ptrT]
      clear hY hJa hf hno hSa hpre
      gi_wp2
      go_end0
      exact ⟨⟨_, rfl⟩, .inl HJ9.out⟩
    · rw [hf]
      simp only [ptrT]
      obtain ⟨xj, hxj⟩ : ∃ z : {t : Tow // t ∈ ts}, z.1 = ts[j] := ⟨⟨ts[j], List.getElem_mem hj⟩, rfl⟩
      have HPN : Hid ((pre ++ [xj]).map (·.1) = rowT (ts.take (j + 1)) q) := by
        show _ = _
        rw [row_next hj haj hjh hno, List.map_append, hpre, List.map_cons, List.map_nil, hxj]
      obtain ⟨fn, tmps, assign, body, hy, hR⟩ := hY pre xj wr hJa (by
        have h0 := congrArg List.length hpre
        rw [List.length_map] at h0
        have h1 : (rowT (ts.take a) q).length ≤ (ts.take a).length := List.length_filter_le _ _
        rw [List.length_take] at h1
        omega)
      have hent := hSa.ent ts[j] (List.getElem_mem hj)
      have hpos := pos_at HS.out hj
      obtain ⟨t, ht⟩ : ∃ t, ts[j] = t := ⟨_, rfl⟩
      rw [hxj, ht] at hy
      rw [ht] at hent hpos hjh
      obtain ⟨⟨c0, c1, c2, c3⟩, rx, ry⟩ := hent
      obtain ⟨x1, xc, ex⟩ := rx.len
      obtain ⟨y1, yc, ey⟩ := ry.len
      rw [ex] at c0
      rw [ey] at c3
      rw [ex, ey] at hy
      obtain ⟨tb, htb⟩ : ∃ z, t.b = z := ⟨_, rfl⟩
      rw [ht, htb]
      rw [htb] at c0 c1 c2 c3
      clear hY hJa hf hno hSa rx ry hpre hxj
      gi_wp2_with fail
      refine hR.mono ?_
      rintro e W3 (⟨rfl, hJ3, hK3⟩ | ⟨rfl, hJx3⟩)
      · have hB3 := hBa.trans hK3.1
        have hc3 := hK3.2 _ hca
        have HJ3 : Hid (J (pre ++ [xj]) W3.drew) := HJ.out _ W3 _ none hJ3 ⟨rfl, rfl, rfl, Nat.le_refl _, fun _ _ _ => rfl⟩ (fun r e => by cases e)
        have hS3 := HS.out.below hB3
        have n3 := (hS3.nod (j + 1) (by omega)).cel q h8
        rw [nb_succ l hj, nh_succ hj, ht, htb, if_pos hjh] at n3
        obtain ⟨nv, hnv⟩ : ∃ v, ptrT (fstT (ts.drop (j + 1)) q) = v := ⟨_, rfl⟩
        rw [hnv] at n3
        have HNV : Hid (ptrT (fstT (ts.drop (j + 1)) q) = nv) := hnv
        have HM : Hid (leftT ts nv < leftT ts (.pointer (some ⟨tb, 0, none⟩))) := by
          show _ < _
          rw [← hnv]
          have e1 : leftT ts (.pointer (some ⟨tb, 0, none⟩)) = ts.length - j := by unfold leftT; rw [← htb]; simp only [hpos]
          rw [e1]
          rcases fst_drop ts (j + 1) q with ⟨hf2, _⟩ | ⟨j2, hj2, haj2, _, hf2, _⟩
          · rw [hf2]; simp only [ptrT, leftT]; omega
          · rw [hf2]; simp only [ptrT, leftT]; rw [pos_at HS.out hj2]; omega
        clear hR hK3 c0 c1 c2 c3 hS3 hnv hca hy
        gi_wp2_with fail
        gi_region
        gi_wp2
        go_roundw
        case rel => exact ⟨j + 1, by omega, HNV.out.symm, ⟨_, HPN.out, HJ3.out⟩, hB3.drew, hc3⟩
        case measure => exact HM.out
      · have HPP : Hid ((pre ++ [xj]).map (·.1) <+: rowT ts q) := by show _ <+: _; rw [HPN.out]; exact row_pre
        gi_wp2
        refine bodyPost_ret (results_none rfl _ _ _) rfl ?_
        exact ⟨⟨_, rfl⟩, .inr ⟨_, HPP.out, hJx3⟩⟩

end Go.Proofs.Ytgphjgpibjhbjaa

/- (*skip.List).row, Len. -/
namespace Go.Proofs.Ytgphjgpibjhbjaa
open Go.RowKit Go.Shelf
set_option linter.unusedVariables false

attribute [local go_sem] Oper.semAt_some

theorem skrow_any (w : World) (pv : Option Addr) (h : Int) :
    Calls Try.prog 60 #[.pointer pv, .int .i64 h] w fun e w' => e = .returned (.func (.func 72) #[] #[.pointer (some ⟨w.heap.size, 0, none⟩), .pointer (some ⟨w.heap.size + 1, 0, none⟩)]) ∧ w' = (w.alloc (.cells #[.pointer pv] 79)).alloc (.cells #[.int .i64 h] 3) := by
  go_enter Try.func60, Try.ntmps60
  go_wp2
  go_ret
  exact ⟨by simp, rfl⟩

theorem rd_one_cell (W : World) (v : Value) (t : TypeId) : (W.alloc (.cells #[v] t)).cell? ⟨W.heap.size, 0, none⟩ = some v := by
  unfold World.cell?
  rw [heap_alloc_new]
  rfl
theorem cell_new_l (W : World) (v : Value) (t : TypeId) : (W.alloc (.cells #[v] t)).cell? ⟨W.heap.size, 0, none⟩ = some v ∧ (W.alloc (.cells #[v] t)).frozen? ⟨W.heap.size, 0, none⟩ = false := ⟨(rd_one_cell W v t), frozen_of_row (W.alloc (.cells #[v] t)) W.heap.size 0 _ t (heap_alloc_new W (.cells #[v] t))⟩
theorem cell_alloc_l {W : World} {a : Addr} {v : Value} (o : Obj) (h : W.cell? a = some v) : (W.alloc o).cell? a = some v := cell_kept h (World.grownBy_alloc W o none) (fun r e => by cases e)
theorem frozen_alloc_l {W : World} {a : Addr} {v : Value} (o : Obj) (h : W.cell? a = some v) (hf : W.frozen? a = false) : (W.alloc o).frozen? a = false := (frozen_kept h (World.grownBy_alloc W o none) (fun r e => by cases e)).trans hf

theorem row_low {ts : List Tow} (hh : ∀ t ∈ ts, 1 ≤ t.h ∧ t.h ≤ 8) : rowT ts 0 = ts := by
  unfold rowT
  rw [List.filter_eq_self]
  intro t ht
  have := (hh t ht).1
  simp
  omega

theorem kpR_set {n0 Bh b : Nat} {W : World} (h1 : n0 ≤ b) (h2 : Bh ≠ b) (i : Nat) (u : Value) : KpR n0 Bh W (W.setCell ⟨b, i, none⟩ u) :=
  ⟨(Below.refl n0 W).setCell (p := ⟨b, i, none⟩) h1 u, fun v hv => by rw [cell_other W ⟨b, i, none⟩ ⟨Bh, 0, none⟩ u h2]; exact hv⟩

end Go.Proofs.Ytgphjgpibjhbjaa

/- (*skip.List).Size. -/
namespace Go.Proofs.Ytgphjgpibjhbjaa
open Go.RowKit Go.Shelf
set_option linter.unusedVariables false

attribute [local go_sem] Oper.semAt_some

/-- how many bytes the entries count for -/
def sizE (e : EnB) : Nat := e.1.length + e.2.2.2.length + 16
def sizL (l : List EnB) : Nat := (l.map sizE).sum
def sizT (ts : List Tow) : Nat := sizL (esT ts)
def sizS {ts : List Tow} (pre : List {t : Tow // t ∈ ts}) : Nat := sizT (pre.map (·.1))

theorem sizS_snoc {ts : List Tow} (pre : List {t : Tow // t ∈ ts}) (x : {t : Tow // t ∈ ts}) : sizS (pre ++ [x]) = sizS pre + (x.1.e.1.length + x.1.e.2.2.2.length + 16) := by
  simp [sizS, sizT, sizL, esT, sizE]

/-- no entry is longer than that -/
def LenT (ts : List Tow) (m : Nat) : Prop := ∀ t ∈ ts, t.e.1.length ≤ m ∧ t.e.2.2.2.length ≤ m

theorem sizS_le {ts : List Tow} {m : Nat} (h : LenT ts m) (pre : List {t : Tow // t ∈ ts}) : sizS pre ≤ pre.length * (2 * m + 16) := by
  induction pre with
  | nil => simp [sizS, sizT, sizL, esT]
  | cons x xs ih =>
    have hx := h x.1 x.2
    have e : sizS (x :: xs) = sizE x.1.e + sizS xs := by simp [sizS, sizT, sizL, esT]
    rw [e, List.length_cons, Nat.add_mul]
    unfold sizE
    omega

theorem kpR_alloc {n0 Bh : Nat} {W : World} (h : n0 ≤ W.heap.size) (o : Obj) : KpR n0 Bh W (W.alloc o) := ⟨(Below.refl n0 W).alloc h o, fun v hv => cell_alloc_l o hv⟩

set_option maxRecDepth 100000 in
set_option maxHeartbeats 4000000 in
theorem sksize_any (w : World) (l : Nat) (ts : List Tow) (hS : SkAt w l ts) (hL : LenT ts 1000) :
    Calls Try.prog 43 #[.pointer (some ⟨l, 0, none⟩)] w fun e w' => e = .returned (.int .i64 (sizT ts : Int)) ∧ Below w.heap.size w w' := by
  have HS : Hid (SkAt w l ts) := hS
  have c0 := cell_new_l w (.int .i64 0) 3
  have hB1 : Below w.heap.size w (w.alloc (.cells #[.int .i64 0] 3)) := (Below.refl _ w).alloc (Nat.le_refl _) _
  have hrw := skrow_any (w.alloc (.cells #[.int .i64 0] 3)) (some ⟨l, 0, none⟩) 1
  have hs1 : (w.alloc (.cells #[.int .i64 0] 3)).heap.size = w.heap.size + 1 := by simp
  rw [hs1] at hrw
  have c1 := cell_new_l (w.alloc (.cells #[.int .i64 0] 3)) (.pointer (some ⟨l, 0, none⟩)) 79
  have c2 := cell_new_l ((w.alloc (.cells #[.int .i64 0] 3)).alloc (.cells #[.pointer (some ⟨l, 0, none⟩)] 79)) (.int .i64 1) 3
  have d0 := cell_alloc_l (.cells #[.int .i64 1] 3) (cell_alloc_l (.cells #[.pointer (some ⟨l, 0, none⟩)] 79) c0.1)
  have d0f := frozen_alloc_l (.cells #[.int .i64 1] 3) (cell_alloc_l (.cells #[.pointer (some ⟨l, 0, none⟩)] 79) c0.1) (frozen_alloc_l (.cells #[.pointer (some ⟨l, 0, none⟩)] 79) c0.1 c0.2)
  have d1 := cell_alloc_l (.cells #[.int .i64 1] 3) c1.1
  have hB3 : Below w.heap.size w (((w.alloc (.cells #[.int .i64 0] 3)).alloc (.cells #[.pointer (some ⟨l, 0, none⟩)] 79)).alloc (.cells #[.int .i64 1] 3)) := (hB1.alloc hB1.size _).alloc (hB1.alloc hB1.size _).size _
  simp only [World.size_alloc] at c1 c2 d1
  have hz3 : (((w.alloc (.cells #[.int .i64 0] 3)).alloc (.cells #[.pointer (some ⟨l, 0, none⟩)] 79)).alloc (.cells #[.int .i64 1] 3)).heap.size = w.heap.size + 3 := by simp
  have hlen := hS.len
  refine (callsIn_wide (n := 4)).1 ?_
  refine callsIn_of_wp_marks Try.func43 rfl trivial ?_ rfl
  simp only [Try.ntmps43, List.size_toArray, List.length_cons, List.length_nil, Nat.reduceAdd, Nat.reduceSub, Array.replicate_succ, Array.replicate_zero, List.push_toArray, List.append_toArray, List.nil_append, List.cons_append]
  gi_wp2_with fail
  refine ⟨trivial, ?_⟩
  refine (callsIn_wide.2 hrw).mono ?_
  rintro e w3 ⟨rfl, hw3⟩
  rw [← hw3] at c2 d0 d0f d1 hB3 hz3
  clear hw3 c0 c1 hB1 hrw hs1
  have HB3 : Hid (Below w.heap.size w w3) := hB3
  have HL : Hid (LenT ts 1000) := hL
  clear hL
  gi_wp2_with fail
  refine wpIn_rangeFunc_ownH rfl (by omega) (gf := 72) (lb := #[.pointer (some ⟨w.heap.size + 1, 0, none⟩), .pointer (some ⟨w.heap.size + 1 + 1, 0, none⟩)]) rfl trivial (enters_of Try.func72 (by kernel_rfl) rfl)
    (row_stops 3 (by omega) w w3 l 1 0 _ _ ts HS.out hB3 rfl (by omega) d1 c2.1) kpR_t (kpR_b (by omega)) (Below.refl _ _) (fun _ => rfl)
    (fun (pre : List {t : Tow // t ∈ ts}) W => ((W.cell? ⟨w.heap.size, 0, none⟩ = some (.int .i64 (sizS pre : Int)) ∧ W.frozen? ⟨w.heap.size, 0, none⟩ = false)) ∧ Below w.heap.size w W)
    (fun c (pre : List {t : Tow // t ∈ ts}) W => False)
    (OwnFrom.and (Go.Own.from (fun s A B row hs hg hr => ⟨cell_kept hs.1 hg hr, (frozen_kept hs.1 hg hr).trans hs.2⟩) _) (ownFrom_below (Nat.le_refl _) (by omega)))
    (fun c s A B row hs hg hr => hs)
    ⟨⟨d0, d0f⟩, hB3⟩
    (fun (x : {t : Tow // t ∈ ts}) a' W => ∃ Bx, w.heap.size < Bx ∧ Box4 W Bx x.1.x (.int .u64 (x.1.e.2.1 : Int)) (.int .u8 (x.1.e.2.2.1.toNat : Int)) x.1.y ∧ a' = { tmps := #[.pointer (some ⟨l, 0, none⟩), undef, .int .i64 0, .pointer (some ⟨w.heap.size, 0, none⟩), .pointer (some ⟨Bx, 0, none⟩), .pointer (some ⟨l, 0, none⟩), .func (.func 72) #[] #[.pointer (some ⟨w.heap.size + 1, 0, none⟩), .pointer (some ⟨w.heap.size + 1 + 1, 0, none⟩)], enV x.1.x (x.1.e.2.1 : Int) (x.1.e.2.2.1.toNat : Int) x.1.y, undef, undef, undef, undef, undef, undef, undef, undef, undef, undef, undef, undef], defers := [] })
    (fun x a' _ X Y row hs hg hr => by
      obtain ⟨Bx, h1, h2, h3⟩ := hs
      exact ⟨Bx, h1, ⟨cell_kept h2.c0 hg (fun r e => (hr r e).2), cell_kept h2.c1 hg (fun r e => (hr r e).2), cell_kept h2.c2 hg (fun r e => (hr r e).2), cell_kept h2.c3 hg (fun r e => (hr r e).2)⟩, h3⟩)
    ?assign ?body ?done ?stop
  case assign =>
    rintro l pre x W K ⟨⟨hc, hf⟩, hBW⟩ hK
    have hent := HS.out.ent x.1 x.2
    obtain ⟨x1, xc, ex⟩ := hent.rx.len
    obtain ⟨y1, yc, ey⟩ := hent.ry.len
    have HX : Hid (x.1.x = .slice x1 x.1.e.1.length xc) := ex
    have HY : Hid (x.1.y = .slice y1 x.1.e.2.2.2.length yc) := ey
    have HK : Hid _ := hK
    rw [ex, ey]
    clear hent ex ey hK
    simp only [enV]
    gi_wp2
    refine HK.out _ _ ((KeepsOthers.alloc _ _).from _) (kpR_alloc hBW.size _) ⟨⟨cell_alloc_l _ hc, frozen_alloc_l _ hc hf⟩, hBW.alloc hBW.size _⟩ ⟨W.heap.size, World.block_lt_of_cell? _ _ hc, ?_, ?_⟩
    · rw [HX.out, HY.out]
      exact box4_new W _ _ _ _ _
    · rw [HX.out, HY.out]
  case body =>
    rintro l pre x a' W hl hlr ⟨⟨hc, hf⟩, hBW⟩ ⟨Bx, hBx, ⟨b0, b1, b2, b3⟩, rfl⟩ hpl
    have hxl := HL.out x.1 x.2
    have hsl := sizS_le HL.out pre
    have hent := HS.out.ent x.1 x.2
    obtain ⟨x1, xc, ex⟩ := hent.rx.len
    obtain ⟨y1, yc, ey⟩ := hent.ry.len
    rw [ex] at b0
    rw [ey] at b3
    have HSN : Hid (sizS (pre ++ [x]) = sizS pre + (x.1.e.1.length + x.1.e.2.2.2.length + 16)) := sizS_snoc pre x
    obtain ⟨n1, hn1⟩ : ∃ n, x.1.e.1.length = n := ⟨_, rfl⟩
    obtain ⟨n2, hn2⟩ : ∃ n, x.1.e.2.2.2.length = n := ⟨_, rfl⟩
    obtain ⟨n3, hn3⟩ : ∃ n, sizS pre = n := ⟨_, rfl⟩
    rw [hn1, hn2, hn3] at HSN
    rw [hn1] at b0 hxl
    rw [hn2] at b3 hxl
    rw [hn3] at hc hsl
    have hpI : (n3 : Int) ≤ 10000000 := by have : pre.length ≤ 4000 := by omega
                                           omega
    have hn1I : (n1 : Int) ≤ 1000 := by omega
    have hn2I : (n2 : Int) ≤ 1000 := by omega
    rw [ex, ey]
    clear hn1 hn2 hn3 hxl hsl hent ex ey
    gi_wp2_with fail
    refine ⟨(KeepsOthers.setCell _ _ _).from _, kpR_set (Nat.le_refl _) (by omega) _ _, ⟨?_, ?_⟩, hBW.setCell (p := ⟨w.heap.size, 0, none⟩) (by simp) _⟩
    · rw [World.cell?_setCell_same' _ _ _ (by rw [hc]; rfl), HSN.out]
      congr 2
    · simpa [World.frozen?_setCell] using hf
  case done =>
    rintro D ys W hD hys ⟨⟨hc, hf⟩, hBW⟩ hK
    rw [row_low HS.out.ht] at hys
    have hyl : sizS ys = sizT ts := by unfold sizS; rw [hys]
    rw [hyl] at hc
    gi_wp2
    refine ⟨by simp, .inl ⟨_, _, rfl, run_takeDeferred hK, ?_⟩⟩
    refine ⟨.int .i64 (sizT ts : Int), ?_, rfl, hBW.trans (belowK_b (w := w) (Nat.le_refl _) _ D _ _ (by omega) hK rfl rfl)⟩
    simp [results, Try.f43, go_sem]
  case stop =>
    rintro D c pre W hD hpre hF hK
    exact hF.elim

end Go.Proofs.Ytgphjgpibjhbjaa

/- (*skip.List).All. -/
namespace Go.Proofs.Ytgphjgpibjhbjaa
open Go.RowKit Go.Shelf
set_option linter.unusedVariables false

attribute [local go_sem] Oper.semAt_some

/-- entries in a row of one's own; what they hold lies from block B on, elsewhere -/
def OwnEF (B : Nat) (w : World) (v : Value) (es : List EnB) : Prop :=
  ∃ cs, w.ownsRow B 44 4 v es.length cs ∧ ∀ j (h : j < es.length), ∃ x y, cs[j * 4]? = some x ∧ cs[j * 4 + 1]? = some (.int .u64 (es[j].2.1 : Int)) ∧ cs[j * 4 + 2]? = some (.int .u8 (es[j].2.2.1.toNat : Int)) ∧ cs[j * 4 + 3]? = some y ∧ (Rd w x es[j].1 ∧ NeB x es[j].1 v ∧ From B x) ∧ (Rd w y es[j].2.2.2 ∧ NeB y es[j].2.2.2 v ∧ From B y)

theorem OwnEF.nil (B : Nat) (w : World) : OwnEF B w (.slice none 0 0) [] := ⟨[], World.ownsRow_nil _ _ _ _, fun _ h => absurd h (Nat.not_lt_zero _)⟩

theorem OwnEF.own {B : Nat} {w : World} {v : Value} {es : List EnB} (h : OwnEF B w v es) : OwnE B w v es := by
  obtain ⟨cs, hr, hj⟩ := h
  refine ⟨cs, hr, fun j hl => ?_⟩
  obtain ⟨x, y, c0, c1, c2, c3, ox, oy⟩ := hj j hl
  exact ⟨x, y, c0, c1, c2, c3, ⟨ox.1, ox.2.1⟩, ⟨oy.1, oy.2.1⟩⟩

theorem OwnEF.below {B C : Nat} {w w' : World} {v : Value} {es : List EnB} (h : OwnEF B w v es) (hb : Below C w w') (hC : w.heap.size ≤ C) : OwnEF B w' v es := by
  obtain ⟨cs, hr, hj⟩ := h
  have hb' : Below w.heap.size w w' := ⟨hb.os, hb.tape, hb.output, hb.size, fun i hi => hb.block i (Nat.lt_of_lt_of_le hi hC)⟩
  refine ⟨cs, row_below hr hb', fun j h => ?_⟩
  obtain ⟨x, y, c0, c1, c2, c3, ox, oy⟩ := hj j h
  exact ⟨x, y, c0, c1, c2, c3, ⟨ox.1.below hb hC, ox.2⟩, ⟨oy.1.below hb hC, oy.2⟩⟩

/-- what turned lies below B, or is no cells -/
def Aside (B : Nat) (A : World) (row : Option Nat) : Prop := ∀ r, row = some r → r < B ∨ ∃ o : Obj, A.heap[r]? = some o ∧ o.isCells = false

theorem cell_aside {B : Nat} {A C : World} {row : Option Nat} {a : Addr} {v : Value} (hc : A.cell? a = some v) (hB : B ≤ a.block) (hg : A.grownBy C row) (hr : Aside B A row) : C.cell? a = some v := by
  rcases row with _ | r
  · exact cell_kept hc hg (fun r e => by cases e)
  · rcases hr r rfl with h | h
    · rw [World.cell?_of_block (hg.block a.block (World.block_lt_of_cell? _ _ hc) (fun e => by cases e; omega))]
      exact hc
    · exact cell_kept hc hg (fun r' e => by cases e; exact h)

theorem rd_aside {B : Nat} {A C : World} {row : Option Nat} {x : Value} {l : List UInt8} (h : Rd A x l) (hf : From B x) (hg : A.grownBy C row) (hr : Aside B A row) : Rd C x l := by
  rcases h with h | ⟨b, off, cap, rfl, h1, h2, h3⟩
  · exact .inl h
  · exact .inr ⟨b, off, cap, rfl, h1, h2, fun j u hu => cell_aside (a := ⟨b, off + j, none⟩) (h3 j u hu) (hf ⟨b, off, none⟩ _ _ rfl) hg hr⟩

theorem row_aside {B n s : Nat} {e : TypeId} {cs : List Value} {A C : World} {row : Option Nat} {v : Value} (h : A.ownsRow B e s v n cs) (hg : A.grownBy C row) (hr : Aside B A row) : C.ownsRow B e s v n cs := by
  refine h.kept hg ?_
  rcases h.2 with ⟨e1, _⟩ | ⟨g, cap, cur, e1, hb, hgc, _⟩
  · left; rw [e1]; rfl
  · right
    intro e2
    rw [e1] at e2
    rcases hr g e2.symm with h9 | ⟨o, ho, hc⟩
    · omega
    · rw [hgc] at ho
      cases ho
      cases hc

theorem OwnEF.aside {B : Nat} {A C : World} {row : Option Nat} {v : Value} {es : List EnB} (h : OwnEF B A v es) (hg : A.grownBy C row) (hr : Aside B A row) : OwnEF B C v es := by
  obtain ⟨cs, h1, hj⟩ := h
  refine ⟨cs, row_aside h1 hg hr, fun j h => ?_⟩
  obtain ⟨x, y, c0, c1, c2, c3, ox, oy⟩ := hj j h
  exact ⟨x, y, c0, c1, c2, c3, ⟨rd_aside ox.1 ox.2.2 hg hr, ox.2⟩, ⟨rd_aside oy.1 oy.2.2 hg hr, oy.2⟩⟩

theorem OwnEF.set {B : Nat} {W : World} {v : Value} {es : List EnB} (h : OwnEF B W v es) {b : Nat} (hb : b < B) (u : Value) : OwnEF B (W.setCell ⟨b, 0, none⟩ u) v es :=
  h.aside (grownBy_setCell' W b u) (fun r e => by cases e; exact .inl hb)

theorem OwnEF.push {B g c n : Nat} {w w' : World} {v x y : Value} {es : List EnB} {cs : List Value} (o : EnB) (hl : es.length = n) (hrow : w.ownsRow B 44 4 v n cs)
    (hel : ∀ j (h : j < es.length), ∃ x y, cs[j * 4]? = some x ∧ cs[j * 4 + 1]? = some (.int .u64 (es[j].2.1 : Int)) ∧ cs[j * 4 + 2]? = some (.int .u8 (es[j].2.2.1.toNat : Int)) ∧ cs[j * 4 + 3]? = some y ∧ (Rd w x es[j].1 ∧ NeB x es[j].1 v ∧ From B x) ∧ (Rd w y es[j].2.2.2 ∧ NeB y es[j].2.2.2 v ∧ From B y))
    (hx : Rd w x o.1 ∧ NeB x o.1 v ∧ From B x) (hy : Rd w y o.2.2.2 ∧ NeB y o.2.2.2 v ∧ From B y) (hn : w'.ownsRow B 44 4 (.slice (some ⟨g, 0, none⟩) (n + 1) c) (n + 1) (cs ++ [x, .int .u64 (o.2.1 : Int), .int .u8 (o.2.2.1.toNat : Int), y])) (hg : w.grownBy w' v.ownBlock) (hat : v.ownBlock = some g ∨ g = w.heap.size) : OwnEF B w' (.slice (some ⟨g, 0, none⟩) (n + 1) c) (es ++ [o]) := by
  subst hl
  have hcl : cs.length = es.length * 4 := hrow.1
  refine ⟨_, by rw [List.length_append]; exact hn, fun j h => ?_⟩
  by_cases hj : j < es.length
  · obtain ⟨x', y', c0, c1, c2, c3, ox, oy⟩ := hel j hj
    refine ⟨x', y', ?_, ?_, ?_, ?_, ?_, ?_⟩
    · rw [List.getElem?_append_left (by omega)]; exact c0
    · rw [List.getElem?_append_left (by omega), List.getElem_append_left hj]; exact c1
    · rw [List.getElem?_append_left (by omega), List.getElem_append_left hj]; exact c2
    · rw [List.getElem?_append_left (by omega)]; exact c3
    · rw [List.getElem_append_left hj]; exact ⟨rd_grown ox.1 hg ox.2.1, neb_step ox.2.1 ox.1 hat, ox.2.2⟩
    · rw [List.getElem_append_left hj]; exact ⟨rd_grown oy.1 hg oy.2.1, neb_step oy.2.1 oy.1 hat, oy.2.2⟩
  · have hje : j = es.length := by rw [List.length_append] at h; simp at h; omega
    subst hje
    have e : (es ++ [o])[es.length]'h = o := by simp
    rw [e]
    refine ⟨x, y, ?_, ?_, ?_, ?_, ⟨rd_grown hx.1 hg hx.2.1, neb_step hx.2.1 hx.1 hat, hx.2.2⟩, ⟨rd_grown hy.1 hg hy.2.1, neb_step hy.2.1 hy.1 hat, hy.2.2⟩⟩
    · rw [List.getElem?_append_right (by omega), show es.length * 4 - cs.length = 0 by omega]; rfl
    · rw [List.getElem?_append_right (by omega), show es.length * 4 + 1 - cs.length = 1 by omega]; rfl
    · rw [List.getElem?_append_right (by omega), show es.length * 4 + 2 - cs.length = 2 by omega]; rfl
    · rw [List.getElem?_append_right (by omega), show es.length * 4 + 3 - cs.length = 3 by omega]; rfl

theorem step_append_in {F : Fence} {nF : Nat} {P : Program} (w : World) {ops : Array Oper} {o : Oper} {a : Act} {K : Act → World → Prop} {Q : Exit → Act → World → Prop} {E : Prop} (hgd : o.guard = none) (s x : Operand) (t : TypeId)
    (ho : o.op = .call { callee := .builtin .append, args := #[s, x], argTypes := #[t, t] })
    (base : Nat) (e : TypeId) (i : TypeInfo) (z : Value) (size bytes : Nat) (ht : P.underlying t = some (.slice e)) (hi : P.info? e = some i) (hz : i.zero = some z)
    (hsize : i.size = size) (hby : i.bytes = bytes) (hzs : z.cells.size = size) (hsz : 0 < size)
    (v : Value) (n : Nat) (xs : List Value) (hs : a.eval s = v) (hown : w.ownsRow base e size v n xs)
    (ad : Addr) (m c : Nat) (news : List Value) (hx : a.eval x = .slice (some ad) m c) (hl : news.length = m * size) (hnews : ∀ j u, news[j]? = some u → w.cell? (ad.add j) = some u) (h1 : ∀ u ∈ news, u.oneCell' = true)
    (hm : 0 < m) (h63 : n + m ≤ maxLen) (hbytes : (n + m) * bytes ≤ 140737488355328) (hbase : base ≤ w.heap.size) (H : Nat) (hH : w.heap.size = H)
    (h : ∀ g cap w', w'.ownsRow base e size (.slice (some ⟨g, 0, none⟩) (n + m) cap) (n + m) (xs ++ news) → w.grownBy w' v.ownBlock → (v.ownBlock = some g ∨ g = H) → g < w'.heap.size → K (a.put o.dst (.slice (some ⟨g, 0, none⟩) (n + m) cap)) w') :
    if Region.wanted o (yielded ops a.tmps) = true then Oper.wpIn F nF P o a w K Q else E := by
  have hw : Region.wanted o (yielded ops a.tmps) = true := by simp [Region.wanted, hgd]
  rw [if_pos hw]
  obtain ⟨g, cap, w', hr, h2, h3, h4, h5⟩ := run_append_lies (P := P) w t o.type base e i z size bytes ht hi hz hsize hby hzs hsz v n xs hown ad m c news hl hnews h1 hm h63 hbytes hbase H hH
  unfold Oper.wpIn
  refine ⟨by simp [Oper.about, ho, resolve, Target.leads, Sem.run_pure], ?_⟩
  rw [Oper.semAt_plain F _ _ (by rw [ho]; intro c hc'; cases hc')]
  simp [execOp, ho, resolve, invoke, builtin, hs, hx, hr, Result.andThen]
  exact h g cap w' h2 h3 h4 h5

theorem step_pushE {F : Fence} {nF : Nat} {ops : Array Oper} {o : Oper} {a : Act} {K : Act → World → Prop} {Q : Exit → Act → World → Prop} {E : Prop} (hgd : o.guard = none) (s x : Operand)
    (ho : o.op = .call { callee := .builtin .append, args := #[s, x], argTypes := #[36, 36] })
    {B m : Nat} {w2 : World} {va : Option Addr} {vc : Nat} {xa ya : Option Addr} {l1 xd l2 yd : Nat} {es : List EnB} (e : EnB) (hs : a.eval s = .slice va m vc) (hx : a.eval x = .slice (some ⟨w2.heap.size, 0, none⟩) 1 1)
    (hlen : es.length = m) (hO : OwnEF B (w2.alloc (.cells #[.slice xa l1 xd, .int .u64 (e.2.1 : Int), .int .u8 (e.2.2.1.toNat : Int), .slice ya l2 yd] 44)) (.slice va m vc) es)
    (rx : Rd w2 (.slice xa l1 xd) e.1 ∧ NeB (.slice xa l1 xd) e.1 (.slice va m vc) ∧ From B (.slice xa l1 xd)) (ry : Rd w2 (.slice ya l2 yd) e.2.2.2 ∧ NeB (.slice ya l2 yd) e.2.2.2 (.slice va m vc) ∧ From B (.slice ya l2 yd)) (hm : m ≤ 8000) (hB : B ≤ w2.heap.size)
    (h : ∀ g c4 w4, OwnEF B w4 (.slice (some ⟨g, 0, none⟩) (m + 1) c4) (es ++ [e]) → (w2.alloc (.cells #[.slice xa l1 xd, .int .u64 (e.2.1 : Int), .int .u8 (e.2.2.1.toNat : Int), .slice ya l2 yd] 44)).grownBy w4 (Value.slice va m vc).ownBlock → K (a.put o.dst (.slice (some ⟨g, 0, none⟩) (m + 1) c4)) w4) :
    if Region.wanted o (yielded ops a.tmps) = true then Oper.wpIn F nF Try.prog o a (w2.alloc (.cells #[.slice xa l1 xd, .int .u64 (e.2.1 : Int), .int .u8 (e.2.2.1.toNat : Int), .slice ya l2 yd] 44)) K Q else E := by
  obtain ⟨i0, hi, hz0, hz1, hz2⟩ := info_parts infoEn
  obtain ⟨cs, hrow, hel⟩ := hO
  rw [hlen] at hrow
  have hbe := below_box4 w2 (.cells #[.slice xa l1 xd, .int .u64 (e.2.1 : Int), .int .u8 (e.2.2.1.toNat : Int), .slice ya l2 yd] 44)
  refine step_append_in _ hgd s x 36 ho B 44 i0 (.agg #[.slice none 0 0, .int .u64 0, .int .u8 0, .slice none 0 0]) 4 64 Try.underlying36 hi hz0 hz1 hz2 rfl (by decide) (.slice va m vc) m cs hs hrow ⟨w2.heap.size, 0, none⟩ 1 1 [.slice xa l1 xd, .int .u64 (e.2.1 : Int), .int .u8 (e.2.2.1.toNat : Int), .slice ya l2 yd] hx rfl (laid4 w2 _ _ _ _ _) (oneE _ _ _ _ _ _ _ _) (by decide) (by simp only [maxLen]; omega) (by omega) (by simp; omega) _ rfl ?_
  intro g4 c4 w4 hown hgrow hat hlt4
  exact h g4 c4 w4 (OwnEF.push e hlen hrow hel ⟨rx.1.below hbe (Nat.le_refl _), rx.2⟩ ⟨ry.1.below hbe (Nat.le_refl _), ry.2⟩ hown hgrow hat) hgrow

/-- a round that put one more into the row -/
theorem push_round {n0 m s : Nat} {e : TypeId} {w W w2 w4 : World} {o : Obj} {v v4 : Value} {cs : List Value} (hBW : Below n0 w W) (hc : W.cell? ⟨n0, 0, none⟩ = some v) (hf : W.frozen? ⟨n0, 0, none⟩ = false)
    (hrow : (w2.alloc o).ownsRow (n0 + 3) e s v m cs) (hb2 : Below W.heap.size W w2) (h3 : n0 + 3 ≤ W.heap.size) (hg : (w2.alloc o).grownBy w4 v.ownBlock) (B0 : Nat) :
    w4.cell? ⟨n0, 0, none⟩ = some v ∧ w4.frozen? ⟨n0, 0, none⟩ = false ∧ KeepsFrom B0 W (w4.setCell ⟨n0, 0, none⟩ v4) ∧ KpR n0 (n0 + 1 + 1) W (w4.setCell ⟨n0, 0, none⟩ v4) ∧ Below n0 w (w4.setCell ⟨n0, 0, none⟩ v4) := by
  have h5 : Below W.heap.size W (w2.alloc o) := hb2.alloc hb2.size o
  have hlt : ∀ q, v.ownBlock = some q → n0 + 3 ≤ q ∧ q < (w2.alloc o).heap.size := fun q hq => hrow.lt q hq
  have hfar : ∀ k, k < n0 + 3 → some k ≠ v.ownBlock := fun k hk e => by have := (hlt k e.symm).1; omega
  have hcf : ∀ k i, k < n0 + 3 → ∀ u, W.cell? ⟨k, i, none⟩ = some u → w4.cell? ⟨k, i, none⟩ = some u := fun k i hk u hu => by
    rw [hg.cell_far ⟨k, i, none⟩ (by show k < _; have := h5.size; omega) (hfar k hk), h5.cell (p := ⟨k, i, none⟩) (by show k < _; omega)]
    exact hu
  have hB4 : Below n0 W w4 := (h5.mono (by omega)).grown hg (by have := h5.size; omega) (fun q hq => by have := (hlt q hq).1; omega)
  have hK : KeepsFrom B0 W w4 := by
    refine ⟨Nat.le_trans h5.size hg.size, fun k ob _ hk ho => ?_⟩
    have hkl := (Array.getElem?_eq_some_iff.1 hk).1
    have h9 := (h5.block k hkl).trans hk
    rw [hg.block k (Nat.lt_of_lt_of_le hkl h5.size) (fun e => ?_)]
    · exact h9
    · rcases hrow.2 with ⟨e1, _⟩ | ⟨g, cap, cur, e1, _, hgc, _⟩
      · rw [e1] at e; cases e
      · rw [e1] at e
        have e2 : k = g := by simpa [Value.ownBlock] using e
        subst e2
        rw [hgc] at h9
        cases h9
        cases ho
  refine ⟨hcf n0 0 (by omega) _ hc, ?_, hK.trans ((KeepsOthers.setCell _ _ _).from _), ⟨hB4.setCell (p := ⟨n0, 0, none⟩) (Nat.le_refl _) _, fun u hu => ?_⟩, (hBW.trans hB4).setCell (p := ⟨n0, 0, none⟩) (Nat.le_refl _) _⟩
  · rw [hg.frozen_far ⟨n0, 0, none⟩ (by show n0 < _; have := h5.size; omega) (hfar n0 (by omega)), h5.frozen (p := ⟨n0, 0, none⟩) (by show n0 < _; omega)]
    exact hf
  · rw [cell_other _ ⟨n0, 0, none⟩ ⟨n0 + 1 + 1, 0, none⟩ _ (by show n0 + 1 + 1 ≠ n0; omega)]
    exact hcf _ 0 (by omega) u hu

set_option maxRecDepth 100000 in
set_option maxHeartbeats 4000000 in
theorem skall_any (w : World) (l : Nat) (ts : List Tow) (hS : SkAt w l ts) (hL : LenT ts 1000) :
    Calls Try.prog 41 #[.pointer (some ⟨l, 0, none⟩)] w fun e w' => ∃ v, e = .returned v ∧ OwnEF (w.heap.size + 3) w' v (esT ts) ∧ Below w.heap.size w w' := by
  have HS : Hid (SkAt w l ts) := hS
  have c0 := cell_new_l w (.slice none 0 0) 36
  have hB1 : Below w.heap.size w (w.alloc (.cells #[.slice none 0 0] 36)) := (Below.refl _ w).alloc (Nat.le_refl _) _
  have hrw := skrow_any (w.alloc (.cells #[.slice none 0 0] 36)) (some ⟨l, 0, none⟩) 1
  have hs1 : (w.alloc (.cells #[.slice none 0 0] 36)).heap.size = w.heap.size + 1 := by simp
  rw [hs1] at hrw
  have c1 := cell_new_l (w.alloc (.cells #[.slice none 0 0] 36)) (.pointer (some ⟨l, 0, none⟩)) 79
  have c2 := cell_new_l ((w.alloc (.cells #[.slice none 0 0] 36)).alloc (.cells #[.pointer (some ⟨l, 0, none⟩)] 79)) (.int .i64 1) 3
  have d0 := cell_alloc_l (.cells #[.int .i64 1] 3) (cell_alloc_l (.cells #[.pointer (some ⟨l, 0, none⟩)] 79) c0.1)
  have d0f := frozen_alloc_l (.cells #[.int .i64 1] 3) (cell_alloc_l (.cells #[.pointer (some ⟨l, 0, none⟩)] 79) c0.1) (frozen_alloc_l (.cells #[.pointer (some ⟨l, 0, none⟩)] 79) c0.1 c0.2)
  have d1 := cell_alloc_l (.cells #[.int .i64 1] 3) c1.1
  have hB3 : Below w.heap.size w (((w.alloc (.cells #[.slice none 0 0] 36)).alloc (.cells #[.pointer (some ⟨l, 0, none⟩)] 79)).alloc (.cells #[.int .i64 1] 3)) := (hB1.alloc hB1.size _).alloc (hB1.alloc hB1.size _).size _
  simp only [World.size_alloc] at c1 c2 d1
  have hz3 : (((w.alloc (.cells #[.slice none 0 0] 36)).alloc (.cells #[.pointer (some ⟨l, 0, none⟩)] 79)).alloc (.cells #[.int .i64 1] 3)).heap.size = w.heap.size + 3 := by simp
  have hlen := hS.len
  refine (callsIn_wide (n := 4)).1 ?_
  refine callsIn_of_wp_marks Try.func41 rfl trivial ?_ rfl
  simp only [Try.ntmps41, List.size_toArray, List.length_cons, List.length_nil, Nat.reduceAdd, Nat.reduceSub, Array.replicate_succ, Array.replicate_zero, List.push_toArray, List.append_toArray, List.nil_append, List.cons_append]
  gi_wp2_with fail
  refine ⟨trivial, ?_⟩
  refine (callsIn_wide.2 hrw).mono ?_
  rintro e w3 ⟨rfl, hw3⟩
  rw [← hw3] at c2 d0 d0f d1 hB3 hz3
  clear hw3 c0 c1 hB1 hrw hs1
  have HB3 : Hid (Below w.heap.size w w3) := hB3
  have HL : Hid (LenT ts 1000) := hL
  clear hL
  gi_wp2_with fail
  refine wpIn_rangeFunc_ownH rfl (by omega) (gf := 72) (lb := #[.pointer (some ⟨w.heap.size + 1, 0, none⟩), .pointer (some ⟨w.heap.size + 1 + 1, 0, none⟩)]) rfl trivial (enters_of Try.func72 (by kernel_rfl) rfl)
    (row_stops 3 (by omega) w w3 l 1 0 _ _ ts HS.out hB3 rfl (by omega) d1 c2.1) kpR_t (kpR_b (by omega)) (Below.refl _ _) (fun _ => rfl)
    (fun (pre : List {t : Tow // t ∈ ts}) W => ∃ va vc, (W.cell? ⟨w.heap.size, 0, none⟩ = some (.slice va pre.length vc) ∧ W.frozen? ⟨w.heap.size, 0, none⟩ = false) ∧ OwnEF (w.heap.size + 3) W (.slice va pre.length vc) (esT (pre.map (·.1))) ∧ Below w.heap.size w W)
    (fun c (pre : List {t : Tow // t ∈ ts}) W => False)
    (fun s A B row hs hg hr => by
      obtain ⟨va, vc, ⟨h1, h2⟩, h3, h4⟩ := hs
      exact ⟨va, vc, ⟨cell_kept h1 hg (fun r e => (hr r e).2), (frozen_kept h1 hg (fun r e => (hr r e).2)).trans h2⟩, h3.aside hg (fun r e => .inr (hr r e).2), h4.grown hg h4.size (fun r e => by have := (hr r e).1; omega)⟩)
    (fun c s A B row hs hg hr => hs)
    ⟨none, 0, ⟨d0, d0f⟩, OwnEF.nil _ _, hB3⟩
    (fun (x : {t : Tow // t ∈ ts}) a' W => ∃ Bx, w.heap.size < Bx ∧ Box4 W Bx x.1.x (.int .u64 (x.1.e.2.1 : Int)) (.int .u8 (x.1.e.2.2.1.toNat : Int)) x.1.y ∧ a' = { tmps := #[.pointer (some ⟨l, 0, none⟩), undef, .slice none 0 0, .pointer (some ⟨w.heap.size, 0, none⟩), .pointer (some ⟨Bx, 0, none⟩), .pointer (some ⟨l, 0, none⟩), .func (.func 72) #[] #[.pointer (some ⟨w.heap.size + 1, 0, none⟩), .pointer (some ⟨w.heap.size + 1 + 1, 0, none⟩)], enV x.1.x (x.1.e.2.1 : Int) (x.1.e.2.2.1.toNat : Int) x.1.y, undef, undef, undef, undef, undef, undef], defers := [] })
    (fun x a' _ X Y row hs hg hr => by
      obtain ⟨Bx, h1, h2, h3⟩ := hs
      exact ⟨Bx, h1, ⟨cell_kept h2.c0 hg (fun r e => (hr r e).2), cell_kept h2.c1 hg (fun r e => (hr r e).2), cell_kept h2.c2 hg (fun r e => (hr r e).2), cell_kept h2.c3 hg (fun r e => (hr r e).2)⟩, h3⟩)
    ?assign ?body ?done ?stop
  case assign =>
    rintro l pre x W K ⟨va, vc, ⟨hc, hf⟩, hO, hBW⟩ hK
    have hent := HS.out.ent x.1 x.2
    obtain ⟨x1, xc, ex⟩ := hent.rx.len
    obtain ⟨y1, yc, ey⟩ := hent.ry.len
    have HX : Hid (x.1.x = .slice x1 x.1.e.1.length xc) := ex
    have HY : Hid (x.1.y = .slice y1 x.1.e.2.2.2.length yc) := ey
    have HK : Hid _ := hK
    rw [ex, ey]
    clear hent ex ey hK
    simp only [enV]
    gi_wp2
    refine HK.out _ _ ((KeepsOthers.alloc _ _).from _) (kpR_alloc hBW.size _) ⟨va, vc, ⟨cell_alloc_l _ hc, frozen_alloc_l _ hc hf⟩, hO.below (below_box4 W _) (Nat.le_refl _), hBW.alloc hBW.size _⟩ ⟨W.heap.size, World.block_lt_of_cell? _ _ hc, ?_, ?_⟩
    · rw [HX.out, HY.out]
      exact box4_new W _ _ _ _ _
    · rw [HX.out, HY.out]
  case body =>
    rintro l pre x a' W hl hlr ⟨va, vc, ⟨hc, hf⟩, hO, hBW⟩ ⟨Bx, hBx, ⟨b0, b1, b2, b3⟩, rfl⟩ hpl
    have hxl := HL.out x.1 x.2
    have hent := (HS.out.below hBW).ent x.1 x.2
    obtain ⟨x1, xc, ex⟩ := hent.rx.len
    obtain ⟨y1, yc, ey⟩ := hent.ry.len
    have rx := hent.rx
    have ry := hent.ry
    rw [ex] at b0 rx
    rw [ey] at b3 ry
    have HSN : Hid (esT ((pre ++ [x]).map (·.1)) = esT (pre.map (·.1)) ++ [x.1.e]) := by show _ = _; simp [esT]
    rw [ex, ey]
    clear ex ey hent
    obtain ⟨⟨eu, es, ek, ev⟩, he⟩ : ∃ e, x.1.e = e := ⟨_, rfl⟩
    rw [he] at HSN b0 b1 b2 b3 rx ry hxl
    rw [he]
    simp only at b0 b1 b2 b3 rx ry hxl ⊢
    have hap := skapart_any W.drew _ _ _ _ (es : Int) (ek.toNat : Int) rx.drew ry.drew (by omega) (by omega)
    obtain ⟨n1, hn1⟩ : ∃ n, eu.length = n := ⟨_, rfl⟩
    obtain ⟨n2, hn2⟩ : ∃ n, ev.length = n := ⟨_, rfl⟩
    rw [hn1, hn2] at hap
    rw [hn1] at b0
    rw [hn2] at b3
    rw [hn1, hn2]
    clear rx ry hxl hn1 hn2 he
    simp only [enV] at hap ⊢
    have hfo : Try.prog.follows .mixedOrders = true := by kernel_rfl
    gi_wp2_with fail
    have HAP : Hid _ := hap
    have HF : Hid (W.frozen? ⟨w.heap.size, 0, none⟩ = false) := hf
    have HC : Hid (W.cell? ⟨w.heap.size, 0, none⟩ = some (.slice va pre.length vc)) := hc
    have HBW : Hid (Below w.heap.size w W) := hBW
    have HO : Hid (OwnEF (w.heap.size + 3) W (.slice va pre.length vc) (esT (pre.map (·.1)))) := hO
    have HLEN : Hid ((esT (pre.map (·.1))).length = pre.length) := by show _ = _; rw [esT_len, List.length_map]
    have HLN : Hid ((pre ++ [x]).length = pre.length + 1) := by show _ = _; simp
    have HMX : Hid (pre.length ≤ 8000) := by show _ ≤ _; omega
    have H3 : Hid (w.heap.size + 3 ≤ W.heap.size) := by
      show _ ≤ _
      obtain ⟨r, hr⟩ := hlr
      have := (Array.getElem?_eq_some_iff.1 hr).1
      omega
    have HLOW : Hid (∀ q, (Value.slice va pre.length vc).ownBlock = some q → q < W.heap.size + 2) := by
      obtain ⟨cs, hrow, _⟩ := hO
      exact fun q hq => by have := (hrow.lt q hq).2; omega
    clear hap hBW hO hlr
    refine wpIn_region_any (by assumption) ?_
    try (change wpAnyIn _ _ _ _ _ _ _ _ _ (World.drew _))
    refine wpAnyIn_ready (rs := [0, 1]) (by kernel_rfl) (by simp) ?_
    refine AllReadyIn.cons rfl (fun K hK => ?_) ?_
    · go_simp
      refine hK _ _ ?_
      clear hK K
      refine wpAnyIn_ready (rs := [1]) (by kernel_rfl) (by simp) ?_
      refine AllReadyIn.cons rfl (fun K hK => ?_) AllReadyIn.nil
      go_simp
      refine hK _ _ ?_
      clear hK K
      refine wpAnyIn_ready (rs := [2]) (by kernel_rfl) (by simp) ?_
      refine AllReadyIn.cons rfl (fun K hK => ?_) AllReadyIn.nil
      go_simp
      refine ⟨trivial, ?_⟩
      gi_at_call 61
      refine (CallsIn.inRound l (callsIn_wide.2 HAP.out)).mono ?_
      rintro e w2 ⟨xv, yv, rfl, rx, ry, hlb, hb2⟩
      obtain ⟨xa, xd, rfl⟩ := rx.1.len
      obtain ⟨ya, yd, rfl⟩ := ry.1.len
      obtain ⟨l1, hl1⟩ : ∃ n, eu.length = n := ⟨_, rfl⟩
      obtain ⟨l2, hl2⟩ : ∃ n, ev.length = n := ⟨_, rfl⟩
      rw [hl1] at rx hlb ⊢
      rw [hl2] at ry hlb ⊢
      have hcz : w2.cell? ⟨w.heap.size, 0, none⟩ = some (.slice va pre.length vc) := (hb2.cell (p := ⟨w.heap.size, 0, none⟩) (World.block_lt_of_cell? _ _ HC.out)).trans HC.out
      have hfz : w2.frozen? ⟨w.heap.size, 0, none⟩ = false := (hb2.frozen (p := ⟨w.heap.size, 0, none⟩) (World.block_lt_of_cell? _ _ HC.out)).trans HF.out
      have HRX : Hid _ := rx
      have HRY : Hid _ := ry
      have HLB : Hid _ := hlb
      have HB2 : Hid _ := hb2
      clear rx ry hlb hb2 hl1 hl2 hc hf
      refine hK _ _ ?_
      clear hK K
      refine wpAnyIn_ready (rs := [3]) (by kernel_rfl) (by simp) ?_
      refine AllReadyIn.cons rfl (fun K hK => ?_) AllReadyIn.nil
      go_simp
      refine hK _ _ ?_
      clear hK K
      refine wpAnyIn_ready (rs := [4]) (by kernel_rfl) (by simp) ?_
      refine AllReadyIn.cons rfl (fun K hK => ?_) AllReadyIn.nil
      have hb2 : Below W.heap.size W w2 := ⟨HB2.out.os, HB2.out.tape, HB2.out.output, HB2.out.size, HB2.out.block⟩
      have hO5 := (HO.out.below hb2 (Nat.le_refl _)).below (below_box4 w2 (.cells #[.slice xa l1 xd, .int .u64 (es : Int), .int .u8 (ek.toNat : Int), .slice ya l2 yd] 44)) (Nat.le_refl _)
      have h3 := H3.out
      have hs2 := hb2.size
      refine step_pushE rfl (.tmp 8) (.tmp 11) rfl (eu, es, ek, ev) rfl rfl HLEN.out hO5 ⟨HRX.out.1, neb_of HRX.out.2 HLOW.out HRX.out.1, fun a n c e => by have h9 := HRX.out.2 a n c e; have h8 : W.drew.heap.size = W.heap.size := rfl; omega⟩ ⟨HRY.out.1, neb_of HRY.out.2 HLOW.out HRY.out.1, fun a n c e => by have h9 := HRY.out.2 a n c e; have h8 : W.drew.heap.size = W.heap.size := rfl; omega⟩ HMX.out (by omega) ?_
      intro g4 c4 w4 hO4 hgr
      obtain ⟨cs5, hrow5, _⟩ := hO5
      obtain ⟨hc4, hf4, hK4, hP4, hB4⟩ := push_round (v4 := .slice (some ⟨g4, 0, none⟩) (pre.length + 1) c4) HBW.out HC.out HF.out hrow5 hb2 h3 hgr w3.heap.size
      have HK4 : Hid _ := hK4
      have HP4 : Hid _ := hP4
      have HB4 : Hid _ := hB4
      have HO4 : Hid _ := hO4
      clear hK4 hP4 hB4 hO4 hgr hrow5 h3 hs2 hb2
      refine hK _ _ ?_
      clear hK K
      refine wpAnyIn_ready (rs := [5]) (by kernel_rfl) (by simp) ?_
      refine AllReadyIn.cons rfl (fun K hK => ?_) AllReadyIn.nil
      go_simp
      refine hK _ _ ?_
      clear hK K
      refine wpAnyIn_done (by kernel_rfl) ?_ _
      refine ⟨HK4.out, HP4.out, some ⟨g4, 0, none⟩, c4, ?_⟩
      rw [HLN.out, HSN.out]
      exact ⟨⟨World.cell?_setCell_same' _ _ _ (by rw [hc4]; rfl), by simpa [World.frozen?_setCell] using hf4⟩, OwnEF.set HO4.out (by omega) _, HB4.out⟩
    refine AllReadyIn.cons rfl (fun K hK => ?_) AllReadyIn.nil
    go_simp
    refine hK _ _ ?_
    clear hK K
    refine wpAnyIn_ready (rs := [0, 2]) (by kernel_rfl) (by simp) ?_
    refine AllReadyIn.cons rfl (fun K hK => ?_) ?_
    · go_simp
      refine hK _ _ ?_
      clear hK K
      refine wpAnyIn_ready (rs := [2]) (by kernel_rfl) (by simp) ?_
      refine AllReadyIn.cons rfl (fun K hK => ?_) AllReadyIn.nil
      go_simp
      refine ⟨trivial, ?_⟩
      gi_at_call 61
      refine (CallsIn.inRound l (callsIn_wide.2 HAP.out)).mono ?_
      rintro e w2 ⟨xv, yv, rfl, rx, ry, hlb, hb2⟩
      obtain ⟨xa, xd, rfl⟩ := rx.1.len
      obtain ⟨ya, yd, rfl⟩ := ry.1.len
      obtain ⟨l1, hl1⟩ : ∃ n, eu.length = n := ⟨_, rfl⟩
      obtain ⟨l2, hl2⟩ : ∃ n, ev.length = n := ⟨_, rfl⟩
      rw [hl1] at rx hlb ⊢
      rw [hl2] at ry hlb ⊢
      have hcz : w2.cell? ⟨w.heap.size, 0, none⟩ = some (.slice va pre.length vc) := (hb2.cell (p := ⟨w.heap.size, 0, none⟩) (World.block_lt_of_cell? _ _ HC.out)).trans HC.out
      have hfz : w2.frozen? ⟨w.heap.size, 0, none⟩ = false := (hb2.frozen (p := ⟨w.heap.size, 0, none⟩) (World.block_lt_of_cell? _ _ HC.out)).trans HF.out
      have HRX : Hid _ := rx
      have HRY : Hid _ := ry
      have HLB : Hid _ := hlb
      have HB2 : Hid _ := hb2
      clear rx ry hlb hb2 hl1 hl2 hc hf
      refine hK _ _ ?_
      clear hK K
      refine wpAnyIn_ready (rs := [3]) (by kernel_rfl) (by simp) ?_
      refine AllReadyIn.cons rfl (fun K hK => ?_) AllReadyIn.nil
      go_simp
      refine hK _ _ ?_
      clear hK K
      refine wpAnyIn_ready (rs := [4]) (by kernel_rfl) (by simp) ?_
      refine AllReadyIn.cons rfl (fun K hK => ?_) AllReadyIn.nil
      have hb2 : Below W.heap.size W w2 := ⟨HB2.out.os, HB2.out.tape, HB2.out.output, HB2.out.size, HB2.out.block⟩
      have hO5 := (HO.out.below hb2 (Nat.le_refl _)).below (below_box4 w2 (.cells #[.slice xa l1 xd, .int .u64 (es : Int), .int .u8 (ek.toNat : Int), .slice ya l2 yd] 44)) (Nat.le_refl _)
      have h3 := H3.out
      have hs2 := hb2.size
      refine step_pushE rfl (.tmp 8) (.tmp 11) rfl (eu, es, ek, ev) rfl rfl HLEN.out hO5 ⟨HRX.out.1, neb_of HRX.out.2 HLOW.out HRX.out.1, fun a n c e => by have h9 := HRX.out.2 a n c e; have h8 : W.drew.heap.size = W.heap.size := rfl; omega⟩ ⟨HRY.out.1, neb_of HRY.out.2 HLOW.out HRY.out.1, fun a n c e => by have h9 := HRY.out.2 a n c e; have h8 : W.drew.heap.size = W.heap.size := rfl; omega⟩ HMX.out (by omega) ?_
      intro g4 c4 w4 hO4 hgr
      obtain ⟨cs5, hrow5, _⟩ := hO5
      obtain ⟨hc4, hf4, hK4, hP4, hB4⟩ := push_round (v4 := .slice (some ⟨g4, 0, none⟩) (pre.length + 1) c4) HBW.out HC.out HF.out hrow5 hb2 h3 hgr w3.heap.size
      have HK4 : Hid _ := hK4
      have HP4 : Hid _ := hP4
      have HB4 : Hid _ := hB4
      have HO4 : Hid _ := hO4
      clear hK4 hP4 hB4 hO4 hgr hrow5 h3 hs2 hb2
      refine hK _ _ ?_
      clear hK K
      refine wpAnyIn_ready (rs := [5]) (by kernel_rfl) (by simp) ?_
      refine AllReadyIn.cons rfl (fun K hK => ?_) AllReadyIn.nil
      go_simp
      refine hK _ _ ?_
      clear hK K
      refine wpAnyIn_done (by kernel_rfl) ?_ _
      refine ⟨HK4.out, HP4.out, some ⟨g4, 0, none⟩, c4, ?_⟩
      rw [HLN.out, HSN.out]
      exact ⟨⟨World.cell?_setCell_same' _ _ _ (by rw [hc4]; rfl), by simpa [World.frozen?_setCell] using hf4⟩, OwnEF.set HO4.out (by omega) _, HB4.out⟩
    refine AllReadyIn.cons rfl (fun K hK => ?_) AllReadyIn.nil
    go_simp
    refine ⟨trivial, ?_⟩
    gi_at_call 61
    refine (CallsIn.inRound l (callsIn_wide.2 HAP.out)).mono ?_
    rintro e w2 ⟨xv, yv, rfl, rx, ry, hlb, hb2⟩
    obtain ⟨xa, xd, rfl⟩ := rx.1.len
    obtain ⟨ya, yd, rfl⟩ := ry.1.len
    obtain ⟨l1, hl1⟩ : ∃ n, eu.length = n := ⟨_, rfl⟩
    obtain ⟨l2, hl2⟩ : ∃ n, ev.length = n := ⟨_, rfl⟩
    rw [hl1] at rx hlb ⊢
    rw [hl2] at ry hlb ⊢
    have hcz : w2.cell? ⟨w.heap.size, 0, none⟩ = some (.slice va pre.length vc) := (hb2.cell (p := ⟨w.heap.size, 0, none⟩) (World.block_lt_of_cell? _ _ HC.out)).trans HC.out
    have hfz : w2.frozen? ⟨w.heap.size, 0, none⟩ = false := (hb2.frozen (p := ⟨w.heap.size, 0, none⟩) (World.block_lt_of_cell? _ _ HC.out)).trans HF.out
    have HRX : Hid _ := rx
    have HRY : Hid _ := ry
    have HLB : Hid _ := hlb
    have HB2 : Hid _ := hb2
    clear rx ry hlb hb2 hl1 hl2 hc hf
    refine hK _ _ ?_
    clear hK K
    refine wpAnyIn_ready (rs := [0, 3]) (by kernel_rfl) (by simp) ?_
    refine AllReadyIn.cons rfl (fun K hK => ?_) ?_
    · go_simp
      refine hK _ _ ?_
      clear hK K
      refine wpAnyIn_ready (rs := [3]) (by kernel_rfl) (by simp) ?_
      refine AllReadyIn.cons rfl (fun K hK => ?_) AllReadyIn.nil
      go_simp
      refine hK _ _ ?_
      clear hK K
      refine wpAnyIn_ready (rs := [4]) (by kernel_rfl) (by simp) ?_
      refine AllReadyIn.cons rfl (fun K hK => ?_) AllReadyIn.nil
      have hb2 : Below W.heap.size W w2 := ⟨HB2.out.os, HB2.out.tape, HB2.out.output, HB2.out.size, HB2.out.block⟩
      have hO5 := (HO.out.below hb2 (Nat.le_refl _)).below (below_box4 w2 (.cells #[.slice xa l1 xd, .int .u64 (es : Int), .int .u8 (ek.toNat : Int), .slice ya l2 yd] 44)) (Nat.le_refl _)
      have h3 := H3.out
      have hs2 := hb2.size
      refine step_pushE rfl (.tmp 8) (.tmp 11) rfl (eu, es, ek, ev) rfl rfl HLEN.out hO5 ⟨HRX.out.1, neb_of HRX.out.2 HLOW.out HRX.out.1, fun a n c e => by have h9 := HRX.out.2 a n c e; have h8 : W.drew.heap.size = W.heap.size := rfl; omega⟩ ⟨HRY.out.1, neb_of HRY.out.2 HLOW.out HRY.out.1, fun a n c e => by have h9 := HRY.out.2 a n c e; have h8 : W.drew.heap.size = W.heap.size := rfl; omega⟩ HMX.out (by omega) ?_
      intro g4 c4 w4 hO4 hgr
      obtain ⟨cs5, hrow5, _⟩ := hO5
      obtain ⟨hc4, hf4, hK4, hP4, hB4⟩ := push_round (v4 := .slice (some ⟨g4, 0, none⟩) (pre.length + 1) c4) HBW.out HC.out HF.out hrow5 hb2 h3 hgr w3.heap.size
      have HK4 : Hid _ := hK4
      have HP4 : Hid _ := hP4
      have HB4 : Hid _ := hB4
      have HO4 : Hid _ := hO4
      clear hK4 hP4 hB4 hO4 hgr hrow5 h3 hs2 hb2
      refine hK _ _ ?_
      clear hK K
      refine wpAnyIn_ready (rs := [5]) (by kernel_rfl) (by simp) ?_
      refine AllReadyIn.cons rfl (fun K hK => ?_) AllReadyIn.nil
      go_simp
      refine hK _ _ ?_
      clear hK K
      refine wpAnyIn_done (by kernel_rfl) ?_ _
      refine ⟨HK4.out, HP4.out, some ⟨g4, 0, none⟩, c4, ?_⟩
      rw [HLN.out, HSN.out]
      exact ⟨⟨World.cell?_setCell_same' _ _ _ (by rw [hc4]; rfl), by simpa [World.frozen?_setCell] using hf4⟩, OwnEF.set HO4.out (by omega) _, HB4.out⟩
    refine AllReadyIn.cons rfl (fun K hK => ?_) AllReadyIn.nil
    go_simp
    refine hK _ _ ?_
    clear hK K
    · have hcy := cell_alloc_l (.cells #[.slice xa l1 xd, .int .u64 (es : Int), .int .u8 (ek.toNat : Int), .slice ya l2 yd] 44) hcz
      refine wpAnyIn_ready (rs := [0]) (by kernel_rfl) (by simp) ?_
      refine AllReadyIn.cons rfl (fun K hK => ?_) AllReadyIn.nil
      go_simp
      refine hK _ _ ?_
      clear hK K
      refine wpAnyIn_ready (rs := [4]) (by kernel_rfl) (by simp) ?_
      refine AllReadyIn.cons rfl (fun K hK => ?_) AllReadyIn.nil
      have hb2 : Below W.heap.size W w2 := ⟨HB2.out.os, HB2.out.tape, HB2.out.output, HB2.out.size, HB2.out.block⟩
      have hO5 := (HO.out.below hb2 (Nat.le_refl _)).below (below_box4 w2 (.cells #[.slice xa l1 xd, .int .u64 (es : Int), .int .u8 (ek.toNat : Int), .slice ya l2 yd] 44)) (Nat.le_refl _)
      have h3 := H3.out
      have hs2 := hb2.size
      refine step_pushE rfl (.tmp 8) (.tmp 11) rfl (eu, es, ek, ev) rfl rfl HLEN.out hO5 ⟨HRX.out.1, neb_of HRX.out.2 HLOW.out HRX.out.1, fun a n c e => by have h9 := HRX.out.2 a n c e; have h8 : W.drew.heap.size = W.heap.size := rfl; omega⟩ ⟨HRY.out.1, neb_of HRY.out.2 HLOW.out HRY.out.1, fun a n c e => by have h9 := HRY.out.2 a n c e; have h8 : W.drew.heap.size = W.heap.size := rfl; omega⟩ HMX.out (by omega) ?_
      intro g4 c4 w4 hO4 hgr
      obtain ⟨cs5, hrow5, _⟩ := hO5
      obtain ⟨hc4, hf4, hK4, hP4, hB4⟩ := push_round (v4 := .slice (some ⟨g4, 0, none⟩) (pre.length + 1) c4) HBW.out HC.out HF.out hrow5 hb2 h3 hgr w3.heap.size
      have HK4 : Hid _ := hK4
      have HP4 : Hid _ := hP4
      have HB4 : Hid _ := hB4
      have HO4 : Hid _ := hO4
      clear hK4 hP4 hB4 hO4 hgr hrow5 h3 hs2 hb2
      refine hK _ _ ?_
      clear hK K
      refine wpAnyIn_ready (rs := [5]) (by kernel_rfl) (by simp) ?_
      refine AllReadyIn.cons rfl (fun K hK => ?_) AllReadyIn.nil
      go_simp
      refine hK _ _ ?_
      clear hK K
      refine wpAnyIn_done (by kernel_rfl) ?_ _
      refine ⟨HK4.out, HP4.out, some ⟨g4, 0, none⟩, c4, ?_⟩
      rw [HLN.out, HSN.out]
      exact ⟨⟨World.cell?_setCell_same' _ _ _ (by rw [hc4]; rfl), by simpa [World.frozen?_setCell] using hf4⟩, OwnEF.set HO4.out (by omega) _, HB4.out⟩
  case done =>
    rintro D ys W hD hys ⟨va, vc, ⟨hc, hf⟩, hO, hBW⟩ hK
    rw [row_low HS.out.ht] at hys
    have hyl : ys.length = ts.length := by have := congrArg List.length hys; rwa [List.length_map] at this
    rw [hyl] at hc hO
    rw [hys] at hO
    have HO : Hid (OwnEF (w.heap.size + 3) W (.slice va ts.length vc) (esT ts)) := hO
    clear hO
    gi_wp2
    refine ⟨by simp, .inl ⟨_, _, rfl, run_takeDeferred hK, ?_⟩⟩
    refine ⟨.slice va ts.length vc, ?_, ⟨_, rfl, HO.out.aside (grownBy_putObj' _ D (.deferred none)) (fun r e => by cases e; exact .inr ⟨_, hK, rfl⟩), hBW.trans (belowK_b (w := w) (Nat.le_refl _) _ D _ _ (by omega) hK rfl rfl)⟩⟩
    simp [results, Try.f41, go_sem]
  case stop =>
    rintro D c pre W hD hpre hF hK
    exact hF.elim

end Go.Proofs.Ytgphjgpibjhbjaa

/- (*memo.Memo).Entries; heightOf. -/
namespace Go.Proofs.Ytgphjgpibjhbjaa
set_option maxRecDepth 100000
open Go.RowKit
set_option linter.unusedVariables false
set_option linter.unusedSimpArgs false

/-- whole numbers in a row, read -/
def RdI (w : World) (a : Option Addr) (n : Nat) (hs : List Int) : Prop := hs.length = n ∧ ∀ j, j < n → ∃ b off, a = some ⟨b, off, none⟩ ∧ w.cell? ⟨b, off + j, none⟩ = some (.int .i64 (hs.getD j 0))

theorem RdI.below {w w' : World} {a : Option Addr} {n : Nat} {hs : List Int} (h : RdI w a n hs) (hb : Below w.heap.size w w') : RdI w' a n hs := by
  refine ⟨h.1, fun j hj => ?_⟩
  obtain ⟨b, off, e, hc⟩ := h.2 j hj
  exact ⟨b, off, e, (hb.cell (p := ⟨b, off + j, none⟩) (World.block_lt_of_cell? w _ hc)).trans hc⟩

/-- the height of the i-th op -/
def htI (hs : List Int) (i : Nat) : Int := if i < hs.length then hs.getD i 0 else 1

theorem heightOf_any (w : World) (a : Option Addr) (n c i : Nat) (hs : List Int) (h : RdI w a n hs) (hn : n ≤ 1000000) (hc : n ≤ c) (hi : i ≤ 1000000) :
    Calls Try.prog 55 #[.slice a n c, .int .i64 (i : Int)] w fun e w' => e = .returned (.int .i64 (htI hs i)) ∧ w' = w := by
  obtain ⟨z, hz⟩ : ∃ z, htI hs i = z := ⟨_, rfl⟩
  rw [hz]
  unfold htI at hz
  rw [h.1] at hz
  by_cases hlt : i < n
  · rw [if_pos hlt] at hz
    obtain ⟨b, off, rfl, hcell⟩ := h.2 i hlt
    rw [hz] at hcell
    have hI : (i : Int) < (n : Int) := by omega
    clear hz h
    go_enter Try.func55, Try.ntmps55
    go_wp2
    go_ret
    exact ⟨rfl, rfl⟩
  · rw [if_neg hlt] at hz
    subst hz
    have hI : ¬ (i : Int) < (n : Int) := by omega
    clear h
    go_enter Try.func55, Try.ntmps55
    go_wp2
    go_ret
    exact ⟨rfl, rfl⟩

theorem mentries_any (G : Nat → Prop) (w : World) (m l t : Nat) (ts : List Tow) (ss : List SpB) (last : Int) (h : MemA G w m l t ts ss last) (hL : LenT ts 1000) : Calls Try.prog 17 #[.pointer (some ⟨m, 0, none⟩)] w fun e w' => ∃ v, e = .returned v ∧ OwnEF (w.heap.size + 3) w' v (esT ts) ∧ Below w.heap.size w w' := by
  have he := eqMm m
  obtain ⟨c0, c1, c2, _, _, _⟩ := h.bx
  have ha := skall_any w l ts h.sk hL
  go_enter Try.func17, Try.ntmps17
  go_wp2_with fail
  refine ha.mono ?_
  rintro e w1 ⟨v, rfl, h1, h2⟩
  go_wp2
  go_ret
  exact ⟨_, rfl, h1, h2⟩

end Go.Proofs.Ytgphjgpibjhbjaa

/- slices.ContainsFunc of heights, as memo.Batch calls it. -/
namespace Go.Proofs.Ytgphjgpibjhbjaa
set_option maxRecDepth 20000
open Go.RowKit
set_option linter.unusedVariables false
set_option linter.unusedSimpArgs false

theorem any_take_get {hs : List Int} {j : Nat} (h : j < hs.length) : (hs.take (j + 1)).any noHt = ((hs.take j).any noHt || noHt (hs.getD j 0)) := by
  rw [List.take_succ_eq_append_getElem h, List.any_append]
  simp [List.getD_eq_getElem?_getD, List.getElem?_eq_getElem h]

theorem any_of_get {hs : List Int} {j : Nat} (h : j < hs.length) (h2 : noHt (hs.getD j 0) = true) : hs.any noHt = true := by
  rw [List.any_eq_true]
  refine ⟨hs[j], List.getElem_mem h, ?_⟩
  rw [← h2]
  simp [List.getD_eq_getElem?_getD, List.getElem?_eq_getElem h]

set_option maxHeartbeats 2000000 in
theorem midx_any (w : World) (a : Option Addr) (n cap : Nat) (hs : List Int) (h : RdI w a n hs) (hn : n ≤ 1000000) (hc : n ≤ cap) :
    Calls Try.prog 69 #[.slice a n cap, .func (.func 53) #[] #[]] w fun e w' => ∃ r : Int, e = .returned (.int .i64 r) ∧ decide (0 ≤ r) = hs.any noHt ∧ w' = w := by
  have HR : Hid (RdI w a n hs) := h
  clear h
  go_enter Try.func69, Try.ntmps69
  go_wp2_with fail
  go_loopg [8] n (fun gk iv wr => ∃ j : Nat, gk + j = n ∧ iv = .int .i64 (j : Int) ∧ Hid ((hs.take j).any noHt = false) ∧ wr = w)
  case atStart => exact ⟨0, by omega, rfl, by show _ = _; simp, rfl⟩
  case round =>
    obtain ⟨j, hj, rfl, HS, rfl⟩ := hrel
    by_cases hlt : j < n
    · have hlt2 : j < hs.length := by rw [HR.out.1]; exact hlt
      obtain ⟨b, off, rfl, hcell⟩ := HR.out.2 j hlt
      obtain ⟨z, hz⟩ : ∃ z, hs.getD j 0 = z := ⟨_, rfl⟩
      rw [hz] at hcell
      have hcl := noheight_any wr z
      obtain ⟨q1, q2⟩ := gk_nxt hj hlt
      obtain ⟨r, hr⟩ : ∃ r, noHt z = r := ⟨_, rfl⟩
      rw [hr] at hcl
      have HZ : Hid (noHt (hs.getD j 0) = r) := by show _ = _; rw [hz, hr]
      clear hz hr
      go_wp2_with fail
      refine hcl.mono ?_
      rintro o w2 ⟨rfl, rfl⟩
      clear hcl
      cases r
      · go_wp2_with fail
        go_roundg (gk - 1)
        case measure => exact q1
        case rel => exact ⟨j + 1, q2, by go_num, by show _ = _; rw [any_take_get hlt2, HS.out, HZ.out]; rfl, rfl⟩
      · go_wp2_with fail
        go_wp2
        go_ret
        exact ⟨_, rfl, by rw [any_of_get hlt2 HZ.out]; exact decide_eq_true (by omega), rfl⟩
    · have hjN : j = n := by omega
      subst hjN
      go_wp2_with fail
      go_wp2
      go_ret
      refine ⟨_, rfl, ?_, rfl⟩
      have h9 := HS.out
      rw [← HR.out.1, List.take_length] at h9
      rw [h9]
      rfl

theorem mcont_any (w : World) (a : Option Addr) (n cap : Nat) (hs : List Int) (h : RdI w a n hs) (hn : n ≤ 1000000) (hc : n ≤ cap) :
    Calls Try.prog 52 #[.slice a n cap, .func (.func 53) #[] #[]] w fun e w' => e = .returned (.bool (hs.any noHt)) ∧ w' = w := by
  have h1 := midx_any w a n cap hs h hn hc
  clear h
  go_enter Try.func52, Try.ntmps52
  go_wp2_with fail
  refine h1.mono ?_
  rintro e w1 ⟨r, rfl, hr, rfl⟩
  clear h1
  have HR : Hid (decide (0 ≤ r) = hs.any noHt) := hr
  clear hr
  go_wp2
  go_ret
  refine ⟨?_, rfl⟩
  rw [← HR.out]
  rfl

end Go.Proofs.Ytgphjgpibjhbjaa

/- A slice of ops. -/
namespace Go.Proofs.Ytgphjgpibjhbjaa
open Go.RowKit

/-- an op: its kind, its key, its value -/
abbrev OpB := UInt8 × List UInt8 × List UInt8

/-- an op lies in three cells of block b, from i on; its two slices read by R -/
def OpAt (R : World → Value → List UInt8 → Prop) (w : World) (b i : Nat) (o : OpB) : Prop :=
  ∃ x y, w.cell? ⟨b, i, none⟩ = some (.int .u8 (o.1.toNat : Int)) ∧ w.cell? ⟨b, i + 1, none⟩ = some x ∧ w.cell? ⟨b, i + 2, none⟩ = some y ∧ R w x o.2.1 ∧ R w y o.2.2

/-- v is a slice of ops -/
def LsO (R : World → Value → List UInt8 → Prop) (w : World) (v : Value) (os : List OpB) : Prop :=
  ∃ ao cap, v = .slice ao os.length cap ∧ os.length ≤ cap ∧ cap ≤ maxLen ∧ ∀ j (h : j < os.length), ∃ b off, ao = some ⟨b, off, none⟩ ∧ OpAt R w b (off + j * 3) os[j]

theorem OpAt.below {R : World → Value → List UInt8 → Prop} {B : Nat} {w w' : World} {b i : Nat} {o : OpB} (h : OpAt R w b i o) (hR : ∀ v l, R w v l → R w' v l) (hb : Below B w w') (hB : w.heap.size ≤ B) : OpAt R w' b i o := by
  obtain ⟨x, y, c0, c1, c2, r1, r2⟩ := h
  have hl : b < B := Nat.lt_of_lt_of_le (World.block_lt_of_cell? w _ c0) hB
  exact ⟨x, y, by rw [hb.cell (p := ⟨b, i, none⟩) hl]; exact c0, by rw [hb.cell (p := ⟨b, i + 1, none⟩) hl]; exact c1, by rw [hb.cell (p := ⟨b, i + 2, none⟩) hl]; exact c2, hR _ _ r1, hR _ _ r2⟩

theorem LsO.belowR {R : World → Value → List UInt8 → Prop} {B : Nat} {w w' : World} {v : Value} {os : List OpB} (h : LsO R w v os) (hR : ∀ v l, R w v l → R w' v l) (hb : Below B w w') (hB : w.heap.size ≤ B) : LsO R w' v os := by
  obtain ⟨ao, cap, rfl, h1, h2, h3⟩ := h
  refine ⟨ao, cap, rfl, h1, h2, fun j hj => ?_⟩
  obtain ⟨b, off, e, ho⟩ := h3 j hj
  exact ⟨b, off, e, ho.below hR hb hB⟩

abbrev RdO := LsO Rd
abbrev ArgO := LsO Arg

theorem LsO.below {B : Nat} {w w' : World} {v : Value} {os : List OpB} (h : RdO w v os) (hb : Below B w w') (hB : w.heap.size ≤ B) : RdO w' v os := h.belowR (fun _ _ hr => Rd.below hr hb hB) hb hB
theorem LsO.belowA {B : Nat} {w w' : World} {v : Value} {os : List OpB} (h : ArgO w v os) (hb : Below B w w') (hB : w.heap.size ≤ B) : ArgO w' v os := h.belowR (fun _ _ hr => Arg.below hr hb hB) hb hB
theorem LsO.drew {w : World} {v : Value} {os : List OpB} (h : RdO w v os) : RdO w.drew v os := h
theorem LsO.drewA {w : World} {v : Value} {os : List OpB} (h : ArgO w v os) : ArgO w.drew v os := h

theorem LsO.arg {w : World} {v : Value} {os : List OpB} (h : RdO w v os) : ArgO w v os := by
  obtain ⟨ao, cap, rfl, h1, h2, h3⟩ := h
  refine ⟨ao, cap, rfl, h1, h2, fun j hj => ?_⟩
  obtain ⟨b, off, e, x, y, c0, c1, c2, r1, r2⟩ := h3 j hj
  exact ⟨b, off, e, x, y, c0, c1, c2, Rd.arg r1, Rd.arg r2⟩

theorem LsO.nil {R : World → Value → List UInt8 → Prop} (w : World) : LsO R w (.slice none 0 0) [] := ⟨none, 0, rfl, Nat.le_refl _, Nat.zero_le _, fun _ h => absurd h (Nat.not_lt_zero _)⟩

/-- ops in a row of the call's own, and what they hold -/
def OwnO (B : Nat) (w : World) (v : Value) (os : List OpB) : Prop :=
  ∃ cs, w.ownsRow B 63 3 v os.length cs ∧ ∀ j (h : j < os.length), ∃ x y, cs[j * 3]? = some (.int .u8 (os[j].1.toNat : Int)) ∧ cs[j * 3 + 1]? = some x ∧ cs[j * 3 + 2]? = some y ∧ OwnN B w x os[j].2.1 ∧ OwnN B w y os[j].2.2

theorem OwnO.rd {B : Nat} {w : World} {v : Value} {os : List OpB} (h : OwnO B w v os) : RdO w v os := by
  obtain ⟨cs, hr, hj⟩ := h
  have hr2 := hr
  rcases hr.2 with ⟨e, hn⟩ | ⟨g, cap, cur, e, hb, hg, h1, h2, h3, h4⟩
  · refine ⟨none, 0, by rw [e, hn], by omega, Nat.zero_le _, fun j hj => by omega⟩
  · subst e
    refine ⟨_, cap, rfl, h1, h2, fun j h => ⟨g, 0, rfl, ?_⟩⟩
    obtain ⟨x, y, c0, c1, c2, ox, oy⟩ := hj j h
    have hc := hr2.cells (g := g) rfl
    refine ⟨x, y, ?_, ?_, ?_, ox.rd, oy.rd⟩
    · have := hc _ _ c0; rwa [Addr.add_lit] at this
    · have := hc _ _ c1; rwa [Addr.add_lit] at this
    · have := hc _ _ c2; rwa [Addr.add_lit] at this

theorem OwnO.nil (B : Nat) (w : World) : OwnO B w (.slice none 0 0) [] := ⟨[], World.ownsRow_nil _ _ _ _, fun _ h => absurd h (Nat.not_lt_zero _)⟩

theorem OwnO.below {B C : Nat} {w w' : World} {v : Value} {os : List OpB} (h : OwnO B w v os) (hb : Below C w w') (hC : w.heap.size ≤ C) : OwnO B w' v os := by
  obtain ⟨cs, hr, hj⟩ := h
  have hb' : Below w.heap.size w w' := ⟨hb.os, hb.tape, hb.output, hb.size, fun i hi => hb.block i (Nat.lt_of_lt_of_le hi hC)⟩
  refine ⟨cs, row_below hr hb', fun j h => ?_⟩
  obtain ⟨x, y, c0, c1, c2, ox, oy⟩ := hj j h
  exact ⟨x, y, c0, c1, c2, ox.below hb hC, oy.below hb hC⟩

theorem OwnO.mono {B C : Nat} {w : World} {v : Value} {os : List OpB} (h : OwnO B w v os) (hC : C ≤ B) : OwnO C w v os := by
  obtain ⟨cs, hr, hj⟩ := h
  refine ⟨cs, ⟨hr.1, hr.2.imp id (fun ⟨g, cap, cur, a, b, c⟩ => ⟨g, cap, cur, a, Nat.le_trans hC b, c⟩)⟩, fun j h => ?_⟩
  obtain ⟨x, y, c0, c1, c2, ox, oy⟩ := hj j h
  exact ⟨x, y, c0, c1, c2, ox.mono hC, oy.mono hC⟩

theorem OwnO.drew {B : Nat} {w : World} {v : Value} {os : List OpB} (h : OwnO B w v os) : OwnO B w.drew v os := h

theorem infoOp : (Try.prog.info? 63).map (fun i => (i.zero, i.size, i.bytes)) = some (some (.agg #[.int .u8 0, .slice none 0 0, .slice none 0 0]), 3, 56) := by kernel_rfl

/-- how many bytes ops have -/
def sizeO (os : List OpB) : Nat := (os.map fun o => o.2.1.length + o.2.2.length).sum

theorem sizeO_append (a b : List OpB) : sizeO (a ++ b) = sizeO a + sizeO b := by
  unfold sizeO
  rw [List.map_append, List.sum_append]

theorem sizeO_take {os : List OpB} {j : Nat} (h : j < os.length) : sizeO (os.take (j + 1)) = sizeO (os.take j) + (os[j].2.1.length + os[j].2.2.length) := by
  rw [List.take_succ_eq_append_getElem h, sizeO_append]
  simp [sizeO]

theorem sizeO_le (os : List OpB) (j : Nat) : sizeO (os.take j) ≤ sizeO os := by
  have := sizeO_append (os.take j) (os.drop j)
  rw [List.take_append_drop] at this
  omega

end Go.Proofs.Ytgphjgpibjhbjaa

/- Is an op right: batch.CheckOp, and the document's own answer. -/
namespace Go.Proofs.Ytgphjgpibjhbjaa
open Go.RowKit

/-- what is not right with an op -/
def chkOp (k : Int) (l m : List UInt8) : Int :=
  if k < 1 ∨ 3 < k then 1
  else if 64 < l.length ∨ (k = 2 ∧ 512 < m.length) ∨ (k = 3 ∧ 64 < m.length) then 3
  else if l.length = 0 ∨ (k = 1 ∧ 0 < m.length) ∨ (k = 3 ∧ 0 ≤ Lib.compareBytes l m) then 4 else 0

theorem known_any (w : World) (k : Int) : Calls Try.prog 77 #[.int .u8 k] w fun e w' => e = .returned (.bool (decide (k = 1 ∨ k = 2 ∨ k = 3))) ∧ w' = w := by
  go_enter Try.func77, Try.ntmps77
  go_wp2
  all_goals (go_ret)
  all_goals (refine ⟨ret_bool ?_, rfl⟩; grind)

theorem tooLong_any (w : World) (ao bo : Option Addr) (n c m d : Nat) (k : Int) :
    Calls Try.prog 78 #[.agg #[.int .u8 k, .slice ao n c, .slice bo m d]] w fun e w' => e = .returned (.bool (decide (64 < n ∨ (k = 2 ∧ 512 < m) ∨ (k = 3 ∧ 64 < m)))) ∧ Below w.heap.size w w' := by
  go_enter Try.func78, Try.ntmps78
  go_wp2
  all_goals (go_ret)
  all_goals (refine ⟨ret_bool ?_, below_box _ _ _⟩; grind)

theorem fits_any (w : World) (x y : Value) (l m : List UInt8) (k : Int) (b : Bool) (hx : Rd w x l) (hy : Rd w y m) (hb : decide (¬ (k = 1 ∧ 0 < m.length) ∧ ¬ (k = 3 ∧ 0 ≤ Lib.compareBytes l m)) = b) :
    Calls Try.prog 79 #[.agg #[.int .u8 k, x, y]] w fun e w' => e = .returned (.bool b) ∧ Below w.heap.size w w' := by
  obtain ⟨a1, a2, ea⟩ := hx.len
  obtain ⟨b1, b2, eb⟩ := hy.len
  subst ea eb
  have hB := below_box w #[.int .u8 k, .slice a1 l.length a2, .slice b1 m.length b2] 63
  have rx := hx.below hB (Nat.le_refl _)
  have ry := hy.below hB (Nat.le_refl _)
  have H : Hid _ := hb
  clear hx hy hb
  by_cases h3 : k = 3
  · subst h3
    obtain ⟨q, hq⟩ : ∃ q, decide (Lib.compareBytes l m < 0) = q := ⟨_, rfl⟩
    have HQ : Hid _ := hq
    have hqb : Hid (q = b) := by show q = b; rw [← hq, ← H.out]; simp
    clear hq
    go_enter Try.func79, Try.ntmps79
    go_wp2_with fail
    refine (less_b _ _ _ l m q rx ry HQ.out).mono ?_
    rintro e w1 ⟨rfl, hw⟩
    subst hw
    go_wp2
    go_ret
    exact ⟨ret_bool hqb.out, hB⟩
  · clear rx ry
    go_enter Try.func79, Try.ntmps79
    go_wp2
    all_goals (go_ret)
    all_goals (refine ⟨ret_bool ?_, hB⟩; rw [← H.out]; grind)

theorem checkop_any (w : World) (x y : Value) (l m : List UInt8) (k c : Int) (hk : 0 ≤ k) (hx : Rd w x l) (hy : Rd w y m) (hc : chkOp k l m = c) :
    Calls Try.prog 68 #[.agg #[.int .u8 k, x, y]] w fun e w' => e = .returned (.int .i64 c) ∧ Below w.heap.size w w' := by
  obtain ⟨a1, a2, ea⟩ := hx.len
  obtain ⟨b1, b2, eb⟩ := hy.len
  subst ea eb
  have hB := below_box w #[.int .u8 k, .slice a1 l.length a2, .slice b1 m.length b2] 63
  have b0 := box_new w (.int .u8 k) (.slice a1 l.length a2) (.slice b1 m.length b2) 63
  have rx := hx.below hB (Nat.le_refl _)
  have ry := hy.below hB (Nat.le_refl _)
  have H : Hid _ := hc
  clear hx hy hc
  obtain ⟨q, hq⟩ : ∃ q, decide (k = 1 ∨ k = 2 ∨ k = 3) = q := ⟨_, rfl⟩
  obtain ⟨r, hr⟩ : ∃ q, decide (64 < l.length ∨ (k = 2 ∧ 512 < m.length) ∨ (k = 3 ∧ 64 < m.length)) = q := ⟨_, rfl⟩
  obtain ⟨s, hs⟩ : ∃ q, decide (¬ (k = 1 ∧ 0 < m.length) ∧ ¬ (k = 3 ∧ 0 ≤ Lib.compareBytes l m)) = q := ⟨_, rfl⟩
  have HQ : Hid _ := hq
  have HR : Hid _ := hr
  have HS : Hid _ := hs
  clear hq hr hs
  have fin : Hid (c = if q = false then 1 else if r = true then 3 else if l.length = 0 ∨ s = false then 4 else 0) := by
    show _ = _
    rw [← H.out, ← HQ.out, ← HR.out, ← HS.out]
    unfold chkOp
    grind
  clear H
  go_enter Try.func68, Try.ntmps68
  go_wp2_with fail
  refine (known_any _ k).mono ?_
  rintro e w1 ⟨rfl, hw⟩
  subst hw
  rw [HQ.out]
  cases q
  · go_wp2
    go_ret
    exact ⟨ret_int (by rw [fin.out]; rfl), hB⟩
  · go_wp2_with fail
    refine (tooLong_any _ _ _ _ _ _ _ _).mono ?_
    rintro e w2 ⟨rfl, hb⟩
    rw [HR.out]
    have hB2 := hB.trans (hb.mono hB.size)
    obtain ⟨c0, c1, c2, f0, f1, f2⟩ := b0.below hb (Nat.le_refl _)
    replace rx := rx.below hb (Nat.le_refl _)
    replace ry := ry.below hb (Nat.le_refl _)
    clear b0 hb hB
    cases r
    · by_cases h0 : l.length = 0
      · clear rx ry
        go_wp2
        go_ret
        exact ⟨ret_int (by rw [fin.out]; simp [h0]), hB2⟩
      · go_wp2_with fail
        refine (fits_any _ _ _ l m k s rx ry HS.out).mono ?_
        rintro e w3 ⟨rfl, hb⟩
        have hB3 := hB2.trans (hb.mono hB2.size)
        clear c0 c1 c2 f0 f1 f2 rx ry
        cases s
        · go_wp2
          go_ret
          exact ⟨ret_int (by rw [fin.out]; simp), hB3⟩
        · go_wp2
          go_ret
          exact ⟨ret_int (by rw [fin.out]; simp [h0]), hB3⟩
    · clear rx ry
      go_wp2
      go_ret
      exact ⟨ret_int (by rw [fin.out]; rfl), hB2⟩

set_option maxHeartbeats 2000000 in
theorem refcheckop_any (w : World) (x y : Value) (l m : List UInt8) (k c : Int) (hk : 0 ≤ k) (hx : Rd w x l) (hy : Rd w y m) (hc : chkOp k l m = c) :
    Calls Try.prog 31 #[.agg #[.int .u8 k, x, y]] w fun e w' => e = .returned (.int .i64 c) ∧ Below w.heap.size w w' := by
  obtain ⟨a1, a2, ea⟩ := hx.len
  obtain ⟨b1, b2, eb⟩ := hy.len
  subst ea eb
  have hB := below_box w #[.int .u8 k, .slice a1 l.length a2, .slice b1 m.length b2] 63
  have rx := hx.below hB (Nat.le_refl _)
  have ry := hy.below hB (Nat.le_refl _)
  have H : Hid _ := hc
  clear hx hy hc
  by_cases h3 : k = 3
  · subst h3
    obtain ⟨q, hq⟩ : ∃ q, decide (Lib.compareBytes l m < 0) = q := ⟨_, rfl⟩
    have HQ : Hid _ := hq
    have fin : Hid (c = if 64 < l.length ∨ 64 < m.length then 3 else if l.length = 0 ∨ q = false then 4 else 0) := by
      show _ = _
      rw [← H.out, ← HQ.out]
      unfold chkOp
      grind
    clear H hq
    go_enter Try.func31, Try.ntmps31
    by_cases h1 : 64 < l.length
    · go_wp2
      go_ret
      exact ⟨ret_int (by rw [fin.out]; simp [h1]), hB⟩
    · by_cases h2 : 64 < m.length
      · go_wp2
        go_ret
        exact ⟨ret_int (by rw [fin.out]; simp [h2]), hB⟩
      · by_cases h4 : l.length = 0
        · go_wp2
          go_ret
          exact ⟨ret_int (by rw [fin.out]; simp [h4, h2]), below_box _ _ _⟩
        · go_wp2_with fail
          refine (refless_any _ _ _ l m q rx ry HQ.out).mono ?_
          rintro e w1 ⟨rfl, hw⟩
          subst hw
          cases q
          · go_wp2
            go_ret
            exact ⟨ret_int (by rw [fin.out]; simp [h1, h2]), hB⟩
          · go_wp2
            go_ret
            exact ⟨ret_int (by rw [fin.out]; simp [h1, h2, h4]), hB⟩
  · clear rx ry
    have fin : Hid (c = if k < 1 ∨ 3 < k then 1 else if 64 < l.length ∨ (k = 2 ∧ 512 < m.length) then 3 else if l.length = 0 ∨ (k = 1 ∧ 0 < m.length) then 4 else 0) := by
      show _ = _
      rw [← H.out]
      unfold chkOp
      grind
    clear H
    by_cases h1 : k = 1
    · subst h1
      by_cases h2 : 64 < l.length
      · go_enter Try.func31, Try.ntmps31
        go_wp2
        go_ret
        exact ⟨ret_int (by rw [fin.out]; simp [h2]), below_box _ _ _⟩
      · by_cases h4 : l.length = 0
        · go_enter Try.func31, Try.ntmps31
          go_wp2
          go_ret
          exact ⟨ret_int (by rw [fin.out]; simp [h4]), below_box _ _ _⟩
        · by_cases h6 : 0 < m.length
          · go_enter Try.func31, Try.ntmps31
            go_wp2
            go_ret
            exact ⟨ret_int (by rw [fin.out]; simp [h2, h4, h6]), below_box _ _ _⟩
          · go_enter Try.func31, Try.ntmps31
            go_wp2
            go_ret
            exact ⟨ret_int (by rw [fin.out]; simp [h2, h4, h6]), below_box _ _ _⟩
    · by_cases h2 : k = 2
      · subst h2
        by_cases h2 : 64 < l.length
        · go_enter Try.func31, Try.ntmps31
          go_wp2
          go_ret
          exact ⟨ret_int (by rw [fin.out]; simp [h2]), below_box _ _ _⟩
        · by_cases h6 : 512 < m.length
          · go_enter Try.func31, Try.ntmps31
            go_wp2
            go_ret
            exact ⟨ret_int (by rw [fin.out]; simp [h6]), below_box _ _ _⟩
          · by_cases h4 : l.length = 0
            · go_enter Try.func31, Try.ntmps31
              go_wp2
              go_ret
              exact ⟨ret_int (by rw [fin.out]; simp [h4, h6]), below_box _ _ _⟩
            · go_enter Try.func31, Try.ntmps31
              go_wp2
              go_ret
              exact ⟨ret_int (by rw [fin.out]; simp [h2, h4, h6]), below_box _ _ _⟩
      · have h0 : Hid (k < 1 ∨ 3 < k) := by show _ ∨ _; omega
        by_cases h5 : k < 1
        · go_enter Try.func31, Try.ntmps31
          go_wp2
          go_ret
          exact ⟨ret_int (by rw [fin.out, if_pos h0.out]), below_box _ _ _⟩
        · have h6 : 3 < k := by omega
          go_enter Try.func31, Try.ntmps31
          go_wp2
          go_ret
          exact ⟨ret_int (by rw [fin.out, if_pos h0.out]), below_box _ _ _⟩

end Go.Proofs.Ytgphjgpibjhbjaa

/- Are ops right together: batch.Check, and the document's own answer. -/
namespace Go.Proofs.Ytgphjgpibjhbjaa
open Go.RowKit

/-- the first error of ops -/
def chkOps : List OpB → Int
  | [] => 0
  | o :: r => if chkOp (o.1.toNat : Int) o.2.1 o.2.2 = 0 then chkOps r else chkOp (o.1.toNat : Int) o.2.1 o.2.2

def chkL (os : List OpB) : Int := if 64 < os.length then 3 else chkOps os

set_option maxHeartbeats 2000000 in
theorem bcheck_any (w : World) (v : Value) (os : List OpB) (c : Int) (hv : RdO w v os) (hc : chkL os = c) :
    Calls Try.prog 50 #[v] w fun e w' => e = .returned (.int .i64 c) ∧ Below w.heap.size w w' := by
  have hv0 := hv
  obtain ⟨ao, cap, rfl, h1, h2, h3⟩ := hv
  unfold maxLen at h2
  have H3 : Hid _ := hv0
  have HC : Hid _ := hc
  clear hv0 h3 hc
  by_cases h64 : 64 < os.length
  · go_enter Try.func50, Try.ntmps50
    go_wp2
    go_ret
    exact ⟨ret_int (by rw [← HC.out]; unfold chkL; rw [if_pos h64]), Below.refl _ _⟩
  · have HD : Hid (chkOps os = c) := by show _ = _; rw [← HC.out]; unfold chkL; rw [if_neg h64]
    clear HC
    go_enter Try.func50, Try.ntmps50
    go_wp2_with fail
    go_loopg [11] os.length (fun gk iv wr => ∃ j : Nat, gk + j = os.length ∧ iv = .int .i64 (j : Int) ∧ chkOps (os.drop j) = c ∧ Below w.heap.size w wr)
    case atStart => exact ⟨0, rfl, rfl, HD.out, Below.refl _ _⟩
    case round =>
      obtain ⟨j, hj, rfl, hd, hB⟩ := hrel
      have HJ : Hid _ := hd
      clear hd
      have hrd : RdO wr _ os := LsO.below (show RdO w _ os from H3.out) hB (Nat.le_refl _)
      by_cases hlt : j < os.length
      · obtain ⟨_, _, e, _, _, h3⟩ := hrd
        cases e
        obtain ⟨b, off, rfl, x, y, c0, c1, c2, rx, ry⟩ := h3 j hlt
        obtain ⟨x1, x2, ex⟩ := rx.len
        obtain ⟨y1, y2, ey⟩ := ry.len
        subst ex ey
        obtain ⟨⟨ok, ol, om⟩, ho⟩ : ∃ o, os[j] = o := ⟨_, rfl⟩
        rw [ho] at c0 c1 c2 rx ry
        obtain ⟨d, hd⟩ : ∃ d, chkOp (ok.toNat : Int) ol om = d := ⟨_, rfl⟩
        have HE : Hid (c = if d = 0 then chkOps (os.drop (j + 1)) else d) := by
          show _ = _
          rw [← HJ.out, List.drop_eq_getElem_cons hlt, ho, ← hd]
          rfl
        have HX : Hid _ := hd
        have hba := below_box wr #[.int .u8 (ok.toNat : Int), .slice x1 ol.length x2, .slice y1 om.length y2] 63
        have rx2 := rx.below hba (Nat.le_refl _)
        have ry2 := ry.below hba (Nat.le_refl _)
        clear h3 rx ry ho hd HJ HD
        go_wp2_with fail
        refine (checkop_any _ _ _ ol om ok.toNat d (by omega) rx2 ry2 HX.out).mono ?_
        rintro e w2 ⟨rfl, hb⟩
        have hB2 := (hB.trans (hba.mono hB.size)).trans (hb.mono (Nat.le_trans hB.size hba.size))
        clear hB hba hb rx2 ry2 c0 c1 c2
        by_cases hd0 : d = 0
        · subst hd0
          go_wp2
          go_roundg (gk - 1)
          case measure => omega
          case rel => exact ⟨j + 1, by omega, by go_num, by rw [HE.out]; simp, hB2⟩
        · have hdb : (d != 0) = true := by simp [hd0]
          have hdb2 : (d == 0) = false := by simp [hd0]
          go_wp2
          go_ret
          exact ⟨ret_int (by rw [HE.out, if_neg hd0]), hB2⟩
      · obtain rfl : j = os.length := by omega
        have h0 : Hid (c = 0) := by show _ = _; rw [← HJ.out, List.drop_length]; rfl
        clear hrd
        go_wp2
        go_ret
        exact ⟨ret_int h0.out.symm, hB⟩

set_option maxHeartbeats 2000000 in
theorem rcheck_any (w : World) (v : Value) (os : List OpB) (c : Int) (hv : RdO w v os) (hc : chkL os = c) :
    Calls Try.prog 58 #[v] w fun e w' => e = .returned (.int .i64 c) ∧ Below w.heap.size w w' := by
  have hv0 := hv
  obtain ⟨ao, cap, rfl, h1, h2, h3⟩ := hv
  unfold maxLen at h2
  have H3 : Hid _ := hv0
  have HC : Hid _ := hc
  clear hv0 h3 hc
  by_cases h64 : 64 < os.length
  · go_enter Try.func58, Try.ntmps58
    go_wp2
    go_ret
    exact ⟨ret_int (by rw [← HC.out]; unfold chkL; rw [if_pos h64]), Below.refl _ _⟩
  · have HD : Hid (chkOps os = c) := by show _ = _; rw [← HC.out]; unfold chkL; rw [if_neg h64]
    clear HC
    go_enter Try.func58, Try.ntmps58
    go_wp2_with fail
    go_loopg [11] os.length (fun gk iv wr => ∃ j : Nat, gk + j = os.length ∧ iv = .int .i64 (j : Int) ∧ chkOps (os.drop j) = c ∧ Below w.heap.size w wr)
    case atStart => exact ⟨0, rfl, rfl, HD.out, Below.refl _ _⟩
    case round =>
      obtain ⟨j, hj, rfl, hd, hB⟩ := hrel
      have HJ : Hid _ := hd
      clear hd
      have hrd : RdO wr _ os := LsO.below (show RdO w _ os from H3.out) hB (Nat.le_refl _)
      by_cases hlt : j < os.length
      · obtain ⟨_, _, e, _, _, h3⟩ := hrd
        cases e
        obtain ⟨b, off, rfl, x, y, c0, c1, c2, rx, ry⟩ := h3 j hlt
        obtain ⟨x1, x2, ex⟩ := rx.len
        obtain ⟨y1, y2, ey⟩ := ry.len
        subst ex ey
        obtain ⟨⟨ok, ol, om⟩, ho⟩ : ∃ o, os[j] = o := ⟨_, rfl⟩
        rw [ho] at c0 c1 c2 rx ry
        obtain ⟨d, hd⟩ : ∃ d, chkOp (ok.toNat : Int) ol om = d := ⟨_, rfl⟩
        have HE : Hid (c = if d = 0 then chkOps (os.drop (j + 1)) else d) := by
          show _ = _
          rw [← HJ.out, List.drop_eq_getElem_cons hlt, ho, ← hd]
          rfl
        have HX : Hid _ := hd
        have hba := below_box wr #[.int .u8 (ok.toNat : Int), .slice x1 ol.length x2, .slice y1 om.length y2] 63
        have rx2 := rx.below hba (Nat.le_refl _)
        have ry2 := ry.below hba (Nat.le_refl _)
        clear h3 rx ry ho hd HJ HD
        go_wp2_with fail
        refine (refcheckop_any _ _ _ ol om ok.toNat d (by omega) rx2 ry2 HX.out).mono ?_
        rintro e w2 ⟨rfl, hb⟩
        have hB2 := (hB.trans (hba.mono hB.size)).trans (hb.mono (Nat.le_trans hB.size hba.size))
        clear hB hba hb rx2 ry2 c0 c1 c2
        by_cases hd0 : d = 0
        · subst hd0
          go_wp2
          go_roundg (gk - 1)
          case measure => omega
          case rel => exact ⟨j + 1, by omega, by go_num, by rw [HE.out]; simp, hB2⟩
        · have hdb : (d != 0) = true := by simp [hd0]
          have hdb2 : (d == 0) = false := by simp [hd0]
          go_wp2
          go_ret
          exact ⟨ret_int (by rw [HE.out, if_neg hd0]), hB2⟩
      · obtain rfl : j = os.length := by omega
        have h0 : Hid (c = 0) := by show _ = _; rw [← HJ.out, List.drop_length]; rfl
        clear hrd
        go_wp2
        go_ret
        exact ⟨ret_int h0.out.symm, hB⟩

end Go.Proofs.Ytgphjgpibjhbjaa

/- What a batch makes of a memo, in pure terms. -/
namespace Go.Proofs.Ytgphjgpibjhbjaa
set_option maxRecDepth 20000
open Go.RowKit
set_option linter.unusedVariables false
set_option linter.unusedSimpArgs false

/-- the versions that ops make, from a number on -/
def verO : List OpB → Nat → List EnB
  | [], _ => []
  | o :: r, s => if o.1 = 3 then verO r (s + 1) else (o.2.1, s, o.1, o.2.2) :: verO r (s + 1)

/-- and the spans -/
def spnO : List OpB → Nat → List SpB
  | [], _ => []
  | o :: r, s => if o.1 = 3 then (o.2.1, o.2.2, s) :: spnO r (s + 1) else spnO r (s + 1)

theorem verO_snoc (os : List OpB) (o : OpB) (s : Nat) : verO (os ++ [o]) s = verO os s ++ (if o.1 = 3 then [] else [(o.2.1, s + os.length, o.1, o.2.2)]) := by
  induction os generalizing s with
  | nil => by_cases h : o.1 = 3 <;> simp [verO, h]
  | cons x r ih =>
    have e : s + 1 + r.length = s + (r.length + 1) := by omega
    by_cases h : x.1 = 3
    · simp [verO, h, ih, e]
    · simp [verO, h, ih, e]

theorem spnO_snoc (os : List OpB) (o : OpB) (s : Nat) : spnO (os ++ [o]) s = spnO os s ++ (if o.1 = 3 then [(o.2.1, o.2.2, s + os.length)] else []) := by
  induction os generalizing s with
  | nil => by_cases h : o.1 = 3 <;> simp [spnO, h]
  | cons x r ih =>
    have e : s + 1 + r.length = s + (r.length + 1) := by omega
    by_cases h : x.1 = 3
    · simp [spnO, h, ih, e]
    · simp [spnO, h, ih, e]

theorem verO_len (os : List OpB) (s : Nat) : (verO os s).length + (spnO os s).length = os.length := by
  induction os generalizing s with
  | nil => rfl
  | cons x r ih =>
    have h9 := ih (s + 1)
    by_cases h : x.1 = 3
    · simp only [verO, spnO, if_pos h, List.length_cons]; omega
    · simp only [verO, spnO, if_neg h, List.length_cons]; omega

theorem verO_seq {os : List OpB} {s : Nat} {e : EnB} (h : e ∈ verO os s) : s ≤ e.2.1 ∧ e.2.1 < s + os.length := by
  induction os generalizing s with
  | nil => simp [verO] at h
  | cons x r ih =>
    unfold verO at h
    by_cases h3 : x.1 = 3
    · rw [if_pos h3] at h
      have := ih h
      simp only [List.length_cons]; omega
    · rw [if_neg h3] at h
      rcases List.mem_cons.1 h with rfl | h
      · simp
      · have := ih h
        simp only [List.length_cons]; omega

theorem verO_mem {os : List OpB} {s : Nat} {e : EnB} (h : e ∈ verO os s) : ∃ o ∈ os, e.1 = o.2.1 ∧ e.2.2.2 = o.2.2 := by
  induction os generalizing s with
  | nil => simp [verO] at h
  | cons x r ih =>
    unfold verO at h
    by_cases h3 : x.1 = 3
    · rw [if_pos h3] at h
      obtain ⟨o, ho, h1⟩ := ih h
      exact ⟨o, List.mem_cons_of_mem _ ho, h1⟩
    · rw [if_neg h3] at h
      rcases List.mem_cons.1 h with rfl | h
      · exact ⟨x, List.mem_cons_self, rfl, rfl⟩
      · obtain ⟨o, ho, h1⟩ := ih h
        exact ⟨o, List.mem_cons_of_mem _ ho, h1⟩

theorem spnO_mem {os : List OpB} {s : Nat} {e : SpB} (h : e ∈ spnO os s) : ∃ o ∈ os, e.1 = o.2.1 ∧ e.2.1 = o.2.2 := by
  induction os generalizing s with
  | nil => simp [spnO] at h
  | cons x r ih =>
    unfold spnO at h
    by_cases h3 : x.1 = 3
    · rw [if_pos h3] at h
      rcases List.mem_cons.1 h with rfl | h
      · exact ⟨x, List.mem_cons_self, rfl, rfl⟩
      · obtain ⟨o, ho, h1⟩ := ih h
        exact ⟨o, List.mem_cons_of_mem _ ho, h1⟩
    · rw [if_neg h3] at h
      obtain ⟨o, ho, h1⟩ := ih h
      exact ⟨o, List.mem_cons_of_mem _ ho, h1⟩

/-- what Batch answers -/
def batC (os : List OpB) (s : Int) (hs : List Int) (last : Int) : Int :=
  if chkL os = 0 then (if hasN s os.length = true then (if (hs.take os.length).any noHt = true then 1 else if s ≤ last then 10 else 0) else 13) else chkL os

theorem chkOps_mem {os : List OpB} (h : chkOps os = 0) {o : OpB} (ho : o ∈ os) : chkOp (o.1.toNat : Int) o.2.1 o.2.2 = 0 := by
  induction os with
  | nil => simp at ho
  | cons x r ih =>
    unfold chkOps at h
    by_cases h0 : chkOp (x.1.toNat : Int) x.2.1 x.2.2 = 0
    · rw [if_pos h0] at h
      rcases List.mem_cons.1 ho with rfl | ho
      · exact h0
      · exact ih h ho
    · rw [if_neg h0] at h; exact absurd h h0

theorem chkL_mem {os : List OpB} (h : chkL os = 0) : os.length ≤ 64 ∧ ∀ o ∈ os, chkOp (o.1.toNat : Int) o.2.1 o.2.2 = 0 := by
  unfold chkL at h
  by_cases h1 : 64 < os.length
  · rw [if_pos h1] at h; cases h
  · rw [if_neg h1] at h; exact ⟨by omega, fun o ho => chkOps_mem h ho⟩

theorem chkOp_len {k : Int} {l m : List UInt8} (h : chkOp k l m = 0) : (1 ≤ k ∧ k ≤ 3) ∧ l.length ≤ 64 ∧ 1 ≤ l.length ∧ m.length ≤ 512 ∧ (k = 3 → m.length ≤ 64 ∧ Lib.compareBytes l m < 0) := by
  unfold chkOp at h
  by_cases h1 : k < 1 ∨ 3 < k
  · rw [if_pos h1] at h; cases h
  · rw [if_neg h1] at h
    by_cases h2 : 64 < l.length ∨ (k = 2 ∧ 512 < m.length) ∨ (k = 3 ∧ 64 < m.length)
    · rw [if_pos h2] at h; cases h
    · rw [if_neg h2] at h
      by_cases h3 : l.length = 0 ∨ (k = 1 ∧ 0 < m.length) ∨ (k = 3 ∧ 0 ≤ Lib.compareBytes l m)
      · rw [if_pos h3] at h; cases h
      · refine ⟨by omega, by omega, by omega, by omega, by omega⟩

theorem cmp_nonempty {l m : List UInt8} (h : Lib.compareBytes l m < 0) : 1 ≤ m.length := by
  cases m with
  | nil => cases l <;> simp [Lib.compareBytes] at h
  | cons a t => simp

theorem chkSp_of {l m : List UInt8} {s : Int} (h : chkOp 3 l m = 0) (h1 : 1 ≤ s) (h2 : s ≤ 72057594037927935) : chkSp l m s = 0 := by
  obtain ⟨_, a, b, _, c⟩ := chkOp_len h
  obtain ⟨c1, c2⟩ := c rfl
  unfold chkSp
  rw [if_pos ⟨⟨b, a⟩, ⟨cmp_nonempty c2, c1⟩, c2, h1, h2⟩]

theorem chkSk_of {k : UInt8} {l m : List UInt8} {s : Nat} {hh : Int} (h : chkOp (k.toNat : Int) l m = 0) (h3 : k ≠ 3) (h1 : 1 ≤ s) (h2 : s ≤ 72057594037927935) (hh1 : noHt hh = false) : chkSk (l, s, k, m) hh = 0 := by
  obtain ⟨a, b, c, d, _⟩ := chkOp_len h
  have hk : k.toNat ≠ 3 := fun e => h3 (UInt8.toNat_inj.1 (by rw [e]; rfl))
  have hc : chk l.length (s : Int) (k.toNat : Int) = 0 := by
    unfold chk
    split <;> omega
  unfold noHt at hh1
  have hh2 := of_decide_eq_false hh1
  unfold chkSk
  simp only
  rw [hc, if_pos rfl, if_pos (by omega), if_neg (by omega)]

theorem htI_no {hs : List Int} {n i : Nat} (h : (hs.take n).any noHt = false) (hi : i < n) : noHt (htI hs i) = false := by
  unfold htI
  by_cases h1 : i < hs.length
  · rw [if_pos h1]
    have h2 : hs[i] ∈ hs.take n := by
      rw [List.mem_take_iff_getElem]
      exact ⟨i, by omega, rfl⟩
    have h3 := List.any_eq_false.1 h _ h2
    simp only [List.getD_eq_getElem?_getD, List.getElem?_eq_getElem h1, Option.getD_some]
    simpa using h3
  · rw [if_neg h1]; rfl

theorem anyE_low {es : List EnB} {e : EnB} (h : ∀ x ∈ es, x.2.1 < e.2.1) : anyE es e = false := by
  unfold anyE
  rw [List.any_eq_false]
  intro x hx h9
  unfold sameE at h9
  have := of_decide_eq_true h9
  have := h x hx
  omega

end Go.Proofs.Ytgphjgpibjhbjaa

/- (*memo.Memo).write. -/
namespace Go.Proofs.Ytgphjgpibjhbjaa
set_option maxRecDepth 100000
open Go.RowKit
set_option linter.unusedVariables false
set_option linter.unusedSimpArgs false

set_option maxHeartbeats 2000000 in
theorem mwrite_span (G : Nat → Prop) (w : World) (m l t : Nat) (ts : List Tow) (ss : List SpB) (last : Int) (x y : Value) (kl vl : List UInt8) (s : Nat) (hh : Int) (h : MemA G w m l t ts ss last) (hx : Rd w x kl) (hy : Rd w y vl) (hn : ss.length ≤ 100000) (hc : chkSp kl vl (s : Int) = 0) :
    Calls Try.prog 54 #[.pointer (some ⟨m, 0, none⟩), .agg #[.int .u8 3, x, y], .int .u64 (s : Int), .int .i64 hh] w fun e w' => e = .returned (.tuple #[]) ∧ ∃ G' : Nat → Prop, MemA G' w' m l t ts (ss ++ [(kl, vl, s)]) (s : Int) ∧ (∀ q, G' q → G q ∨ w.heap.size ≤ q) ∧ Keeps (fun i => i = m ∨ G i) w w' := by
  obtain ⟨xa, xc, rfl⟩ := hx.len
  obtain ⟨ya, yc, rfl⟩ := hy.len
  obtain ⟨nl, hnl⟩ : ∃ nl, kl.length = nl := ⟨_, rfl⟩
  obtain ⟨ml, hml⟩ : ∃ ml, vl.length = ml := ⟨_, rfl⟩
  rw [hnl] at hx ⊢
  rw [hml] at hy ⊢
  have hb0 := (below_box w #[.int .u8 3, .slice xa nl xc, .slice ya ml yc] 63).drew
  obtain ⟨z0, _, _, _, _, _⟩ := box_new w (.int .u8 3) (.slice xa nl xc) (.slice ya ml yc) 63
  obtain ⟨_, z1, z2, _, _, _⟩ := (box_new w (.int .u8 3) (.slice xa nl xc) (.slice ya ml yc) 63).drew
  have hM := h.below hb0
  have HM : Hid (MemA G (w.alloc (.cells #[.int .u8 3, .slice xa nl xc, .slice ya ml yc] 63)).drew m l t ts ss last) := hM
  have HB : Hid (Below w.heap.size w (w.alloc (.cells #[.int .u8 3, .slice xa nl xc, .slice ya ml yc] 63)).drew) := hb0
  have had := taddG_any _ G t ss (.slice xa nl xc) (.slice ya ml yc) kl vl s 0 hM.st (hx.below hb0 (Nat.le_refl _)) (hy.below hb0 (Nat.le_refl _)) hn hc
  obtain ⟨c0, c1, c2, f0, f1, f2⟩ := hM.bx
  clear hnl hml hx hy hb0 hM h
  go_enter Try.func54, Try.ntmps54
  go_wp2_with fail
  go_region_law
    (first
      | (go_simp
         go_at_call 57
         refine Calls.mono had ?_
         rintro e w2 hp
         obtain ⟨G', hM2, hG'⟩ := HM.out.add hp
         have HK : Hid (Keeps G (w.alloc (.cells #[.int .u8 3, .slice xa nl xc, .slice ya ml yc] 63)).drew w2) := hp.2.1
         obtain ⟨rfl, _⟩ := hp
         have HM2 : Hid (MemA G' w2 m l t ts (ss ++ [(kl, vl, s)]) last) := by have h9 := hM2; rw [if_pos rfl] at h9; exact h9
         have HG' : Hid (∀ q, G' q → G q ∨ w.heap.size ≤ q) := fun q hq => (hG' q hq).imp id (fun h9 => Nat.le_trans HB.out.size h9)
         have k2 := hM2.bx.c2
         have k3 := hM2.bx.f2
         clear hM2 hG')
      | fail)
  all_goals
    go_wp2
    refine bodyPost_end (results_none Try.results54 _ _ _) rfl ?_
    refine ⟨rfl, ?_⟩
    exact ⟨G', HM2.out.put _, HG'.out, (((Below.keeps HB.out _).trans (HK.out.mono (fun i hi => .inr hi))).setCell (p := ⟨m, 2, none⟩) (.inl rfl) _)⟩

end Go.Proofs.Ytgphjgpibjhbjaa

/- (*memo.Memo).write: a version. -/
namespace Go.Proofs.Ytgphjgpibjhbjaa
set_option maxRecDepth 100000
open Go.RowKit
set_option linter.unusedVariables false
set_option linter.unusedSimpArgs false

set_option maxHeartbeats 2000000 in
theorem mwrite_ver (G : Nat → Prop) (w : World) (m l t : Nat) (ts : List Tow) (ss : List SpB) (last : Int) (x y : Value) (kl vl : List UInt8) (s : Nat) (k : UInt8) (hh : Int) (h : MemA G w m l t ts ss last) (hx : Rd w x kl) (hy : Rd w y vl) (hk3 : k ≠ 3) (hl1 : kl.length ≤ 1000000) (hl2 : vl.length ≤ 1000000) (hlen : ts.length + 1 ≤ 4000) (hc : chkSk (kl, s, k, vl) hh = 0) (ha : anyE (esT ts) (kl, s, k, vl) = false) :
    Calls Try.prog 54 #[.pointer (some ⟨m, 0, none⟩), .agg #[.int .u8 (k.toNat : Int), x, y], .int .u64 (s : Int), .int .i64 hh] w fun e w' => e = .returned (.tuple #[]) ∧ ∃ T : Tow, T.e = (kl, s, k, vl) ∧ (T.h : Int) = hh ∧ MemA G w' m l t (insT ts (cntE (esT ts) (kl, s, k, vl)) T) ss (s : Int) ∧ (w.heap.size ≤ T.b ∧ From w.heap.size T.x ∧ From w.heap.size T.y) ∧ Keeps (fun i => i = m ∨ FpK l ts i) w w' := by
  obtain ⟨xa, xc, rfl⟩ := hx.len
  obtain ⟨ya, yc, rfl⟩ := hy.len
  obtain ⟨nl, hnl⟩ : ∃ nl, kl.length = nl := ⟨_, rfl⟩
  obtain ⟨ml, hml⟩ : ∃ ml, vl.length = ml := ⟨_, rfl⟩
  rw [hnl] at hx ⊢
  rw [hml] at hy ⊢
  have hk9 : ¬ (k.toNat : Int) = 3 := fun e9 => hk3 (UInt8.toNat_inj.1 (by have h9 : k.toNat = 3 := (by omega); rw [h9]; rfl))
  obtain ⟨kk, hkk⟩ : ∃ kk, k.toNat = kk := ⟨_, rfl⟩
  have hin0 := fun W => skinsert_own W l ts (.slice xa nl xc) (.slice ya ml yc) (kl, s, k, vl) hh
  simp only at hin0
  rw [hkk] at hk9 hin0 ⊢
  have HBA : Hid (∀ W, Below w.heap.size w W → MemA G W m l t ts ss last ∧ Rd W (.slice xa nl xc) kl ∧ Rd W (.slice ya ml yc) vl) := fun W hb => ⟨h.below hb, hx.below hb (Nat.le_refl _), hy.below hb (Nat.le_refl _)⟩
  have hb0 := below_box w #[.int .u8 (kk : Int), .slice xa nl xc, .slice ya ml yc] 63
  have hb1 := (below_box (w.alloc (.cells #[.int .u8 (kk : Int), .slice xa nl xc, .slice ya ml yc] 63)) #[.slice xa nl xc, .int .u64 (s : Int), .int .u8 (kk : Int)] 42).drew
  have hb2 := bsplit hb0 hb1
  have b0 := box_new w (.int .u8 (kk : Int)) (.slice xa nl xc) (.slice ya ml yc) 63
  have bk := (box_new (w.alloc (.cells #[.int .u8 (kk : Int), .slice xa nl xc, .slice ya ml yc] 63)) (.slice xa nl xc) (.int .u64 (s : Int)) (.int .u8 (kk : Int)) 42).drew
  have hs1 : (w.alloc (.cells #[.int .u8 (kk : Int), .slice xa nl xc, .slice ya ml yc] 63)).heap.size = w.heap.size + 1 := by simp
  rw [hs1] at bk
  have HM : Hid (MemA G ((w.alloc (.cells #[.int .u8 (kk : Int), .slice xa nl xc, .slice ya ml yc] 63)).alloc (.cells #[.slice xa nl xc, .int .u64 (s : Int), .int .u8 (kk : Int)] 42)).drew m l t ts ss last) := (HBA.out _ hb2).1
  have HB : Hid (Below w.heap.size w ((w.alloc (.cells #[.int .u8 (kk : Int), .slice xa nl xc, .slice ya ml yc] 63)).alloc (.cells #[.slice xa nl xc, .int .u64 (s : Int), .int .u8 (kk : Int)] 42)).drew) := hb2
  have had := hin0 _ HM.out.sk (HBA.out _ hb2).2.1 (HBA.out _ hb2).2.2 hl1 hl2 hlen
  have b02 := b0.below hb1 (Nat.le_refl _)
  obtain ⟨_, _, y2, _, _, _⟩ := b02
  obtain ⟨z0, z1, z2, _, _, _⟩ := b0
  obtain ⟨x0, x1, x2, _, _, _⟩ := bk
  obtain ⟨c0, c1, c2, f0, f1, f2⟩ := HM.out.bx
  have HCA : Hid (chkSk (kl, s, k, vl) hh = 0 ∧ anyE (esT ts) (kl, s, k, vl) = false) := ⟨hc, ha⟩
  clear hnl hml hx hy h hkk hb0 hb1 hb2 hs1 hin0 hl1 hl2 hlen hc ha
  go_enter Try.func54, Try.ntmps54
  go_wp2_with fail
  go_region_law
    (first
      | (go_simp
         go_at_call 70
         refine Calls.mono had ?_
         rintro e w2 hp
         rcases hp with ⟨hn9, _⟩ | ⟨_, hn9, _⟩ | ⟨_, _, rfl, T, hTe, hTh, hTb, hS9, hK9⟩
         · exact absurd HCA.out.1 hn9
         · rw [HCA.out.2] at hn9; cases hn9
         have hM2 := HM.out.ins hTb hS9 hK9
         have HM2 : Hid (MemA G w2 m l t (insT ts (cntE (esT ts) (kl, s, k, vl)) T) ss last) := hM2
         have HK : Hid (Keeps (fun i => i = m ∨ FpK l ts i) ((w.alloc (.cells #[.int .u8 (kk : Int), .slice xa nl xc, .slice ya ml yc] 63)).alloc (.cells #[.slice xa nl xc, .int .u64 (s : Int), .int .u8 (kk : Int)] 42)).drew w2) := hK9.mono (fun i ⟨a, ha, e⟩ => .inr (by rw [e]; exact fpK_nb ha))
         have HTT : Hid (T.e = (kl, s, k, vl) ∧ (T.h : Int) = hh ∧ (w.heap.size ≤ T.b ∧ From w.heap.size T.x ∧ From w.heap.size T.y)) := ⟨hTe, hTh, Nat.le_trans HB.out.size hTb.1, fun a n c e => Nat.le_trans HB.out.size (hTb.2.1 a n c e), fun a n c e => Nat.le_trans HB.out.size (hTb.2.2 a n c e)⟩
         have k2 := hM2.bx.c2
         have k3 := hM2.bx.f2
         clear hM2 hS9 hK9 hTe hTh hTb)
      | fail)
  all_goals
    go_wp2
    refine bodyPost_end (results_none Try.results54 _ _ _) rfl ?_
    refine ⟨rfl, T, HTT.out.1, HTT.out.2.1, HM2.out.put _, HTT.out.2.2, (((Below.keeps HB.out _).trans HK.out).setCell (p := ⟨m, 2, none⟩) (.inl rfl) _)⟩

end Go.Proofs.Ytgphjgpibjhbjaa

/- (*memo.Memo).Batch. -/
namespace Go.Proofs.Ytgphjgpibjhbjaa
set_option maxRecDepth 100000
open Go.RowKit
set_option linter.unusedVariables false
set_option linter.unusedSimpArgs false

theorem Keeps.then {F F' : Nat → Prop} {a b c : World} (h : Keeps F a b) (k : Keeps F' b c) (hF : ∀ i, F' i → F i ∨ a.heap.size ≤ i) : Keeps F a c :=
  ⟨k.os.trans h.os, k.tape.trans h.tape, k.output.trans h.output, Nat.le_trans h.size k.size, fun i hi hn => (k.block i (Nat.lt_of_lt_of_le hi h.size) (fun h9 => (hF i h9).elim hn (fun h8 => by omega))).trans (h.block i hi hn)⟩

/-- the blocks of a memo -/
def FpM (G : Nat → Prop) (m l : Nat) (ts : List Tow) (i : Nat) : Prop := i = m ∨ FpK l ts i ∨ G i

/-- what a batch, or a beginning of it, has made of a memo -/
structure BatI (w W : World) (G : Nat → Prop) (m l t : Nat) (ts : List Tow) (ss : List SpB) (last : Int) (os : List OpB) (s : Nat) (G' : Nat → Prop) (ts' : List Tow) : Prop where
  mem : MemA G' W m l t ts' (ss ++ spnO os s) (if os.length = 0 then last else ((s + os.length - 1 : Nat) : Int))
  prm : (esT ts').Perm (esT ts ++ verO os s)
  fp : ∀ q, FpM G' m l ts' q → FpM G m l ts q ∨ w.heap.size ≤ q
  kp : Keeps (FpM G m l ts) w W

theorem BatI.start {w : World} {G : Nat → Prop} {m l t : Nat} {ts : List Tow} {ss : List SpB} {last : Int} (h : MemA G w m l t ts ss last) (s : Nat) : BatI w w G m l t ts ss last [] s G ts :=
  ⟨by simpa [spnO] using h, by simp [verO], fun q hq => .inl hq, Keeps.refl _ _⟩

theorem BatI.below {w W W' : World} {G G' : Nat → Prop} {m l t s : Nat} {ts ts' : List Tow} {ss : List SpB} {last : Int} {os : List OpB} (h : BatI w W G m l t ts ss last os s G' ts') (hb : Below W.heap.size W W') : BatI w W' G m l t ts ss last os s G' ts' :=
  ⟨h.mem.below hb, h.prm, h.fp, h.kp.then (Below.keeps hb (fun _ => False)) (fun i hi => hi.elim)⟩

theorem BatI.span {w W W' : World} {G G' G2 : Nat → Prop} {m l t s : Nat} {ts ts' : List Tow} {ss : List SpB} {last : Int} {os : List OpB} {o : OpB} (h : BatI w W G m l t ts ss last os s G' ts') (h3 : o.1 = 3)
    (hM : MemA G2 W' m l t ts' ((ss ++ spnO os s) ++ [(o.2.1, o.2.2, s + os.length)]) ((s + os.length : Nat) : Int)) (hG : ∀ q, G2 q → G' q ∨ W.heap.size ≤ q) (hk : Keeps (fun i => i = m ∨ G' i) W W') : BatI w W' G m l t ts ss last (os ++ [o]) s G2 ts' := by
  refine ⟨?_, ?_, fun q hq => ?_, h.kp.then hk (fun i hi => ?_)⟩
  · rw [spnO_snoc, if_pos h3, ← List.append_assoc, if_neg (by simp)]
    have e : s + (os ++ [o]).length - 1 = s + os.length := by simp
    rw [e]
    exact hM
  · rw [verO_snoc, if_pos h3, List.append_nil]; exact h.prm
  · rcases hq with hq | hq | hq
    · exact .inl (.inl hq)
    · exact h.fp q (.inr (.inl hq))
    · rcases hG q hq with hq | hq
      · exact h.fp q (.inr (.inr hq))
      · exact .inr (Nat.le_trans h.kp.size hq)
  · rcases hi with hi | hi
    · exact .inl (.inl hi)
    · exact h.fp i (.inr (.inr hi))

theorem BatI.ver {w W W' : World} {G G' : Nat → Prop} {m l t s c : Nat} {ts ts' : List Tow} {ss : List SpB} {last : Int} {os : List OpB} {o : OpB} {T : Tow} (h : BatI w W G m l t ts ss last os s G' ts') (h3 : o.1 ≠ 3) (hT : T.e = (o.2.1, s + os.length, o.1, o.2.2))
    (hM : MemA G' W' m l t (insT ts' c T) (ss ++ spnO os s) ((s + os.length : Nat) : Int)) (hB : W.heap.size ≤ T.b ∧ From W.heap.size T.x ∧ From W.heap.size T.y) (hk : Keeps (fun i => i = m ∨ FpK l ts' i) W W') : BatI w W' G m l t ts ss last (os ++ [o]) s G' (insT ts' c T) := by
  refine ⟨?_, ?_, fun q hq => ?_, h.kp.then hk (fun i hi => ?_)⟩
  · rw [spnO_snoc, if_neg h3, List.append_nil, if_neg (by simp)]
    have e : s + (os ++ [o]).length - 1 = s + os.length := by simp
    rw [e]
    exact hM
  · rw [verO_snoc, if_neg h3, ← List.append_assoc, ← hT]
    exact (insT_perm ts' c T).trans ((List.Perm.cons _ h.prm).trans (List.perm_append_singleton _ _).symm)
  · rcases hq with hq | hq | hq
    · exact .inl (.inl hq)
    · rcases fpK_ins hB hq with h9 | h9
      · exact h.fp q (.inr (.inl h9))
      · exact .inr (Nat.le_trans h.kp.size h9)
    · exact h.fp q (.inr (.inr hq))
  · rcases hi with hi | hi
    · exact .inl (.inl hi)
    · exact h.fp i (.inr (.inl hi))

theorem BatI.low {w W : World} {G G' : Nat → Prop} {m l t s : Nat} {ts ts' : List Tow} {ss : List SpB} {last : Int} {os : List OpB} (h : BatI w W G m l t ts ss last os s G' ts') (hl : ∀ e ∈ esT ts, (e.2.1 : Int) ≤ last) (hs : last < (s : Int)) : ∀ x ∈ esT ts', x.2.1 < s + os.length := by
  intro x hx
  rcases List.mem_append.1 (h.prm.mem_iff.1 hx) with h9 | h9
  · have := hl x h9; omega
  · exact (verO_seq h9).2

theorem BatI.count {w W : World} {G G' : Nat → Prop} {m l t s : Nat} {ts ts' : List Tow} {ss : List SpB} {last : Int} {os : List OpB} (h : BatI w W G m l t ts ss last os s G' ts') : ts'.length ≤ ts.length + os.length := by
  have h1 := h.prm.length_eq
  rw [List.length_append, esT_len, esT_len] at h1
  have h2 := verO_len os s
  omega

/-- what Batch leaves -/
def BatPost (G : Nat → Prop) (w : World) (m l t : Nat) (ts : List Tow) (ss : List SpB) (last : Int) (os : List OpB) (s : Nat) (c : Int) (e : Ending) (w' : World) : Prop :=
  e = .returned (.int .i64 c) ∧ (c ≠ 0 → Below w.heap.size w w') ∧ (c = 0 → ∃ (G' : Nat → Prop) (ts' : List Tow), BatI w w' G m l t ts ss last os s G' ts')

set_option maxHeartbeats 2000000 in
theorem mbatch_any (G : Nat → Prop) (w : World) (m l t : Nat) (ts : List Tow) (ss : List SpB) (last : Int) (v : Value) (os : List OpB) (s : Nat) (a : Option Addr) (n cap : Nat) (hs : List Int) (h : MemA G w m l t ts ss last)
    (hv : ∀ W, Keeps (FpM G m l ts) w W → RdO W v os) (hh : ∀ W, Keeps (FpM G m l ts) w W → RdI W a n hs) (ha : (a = none ∧ cap = 0) ∨ ∃ b off, a = some ⟨b, off, none⟩) (hnc : n ≤ cap) (hn : n ≤ 1000000) (hlen : chkL os = 0 → ts.length + os.length ≤ 4000) (hss : ss.length ≤ 10000) (hlast : ∀ e ∈ esT ts, (e.2.1 : Int) ≤ last) (hs64 : s < 18446744073709551616) :
    Calls Try.prog 29 #[.pointer (some ⟨m, 0, none⟩), v, .int .u64 (s : Int), .slice a n cap] w (BatPost G w m l t ts ss last os s (batC os (s : Int) hs last)) := by
  have he := eqMm m
  obtain ⟨c, hc⟩ : ∃ c, batC os (s : Int) hs last = c := ⟨_, rfl⟩
  rw [hc]
  have HC : Hid (batC os (s : Int) hs last = c) := hc
  have HV : Hid (∀ W, Keeps (FpM G m l ts) w W → RdO W v os) := hv
  have HH : Hid (∀ W, Keeps (FpM G m l ts) w W → RdI W a n hs) := hh
  have HM : Hid (MemA G w m l t ts ss last) := h
  have HL : Hid ((chkL os = 0 → ts.length + os.length ≤ 4000) ∧ ss.length ≤ 10000 ∧ (∀ e ∈ esT ts, (e.2.1 : Int) ≤ last)) := ⟨hlen, hss, hlast⟩
  have hr0 := hv w (Keeps.refl _ _)
  obtain ⟨k, hk⟩ : ∃ k, chkL os = k := ⟨_, rfl⟩
  have hck := bcheck_any w v os k hr0 hk
  have HK : Hid (chkL os = k) := hk
  obtain ⟨ao, co, rfl, ho1, ho2, _⟩ := hr0
  obtain ⟨N, hN⟩ : ∃ N, os.length = N := ⟨_, rfl⟩
  have HN : Hid (os.length = N) := hN
  rw [hN] at hck ho1 HV ⊢
  unfold maxLen at ho2
  clear hc hv hh h hlen hss hlast hk hN
  go_enter Try.func29, Try.ntmps29
  go_wp2_with fail
  refine hck.mono ?_
  rintro e w1 ⟨rfl, hb1⟩
  clear hck
  have HB1 : Hid (Below w.heap.size w w1) := hb1
  by_cases hk0 : k = 0
  · subst hk0
    have hN64 : N ≤ 64 := by have := (chkL_mem HK.out).1; rw [HN.out] at this; exact this
    have hhn := hasnum_any w1 (s : Int) (N : Int) (by omega) (by omega) (by omega)
    obtain ⟨r, hr⟩ : ∃ r, hasN (s : Int) (N : Int) = r := ⟨_, rfl⟩
    rw [hr] at hhn
    have HR : Hid (hasN (s : Int) (N : Int) = r) := hr
    have HW1 : Hid (MemA G w1 m l t ts ss last) := HM.out.below hb1
    obtain ⟨c0, c1, c2, _, _, _⟩ := (HM.out.below hb1).bx
    clear hr hb1
    go_wp2_with fail
    refine hhn.mono ?_
    rintro e w2 ⟨rfl, rfl⟩
    clear hhn
    cases r
    · go_wp2
      go_ret
      have hc13 : c = 13 := by rw [← HC.out]; unfold batC; rw [HN.out, HR.out, if_pos HK.out]; rfl
      refine ⟨ret_int hc13.symm, fun _ => HB1.out, fun h0 => ?_⟩
      rw [hc13] at h0; cases h0
    · obtain ⟨M, hM⟩ : ∃ M, min n N = M := ⟨_, rfl⟩
      have hM2 : M ≤ n ∧ M ≤ N ∧ M ≤ cap := by omega
      have hri : RdI w2 a M (hs.take N) := by
        obtain ⟨h1, h2⟩ := (HH.out w (Keeps.refl _ _)).below HB1.out
        refine ⟨by rw [List.length_take, h1, ← hM]; omega, fun j hj => ?_⟩
        obtain ⟨b, off, e, h3⟩ := h2 j (by omega)
        refine ⟨b, off, e, ?_⟩
        rw [h3]
        have : (hs.take N).getD j 0 = hs.getD j 0 := by
          rw [List.getD_eq_getElem?_getD, List.getD_eq_getElem?_getD, List.getElem?_take_of_lt (by omega)]
        rw [this]
      have hcn := mcont_any w2 a M cap (hs.take N) hri (by omega) hM2.2.2
      obtain ⟨r, hr⟩ : ∃ r, (hs.take N).any noHt = r := ⟨_, rfl⟩
      rw [hr] at hcn
      have HR2 : Hid ((hs.take N).any noHt = r) := hr
      have HM3 : Hid (min n N = M) := hM
      clear hr hri hM
      have hsl : min (n : Int) (N : Int) = (M : Int) := by rw [← HM3.out]; omega
      have HT : Hid (∀ W, Keeps (FpM G m l ts) w W → ∀ j : Nat, j ≤ 1000000 → Calls Try.prog 55 #[.slice a n cap, .int .i64 (j : Int)] W fun e w' => e = .returned (.int .i64 (htI hs j)) ∧ w' = W) := fun W hW j hj => heightOf_any W a n cap j hs (HH.out W hW) hn hnc hj
      have HCC : Hid (c = if r = true then 1 else if (s : Int) ≤ last then 10 else 0) := by
        show _ = _
        rw [← HC.out]
        unfold batC
        rw [if_pos HK.out, HN.out, if_pos HR.out, HR2.out]
      have HS1 : Hid (1 ≤ (s : Int) ∧ (s : Int) + ((N : Int) - 1) ≤ 72057594037927935 ∧ (s : Int) ≤ 72057594037927935) := by
        have h9 := HR.out
        unfold hasN at h9
        have h8 := of_decide_eq_true h9
        exact ⟨h8.1, by omega, h8.2.1⟩
      clear HH HC HR
      rcases ha with ⟨rfl, rfl⟩ | ⟨b0, off0, rfl⟩
      · have hM0 : M = 0 := by omega
        subst hM0
        go_wp2_with fail
        refine hcn.mono ?_
        rintro e w3 ⟨rfl, rfl⟩
        clear hcn
        cases r
        · by_cases hle : (s : Int) ≤ last
          · go_wp2
            go_ret
            have hc1 : c = 10 := by rw [HCC.out, if_neg (by simp), if_pos hle]
            refine ⟨ret_int hc1.symm, fun _ => HB1.out, fun h0 => ?_⟩
            rw [hc1] at h0; cases h0
          · have HC0 : Hid (c = 0) := by show _ = _; rw [HCC.out, if_neg (by simp), if_neg hle]
            have HLE : Hid (last < (s : Int)) := by show _ < _; omega
            go_wp2_with fail
            go_loopg [43] N (fun gk iv wr => ∃ j : Nat, gk + j = N ∧ iv = .int .i64 (j : Int) ∧ Hid (∃ (G' : Nat → Prop) (ts' : List Tow), BatI w wr G m l t ts ss last (os.take j) s G' ts'))
            case atStart => exact ⟨0, by omega, rfl, ⟨G, ts, (BatI.start HM.out s).below HB1.out⟩⟩
            case round =>
              obtain ⟨j, hj, rfl, HI⟩ := hrel
              by_cases hlt : j < N
              · have hlt2 : j < os.length := by rw [HN.out]; exact hlt
                obtain ⟨q1, q2⟩ := gk_nxt hj hlt
                obtain ⟨G', ts', hI⟩ := HI.out
                obtain ⟨_, _, e9, _, _, h3⟩ := HV.out wr hI.kp
                rw [HN.out] at e9
                cases e9
                obtain ⟨b, off, rfl, xv, yv, d0, d1, d2, rx, ry⟩ := h3 j hlt2
                obtain ⟨x1, x2, ex⟩ := rx.len
                obtain ⟨y1, y2, ey⟩ := ry.len
                subst ex ey
                have hcko := (chkL_mem HK.out).2 _ (List.getElem_mem hlt2)
                have htk : os.take (j + 1) = os.take j ++ [os[j]] := List.take_succ_eq_append_getElem hlt2
                have hjl : (os.take j).length = j := by rw [List.length_take]; omega
                obtain ⟨⟨ok, ol, om⟩, ho⟩ : ∃ o, os[j] = o := ⟨_, rfl⟩
                rw [ho] at d0 d1 d2 rx ry hcko htk
                simp only at d0 d1 d2 rx ry hcko
                obtain ⟨z, hz⟩ : ∃ z : Int, ((s + j : Nat) : Int) = z := ⟨_, rfl⟩
                have w1 : IntKind.u64.wrap (j : Int) = (j : Int) := by rw [IntKind.wrap_u64]; omega
                have hS1 := HS1.out
                have w2 : IntKind.u64.wrap ((s : Int) + (j : Int)) = z := by rw [← hz, IntKind.wrap_u64]; omega
                obtain ⟨hh, hhh⟩ : ∃ hh, htI hs j = hh := ⟨_, rfl⟩
                have hno : noHt hh = false := by rw [← hhh]; exact htI_no HR2.out hlt
                obtain ⟨nl, hnl⟩ : ∃ nl, ol.length = nl := ⟨_, rfl⟩
                obtain ⟨ml, hml⟩ : ∃ ml, om.length = ml := ⟨_, rfl⟩
                have hol := chkOp_len hcko
                obtain ⟨kk, hkk⟩ : ∃ kk : Int, (ok.toNat : Int) = kk := ⟨_, rfl⟩
                rw [hkk] at d0
                rw [hnl] at d1 rx
                rw [hml] at d2 ry
                have hb0 := (below_box wr #[.int .u8 kk, .slice x1 nl x2, .slice y1 ml y2] 63).drew
                have hI2 := hI.below hb0
                have hht := HT.out _ hI2.kp j (by omega)
                rw [hhh] at hht
                have hcnt := hI2.count
                rw [hjl] at hcnt
                have hl4 := HL.out.1 HK.out
                have hlo := hI2.low HL.out.2.2 HLE.out
                rw [hjl] at hlo
                have rx2 := rx.below hb0 (Nat.le_refl _)
                have ry2 := ry.below hb0 (Nat.le_refl _)
                obtain ⟨z1, z2, z3, _, _, _⟩ := box_new wr (.int .u8 kk) (.slice x1 nl x2) (.slice y1 ml y2) 63
                obtain ⟨z4, z5, z6, _, _, _⟩ := (box_new wr (.int .u8 kk) (.slice x1 nl x2) (.slice y1 ml y2) 63).drew
                have hwr : Calls Try.prog 54 #[.pointer (some ⟨m, 0, none⟩), .agg #[.int .u8 kk, .slice x1 nl x2, .slice y1 ml y2], .int .u64 z, .int .i64 hh] (wr.alloc (.cells #[.int .u8 kk, .slice x1 nl x2, .slice y1 ml y2] 63)).drew fun e w' => e = .returned (.tuple #[]) ∧ ∃ (G' : Nat → Prop) (ts' : List Tow), BatI w w' G m l t ts ss last (os.take (j + 1)) s G' ts' := by
                  rw [htk]
                  by_cases h3k : ok = 3
                  · have hk9 : kk = 3 := by rw [← hkk, h3k]; rfl
                    subst hk9
                    have hsp := hcko
                    rw [hkk] at hsp
                    have h9 := mwrite_span G' _ m l t ts' (ss ++ spnO (os.take j) s) _ (.slice x1 nl x2) (.slice y1 ml y2) ol om (s + j) hh hI2.mem rx2 ry2 (by have := verO_len (os.take j) s; have := HL.out.2.1; rw [List.length_append]; omega) (chkSp_of hsp (by omega) (by omega))
                    rw [hz] at h9
                    refine h9.mono ?_
                    rintro e w' ⟨he, G2, hM2, hG2, hk2⟩
                    refine ⟨he, G2, ts', hI2.span h3k ?_ hG2 hk2⟩
                    rw [hjl, hz]
                    exact hM2
                  · have h9 := mwrite_ver G' _ m l t ts' (ss ++ spnO (os.take j) s) _ (.slice x1 nl x2) (.slice y1 ml y2) ol om (s + j) ok hh hI2.mem rx2 ry2 h3k (by omega) (by omega) (by rw [HN.out] at hl4; omega) (chkSk_of hcko h3k (by omega) (by omega) hno) (anyE_low hlo)
                    rw [hz, hkk] at h9
                    refine h9.mono ?_
                    rintro e w' ⟨he, T, hTe, hTh, hM2, hB2, hk2⟩
                    refine ⟨he, G', insT ts' (cntE (esT ts') (ol, s + j, ok, om)) T, hI2.ver (c := cntE (esT ts') (ol, s + j, ok, om)) h3k (by rw [hjl]; exact hTe) ?_ hB2 hk2⟩
                    rw [hjl, hz]
                    exact hM2
                clear h3 rx ry rx2 ry2 hI hI2 hcnt hl4 hlo hol hcko htk hjl ho hz hS1 hhh hno hnl hml hkk hb0 HI
                go_wp2_with fail
                go_region_law
                  (first
                    | (go_simp
                       go_at_call 55
                       refine Calls.mono hht ?_
                       rintro e w5 ⟨rfl, rfl⟩
                       clear hht)
                    | (go_simp
                       go_at_call 54
                       refine Calls.mono hwr ?_
                       rintro e w5 ⟨rfl, hp⟩
                       have HP : Hid (∃ (G' : Nat → Prop) (ts' : List Tow), BatI w w5 G m l t ts ss last (os.take (j + 1)) s G' ts') := hp
                       clear hwr hp)
                    | fail)
                all_goals
                  go_wp2
                  go_roundg (gk - 1)
                  case measure => exact q1
                  case rel => exact ⟨j + 1, q2, by go_num, HP⟩
              · have hjN : j = N := by omega
                subst hjN
                go_wp2
                go_ret
                obtain ⟨G', ts', hI⟩ := HI.out
                have h9 : os.take j = os := by rw [← HN.out, List.take_length]
                rw [h9] at hI
                exact ⟨ret_int HC0.out.symm, fun h0 => absurd HC0.out h0, fun _ => ⟨G', ts', hI⟩⟩
        · go_wp2
          go_ret
          have hc1 : c = 1 := by rw [HCC.out]; rfl
          refine ⟨ret_int hc1.symm, fun _ => HB1.out, fun h0 => ?_⟩
          rw [hc1] at h0; cases h0
      · go_wp2_with fail
        refine hcn.mono ?_
        rintro e w3 ⟨rfl, rfl⟩
        clear hcn
        cases r
        · by_cases hle : (s : Int) ≤ last
          · go_wp2
            go_ret
            have hc1 : c = 10 := by rw [HCC.out, if_neg (by simp), if_pos hle]
            refine ⟨ret_int hc1.symm, fun _ => HB1.out, fun h0 => ?_⟩
            rw [hc1] at h0; cases h0
          · have HC0 : Hid (c = 0) := by show _ = _; rw [HCC.out, if_neg (by simp), if_neg hle]
            have HLE : Hid (last < (s : Int)) := by show _ < _; omega
            go_wp2_with fail
            go_loopg [43] N (fun gk iv wr => ∃ j : Nat, gk + j = N ∧ iv = .int .i64 (j : Int) ∧ Hid (∃ (G' : Nat → Prop) (ts' : List Tow), BatI w wr G m l t ts ss last (os.take j) s G' ts'))
            case atStart => exact ⟨0, by omega, rfl, ⟨G, ts, (BatI.start HM.out s).below HB1.out⟩⟩
            case round =>
              obtain ⟨j, hj, rfl, HI⟩ := hrel
              by_cases hlt : j < N
              · have hlt2 : j < os.length := by rw [HN.out]; exact hlt
                obtain ⟨q1, q2⟩ := gk_nxt hj hlt
                obtain ⟨G', ts', hI⟩ := HI.out
                obtain ⟨_, _, e9, _, _, h3⟩ := HV.out wr hI.kp
                rw [HN.out] at e9
                cases e9
                obtain ⟨b, off, rfl, xv, yv, d0, d1, d2, rx, ry⟩ := h3 j hlt2
                obtain ⟨x1, x2, ex⟩ := rx.len
                obtain ⟨y1, y2, ey⟩ := ry.len
                subst ex ey
                have hcko := (chkL_mem HK.out).2 _ (List.getElem_mem hlt2)
                have htk : os.take (j + 1) = os.take j ++ [os[j]] := List.take_succ_eq_append_getElem hlt2
                have hjl : (os.take j).length = j := by rw [List.length_take]; omega
                obtain ⟨⟨ok, ol, om⟩, ho⟩ : ∃ o, os[j] = o := ⟨_, rfl⟩
                rw [ho] at d0 d1 d2 rx ry hcko htk
                simp only at d0 d1 d2 rx ry hcko
                obtain ⟨z, hz⟩ : ∃ z : Int, ((s + j : Nat) : Int) = z := ⟨_, rfl⟩
                have w1 : IntKind.u64.wrap (j : Int) = (j : Int) := by rw [IntKind.wrap_u64]; omega
                have hS1 := HS1.out
                have w2 : IntKind.u64.wrap ((s : Int) + (j : Int)) = z := by rw [← hz, IntKind.wrap_u64]; omega
                obtain ⟨hh, hhh⟩ : ∃ hh, htI hs j = hh := ⟨_, rfl⟩
                have hno : noHt hh = false := by rw [← hhh]; exact htI_no HR2.out hlt
                obtain ⟨nl, hnl⟩ : ∃ nl, ol.length = nl := ⟨_, rfl⟩
                obtain ⟨ml, hml⟩ : ∃ ml, om.length = ml := ⟨_, rfl⟩
                have hol := chkOp_len hcko
                obtain ⟨kk, hkk⟩ : ∃ kk : Int, (ok.toNat : Int) = kk := ⟨_, rfl⟩
                rw [hkk] at d0
                rw [hnl] at d1 rx
                rw [hml] at d2 ry
                have hb0 := (below_box wr #[.int .u8 kk, .slice x1 nl x2, .slice y1 ml y2] 63).drew
                have hI2 := hI.below hb0
                have hht := HT.out _ hI2.kp j (by omega)
                rw [hhh] at hht
                have hcnt := hI2.count
                rw [hjl] at hcnt
                have hl4 := HL.out.1 HK.out
                have hlo := hI2.low HL.out.2.2 HLE.out
                rw [hjl] at hlo
                have rx2 := rx.below hb0 (Nat.le_refl _)
                have ry2 := ry.below hb0 (Nat.le_refl _)
                obtain ⟨z1, z2, z3, _, _, _⟩ := box_new wr (.int .u8 kk) (.slice x1 nl x2) (.slice y1 ml y2) 63
                obtain ⟨z4, z5, z6, _, _, _⟩ := (box_new wr (.int .u8 kk) (.slice x1 nl x2) (.slice y1 ml y2) 63).drew
                have hwr : Calls Try.prog 54 #[.pointer (some ⟨m, 0, none⟩), .agg #[.int .u8 kk, .slice x1 nl x2, .slice y1 ml y2], .int .u64 z, .int .i64 hh] (wr.alloc (.cells #[.int .u8 kk, .slice x1 nl x2, .slice y1 ml y2] 63)).drew fun e w' => e = .returned (.tuple #[]) ∧ ∃ (G' : Nat → Prop) (ts' : List Tow), BatI w w' G m l t ts ss last (os.take (j + 1)) s G' ts' := by
                  rw [htk]
                  by_cases h3k : ok = 3
                  · have hk9 : kk = 3 := by rw [← hkk, h3k]; rfl
                    subst hk9
                    have hsp := hcko
                    rw [hkk] at hsp
                    have h9 := mwrite_span G' _ m l t ts' (ss ++ spnO (os.take j) s) _ (.slice x1 nl x2) (.slice y1 ml y2) ol om (s + j) hh hI2.mem rx2 ry2 (by have := verO_len (os.take j) s; have := HL.out.2.1; rw [List.length_append]; omega) (chkSp_of hsp (by omega) (by omega))
                    rw [hz] at h9
                    refine h9.mono ?_
                    rintro e w' ⟨he, G2, hM2, hG2, hk2⟩
                    refine ⟨he, G2, ts', hI2.span h3k ?_ hG2 hk2⟩
                    rw [hjl, hz]
                    exact hM2
                  · have h9 := mwrite_ver G' _ m l t ts' (ss ++ spnO (os.take j) s) _ (.slice x1 nl x2) (.slice y1 ml y2) ol om (s + j) ok hh hI2.mem rx2 ry2 h3k (by omega) (by omega) (by rw [HN.out] at hl4; omega) (chkSk_of hcko h3k (by omega) (by omega) hno) (anyE_low hlo)
                    rw [hz, hkk] at h9
                    refine h9.mono ?_
                    rintro e w' ⟨he, T, hTe, hTh, hM2, hB2, hk2⟩
                    refine ⟨he, G', insT ts' (cntE (esT ts') (ol, s + j, ok, om)) T, hI2.ver (c := cntE (esT ts') (ol, s + j, ok, om)) h3k (by rw [hjl]; exact hTe) ?_ hB2 hk2⟩
                    rw [hjl, hz]
                    exact hM2
                clear h3 rx ry rx2 ry2 hI hI2 hcnt hl4 hlo hol hcko htk hjl ho hz hS1 hhh hno hnl hml hkk hb0 HI
                go_wp2_with fail
                go_region_law
                  (first
                    | (go_simp
                       go_at_call 55
                       refine Calls.mono hht ?_
                       rintro e w5 ⟨rfl, rfl⟩
                       clear hht)
                    | (go_simp
                       go_at_call 54
                       refine Calls.mono hwr ?_
                       rintro e w5 ⟨rfl, hp⟩
                       have HP : Hid (∃ (G' : Nat → Prop) (ts' : List Tow), BatI w w5 G m l t ts ss last (os.take (j + 1)) s G' ts') := hp
                       clear hwr hp)
                    | fail)
                all_goals
                  go_wp2
                  go_roundg (gk - 1)
                  case measure => exact q1
                  case rel => exact ⟨j + 1, q2, by go_num, HP⟩
              · have hjN : j = N := by omega
                subst hjN
                go_wp2
                go_ret
                obtain ⟨G', ts', hI⟩ := HI.out
                have h9 : os.take j = os := by rw [← HN.out, List.take_length]
                rw [h9] at hI
                exact ⟨ret_int HC0.out.symm, fun h0 => absurd HC0.out h0, fun _ => ⟨G', ts', hI⟩⟩
        · go_wp2
          go_ret
          have hc1 : c = 1 := by rw [HCC.out]; rfl
          refine ⟨ret_int hc1.symm, fun _ => HB1.out, fun h0 => ?_⟩
          rw [hc1] at h0; cases h0
  · go_wp2
    go_ret
    have hck : c = k := by rw [← HC.out]; unfold batC; rw [HK.out, if_neg hk0]
    refine ⟨ret_int hck.symm, fun _ => HB1.out, fun h0 => ?_⟩
    exact absurd (hck.symm.trans h0) hk0

end Go.Proofs.Ytgphjgpibjhbjaa

/- (*memo.Memo).Do. -/
namespace Go.Proofs.Ytgphjgpibjhbjaa
set_option maxRecDepth 100000
open Go.RowKit
set_option linter.unusedVariables false
set_option linter.unusedSimpArgs false

theorem fpM_lt {G : Nat → Prop} {w : World} {m l t : Nat} {ts : List Tow} {ss : List SpB} {last : Int} (h : MemA G w m l t ts ss last) {q : Nat} (hq : FpM G m l ts q) : q < w.heap.size := by
  rcases hq with rfl | hq | hq
  · exact h.bx.lt
  · exact fpK_lt h.sk hq
  · exact h.st.lt hq

theorem BatI.base {w w1 W : World} {G G' : Nat → Prop} {m l t s : Nat} {ts ts' : List Tow} {ss : List SpB} {last : Int} {os : List OpB} (h : BatI w1 W G m l t ts ss last os s G' ts') (hb : Below w.heap.size w w1) : BatI w W G m l t ts ss last os s G' ts' :=
  ⟨h.mem, h.prm, fun q hq => (h.fp q hq).imp id (fun h9 => Nat.le_trans hb.size h9), (Below.keeps hb (FpM G m l ts)).trans h.kp⟩

theorem BatPost.base {w w1 W : World} {G : Nat → Prop} {m l t s : Nat} {ts : List Tow} {ss : List SpB} {last c : Int} {os : List OpB} {e : Ending} (h : BatPost G w1 m l t ts ss last os s c e W) (hb : Below w.heap.size w w1) : BatPost G w m l t ts ss last os s c e W := by
  obtain ⟨h1, h2, h3⟩ := h
  refine ⟨h1, fun h0 => bsplit hb (h2 h0), fun h0 => ?_⟩
  obtain ⟨G', ts', h4⟩ := h3 h0
  exact ⟨G', ts', h4.base hb⟩

theorem cell_new_m (W : World) (v : Value) (t : TypeId) : (W.alloc (.cells #[v] t)).cell? ⟨W.heap.size, 0, none⟩ = some v ∧ (W.alloc (.cells #[v] t)).frozen? ⟨W.heap.size, 0, none⟩ = false := ⟨(rd_one_cell W v t), frozen_of_row (W.alloc (.cells #[v] t)) W.heap.size 0 _ t (heap_alloc_new W (.cells #[v] t))⟩

set_option maxHeartbeats 1000000 in
theorem mdo_any (G : Nat → Prop) (w : World) (m l t : Nat) (ts : List Tow) (ss : List SpB) (last : Int) (k : UInt8) (x y : Value) (kl vl : List UInt8) (s : Nat) (hh : Int) (h : MemA G w m l t ts ss last)
    (hv : ∀ W, Keeps (FpM G m l ts) w W → Rd W x kl ∧ Rd W y vl) (hlen : ts.length + 1 ≤ 4000) (hss : ss.length ≤ 10000) (hlast : ∀ e ∈ esT ts, (e.2.1 : Int) ≤ last) (hs64 : s < 18446744073709551616) :
    Calls Try.prog 30 #[.pointer (some ⟨m, 0, none⟩), .agg #[.int .u8 (k.toNat : Int), x, y], .int .u64 (s : Int), .int .i64 hh] w (BatPost G w m l t ts ss last [(k, kl, vl)] s (batC [(k, kl, vl)] (s : Int) [hh] last)) := by
  obtain ⟨xa, xc, rfl⟩ := (hv w (Keeps.refl _ _)).1.len
  obtain ⟨ya, yc, rfl⟩ := (hv w (Keeps.refl _ _)).2.len
  obtain ⟨nl, hnl⟩ : ∃ nl, kl.length = nl := ⟨_, rfl⟩
  obtain ⟨ml, hml⟩ : ∃ ml, vl.length = ml := ⟨_, rfl⟩
  obtain ⟨kk, hkk⟩ : ∃ kk : Int, (k.toNat : Int) = kk := ⟨_, rfl⟩
  rw [hnl, hml] at hv ⊢
  have hb1 := below_box w #[.int .u8 kk, .slice xa nl xc, .slice ya ml yc] 63
  have hb2 := bsplit hb1 (below_box (w.alloc (.cells #[.int .u8 kk, .slice xa nl xc, .slice ya ml yc] 63)) #[.int .u8 kk, .slice xa nl xc, .slice ya ml yc] 63)
  have hb23 := below_box ((w.alloc (.cells #[.int .u8 kk, .slice xa nl xc, .slice ya ml yc] 63)).alloc (.cells #[.int .u8 kk, .slice xa nl xc, .slice ya ml yc] 63)) #[.int .i64 hh] 3
  have hb3 := bsplit hb2 hb23
  have hbx := (box_new (w.alloc (.cells #[.int .u8 kk, .slice xa nl xc, .slice ya ml yc] 63)) (.int .u8 kk) (.slice xa nl xc) (.slice ya ml yc) 63).below hb23 (Nat.le_refl _)
  have hs1 : (w.alloc (.cells #[.int .u8 kk, .slice xa nl xc, .slice ya ml yc] 63)).heap.size = w.heap.size + 1 := by simp
  have hs2 : ((w.alloc (.cells #[.int .u8 kk, .slice xa nl xc, .slice ya ml yc] 63)).alloc (.cells #[.int .u8 kk, .slice xa nl xc, .slice ya ml yc] 63)).heap.size = w.heap.size + 1 + 1 := by simp
  rw [hs1] at hbx
  have hci : (((w.alloc (.cells #[.int .u8 kk, .slice xa nl xc, .slice ya ml yc] 63)).alloc (.cells #[.int .u8 kk, .slice xa nl xc, .slice ya ml yc] 63)).alloc (.cells #[.int .i64 hh] 3)).cell? ⟨w.heap.size + 1 + 1, 0, none⟩ = some (.int .i64 hh) := by rw [← hs2]; exact (cell_new_m _ _ _).1
  have hnf : ∀ q, w.heap.size ≤ q → ¬ FpM G m l ts q := fun q hq h9 => by have := fpM_lt h h9; omega
  have hba := mbatch_any G _ m l t ts ss last (.slice (some ⟨w.heap.size + 1, 0, none⟩) 1 1) [(k, kl, vl)] s (some ⟨w.heap.size + 1 + 1, 0, none⟩) 1 1 [hh] (h.below hb3)
    (fun W hW => by
      have hr := hv W ((Below.keeps hb3 (FpM G m l ts)).trans hW)
      refine ⟨_, _, rfl, Nat.le_refl _, by unfold maxLen; simp, fun j hj => ?_⟩
      have hj0 : j = 0 := by simp at hj; exact hj
      subst hj0
      refine ⟨_, _, rfl, .slice xa nl xc, .slice ya ml yc, ?_, ?_, ?_, hr.1, hr.2⟩
      · simp only [List.getElem_cons_zero]
        rw [hkk]
        exact hW.cell (hnf _ (by show _ ≤ w.heap.size + 1; omega)) (by simpa using hbx.c0)
      · exact hW.cell (hnf _ (by show _ ≤ w.heap.size + 1; omega)) (by simpa using hbx.c1)
      · exact hW.cell (hnf _ (by show _ ≤ w.heap.size + 1; omega)) (by simpa using hbx.c2))
    (fun W hW => by
      refine ⟨rfl, fun j hj => ?_⟩
      have hj0 : j = 0 := by omega
      subst hj0
      exact ⟨_, _, rfl, hW.cell (hnf _ (by show _ ≤ w.heap.size + 1 + 1; omega)) (by simpa using hci)⟩)
    (.inr ⟨_, _, rfl⟩) (Nat.le_refl _) (by omega) (fun _ => by simpa using hlen) hss hlast hs64
  have HB : Hid (Below w.heap.size w (((w.alloc (.cells #[.int .u8 kk, .slice xa nl xc, .slice ya ml yc] 63)).alloc (.cells #[.int .u8 kk, .slice xa nl xc, .slice ya ml yc] 63)).alloc (.cells #[.int .i64 hh] 3))) := hb3
  rw [hkk]
  obtain ⟨c, hc⟩ : ∃ c, batC [(k, kl, vl)] (s : Int) [hh] last = c := ⟨_, rfl⟩
  rw [hc] at hba ⊢
  clear hc hv hnl hml hkk hb1 hb2 hb23 hb3 hbx hs1 hs2 hci hnf h hlen hss hlast
  go_enter Try.func30, Try.ntmps30
  go_wp2_with fail
  refine hba.mono ?_
  rintro e W hp
  have HP : Hid (BatPost G w m l t ts ss last [(k, kl, vl)] s c e W) := hp.base HB.out
  obtain ⟨rfl, _⟩ := hp
  clear hba
  go_wp2
  go_ret
  exact HP.out

end Go.Proofs.Ytgphjgpibjhbjaa

/- skip.apart and (*skip.List).From: what they hand out is the caller's own. -/
namespace Go.Proofs.Ytgphjgpibjhbjaa
open Go.RowKit Go.Shelf
set_option linter.unusedVariables false

theorem ownN_st {B : Nat} {w : World} {v : Value} {l : List UInt8} (h : OwnN B w v l) (p : Addr) (hp : p.block < B) (u : Value) : OwnN B (w.setCell p u) v l := by
  rcases h with h | h
  · exact .inl h
  · obtain ⟨g, k, e⟩ := h.shape
    subst e
    exact .inr (h.other p (by have := h.lt.1; omega) u)

theorem ownN_st3 {B : Nat} {w : World} {v : Value} {l : List UInt8} (h : OwnN B w v l) {b : Nat} (hb : b < B) (u0 u1 u2 : Value) : OwnN B (((w.setCell ⟨b, 0, none⟩ u0).setCell ⟨b, 1, none⟩ u1).setCell ⟨b, 2, none⟩ u2) v l :=
  ownN_st (ownN_st (ownN_st h ⟨b, 0, none⟩ hb u0) ⟨b, 1, none⟩ hb u1) ⟨b, 2, none⟩ hb u2

theorem ownN_st4 {B : Nat} {w : World} {v : Value} {l : List UInt8} (h : OwnN B w v l) {b : Nat} (hb : b < B) (u0 u1 u2 u3 : Value) : OwnN B ((((w.setCell ⟨b, 0, none⟩ u0).setCell ⟨b, 1, none⟩ u1).setCell ⟨b, 2, none⟩ u2).setCell ⟨b, 3, none⟩ u3) v l :=
  ownN_st (ownN_st3 h hb u0 u1 u2) ⟨b, 3, none⟩ hb u3

theorem clone_keepO {W w2 : World} {o : Obj} {x : Value} {l : List UInt8} (h : OwnN (W.alloc o).drew.heap.size w2 x l) (u0 u1 u2 : Value) : Rd (((w2.setCell ⟨W.heap.size, 0, none⟩ u0).setCell ⟨W.heap.size, 1, none⟩ u1).setCell ⟨W.heap.size, 2, none⟩ u2) x l ∧ OwnN W.heap.size (((w2.setCell ⟨W.heap.size, 0, none⟩ u0).setCell ⟨W.heap.size, 1, none⟩ u1).setCell ⟨W.heap.size, 2, none⟩ u2) x l ∧ LtB (((w2.setCell ⟨W.heap.size, 0, none⟩ u0).setCell ⟨W.heap.size, 1, none⟩ u1).setCell ⟨W.heap.size, 2, none⟩ u2) x := by
  have hs : (W.alloc o).drew.heap.size = W.heap.size + 1 := by simp
  rw [hs] at h
  have h3 := ownN_st3 h (Nat.lt_succ_self _) u0 u1 u2
  exact ⟨h3.rd, h3.mono (Nat.le_succ _), ltB_ownN h3⟩

set_option maxHeartbeats 4000000 in
theorem skapart_own (w : World) (xv yv : Value) (l m : List UInt8) (s k : Int) (hx : Rd w xv l) (hy : Rd w yv m) (hl : l.length ≤ 1000000) (hm : m.length ≤ 1000000) :
    Calls Try.prog 61 #[enV xv s k yv] w fun e w' => ∃ x y, e = .returned (enV x s k y) ∧ (Rd w' x l ∧ OwnN (w.heap.size + 2) w' x l) ∧ (Rd w' y m ∧ OwnN (w.heap.size + 2) w' y m) ∧ (LtB w' x ∧ LtB w' y) ∧ Below w.heap.size w w' := by
  obtain ⟨xa, xc, rfl⟩ := hx.len
  obtain ⟨ya, yc, rfl⟩ := hy.len
  obtain ⟨nl, hnl⟩ : ∃ z, l.length = z := ⟨_, rfl⟩
  obtain ⟨ml, hml⟩ : ∃ z, m.length = z := ⟨_, rfl⟩
  have HNL : Hid (l.length = nl ∧ m.length = ml ∧ nl ≤ 1000000 ∧ ml ≤ 1000000) := ⟨hnl, hml, by omega, by omega⟩
  rw [hnl] at hx ⊢
  rw [hml] at hy ⊢
  have hb0 := below_box4 w (.cells #[.slice xa nl xc, .int .u64 s, .int .u8 k, .slice ya ml yc] 44)
  have hb1 := below_box4 (w.alloc (.cells #[.slice xa nl xc, .int .u64 s, .int .u8 k, .slice ya ml yc] 44)) (.cells #[.slice none 0 0, .int .u64 0, .int .u8 0, .slice none 0 0] 44)
  have s1 : (w.alloc (.cells #[.slice xa nl xc, .int .u64 s, .int .u8 k, .slice ya ml yc] 44)).heap.size = w.heap.size + 1 := by simp
  have s2 : ((w.alloc (.cells #[.slice xa nl xc, .int .u64 s, .int .u8 k, .slice ya ml yc] 44)).alloc (.cells #[.slice none 0 0, .int .u64 0, .int .u8 0, .slice none 0 0] 44)).heap.size = w.heap.size + 2 := by simp
  have BE := (box4_new w (.slice xa nl xc) (.int .u64 s) (.int .u8 k) (.slice ya ml yc) 44).below hb1 (Nat.le_refl _)
  have BR := box4f_new (w.alloc (.cells #[.slice xa nl xc, .int .u64 s, .int .u8 k, .slice ya ml yc] 44)) (.slice none 0 0) (.int .u64 0) (.int .u8 0) (.slice none 0 0) 44
  rw [s1] at BR
  obtain ⟨W, hW⟩ : ∃ W, (w.alloc (.cells #[.slice xa nl xc, .int .u64 s, .int .u8 k, .slice ya ml yc] 44)).alloc (.cells #[.slice none 0 0, .int .u64 0, .int .u8 0, .slice none 0 0] 44) = W := ⟨_, rfl⟩
  have hBW := bsplit hb0 hb1
  rw [hW] at BE BR hBW s2
  have HBW : Hid (Below w.heap.size w W) := hBW
  have HSZ : Hid (W.heap.size = w.heap.size + 2) := s2
  have HX : Hid (∀ V, Below W.heap.size W V → Arg V (.slice xa nl xc) l) := fun V hV => ((hx.below hBW (Nat.le_refl _)).below hV (Nat.le_refl _)).arg
  have HY : Hid (∀ V, Below W.heap.size W V → Arg V (.slice ya ml yc) m) := fun V hV => ((hy.below hBW (Nat.le_refl _)).below hV (Nat.le_refl _)).arg
  have pW0 : Below W.heap.size W W.drew := (Below.refl _ _).drew
  have pW1 : Below W.heap.size W (W.alloc (.cells #[.slice none 0 0, .int .u64 0, .int .u8 0] 42)).drew := (below_box4 W _).drew
  have BK1 := (box_new W (.slice none 0 0) (.int .u64 0) (.int .u8 0) 42).drew
  have BE0 := BE.below pW0 (Nat.le_refl _)
  have BE1 := BE.below pW1 (Nat.le_refl _)
  clear hx hy hl hm hnl hml hb0 hb1 s1 s2 hBW
  go_enter Try.func61, Try.ntmps61
  go_upto_region 1 with fail
  clear hW
  go_cut [3] (fun kv wx => ∃ (bk : Nat) (xa2 : Option Addr) (xc2 : Nat), kv = .pointer (some ⟨bk, 0, none⟩) ∧ W.heap.size ≤ bk ∧ Hid (Box wx bk (.slice xa2 nl xc2) (.int .u64 s) (.int .u8 k)) ∧ Hid (Rd wx (.slice xa2 nl xc2) l ∧ OwnN W.heap.size wx (.slice xa2 nl xc2) l ∧ LtB wx (.slice xa2 nl xc2)) ∧ Hid (Below W.heap.size W wx))
  case first =>
    go_region_held3 (fun w' => w'.cell? ⟨w.heap.size, 0, none⟩ = some (.slice xa nl xc) ∧ w'.cell? ⟨w.heap.size, 1, none⟩ = some (.int .u64 s) ∧ w'.cell? ⟨w.heap.size, 2, none⟩ = some (.int .u8 k))
      (first | with_reducible exact ⟨BE4.c0, BE4.c1, BE4.c2⟩ | with_reducible exact ⟨BE3.c0, BE3.c1, BE3.c2⟩ | with_reducible exact ⟨BE2s.c0, BE2s.c1, BE2s.c2⟩ | with_reducible exact ⟨BE2.c0, BE2.c1, BE2.c2⟩ | with_reducible exact ⟨BE1.c0, BE1.c1, BE1.c2⟩ | exact ⟨BE0.c0, BE0.c1, BE0.c2⟩)
      (first
        | (go_at_call 74
           refine (clone_any _ _ l (by first | with_reducible exact HX.out _ pW0 | with_reducible exact HX.out _ pW1) (by have := HNL.out; omega)).mono ?_
           rintro e w2 ⟨x2, rfl, o2, hb2⟩
           obtain ⟨xa2, xc2, ex2⟩ := o2.rd.len
           rw [HNL.out.1] at ex2
           subst ex2
           have HB2 : Hid (Below W.heap.size W w2) := by first | exact bsplit pW0 hb2 | exact bsplit pW1 hb2
           have BE2 := BE.below HB2.out (Nat.le_refl _)
           have BE4 := BE2.below (below_box4 w2 (.cells #[.slice none 0 0, .int .u64 0, .int .u8 0] 42)) (Nat.le_refl _)
           have BE3 := BE2.below (below_box4 w2 (.cells #[.slice xa2 nl xc2, .int .u64 s, .int .u8 k] 42)) (Nat.le_refl _)
           have BE2s : Box4 (((w2.setCell ⟨W.heap.size, 0, none⟩ (.slice xa2 nl xc2)).setCell ⟨W.heap.size, 1, none⟩ (.int .u64 s)).setCell ⟨W.heap.size, 2, none⟩ (.int .u8 k)) w.heap.size (.slice xa nl xc) (.int .u64 s) (.int .u8 k) (.slice ya ml yc) := by
             have hne : w.heap.size ≠ W.heap.size := by rw [HSZ.out]; omega
             exact ((BE2.other ⟨W.heap.size, 0, none⟩ hne _).other ⟨W.heap.size, 1, none⟩ hne _).other ⟨W.heap.size, 2, none⟩ hne _
           first
             | (have BK2 := BK1.below hb2 (Nat.le_refl _)
                obtain ⟨c0, c1, c2, f0, f1, f2⟩ := BK2)
             | skip)
        | fail)
    all_goals (go_wp2_with fail; go_meet; first
      | exact ⟨_, xa2, xc2, rfl, HB2.out.size, box_new w2 _ _ _ _, ⟨o2.rd.below (below_box4 w2 _) (Nat.le_refl _), OwnN.below (show OwnN W.heap.size w2 _ l from o2) (below_box4 w2 _) (Nat.le_refl _), (ltB_ownN o2).grow (below_box4 w2 _).size⟩, bsplit HB2.out (below_box4 w2 _)⟩
      | exact ⟨_, xa2, xc2, rfl, Nat.le_refl _, box_stored (BK1.below hb2 (Nat.le_refl _)) _ _ _, clone_keepO o2 _ _ _, below_store3 HB2.out (Nat.le_refl _) _ _ _⟩)
  case rest =>
    obtain ⟨bk, xa2, xc2, rfl, hbk, BK, HX2, HB2⟩ := hcut
    have hcl := clone_any wc.drew _ m (arg_drew (HY.out _ HB2.out)) (by have := HNL.out; omega)
    have BEc := (BE.below HB2.out (Nat.le_refl _)).drew
    have BKc := BK.out.drew
    have BRc := BR.below HB2.out (Nat.le_refl _)
    have HBX : Hid (Below w.heap.size w wc) := bsplit HBW.out HB2.out
    have HWC : Hid (w.heap.size + 2 ≤ wc.heap.size) := by have := HB2.out.size; rw [HSZ.out] at this; exact this
    have HNE : Hid (w.heap.size ≠ w.heap.size + 1 ∧ bk ≠ w.heap.size + 1) := ⟨by omega, by rw [HSZ.out] at hbk; omega⟩
    clear pW0 pW1 BK1 BE0 BE1
    obtain ⟨d0, d1, d2, d3⟩ := BEc
    have BEc := (BE.below HB2.out (Nat.le_refl _)).drew
    obtain ⟨e0, e1, e2, _⟩ := BK.out
    go_wp2_with fail
    go_region_held3 (fun w' => (w'.cell? ⟨bk, 0, none⟩ = some (.slice xa2 nl xc2) ∧ w'.cell? ⟨bk, 1, none⟩ = some (.int .u64 s) ∧ w'.cell? ⟨bk, 2, none⟩ = some (.int .u8 k)) ∧ w'.cell? ⟨w.heap.size, 3, none⟩ = some (.slice ya ml yc))
      (first | with_reducible exact ⟨⟨b7.c0, b7.c1, b7.c2⟩, E7.c3⟩ | with_reducible exact ⟨⟨b6.c0, b6.c1, b6.c2⟩, E6.c3⟩ | exact ⟨⟨BKc.c0, BKc.c1, BKc.c2⟩, BEc.c3⟩)
      (first
        | (go_at_call 74; refine hcl.mono ?_; rintro e w6 ⟨y, rfl, oy, hb6⟩
           obtain ⟨ya2, yc2, ey2⟩ := oy.rd.len
           rw [HNL.out.2.1] at ey2
           subst ey2
           have HB6 : Hid (Below w.heap.size w w6) := bsplit HBX.out.drew hb6
           obtain ⟨⟨c0, c1, c2, c3⟩, f0, f1, f2, f3⟩ := BRc.below (bsplit (Below.refl _ _).drew hb6) (Nat.le_refl _)
           have b6 := BKc.below hb6 (Nat.le_refl _)
           have E6 := BEc.below hb6 (Nat.le_refl _)
           have b7 := box_other4 b6 HNE.out.2 (.slice xa2 nl xc2) (.int .u64 s) (.int .u8 k) (.slice ya2 ml yc2)
           have E7 := E6.stored (w.heap.size + 1) HNE.out.1 (.slice xa2 nl xc2) (.int .u64 s) (.int .u8 k) (.slice ya2 ml yc2)
           have HX6 : Hid (Rd w6 (.slice xa2 nl xc2) l ∧ OwnN (w.heap.size + 2) w6 (.slice xa2 nl xc2) l) := ⟨HX2.out.1.drew.below hb6 (Nat.le_refl _), by rw [← HSZ.out]; exact OwnN.below (w := wc.drew) HX2.out.2.1 hb6 (Nat.le_refl _)⟩
           have HLB : Hid (LtB w6 (.slice xa2 nl xc2) ∧ LtB w6 (.slice ya2 ml yc2)) := ⟨HX2.out.2.2.grow hb6.size, ltB_ownN oy⟩
           have HY6 : Hid (Rd w6 (.slice ya2 ml yc2) m ∧ OwnN (w.heap.size + 2) w6 (.slice ya2 ml yc2) m) := ⟨oy.rd, oy.mono HWC.out⟩
           clear hb6 oy)
        | fail)
    clear hcl d0 d1 d2 d3 e0 e1 e2 BKc BEc b6 b7 E6 E7
    go_wp2
    refine bodyPost_ret (v := enV (.slice xa2 nl xc2) s k (.slice ya2 ml yc2)) (by simp [results, Try.results61, go_sem, c0, c1, c2, c3]) rfl ⟨_, _, rfl, ⟨rd_store4 HX6.out.1 (from_ne (from_ownN HX6.out.2) (by omega)) _ _ _ _, ownN_st4 HX6.out.2 (by omega) _ _ _ _⟩, ⟨rd_store4 HY6.out.1 (from_ne (from_ownN HY6.out.2) (by omega)) _ _ _ _, ownN_st4 HY6.out.2 (by omega) _ _ _ _⟩, ⟨HLB.out.1.grow (by simp), HLB.out.2.grow (by simp)⟩, below_store4 HB6.out (Nat.le_succ _) _ _ _ _⟩

def FoundO (q : Option EnB) (w w' : World) (o : Ending) : Prop :=
  Below w.heap.size w w' ∧ match q with
    | none => o = .returned (.tuple #[enV (.slice none 0 0) 0 0 (.slice none 0 0), .bool false])
    | some e => ∃ x y, o = .returned (.tuple #[enV x (e.2.1 : Int) (e.2.2.1.toNat : Int) y, .bool true]) ∧ (Rd w' x e.1 ∧ OwnN w.heap.size w' x e.1) ∧ (Rd w' y e.2.2.2 ∧ OwnN w.heap.size w' y e.2.2.2)

set_option maxHeartbeats 4000000 in
theorem skfrom_own (w : World) (l : Nat) (ts : List Tow) (kv : Value) (K : EnB) (hS : SkAt w l ts) (hk : Rd w kv K.1) (hsm : ∀ t ∈ ts, t.e.1.length ≤ 1000000 ∧ t.e.2.2.2.length ≤ 1000000) :
    Calls Try.prog 63 #[.pointer (some ⟨l, 0, none⟩), .agg #[kv, .int .u64 (K.2.1 : Int), .int .u8 (K.2.2.1.toNat : Int)]] w fun o w' => FoundO ((esT ts)[cntE (esT ts) K]?) w w' o := by
  have HS : Hid (SkAt w l ts) := hS
  have HSM : Hid (∀ t ∈ ts, t.e.1.length ≤ 1000000 ∧ t.e.2.2.2.length ≤ 1000000) := hsm
  obtain ⟨ka, kc, rfl⟩ := hk.len
  obtain ⟨kn, hkn⟩ : ∃ n, K.1.length = n := ⟨_, rfl⟩
  obtain ⟨ks, hks⟩ : ∃ z : Int, (K.2.1 : Int) = z := ⟨_, rfl⟩
  obtain ⟨kk, hkk⟩ : ∃ z : Int, (K.2.2.1.toNat : Int) = z := ⟨_, rfl⟩
  have hb0 := below_box w #[.slice ka kn kc, .int .u64 ks, .int .u8 kk] 42
  have hb1 := below_box4 (w.alloc (.cells #[.slice ka kn kc, .int .u64 ks, .int .u8 kk] 42)) (.cells #[.slice none 0 0, .int .u64 0, .int .u8 0, .slice none 0 0] 44)
  have s1 : (w.alloc (.cells #[.slice ka kn kc, .int .u64 ks, .int .u8 kk] 42)).heap.size = w.heap.size + 1 := by simp
  have s2 : ((w.alloc (.cells #[.slice ka kn kc, .int .u64 ks, .int .u8 kk] 42)).alloc (.cells #[.slice none 0 0, .int .u64 0, .int .u8 0, .slice none 0 0] 44)).heap.size = w.heap.size + 2 := by simp
  have BK := (box_new w (.slice ka kn kc) (.int .u64 ks) (.int .u8 kk) 42).below hb1 (Nat.le_refl _)
  have BR := box4f_new (w.alloc (.cells #[.slice ka kn kc, .int .u64 ks, .int .u8 kk] 42)) (.slice none 0 0) (.int .u64 0) (.int .u8 0) (.slice none 0 0) 44
  rw [s1] at BR
  obtain ⟨W, hW⟩ : ∃ W, (w.alloc (.cells #[.slice ka kn kc, .int .u64 ks, .int .u8 kk] 42)).alloc (.cells #[.slice none 0 0, .int .u64 0, .int .u8 0, .slice none 0 0] 44) = W := ⟨_, rfl⟩
  have hBW := bsplit hb0 hb1
  rw [hW] at BK BR hBW s2
  have HBW : Hid (Below w.heap.size w W) := hBW
  have HSZ : Hid (W.heap.size = w.heap.size + 2) := s2
  have hah := ahead_any W l ts (.slice ka K.1.length kc) K (hS.below hBW) (hk.below hBW (Nat.le_refl _))
  rw [hkn, hks, hkk] at hah
  rw [hkn, hks, hkk]
  obtain ⟨Q, hQ⟩ : ∃ Q, ((esT ts)[cntE (esT ts) K]?) = Q := ⟨_, rfl⟩
  have HQ : Hid (((esT ts)[cntE (esT ts) K]?) = Q) := hQ
  rw [hQ]
  obtain ⟨d0, d1, d2, _⟩ := BK
  clear hS hk hkn hks hkk hb0 hb1 s1 s2 hBW hsm hQ
  go_enter Try.func63, Try.ntmps63
  go_wp2_with fail
  clear hW
  refine hah.mono ?_
  rintro o w1 ⟨A, rfl, hA, hb1⟩
  have HB1 : Hid (Below w.heap.size w w1) := bsplit HBW.out hb1
  have BR1 := BR.below hb1 (Nat.le_refl _)
  have h0 := hA 0 (by omega)
  have hcnt := h0.cnt HS.out.ht
  have hcl := h0.le
  obtain ⟨c, hc⟩ : ∃ c, A 0 = c := ⟨_, rfl⟩
  rw [hc] at hcnt hcl
  simp only [hc]
  have i0 : ∀ V : World, (Instr.index 108 (.agg #[ndP l ts c, ndP l ts (A 1), ndP l ts (A 2), ndP l ts (A 3), ndP l ts (A 4), ndP l ts (A 5), ndP l ts (A 6), ndP l ts (A 7)]) (.int .i64 0)).run Try.prog V = .ok (ndP l ts c) V := fun _ => by kernel_rfl
  have hS1 := HS.out.below HB1.out
  clear hah hA h0 BR d0 d1 d2
  have hcel := (hS1.nod c hcl).cel 0 (by omega)
  rw [fst_low HS.out.ht, if_pos (by have := HS.out.ht; unfold nh; split <;> first | omega | (split <;> first | (rename_i t ht; have := this t (List.mem_of_getElem? ht); omega) | (rename_i ht; have := List.getElem?_eq_none_iff.1 ht; omega))), Nat.add_zero] at hcel
  by_cases hlt : c < ts.length
  · obtain ⟨t, ht⟩ : ∃ t, ts[c] = t := ⟨_, rfl⟩
    have htm : t ∈ ts := by rw [← ht]; exact List.getElem_mem hlt
    rw [List.getElem?_eq_getElem hlt, ht] at hcel
    simp only [Option.map_some, ptrT] at hcel
    have HQE : Hid (Q = some t.e) := by show Q = _; rw [← HQ.out, hcnt, List.getElem?_eq_getElem (by rw [esT_len]; exact hlt), esT_get hlt, ht]
    have hent := hS1.ent t htm
    obtain ⟨⟨c0, c1, c2, c3⟩, rx, ry⟩ := hent
    obtain ⟨x1, xc, ex⟩ := rx.len
    obtain ⟨y1, yc, ey⟩ := ry.len
    rw [ex] at c0 rx
    rw [ey] at c3 ry
    obtain ⟨tb, htb⟩ : ∃ z, t.b = z := ⟨_, rfl⟩
    obtain ⟨sq, hsq⟩ : ∃ z : Int, (t.e.2.1 : Int) = z := ⟨_, rfl⟩
    obtain ⟨ek, hek⟩ : ∃ z : Int, (t.e.2.2.1.toNat : Int) = z := ⟨_, rfl⟩
    have HSE : Hid ((t.e.2.1 : Int) = sq ∧ (t.e.2.2.1.toNat : Int) = ek) := ⟨hsq, hek⟩
    rw [hsq] at c1
    rw [hek] at c2
    have hap := skapart_own w1 (.slice x1 t.e.1.length xc) (.slice y1 t.e.2.2.2.length yc) t.e.1 t.e.2.2.2 sq ek rx ry (HSM.out t htm).1 (HSM.out t htm).2
    have HW1 : Hid (w.heap.size + 2 ≤ w1.heap.size + 2) := by show _ ≤ _; have := HB1.out.size; omega
    rw [htb] at hcel c0 c1 c2 c3
    clear rx ry ex ey hsq hek ht hS1 hcnt htm hlt
    go_wp2_with fail
    refine hap.mono ?_
    rintro o w2 ⟨x, y, rfl, rx2, ry2, _, hb2⟩
    obtain ⟨⟨r0, r1, r2, r3⟩, f0, f1, f2, f3⟩ := BR1.below hb2 (Nat.le_refl _)
    have HB2 : Hid (Below w.heap.size w w2) := bsplit HB1.out hb2
    have HX : Hid ((Rd w2 x t.e.1 ∧ OwnN (w.heap.size + 2) w2 x t.e.1) ∧ (Rd w2 y t.e.2.2.2 ∧ OwnN (w.heap.size + 2) w2 y t.e.2.2.2)) := ⟨⟨rx2.1, rx2.2.mono HW1.out⟩, ⟨ry2.1, ry2.2.mono HW1.out⟩⟩
    obtain ⟨xa, xc2, rfl⟩ := rx2.1.len
    obtain ⟨ya, yc2, rfl⟩ := ry2.1.len
    clear hap hb2 rx2 ry2 c0 c1 c2 c3
    go_wp2
    refine bodyPost_ret (v := .tuple #[enV (.slice xa t.e.1.length xc2) sq ek (.slice ya t.e.2.2.2.length yc2), .bool true]) (by simp [results, Try.results63, go_sem, r0, r1, r2, r3]) rfl ?_
    refine ⟨below_store4 HB2.out (Nat.le_succ _) _ _ _ _, ?_⟩
    rw [HQE.out]
    exact ⟨_, _, by rw [HSE.out.1, HSE.out.2], ⟨rd_store4 HX.out.1.1 (from_ne (from_ownN HX.out.1.2) (by omega)) _ _ _ _, (ownN_st4 HX.out.1.2 (by omega) _ _ _ _).mono (by omega)⟩, ⟨rd_store4 HX.out.2.1 (from_ne (from_ownN HX.out.2.2) (by omega)) _ _ _ _, (ownN_st4 HX.out.2.2 (by omega) _ _ _ _).mono (by omega)⟩⟩
  · rw [List.getElem?_eq_none (by omega)] at hcel
    simp only [Option.map_none, ptrT] at hcel
    have HQE : Hid (Q = none) := by show Q = _; rw [← HQ.out, hcnt, List.getElem?_eq_none (by rw [esT_len]; omega)]
    clear hS1 hcnt hlt
    obtain ⟨⟨r0, r1, r2, r3⟩, f0, f1, f2, f3⟩ := BR1
    go_wp2
    refine bodyPost_ret (v := .tuple #[enV (.slice none 0 0) 0 0 (.slice none 0 0), .bool false]) (by simp [results, Try.results63, go_sem, r0, r1, r2, r3]) rfl ?_
    refine ⟨below_store4 HB1.out (Nat.le_succ _) _ _ _ _, ?_⟩
    rw [HQE.out]

end Go.Proofs.Ytgphjgpibjhbjaa

/- ikey.Upto. -/
namespace Go.Proofs.Ytgphjgpibjhbjaa
open Go.RowKit

theorem upto_any (w : World) (v : Value) (l : List UInt8) (s m : Int) (hv : Arg w v l) (hn : l.length ≤ 1099511627776) (hm : min s 72057594037927935 = m) :
    Calls Try.prog 64 #[v, .int .u64 s] w fun e w' => ∃ ao cap, e = .returned (.agg #[.slice ao l.length cap, .int .u64 m, .int .u8 2]) ∧ Rd w' (.slice ao l.length cap) l ∧ Below w.heap.size w w' := by
  have hm2 : (if 72057594037927935 < s then (72057594037927935 : Int) else s) = m := by split <;> omega
  have hm3 : (if s < 72057594037927935 then s else (72057594037927935 : Int)) = m := by split <;> omega
  have b0 := box_new w (.slice none 0 0) (.int .u64 0) (.int .u8 0) 42
  have hB0 := below_box w #[.slice none 0 0, .int .u64 0, .int .u8 0] 42
  have hv0 := hv.below hB0 (Nat.le_refl _)
  clear hv
  go_enter Try.func64, Try.ntmps64
  go_wp2_with fail
  refine (clone_any _ _ l hv0 hn).mono ?_
  rintro e w1 ⟨x, rfl, ox, hb⟩
  have hsz : (w.alloc (.cells #[.slice none 0 0, .int .u64 0, .int .u8 0] 42)).heap.size = w.heap.size + 1 := by simp
  rw [hsz] at ox
  have hB1 := hB0.trans (hb.mono hB0.size)
  have b1 := b0.below hb (Nat.le_refl _)
  obtain ⟨c0, c1, c2, f0, f1, f2⟩ := b1
  have hrd : ∃ ao cap, x = .slice ao l.length cap ∧ ∀ u0 u1 u2, Rd (((w1.setCell ⟨w.heap.size, 0, none⟩ u0).setCell ⟨w.heap.size, 1, none⟩ u1).setCell ⟨w.heap.size, 2, none⟩ u2) (.slice ao l.length cap) l := by
    rcases ox with ⟨rfl, rfl⟩ | ox
    · exact ⟨none, 0, rfl, fun _ _ _ => .inl ⟨rfl, rfl⟩⟩
    · obtain ⟨g, k, rfl⟩ := ox.shape
      have := ox.lt.1
      exact ⟨_, _, rfl, fun u0 u1 u2 => ox.rd.store3 (by omega) u0 u1 u2⟩
  obtain ⟨ao, cap, rfl, hrd⟩ := hrd
  have HR : Hid _ := hrd
  clear ox b0 hb hv0 hB0 hsz hrd
  go_wp2
  all_goals
    refine bodyPost_ret (v := .agg #[.slice ao l.length cap, .int .u64 m, .int .u8 2]) (by simp [results, Try.results64, go_sem, c0, c1, c2]) rfl ⟨ao, cap, rfl, ?_, ?_⟩
    · exact HR.out _ _ _
    · exact below_store3 hB1 (Nat.le_refl _) _ _ _

end Go.Proofs.Ytgphjgpibjhbjaa

/- (*memo.Memo).newest. -/
namespace Go.Proofs.Ytgphjgpibjhbjaa
set_option maxRecDepth 100000
open Go.RowKit
set_option linter.unusedVariables false
set_option linter.unusedSimpArgs false

/-- nothing, or what was found -/
def eQ (q : Option EnB) : EnB := q.getD ([], 0, 0, [])

/-- what is found, or not: one form -/
def FoundU (q : Option EnB) (w w' : World) (o : Ending) : Prop :=
  ∃ x y, o = .returned (.tuple #[enV x ((eQ q).2.1 : Int) ((eQ q).2.2.1.toNat : Int) y, .bool q.isSome]) ∧ (Rd w' x (eQ q).1 ∧ OwnN w.heap.size w' x (eQ q).1) ∧ (Rd w' y (eQ q).2.2.2 ∧ OwnN w.heap.size w' y (eQ q).2.2.2) ∧ Below w.heap.size w w'

theorem FoundO.un {q : Option EnB} {w w' : World} {o : Ending} (h : FoundO q w w' o) : FoundU q w w' o := by
  obtain ⟨hb, h⟩ := h
  cases q with
  | none => exact ⟨_, _, h, ⟨.inl ⟨rfl, rfl⟩, .inl ⟨rfl, rfl⟩⟩, ⟨.inl ⟨rfl, rfl⟩, .inl ⟨rfl, rfl⟩⟩, hb⟩
  | some e =>
    obtain ⟨x, y, h1, h2, h3⟩ := h
    exact ⟨x, y, h1, h2, h3, hb⟩

/-- a box for what was found -/
structure NewM (w wx : World) (b : Nat) (x y : Value) (e : EnB) : Prop where
  bx : Box4f wx b x (.int .u64 (e.2.1 : Int)) (.int .u8 (e.2.2.1.toNat : Int)) y
  lb : w.heap.size ≤ b
  ox : Rd wx x e.1 ∧ OwnN w.heap.size wx x e.1
  oy : Rd wx y e.2.2.2 ∧ OwnN w.heap.size wx y e.2.2.2
  be : Below w.heap.size w wx

theorem box4f_st {w : World} {b : Nat} {v0 v1 v2 v3 : Value} (h : Box4f w b v0 v1 v2 v3) (u0 u1 u2 u3 : Value) : Box4f ((((w.setCell ⟨b, 0, none⟩ u0).setCell ⟨b, 1, none⟩ u1).setCell ⟨b, 2, none⟩ u2).setCell ⟨b, 3, none⟩ u3) b u0 u1 u2 u3 :=
  ⟨⟨by simp [go_sem, h.bx.c0, h.bx.c1, h.bx.c2, h.bx.c3], by simp [go_sem, h.bx.c0, h.bx.c1, h.bx.c2, h.bx.c3], by simp [go_sem, h.bx.c0, h.bx.c1, h.bx.c2, h.bx.c3], by simp [go_sem, h.bx.c0, h.bx.c1, h.bx.c2, h.bx.c3]⟩, by simp [go_sem, h.f0], by simp [go_sem, h.f1], by simp [go_sem, h.f2], by simp [go_sem, h.f3]⟩

theorem newM_last {w w7 : World} {B : Nat} {x y : Value} {e : EnB} (hB : w.heap.size ≤ B) (h7 : Below w.heap.size w w7) (ox : Rd w7 x e.1 ∧ OwnN B w7 x e.1) (oy : Rd w7 y e.2.2.2 ∧ OwnN B w7 y e.2.2.2) :
    NewM w (w7.alloc (.cells #[x, .int .u64 (e.2.1 : Int), .int .u8 (e.2.2.1.toNat : Int), y] 44)) w7.heap.size x y e := by
  have hb := below_box4 w7 (.cells #[x, .int .u64 (e.2.1 : Int), .int .u8 (e.2.2.1.toNat : Int), y] 44)
  exact ⟨box4f_new _ _ _ _ _ _, h7.size, ⟨ox.1.below hb (Nat.le_refl _), (ox.2.below hb (Nat.le_refl _)).mono hB⟩, ⟨oy.1.below hb (Nat.le_refl _), (oy.2.below hb (Nat.le_refl _)).mono hB⟩, bsplit h7 hb⟩

theorem newM_old {w w7 : World} {B b : Nat} {x y v0 v1 v2 v3 : Value} {e : EnB} (hb : w.heap.size ≤ b) (hlt : b < B) (h7 : Below w.heap.size w w7) (bx : Box4f w7 b v0 v1 v2 v3) (ox : Rd w7 x e.1 ∧ OwnN B w7 x e.1) (oy : Rd w7 y e.2.2.2 ∧ OwnN B w7 y e.2.2.2) :
    NewM w ((((w7.setCell ⟨b, 0, none⟩ x).setCell ⟨b, 1, none⟩ (.int .u64 (e.2.1 : Int))).setCell ⟨b, 2, none⟩ (.int .u8 (e.2.2.1.toNat : Int))).setCell ⟨b, 3, none⟩ y) b x y e := by
  have hB : w.heap.size ≤ B := by omega
  exact ⟨box4f_st bx _ _ _ _, hb, ⟨rd_store4 ox.1 (from_ne (from_ownN ox.2) hlt) _ _ _ _, (ownN_st4 ox.2 hlt _ _ _ _).mono hB⟩, ⟨rd_store4 oy.1 (from_ne (from_ownN oy.2) hlt) _ _ _ _, (ownN_st4 oy.2 hlt _ _ _ _).mono hB⟩, below_store4 h7 hb _ _ _ _⟩

/-- the place from which a key is looked for -/
def plc (k : List UInt8) (s : Nat) : EnB := (k, min s 72057594037927935, 2, [])
/-- the first version from there on -/
def frmE (es : List EnB) (k : List UInt8) (s : Nat) : Option EnB := es[cntE es (plc k s)]?
/-- if it is the key's -/
def newE (es : List EnB) (k : List UInt8) (s : Nat) : Option EnB := if ((frmE es k s).isSome && ((eQ (frmE es k s)).1 == k)) = true then frmE es k s else none

set_option maxHeartbeats 4000000 in
theorem mnewest_any (G : Nat → Prop) (w : World) (m l t : Nat) (ts : List Tow) (ss : List SpB) (last : Int) (kv : Value) (k : List UInt8) (s : Nat) (h : MemA G w m l t ts ss last) (hk : Rd w kv k) (hkl : k.length ≤ 1000000) (hL : LenT ts 1000) :
    Calls Try.prog 44 #[.pointer (some ⟨m, 0, none⟩), kv, .int .u64 (s : Int)] w fun o w' => FoundU (newE (esT ts) k s) w w' o := by
  obtain ⟨ka, kc, rfl⟩ := hk.len
  obtain ⟨n, hn⟩ : ∃ n, k.length = n := ⟨_, rfl⟩
  rw [hn] at hk hkl ⊢
  obtain ⟨M, hM⟩ : ∃ M : Int, min (s : Int) 72057594037927935 = M := ⟨_, rfl⟩
  have hb0 := below_box4 w (.cells #[.slice none 0 0, .int .u64 0, .int .u8 0, .slice none 0 0] 44)
  have hbr := box4f_new w (.slice none 0 0) (.int .u64 0) (.int .u8 0) (.slice none 0 0) 44
  have hs0 : (w.alloc (.cells #[.slice none 0 0, .int .u64 0, .int .u8 0, .slice none 0 0] 44)).heap.size = w.heap.size + 1 := by simp
  obtain ⟨w0, hw0⟩ : ∃ w0, w.alloc (.cells #[.slice none 0 0, .int .u64 0, .int .u8 0, .slice none 0 0] 44) = w0 := ⟨_, rfl⟩
  have HM0 : Hid (∀ W, Below w0.heap.size w0 W → MemA G W m l t ts ss last ∧ Rd W (.slice ka n kc) k) := fun W hW => by
    rw [← hw0] at hW
    exact ⟨(h.below hb0).below hW, (hk.below hb0 (Nat.le_refl _)).below hW (Nat.le_refl _)⟩
  have HUP : Hid (∀ W, Below w0.heap.size w0 W → Calls Try.prog 64 #[.slice ka n kc, .int .u64 (s : Int)] W fun e w' => ∃ ao cap, e = .returned (.agg #[.slice ao n cap, .int .u64 M, .int .u8 2]) ∧ Rd w' (.slice ao n cap) k ∧ Below W.heap.size W w') := fun W hW => by
    have h9 := upto_any W (.slice ka n kc) k (s : Int) M (HM0.out W hW).2.arg (by omega) hM
    rw [hn] at h9
    exact h9
  obtain ⟨Q, hQ⟩ : ∃ Q, frmE (esT ts) k s = Q := ⟨_, rfl⟩
  have HFR : Hid (∀ W ao cap, Below w0.heap.size w0 W → Rd W (.slice ao n cap) k → Calls Try.prog 63 #[.pointer (some ⟨l, 0, none⟩), .agg #[.slice ao n cap, .int .u64 M, .int .u8 2]] W fun o w' => FoundU Q W w' o) := fun W ao cap hW hr => by
    have h9 := skfrom_own W l ts (.slice ao n cap) (plc k s) (HM0.out W hW).1.sk hr (fun t ht => ⟨by have := (hL t ht).1; omega, by have := (hL t ht).2; omega⟩)
    have e1 : ((plc k s).2.1 : Int) = M := by rw [← hM]; unfold plc; simp only; omega
    have e2 : ((plc k s).2.2.1.toNat : Int) = 2 := rfl
    rw [e1, e2] at h9
    refine h9.mono ?_
    intro o w' h8
    rw [← hQ]
    exact h8.un
  have HQ : Hid (newE (esT ts) k s = if (Q.isSome && ((eQ Q).1 == k)) = true then Q else none) := by show _ = _; unfold newE; rw [hQ]
  obtain ⟨E, hE⟩ : ∃ E, eQ Q = E := ⟨_, rfl⟩
  obtain ⟨ok, hok⟩ : ∃ ok, Q.isSome = ok := ⟨_, rfl⟩
  have HE : Hid (eQ Q = E ∧ Q.isSome = ok) := ⟨hE, hok⟩
  have HBR : Hid (Box4f w0 w.heap.size (.slice none 0 0) (.int .u64 0) (.int .u8 0) (.slice none 0 0)) := by rw [← hw0]; exact hbr
  have HB0 : Hid (Below w.heap.size w w0) := by rw [← hw0]; exact hb0
  have HS0 : Hid (w0.heap.size = w.heap.size + 1) := by rw [← hw0]; exact hs0
  have HS : Hid (∀ W, Below w0.heap.size w0 W → W.cell? ⟨m, 0, none⟩ = some (.pointer (some ⟨l, 0, none⟩))) := fun W hW => (HM0.out W hW).1.bx.c0
  have HC0 : Hid (∀ W, Below w0.heap.size w0 W → Rd W (.slice ka n kc) k) := fun W hW => (HM0.out W hW).2
  have hm0 := HS.out w0 (Below.refl _ _)
  have HGOAL : Hid (newE (esT ts) k s = newE (esT ts) k s) := rfl
  clear h hk hb0 hbr hs0 hn hM hQ hE hok hL HM0
  go_enter Try.func44, Try.ntmps44
  go_upto_region 1 with fail
  clear hw0
  have hW0 : Below w0.heap.size w0 w0.drew := (Below.refl _ _).drew
  have hW1 : Below w0.heap.size w0 (w0.alloc (.cells #[.slice none 0 0, .int .u64 0, .int .u8 0, .slice none 0 0] 44)).drew := ((Below.refl _ _).alloc (Nat.le_refl _) _).drew
  have HBX1 : Hid (Box4f (w0.alloc (.cells #[.slice none 0 0, .int .u64 0, .int .u8 0, .slice none 0 0] 44)).drew w0.heap.size (.slice none 0 0) (.int .u64 0) (.int .u8 0) (.slice none 0 0)) := by
    have h9 := box4f_new w0 (.slice none 0 0) (.int .u64 0) (.int .u8 0) (.slice none 0 0) 44
    exact ⟨h9.bx.drew, h9.f0, h9.f1, h9.f2, h9.f3⟩
  have HBX2 : Hid (∀ W : World, Box4f (W.alloc (.cells #[.slice none 0 0, .int .u64 0, .int .u8 0, .slice none 0 0] 44)) W.heap.size (.slice none 0 0) (.int .u64 0) (.int .u8 0) (.slice none 0 0)) := fun W => box4f_new W (.slice none 0 0) (.int .u64 0) (.int .u8 0) (.slice none 0 0) 44
  go_cut [8, 9] (fun xv ov wx => ∃ (bx : Nat) (x y : Value), xv = .pointer (some ⟨bx, 0, none⟩) ∧ ov = .bool ok ∧ Hid (NewM w0 wx bx x y E))
  case first =>
    go_region_held3 (fun w' => w'.cell? ⟨m, 0, none⟩ = some (.pointer (some ⟨l, 0, none⟩)))
      (first | with_reducible exact HS.out _ HB7.out | with_reducible exact HS.out _ (below_store4 HB7.out HB6.out.size _ _ _ _) | with_reducible exact HS.out _ (below_store4 HB7.out (Nat.le_refl _) _ _ _ _) | with_reducible exact HS.out _ (below_store4 (HB7.out.alloc HB7.out.size _) HB7.out.size _ _ _ _) | with_reducible exact HS.out _ (HB7.out.alloc HB7.out.size _) | with_reducible exact HS.out _ HB6.out | with_reducible exact HS.out _ (HB6.out.alloc HB6.out.size _) | with_reducible exact HS.out _ hW0 | with_reducible exact HS.out _ hW1 | fail "keep")
      (first
        | (go_at_call 64
           refine (HUP.out _ (by first | with_reducible exact hW0 | with_reducible exact hW1)).mono ?_
           rintro e w6 ⟨ua, uc, rfl, ru, hb6⟩
           have HB6 : Hid (Below w0.heap.size w0 w6) := by first | exact bsplit hW0 hb6 | exact bsplit hW1 hb6
           clear HUP)
        | (go_at_call 63
           refine (HFR.out _ ua uc (by first | with_reducible exact HB6.out | with_reducible exact (HB6.out.alloc HB6.out.size _)) (by first | with_reducible exact ru | with_reducible exact ru.below ((Below.refl _ _).alloc (Nat.le_refl _) _) (Nat.le_refl _))).mono ?_
           rintro e w7 ⟨x, y, rfl, ox, oy, hb7⟩
           have HB7 : Hid (Below w0.heap.size w0 w7) := by first | exact bsplit HB6.out hb7 | exact bsplit (HB6.out.alloc HB6.out.size _) hb7
           rw [HE.out.1] at ox oy
           rw [HE.out.1, HE.out.2]
           have hrx := ox.1.len
           have hry := oy.1.len
           obtain ⟨xa, xc, rfl⟩ := hrx
           obtain ⟨ya, yc, rfl⟩ := hry
           first
             | (obtain ⟨⟨c0, c1, c2, c3⟩, f0, f1, f2, f3⟩ := (HBX1.out.below hb6 (Nat.le_refl _)).below hb7 (Nat.le_refl _))
             | (obtain ⟨⟨c0, c1, c2, c3⟩, f0, f1, f2, f3⟩ := (HBX2.out w6).below hb7 (Nat.le_refl _))
             | skip)
        | fail "arm")
    all_goals
      go_wp2_with fail
      go_meet
      first
        | exact ⟨_, _, _, rfl, rfl, newM_last (Nat.le_trans HB6.out.size (Nat.le_refl _)) HB7.out ox oy⟩
        | exact ⟨_, _, _, rfl, rfl, newM_old HB6.out.size (by simp) HB7.out ((HBX2.out w6).below hb7 (Nat.le_refl _)) ox oy⟩
        | exact ⟨_, _, _, rfl, rfl, newM_old (Nat.le_refl _) (by have := hb6.size; simp at this; omega) HB7.out ((HBX1.out.below hb6 (Nat.le_refl _)).below hb7 (Nat.le_refl _)) ox oy⟩
  case rest =>
    obtain ⟨bx, x, y, rfl, rfl, HX⟩ := hcut
    obtain ⟨⟨r0, r1, r2, r3⟩, g0, g1, g2, g3⟩ := HBR.out.below HX.out.be (Nat.le_refl _)
    clear hW0 hW1 HBX1 HBX2 HUP HFR hm0
    cases ok
    · have HQN : Hid (newE (esT ts) k s = none) := by
        show _ = _
        rw [HQ.out, HE.out.2]
        rfl
      go_wp2
      refine bodyPost_ret (v := .tuple #[enV (.slice none 0 0) 0 0 (.slice none 0 0), .bool false]) (by simp [results, Try.results44, go_sem, r0, r1, r2, r3]) rfl ?_
      rw [HQN.out]
      exact ⟨_, _, rfl, ⟨.inl ⟨rfl, rfl⟩, .inl ⟨rfl, rfl⟩⟩, ⟨.inl ⟨rfl, rfl⟩, .inl ⟨rfl, rfl⟩⟩, below_store4 (bsplit HB0.out HX.out.be) (Nat.le_refl _) _ _ _ _⟩
    · obtain ⟨xa, xc, hx⟩ := HX.out.ox.1.len
      obtain ⟨ya, yc, hy⟩ := HX.out.oy.1.len
      subst hx hy
      obtain ⟨⟨c0, c1, c2, c3⟩, _, _, _, _⟩ := HX.out.bx
      have heq := equal_any _ _ _ E.1 k HX.out.ox.1 (HC0.out _ HX.out.be)
      obtain ⟨r, hr⟩ : ∃ r, (E.1 == k) = r := ⟨_, rfl⟩
      rw [hr] at heq
      have HR : Hid ((E.1 == k) = r) := hr
      obtain ⟨nl, hnl⟩ : ∃ nl, E.1.length = nl := ⟨_, rfl⟩
      obtain ⟨ml, hml⟩ : ∃ ml, E.2.2.2.length = ml := ⟨_, rfl⟩
      obtain ⟨sq, hsq⟩ : ∃ z : Int, (E.2.1 : Int) = z := ⟨_, rfl⟩
      obtain ⟨ek, hek⟩ : ∃ z : Int, (E.2.2.1.toNat : Int) = z := ⟨_, rfl⟩
      rw [hnl] at heq c0 HX
      rw [hml] at c3 HX
      rw [hsq] at c1
      rw [hek] at c2
      have HSE : Hid ((E.2.1 : Int) = sq ∧ (E.2.2.1.toNat : Int) = ek) := ⟨hsq, hek⟩
      clear hr hnl hml hsq hek
      go_wp2_with fail
      refine heq.mono ?_
      rintro e w8 ⟨rfl, rfl⟩
      clear heq
      cases r
      · have HQN : Hid (newE (esT ts) k s = none) := by
          show _ = _
          rw [HQ.out, HE.out.1, HR.out, Bool.and_false]
          rfl
        go_wp2
        refine bodyPost_ret (v := .tuple #[enV (.slice none 0 0) 0 0 (.slice none 0 0), .bool false]) (by simp [results, Try.results44, go_sem, r0, r1, r2, r3]) rfl ?_
        rw [HQN.out]
        exact ⟨_, _, rfl, ⟨.inl ⟨rfl, rfl⟩, .inl ⟨rfl, rfl⟩⟩, ⟨.inl ⟨rfl, rfl⟩, .inl ⟨rfl, rfl⟩⟩, below_store4 (bsplit HB0.out HX.out.be) (Nat.le_refl _) _ _ _ _⟩
      · have HQN : Hid (newE (esT ts) k s = Q) := by
          show _ = _
          rw [HQ.out, HE.out.1, HE.out.2, HR.out]
          rfl
        go_wp2
        refine bodyPost_ret (v := .tuple #[enV (.slice xa nl xc) sq ek (.slice ya ml yc), .bool true]) (by simp [results, Try.results44, go_sem, r0, r1, r2, r3]) rfl ?_
        rw [HQN.out]
        have hlt : w.heap.size < w0.heap.size := by rw [HS0.out]; exact Nat.lt_succ_self _
        have ox := HX.out.ox
        have oy := HX.out.oy
        refine ⟨_, _, by rw [HE.out.1, HE.out.2, HSE.out.1, HSE.out.2], ?_, ?_, below_store4 (bsplit HB0.out HX.out.be) (Nat.le_refl _) _ _ _ _⟩
        · rw [HE.out.1]
          exact ⟨rd_store4 ox.1 (from_ne (from_ownN ox.2) hlt) _ _ _ _, (ownN_st4 ox.2 hlt _ _ _ _).mono (Nat.le_of_lt hlt)⟩
        · rw [HE.out.1]
          exact ⟨rd_store4 oy.1 (from_ne (from_ownN oy.2) hlt) _ _ _ _, (ownN_st4 oy.2 hlt _ _ _ _).mono (Nat.le_of_lt hlt)⟩

end Go.Proofs.Ytgphjgpibjhbjaa

/- (*memo.Memo).Get. -/
namespace Go.Proofs.Ytgphjgpibjhbjaa
set_option maxRecDepth 100000
open Go.RowKit
set_option linter.unusedVariables false
set_option linter.unusedSimpArgs false

/-- what is found: the state -/
def stM (q : Option EnB) (c : Nat) : Int := if q.isSome = false then (if c = 0 then 0 else 2) else if (eQ q).2.1 < c then 2 else if (eQ q).2.2.1.toNat = 1 then 2 else 1
/-- and the value -/
def valM (q : Option EnB) (c : Nat) : List UInt8 := if stM q c = 1 then (eQ q).2.2.2 else []

set_option maxHeartbeats 2000000 in
theorem mget_any (G : Nat → Prop) (w : World) (m l t : Nat) (ts : List Tow) (ss : List SpB) (last : Int) (kv : Value) (k : List UInt8) (s : Nat) (h : MemA G w m l t ts ss last) (hk : Rd w kv k) (hkl : k.length ≤ 1000000) (hL : LenT ts 1000) :
    Calls Try.prog 22 #[.pointer (some ⟨m, 0, none⟩), kv, .int .u64 (s : Int)] w fun o w' => ∃ v, o = .returned (.tuple #[v, .int .i64 (stM (newE (esT ts) k s) (covN ss k (s : Int)))]) ∧ OwnN w.heap.size w' v (valM (newE (esT ts) k s) (covN ss k (s : Int))) ∧ Below w.heap.size w w' := by
  have he := eqMm m
  obtain ⟨ka, kc, rfl⟩ := hk.len
  obtain ⟨n, hn⟩ : ∃ n, k.length = n := ⟨_, rfl⟩
  rw [hn] at hk hkl ⊢
  have hne := mnewest_any G w m l t ts ss last (.slice ka n kc) k s h hk (by omega) hL
  obtain ⟨q, hq⟩ : ∃ q, newE (esT ts) k s = q := ⟨_, rfl⟩
  obtain ⟨c, hc⟩ : ∃ c, covN ss k (s : Int) = c := ⟨_, rfl⟩
  rw [hq] at hne ⊢
  rw [hc]
  have HM : Hid (∀ W, Below w.heap.size w W → MemA G W m l t ts ss last ∧ Rd W (.slice ka n kc) k) := fun W hW => ⟨h.below hW, hk.below hW (Nat.le_refl _)⟩
  have HC : Hid (covN ss k (s : Int) = c) := hc
  clear h hk hn hq hc hL
  go_enter Try.func22, Try.ntmps22
  go_wp2_with fail
  refine hne.mono ?_
  rintro o w1 ⟨x, y, rfl, ox, oy, hb1⟩
  clear hne
  obtain ⟨E, hE⟩ : ∃ E, eQ q = E := ⟨_, rfl⟩
  obtain ⟨ok, hok⟩ : ∃ ok, q.isSome = ok := ⟨_, rfl⟩
  have HE : Hid (eQ q = E ∧ q.isSome = ok) := ⟨hE, hok⟩
  rw [hE] at ox oy
  rw [hE, hok]
  obtain ⟨xa, xc, rfl⟩ := ox.1.len
  obtain ⟨ya, yc, rfl⟩ := oy.1.len
  obtain ⟨nl, hnl⟩ : ∃ nl, E.1.length = nl := ⟨_, rfl⟩
  obtain ⟨ml, hml⟩ : ∃ ml, E.2.2.2.length = ml := ⟨_, rfl⟩
  obtain ⟨sq, hsq⟩ : ∃ z, E.2.1 = z := ⟨_, rfl⟩
  obtain ⟨ek, hek⟩ : ∃ z, E.2.2.1.toNat = z := ⟨_, rfl⟩
  rw [hnl] at ox ⊢
  rw [hml] at oy ⊢
  rw [hsq, hek]
  have hb2 := below_box4 w1 (.cells #[.slice xa nl xc, .int .u64 (sq : Int), .int .u8 (ek : Int), .slice ya ml yc] 44)
  have hb3 := bsplit hb1 hb2
  have bx := (box4f_new w1 (.slice xa nl xc) (.int .u64 (sq : Int)) (.int .u8 (ek : Int)) (.slice ya ml yc) 44)
  have HOY : Hid (OwnN w.heap.size (w1.alloc (.cells #[.slice xa nl xc, .int .u64 (sq : Int), .int .u8 (ek : Int), .slice ya ml yc] 44)) (.slice ya ml yc) E.2.2.2) := oy.2.below hb2 (Nat.le_refl _)
  have HB : Hid (Below w.heap.size w (w1.alloc (.cells #[.slice xa nl xc, .int .u64 (sq : Int), .int .u8 (ek : Int), .slice ya ml yc] 44))) := hb3
  have hco := tcover_any _ t ss (.slice ka n kc) k (s : Int) (HM.out _ hb3).1.st.at (HM.out _ hb3).2
  rw [HC.out] at hco
  obtain ⟨d0, d1, d2, _, _, _⟩ := (HM.out _ hb3).1.bx
  obtain ⟨e0, e1, e2, _, _, _⟩ := (HM.out _ hb1).1.bx
  have HST : Hid (stM q c = if ok = false then (if c = 0 then 0 else 2) else if sq < c then 2 else if ek = 1 then 2 else 1) := by
    show _ = _
    unfold stM
    rw [HE.out.1, HE.out.2, hsq, hek]
  have HVA : Hid (valM q c = if stM q c = 1 then E.2.2.2 else []) := by show _ = _; unfold valM; rw [HE.out.1]
  clear ox oy hb1 hb2 hb3 hE hok hnl hml hsq hek HC
  go_wp2_with fail
  refine hco.mono ?_
  rintro o w3 ⟨rfl, hb4⟩
  clear hco
  have HB4 : Hid (Below w.heap.size w w3) := bsplit HB.out hb4
  have HOY4 : Hid (OwnN w.heap.size w3 (.slice ya ml yc) E.2.2.2) := HOY.out.below hb4 (Nat.le_refl _)
  obtain ⟨⟨r0, r1, r2, r3⟩, _, _, _, _⟩ := bx.below hb4 (Nat.le_refl _)
  clear bx hb4 d0 d1 d2 e0 e1 e2 HM HB HOY
  have fin0 : stM q c ≠ 1 → valM q c = [] := fun h9 => by rw [HVA.out, if_neg h9]
  have FIN : Hid (stM q c ≠ 1 → valM q c = []) := fin0
  clear fin0
  cases ok
  · by_cases hc0 : (c : Int) = 0
    · go_wp2
      refine bodyPost_ret (v := .tuple #[.slice none 0 0, .int .i64 0]) (by simp [results, Try.results22, go_sem]) rfl ?_
      have h9 : stM q c = 0 := by have h8 := HST.out; grind
      rw [h9]
      exact ⟨_, rfl, .inl ⟨rfl, FIN.out (by rw [h9]; omega)⟩, HB4.out⟩
    · go_wp2
      refine bodyPost_ret (v := .tuple #[.slice none 0 0, .int .i64 2]) (by simp [results, Try.results22, go_sem]) rfl ?_
      have h9 : stM q c = 2 := by have h8 := HST.out; grind
      rw [h9]
      exact ⟨_, rfl, .inl ⟨rfl, FIN.out (by rw [h9]; omega)⟩, HB4.out⟩
  · by_cases hlt : (sq : Int) < (c : Int)
    · go_wp2
      refine bodyPost_ret (v := .tuple #[.slice none 0 0, .int .i64 2]) (by simp [results, Try.results22, go_sem]) rfl ?_
      have h9 : stM q c = 2 := by have h8 := HST.out; grind
      rw [h9]
      exact ⟨_, rfl, .inl ⟨rfl, FIN.out (by rw [h9]; omega)⟩, HB4.out⟩
    · by_cases hk1 : (ek : Int) = 1
      · have hek1 : ek = 1 := by omega
        subst hek1
        go_wp2
        refine bodyPost_ret (v := .tuple #[.slice none 0 0, .int .i64 2]) (by simp [results, Try.results22, go_sem]) rfl ?_
        have h9 : stM q c = 2 := by have h8 := HST.out; grind
        rw [h9]
        exact ⟨_, rfl, .inl ⟨rfl, FIN.out (by rw [h9]; omega)⟩, HB4.out⟩
      · have hk2 : ¬ ek = 1 := by omega
        go_wp2
        · exfalso
          rename_i h8
          rcases h8 with h8 | h8
          · omega
          · simp at h8
            omega
        · refine bodyPost_ret (v := .tuple #[.slice ya ml yc, .int .i64 1]) (by simp [results, Try.results22, go_sem]) rfl ?_
          have h9 : stM q c = 1 := by have h8 := HST.out; grind
          have h8 : valM q c = E.2.2.2 := by rw [HVA.out, if_pos h9]
          rw [h9, h8]
          exact ⟨_, rfl, HOY4.out, HB4.out⟩

end Go.Proofs.Ytgphjgpibjhbjaa

/- bartizanlaw10.op, awake. -/
namespace Go.Proofs.Ytgphjgpibjhbjaa
set_option maxRecDepth 100000
open Go.RowKit
set_option linter.unusedVariables false
set_option linter.unusedSimpArgs false

set_option maxHeartbeats 1000000 in
theorem op10_any (w : World) (t u : ByteArray) (k : Int) (l m : List UInt8) (hl : t.data.toList = l) (hl2 : l.length ≤ 100) (hm : u.data.toList = m) (hm2 : m.length ≤ 100) :
    Calls Try.prog 32 #[.int .u8 k, .string t, .string u] w fun e w' => ∃ x y, e = .returned (.agg #[.int .u8 k, x, y]) ∧ (Rd w' x l ∧ From w.heap.size x) ∧ (Rd w' y m ∧ From w.heap.size y) ∧ Below w.heap.size w w' := by
  have hb0 := below_box4 w (.cells #[.int .u8 0, .slice none 0 0, .slice none 0 0] 63)
  have br := box_new w (.int .u8 0) (.slice none 0 0) (.slice none 0 0) 63
  obtain ⟨cap, w1, hc, hr, hb, hs⟩ := conv_str (w.alloc (.cells #[.int .u8 0, .slice none 0 0, .slice none 0 0] 63)) t l hl hl2
  obtain ⟨cap2, w2, hc2, hr2, hb2, hs2⟩ := conv_str w1 u m hm hm2
  obtain ⟨c0, c1, c2, f0, f1, f2⟩ := (br.below hb (Nat.le_refl _)).below hb2 (Nat.le_refl _)
  have e1 : (w.alloc (.cells #[.int .u8 0, .slice none 0 0, .slice none 0 0] 63)).heap.size = w.heap.size + 1 := by simp
  have HB : Hid (Below w.heap.size w w2) := bsplit (bsplit hb0 hb) hb2
  rw [e1] at hc hr hs
  rw [hs] at hc2 hr2
  have HR : Hid (Rd w2 (.slice (some ⟨w.heap.size + 1, 0, none⟩) l.length cap) l ∧ Rd w2 (.slice (some ⟨w.heap.size + 1 + 1, 0, none⟩) m.length cap2) m) := ⟨hr.below hb2 (Nat.le_refl _), hr2⟩
  clear hb0 br hb hr hs hl hb2 hr2 hs2 hm e1
  go_enter Try.func32, Try.ntmps32
  go_wp2
  have hst : ∀ (g n c : Nat) (b : List UInt8), g ≠ w.heap.size → ∀ u0 u1 u2, Rd w2 (.slice (some ⟨g, 0, none⟩) n c) b → Rd (((w2.setCell ⟨w.heap.size, 0, none⟩ u0).setCell ⟨w.heap.size, 1, none⟩ u1).setCell ⟨w.heap.size, 2, none⟩ u2) (.slice (some ⟨g, 0, none⟩) n c) b := by
    intro g n c b hg u0 u1 u2 h
    have go : ∀ (W : World) (i : Nat) (u : Value), Rd W (.slice (some ⟨g, 0, none⟩) n c) b → Rd (W.setCell ⟨w.heap.size, i, none⟩ u) (.slice (some ⟨g, 0, none⟩) n c) b := fun W i u h => by
      rcases h with ⟨h, _⟩ | ⟨b1, off, cc, e, h1, h2, h3⟩
      · simp at h
      · cases e
        exact .inr ⟨_, _, _, rfl, h1, h2, fun j v hv => (cell_other _ ⟨w.heap.size, i, none⟩ ⟨g, 0 + j, none⟩ _ hg).trans (h3 j v hv)⟩
    exact go _ _ _ (go _ _ _ (go _ _ _ h))
  refine bodyPost_ret (v := .agg #[.int .u8 k, .slice (some ⟨w.heap.size + 1, 0, none⟩) l.length cap, .slice (some ⟨w.heap.size + 1 + 1, 0, none⟩) m.length cap2]) (by simp [results, Try.results32, go_sem, c0, c1, c2]) rfl ⟨_, _, rfl, ⟨hst _ _ _ _ (by omega) _ _ _ HR.out.1, ?_⟩, ⟨hst _ _ _ _ (by omega) _ _ _ HR.out.2, ?_⟩, below_store3 HB.out (Nat.le_refl _) _ _ _⟩
  · intro a n c e
    cases e
    show w.heap.size ≤ w.heap.size + 1
    omega
  · intro a n c e
    cases e
    show w.heap.size ≤ w.heap.size + 1 + 1
    omega

/-- what lies apart from a memo is read as before -/
theorem rd_apart {F : Nat → Prop} {B : Nat} {w : World} {x : Value} {l : List UInt8} (h : Rd w x l) (hx : From B x) (hF : ∀ i, F i → i < B) (W : World) (hk : Keeps F w W) : Rd W x l :=
  rd_keep h hk (fun q hq hf => by have := from_q hx hq; have := hF q hf; omega)

theorem BatI.list {w W : World} {G G' : Nat → Prop} {m l t s : Nat} {ts ts' : List Tow} {ss : List SpB} {last : Int} {os : List OpB} {L : List EnB} (h : BatI w W G m l t ts ss last os s G' ts') (hr : riseB L = true) (hp : (esT ts ++ verO os s).Perm L) : esT ts' = L :=
  rise_unique h.mem.sk.ris hr (h.prm.trans hp)

theorem lenT_of {ts : List Tow} {L : List EnB} {n : Nat} (h : esT ts = L) (hL : ∀ e ∈ L, e.1.length ≤ n ∧ e.2.2.2.length ≤ n) : LenT ts n := fun t ht => hL _ (by rw [← h]; unfold esT; exact List.mem_map_of_mem ht)

def aw1 : List EnB := [([97], 1, 2, [120])]
def aw2 : List EnB := [([97], 1, 2, [120]), ([98], 3, 2, [121])]
def awS : List SpB := [([97], [99], 2)]

theorem awc1 : batC [(2, [97], [120])] 1 [1] 0 = 0 := by decide +kernel
theorem awc2 : batC [(3, [97], [99])] 2 [1] 1 = 0 := by decide +kernel
theorem awc3 : batC [(2, [98], [121])] 3 [2] 2 = 0 := by decide +kernel
theorem awr1 : riseB aw1 = true := by decide +kernel
theorem awr2 : riseB aw2 = true := by decide +kernel
theorem awg1 : stM (newE aw2 [97] 1) (covN awS [97] ((1 : Nat) : Int)) = 1 ∧ valM (newE aw2 [97] 1) (covN awS [97] ((1 : Nat) : Int)) = [120] := by decide +kernel
theorem awg2 : stM (newE aw2 [97] 3) (covN awS [97] ((3 : Nat) : Int)) = 2 := by decide +kernel
theorem awg3 : stM (newE aw2 [98] 2) (covN awS [98] ((2 : Nat) : Int)) = 2 := by decide +kernel
theorem awg4 : stM (newE aw2 [99] 9) (covN awS [99] ((9 : Nat) : Int)) = 0 := by decide +kernel

end Go.Proofs.Ytgphjgpibjhbjaa

/- (*memo.Memo).Size. -/
namespace Go.Proofs.Ytgphjgpibjhbjaa
set_option maxRecDepth 100000
open Go.RowKit
set_option linter.unusedVariables false
set_option linter.unusedSimpArgs false

/-- how many bytes spans count for -/
def spSz (ss : List SpB) : Nat := (ss.map fun s => s.1.length + s.2.1.length + 16).sum

theorem spSz_next {ss : List SpB} {j : Nat} (h : j < ss.length) : spSz (ss.take (j + 1)) = spSz (ss.take j) + (ss[j].1.length + ss[j].2.1.length + 16) := by
  unfold spSz
  rw [List.take_succ_eq_append_getElem h, List.map_append, List.sum_append]
  simp

theorem spSz_le {ss : List SpB} (h : ∀ s ∈ ss, s.1.length ≤ 1000 ∧ s.2.1.length ≤ 1000) : spSz ss ≤ ss.length * 2016 := by
  induction ss with
  | nil => simp [spSz]
  | cons a r ih =>
    have h1 := h a (by simp)
    have h2 := ih (fun s hs => h s (by simp [hs]))
    unfold spSz at h2 ⊢
    simp only [List.map_cons, List.sum_cons, List.length_cons]
    omega

set_option maxHeartbeats 2000000 in
theorem msize_any (G : Nat → Prop) (w : World) (m l t : Nat) (ts : List Tow) (ss : List SpB) (last : Int) (h : MemA G w m l t ts ss last) (hL : LenT ts 1000) (hz : sizT ts ≤ 100000000) (hn : ss.length ≤ 4000) (hS : ∀ s ∈ ss, s.1.length ≤ 1000 ∧ s.2.1.length ≤ 1000) :
    Calls Try.prog 20 #[.pointer (some ⟨m, 0, none⟩)] w fun e w' => e = .returned (.int .i64 ((sizT ts + spSz ss : Nat) : Int)) ∧ Below w.heap.size w w' := by
  have he := eqMm m
  have HM : Hid (MemA G w m l t ts ss last) := h
  obtain ⟨c0, c1, c2, _, _, _⟩ := h.bx
  have ha := sksize_any w l ts h.sk hL
  obtain ⟨Z, hZ⟩ : ∃ Z, sizT ts = Z := ⟨_, rfl⟩
  rw [hZ] at ha hz ⊢
  have HS : Hid (∀ s ∈ ss, s.1.length ≤ 1000 ∧ s.2.1.length ≤ 1000) := hS
  clear h hZ hS
  go_enter Try.func20, Try.ntmps20
  go_wp2_with fail
  refine ha.mono ?_
  rintro e w1 ⟨rfl, hb1⟩
  have HM1 : Hid (MemA G w1 m l t ts ss last) := HM.out.below hb1
  have HB1 : Hid (Below w.heap.size w w1) := hb1
  have hal := tall_any w1 t ss HM1.out.st.at hn HS.out
  clear c0 c1 c2
  obtain ⟨c0, c1, c2, _, _, _⟩ := HM1.out.bx
  clear ha hb1
  go_wp2_with fail
  refine hal.mono ?_
  rintro e w2 ⟨v, rfl, av, hb2⟩
  have HV : Hid (RdS w2 v ss) := av.rd
  obtain ⟨va, vc, ev⟩ := av.rd.shape
  subst ev
  obtain ⟨N, hN⟩ : ∃ N, ss.length = N := ⟨_, rfl⟩
  rw [hN] at HV hn ⊢
  have HN : Hid (ss.length = N) := hN
  have HB2 : Hid (Below w.heap.size w w2) := bsplit HB1.out hb2
  have hvc : N ≤ vc ∧ vc ≤ 9223372036854775807 := by
    obtain ⟨a9, c9, e9, z1, z2, _⟩ := HV.out
    rw [HN.out] at e9 z1
    cases e9
    exact ⟨z1, z2⟩
  clear hal av hb2 hN c0 c1 c2
  go_wp2_with fail
  go_loopg [3, 19] N (fun gk sv iv wr => ∃ j A : Nat, gk + j = N ∧ sv = .int .i64 (A : Int) ∧ iv = .int .i64 (j : Int) ∧ Hid (A = Z + spSz (ss.take j)) ∧ Hid (RdS wr (.slice va N vc) ss) ∧ Hid (Below w.heap.size w wr))
  case atStart => exact ⟨0, Z, by omega, rfl, rfl, by show _ = _; simp [spSz], HV, HB2⟩
  case round =>
    clear HV HB2
    obtain ⟨j, A, hj, rfl, rfl, HA, HV, HB⟩ := hrel
    by_cases hlt : j < N
    · have hlt2 : j < ss.length := by rw [HN.out]; exact hlt
      obtain ⟨q1, q2⟩ := gk_nxt hj hlt
      obtain ⟨_, _, e, _, _, h3⟩ := HV.out
      rw [HN.out] at e
      cases e
      obtain ⟨b, off, rfl, xv, yv, c0, c1, c2, rx, ry⟩ := h3 j hlt2
      obtain ⟨x1, x2, ex⟩ := rx.len
      obtain ⟨y1, y2, ey⟩ := ry.len
      subst ex ey
      have hA9 : A ≤ 200000000 := by
        have h8 := HA.out
        have h9 := spSz_le (ss := ss.take j) (fun s hs => HS.out s (List.mem_of_mem_take hs))
        rw [List.length_take] at h9
        omega
      have hnx := spSz_next hlt2
      have hbd := HS.out _ (List.getElem_mem hlt2)
      obtain ⟨⟨sl, sm, sq⟩, ho⟩ : ∃ o, ss[j] = o := ⟨_, rfl⟩
      rw [ho] at c0 c1 c2 rx ry hnx hbd
      simp only at c0 c1 c2 rx ry hnx hbd
      obtain ⟨nl, hnl⟩ : ∃ nl, sl.length = nl := ⟨_, rfl⟩
      obtain ⟨ml, hml⟩ : ∃ ml, sm.length = ml := ⟨_, rfl⟩
      rw [hnl] at c0 hnx hbd
      rw [hml] at c1 hnx hbd
      have HX : Hid (A + (nl + ml + 16) = Z + spSz (ss.take (j + 1))) := by show _ = _; rw [hnx, HA.out]; omega
      have hb0 := below_box4 wr (.cells #[.slice x1 nl x2, .slice y1 ml y2, .int .u64 (sq : Int)] 46)
      obtain ⟨z0, z1, z2, _, _, _⟩ := box_new wr (.slice x1 nl x2) (.slice y1 ml y2) (.int .u64 (sq : Int)) 46
      have HV1 : Hid (RdS (wr.alloc (.cells #[.slice x1 nl x2, .slice y1 ml y2, .int .u64 (sq : Int)] 46)) (.slice (some ⟨b, off, none⟩) N vc) ss) := rdS_below HV.out hb0 (Nat.le_refl _)
      have HB1 : Hid (Below w.heap.size w (wr.alloc (.cells #[.slice x1 nl x2, .slice y1 ml y2, .int .u64 (sq : Int)] 46))) := bsplit HB.out hb0
      obtain ⟨hn1, hm1⟩ := hbd
      clear h3 rx ry ho hnl hml hb0 hnx HA HV HB
      go_wp2
      go_roundg (gk - 1)
      case measure => exact q1
      case rel => exact ⟨j + 1, A + (nl + ml + 16), q2, by go_num, by go_num, HX.out.symm ▸ rfl, HV1, HB1⟩
    · have hjN : j = N := by omega
      subst hjN
      have HT : Hid (A = Z + spSz ss) := by
        have h9 := HA.out
        rw [← HN.out, List.take_length] at h9
        exact h9
      go_wp2
      go_ret
      exact ⟨by rw [HT.out]; rfl, HB.out⟩

end Go.Proofs.Ytgphjgpibjhbjaa

/- A memo, by its versions and spans alone. -/
namespace Go.Proofs.Ytgphjgpibjhbjaa
set_option maxRecDepth 100000
open Go.RowKit
set_option linter.unusedVariables false
set_option linter.unusedSimpArgs false

theorem MemA.keeps {F G : Nat → Prop} {W W' : World} {m l t : Nat} {ts : List Tow} {ss : List SpB} {last : Int} (h : MemA G W m l t ts ss last) (hk : Keeps F W W') (hF : ∀ q, FpM G m l ts q → ¬ F q) : MemA G W' m l t ts ss last := by
  have hn : ∀ q, FpK l ts q → ¬ F q := fun q hq => hF q (.inr (.inl hq))
  exact ⟨h.bx.same9 (hk.block m h.bx.lt (hF m (.inl rfl))), h.sk.keeps hk (hn l (.inl rfl)) (fun T hT => hn _ (.inr ⟨T, hT, .inl rfl⟩)) (fun T hT => ⟨fun q hq => hn q (.inr ⟨T, hT, .inr (.inl hq)⟩), fun q hq => hn q (.inr ⟨T, hT, .inr (.inr hq)⟩)⟩), h.st.keeps hk (fun q hq => hF q (.inr (.inr hq))), h.dm, h.dg⟩

/-- a memo whose blocks are P's: its versions, in order, its spans, its last number -/
def MmP (P : Nat → Prop) (W : World) (m : Nat) (L : List EnB) (ss : List SpB) (last : Int) : Prop :=
  ∃ (G : Nat → Prop) (l t : Nat) (ts : List Tow), MemA G W m l t ts ss last ∧ esT ts = L ∧ ∀ q, FpM G m l ts q → P q

theorem MmP.below {P : Nat → Prop} {W W' : World} {m : Nat} {L : List EnB} {ss : List SpB} {last : Int} (h : MmP P W m L ss last) (hb : Below W.heap.size W W') : MmP P W' m L ss last := by
  obtain ⟨G, l, t, ts, h1, h2, h3⟩ := h
  exact ⟨G, l, t, ts, h1.below hb, h2, h3⟩

theorem MmP.mono {P Q : Nat → Prop} {W : World} {m : Nat} {L : List EnB} {ss : List SpB} {last : Int} (h : MmP P W m L ss last) (hq : ∀ q, q < W.heap.size → P q → Q q) : MmP Q W m L ss last := by
  obtain ⟨G, l, t, ts, h1, h2, h3⟩ := h
  exact ⟨G, l, t, ts, h1, h2, fun q h9 => hq q (fpM_lt h1 h9) (h3 q h9)⟩

theorem MmP.keeps {P F : Nat → Prop} {W W' : World} {m : Nat} {L : List EnB} {ss : List SpB} {last : Int} (h : MmP P W m L ss last) (hk : Keeps F W W') (hF : ∀ q, q < W.heap.size → P q → ¬ F q) : MmP P W' m L ss last := by
  obtain ⟨G, l, t, ts, h1, h2, h3⟩ := h
  exact ⟨G, l, t, ts, h1.keeps hk (fun q hq => hF q (fpM_lt h1 hq) (h3 q hq)), h2, h3⟩

theorem MmP.rise {P : Nat → Prop} {W : World} {m : Nat} {L : List EnB} {ss : List SpB} {last : Int} (h : MmP P W m L ss last) : riseB L = true := by
  obtain ⟨G, l, t, ts, h1, h2, h3⟩ := h
  rw [← h2]
  exact h1.sk.ris

theorem MmP.len {P : Nat → Prop} {W : World} {m : Nat} {L : List EnB} {ss : List SpB} {last : Int} (h : MmP P W m L ss last) : L.length ≤ 4000 := by
  obtain ⟨G, l, t, ts, h1, h2, h3⟩ := h
  rw [← h2, esT_len]
  exact h1.sk.len

theorem mmP_new (w : World) : Calls Try.prog 10 #[] w fun e w' => ∃ m, e = .returned (.pointer (some ⟨m, 0, none⟩)) ∧ MmP (fun q => w.heap.size ≤ q) w' m [] [] 0 ∧ Below w.heap.size w w' := by
  refine (mnew_any w).mono ?_
  rintro e w' ⟨G, m, l, t, rfl, hM, hG, ⟨h1, h2⟩, hb⟩
  refine ⟨m, rfl, ⟨G, l, t, [], hM, rfl, fun q hq => ?_⟩, hb⟩
  rcases hq with rfl | hq | hq
  · exact h1
  · rcases hq with rfl | ⟨T, hT, _⟩
    · exact h2
    · simp at hT
  · exact hG q hq

/-- what Batch leaves -/
def BatQ (P : Nat → Prop) (W : World) (m : Nat) (L : List EnB) (ss : List SpB) (last : Int) (os : List OpB) (s : Nat) (c : Int) (e : Ending) (W' : World) : Prop :=
  e = .returned (.int .i64 c) ∧ Keeps P W W' ∧ (c ≠ 0 → MmP P W' m L ss last ∧ Below W.heap.size W W') ∧
    (c = 0 → ∃ L', L'.Perm (L ++ verO os s) ∧ MmP (fun q => P q ∨ W.heap.size ≤ q) W' m L' (ss ++ spnO os s) (if os.length = 0 then last else ((s + os.length - 1 : Nat) : Int)))

theorem batQ_of {P G : Nat → Prop} {W W' : World} {m l t : Nat} {ts : List Tow} {ss : List SpB} {last c : Int} {os : List OpB} {s : Nat} {e : Ending} (hM : MemA G W m l t ts ss last) (hP : ∀ q, FpM G m l ts q → P q) (h : BatPost G W m l t ts ss last os s c e W') : BatQ P W m (esT ts) ss last os s c e W' := by
  obtain ⟨h1, h2, h3⟩ := h
  have hk : Keeps P W W' := by
    by_cases h0 : c = 0
    · obtain ⟨G', ts', h4⟩ := h3 h0
      exact h4.kp.mono hP
    · exact Below.keeps (h2 h0) _
  refine ⟨h1, hk, fun h0 => ⟨⟨G, l, t, ts, hM.below (h2 h0), rfl, hP⟩, h2 h0⟩, fun h0 => ?_⟩
  obtain ⟨G', ts', h4⟩ := h3 h0
  exact ⟨esT ts', h4.prm, ⟨G', l, t, ts', h4.mem, rfl, fun q hq => (h4.fp q hq).imp (hP q) id⟩⟩

theorem mmP_batch (P : Nat → Prop) (W : World) (m : Nat) (L : List EnB) (ss : List SpB) (last : Int) (v : Value) (os : List OpB) (s : Nat) (a : Option Addr) (n cap : Nat) (hs : List Int) (h : MmP P W m L ss last)
    (hv : ∀ W', Keeps P W W' → RdO W' v os) (hh : ∀ W', Keeps P W W' → RdI W' a n hs) (ha : (a = none ∧ cap = 0) ∨ ∃ b off, a = some ⟨b, off, none⟩) (hnc : n ≤ cap) (hn : n ≤ 1000000) (hlen : chkL os = 0 → L.length + os.length ≤ 4000) (hss : ss.length ≤ 10000) (hlast : ∀ e ∈ L, (e.2.1 : Int) ≤ last) (hs64 : s < 18446744073709551616) :
    Calls Try.prog 29 #[.pointer (some ⟨m, 0, none⟩), v, .int .u64 (s : Int), .slice a n cap] W (BatQ P W m L ss last os s (batC os (s : Int) hs last)) := by
  obtain ⟨G, l, t, ts, h1, rfl, h3⟩ := h
  refine (mbatch_any G W m l t ts ss last v os s a n cap hs h1 (fun W' hk => hv W' (hk.mono h3)) (fun W' hk => hh W' (hk.mono h3)) ha hnc hn (fun h0 => by have := hlen h0; rw [esT_len] at this; exact this) hss hlast hs64).mono ?_
  intro e W' h9
  exact batQ_of h1 h3 h9

theorem mmP_do (P : Nat → Prop) (W : World) (m : Nat) (L : List EnB) (ss : List SpB) (last : Int) (k : UInt8) (x y : Value) (kl vl : List UInt8) (s : Nat) (hh : Int) (h : MmP P W m L ss last)
    (hv : ∀ W', Keeps P W W' → Rd W' x kl ∧ Rd W' y vl) (hlen : L.length + 1 ≤ 4000) (hss : ss.length ≤ 10000) (hlast : ∀ e ∈ L, (e.2.1 : Int) ≤ last) (hs64 : s < 18446744073709551616) :
    Calls Try.prog 30 #[.pointer (some ⟨m, 0, none⟩), .agg #[.int .u8 (k.toNat : Int), x, y], .int .u64 (s : Int), .int .i64 hh] W (BatQ P W m L ss last [(k, kl, vl)] s (batC [(k, kl, vl)] (s : Int) [hh] last)) := by
  obtain ⟨G, l, t, ts, h1, rfl, h3⟩ := h
  refine (mdo_any G W m l t ts ss last k x y kl vl s hh h1 (fun W' hk => hv W' (hk.mono h3)) (by rw [esT_len] at hlen; exact hlen) hss hlast hs64).mono ?_
  intro e W' h9
  exact batQ_of h1 h3 h9

theorem mmP_get (P : Nat → Prop) (W : World) (m : Nat) (L : List EnB) (ss : List SpB) (last : Int) (kv : Value) (k : List UInt8) (s : Nat) (h : MmP P W m L ss last) (hk : Rd W kv k) (hkl : k.length ≤ 1000000) (hL : ∀ e ∈ L, e.1.length ≤ 1000 ∧ e.2.2.2.length ≤ 1000) :
    Calls Try.prog 22 #[.pointer (some ⟨m, 0, none⟩), kv, .int .u64 (s : Int)] W fun o w' => ∃ v, o = .returned (.tuple #[v, .int .i64 (stM (newE L k s) (covN ss k (s : Int)))]) ∧ OwnN W.heap.size w' v (valM (newE L k s) (covN ss k (s : Int))) ∧ Below W.heap.size W w' := by
  obtain ⟨G, l, t, ts, h1, rfl, h3⟩ := h
  exact mget_any G W m l t ts ss last kv k s h1 hk hkl (lenT_of rfl hL)

theorem mmP_last (P : Nat → Prop) (W : World) (m : Nat) (L : List EnB) (ss : List SpB) (last : Int) (h : MmP P W m L ss last) : Calls Try.prog 12 #[.pointer (some ⟨m, 0, none⟩)] W fun e w' => e = .returned (.int .u64 last) ∧ w' = W := by
  obtain ⟨G, l, t, ts, h1, rfl, h3⟩ := h
  exact mlast_any G W m l t ts ss last h1

theorem mmP_entries (P : Nat → Prop) (W : World) (m : Nat) (L : List EnB) (ss : List SpB) (last : Int) (h : MmP P W m L ss last) (hL : ∀ e ∈ L, e.1.length ≤ 1000 ∧ e.2.2.2.length ≤ 1000) : Calls Try.prog 17 #[.pointer (some ⟨m, 0, none⟩)] W fun e w' => ∃ v, e = .returned v ∧ OwnEF (W.heap.size + 3) w' v L ∧ Below W.heap.size W w' := by
  obtain ⟨G, l, t, ts, h1, rfl, h3⟩ := h
  exact mentries_any G W m l t ts ss last h1 (lenT_of rfl hL)

theorem mmP_spans (P : Nat → Prop) (W : World) (m : Nat) (L : List EnB) (ss : List SpB) (last : Int) (h : MmP P W m L ss last) (hn : ss.length ≤ 4000) (hL : ∀ s ∈ ss, s.1.length ≤ 1000 ∧ s.2.1.length ≤ 1000) : Calls Try.prog 19 #[.pointer (some ⟨m, 0, none⟩)] W fun e w' => ∃ v, e = .returned v ∧ AllS W.heap.size w' v ss ∧ Below W.heap.size W w' := by
  obtain ⟨G, l, t, ts, h1, rfl, h3⟩ := h
  exact mspans_any G W m l t ts ss last h1 hn hL

theorem sizL_le {L : List EnB} (h : ∀ e ∈ L, e.1.length ≤ 1000 ∧ e.2.2.2.length ≤ 1000) : sizL L ≤ L.length * 2016 := by
  induction L with
  | nil => simp [sizL]
  | cons a r ih =>
    have h1 := ih (fun e he => h e (List.mem_cons_of_mem _ he))
    have h2 := h a List.mem_cons_self
    simp only [sizL, List.map_cons, List.sum_cons, List.length_cons] at h1 ⊢
    unfold sizE at *
    omega

theorem mmP_size (P : Nat → Prop) (W : World) (m : Nat) (L : List EnB) (ss : List SpB) (last : Int) (h : MmP P W m L ss last) (hL : ∀ e ∈ L, e.1.length ≤ 1000 ∧ e.2.2.2.length ≤ 1000) (hn : ss.length ≤ 4000) (hS : ∀ s ∈ ss, s.1.length ≤ 1000 ∧ s.2.1.length ≤ 1000) :
    Calls Try.prog 20 #[.pointer (some ⟨m, 0, none⟩)] W fun e w' => e = .returned (.int .i64 ((sizL L + spSz ss : Nat) : Int)) ∧ Below W.heap.size W w' := by
  have h9 := sizL_le hL
  have h8 := h.len
  obtain ⟨G, l, t, ts, h1, rfl, h3⟩ := h
  exact msize_any G W m l t ts ss last h1 (lenT_of rfl hL) (by unfold sizT; omega) hn hS

end Go.Proofs.Ytgphjgpibjhbjaa

/- bartizanlaw10.awake. -/
namespace Go.Proofs.Ytgphjgpibjhbjaa
set_option maxRecDepth 100000
open Go.RowKit
set_option linter.unusedVariables false
set_option linter.unusedSimpArgs false

theorem rd10one (w : World) (b : UInt8) (i : Int) (hi : (b.toNat : Int) = i) : Rd (w.alloc (.cells #[.int .u8 i] 5 (1, 2))) (.slice (some ⟨w.heap.size, 0, none⟩) 1 1) [b] := by
  refine .inr ⟨w.heap.size, 0, 1, rfl, by simp, by simp [maxLen], fun j u hu => ?_⟩
  rw [World.cell?_alloc_mark]
  subst hi
  have hj : j = 0 := by have := (List.getElem?_eq_some_iff.1 hu).1; simp [bv] at this; omega
  subst hj
  simpa [bv] using hu

theorem conv10one (w : World) (i : Int) (g : Nat) (hg : g = w.heap.size) : (convert 40 40 (.slice (some ⟨g, 0, none⟩) 1 1)).run Try.prog (w.alloc (.cells #[.int .u8 i] 5)) = .ok (.slice (some ⟨g, 0, none⟩) 1 1) (w.alloc (.cells #[.int .u8 i] 5 (1, 2))) :=
  Joins.run_convert_bytes_const_at w 40 5 _ 1 1 g hg Try.underlying40 Try.underlying5

/-- the memo of the example -/
def AwI (w W : World) (m : Nat) (L : List EnB) (ss : List SpB) (last : Int) : Prop := MmP (fun q => w.heap.size ≤ q) W m L ss last ∧ Below w.heap.size w W

theorem AwI.below {w W W' : World} {m : Nat} {L : List EnB} {ss : List SpB} {last : Int} (h : AwI w W m L ss last) (hb : Below W.heap.size W W') : AwI w W' m L ss last := ⟨h.1.below hb, bsplit h.2 hb⟩

/-- an op more -/
theorem AwI.do {w W W1 : World} {m : Nat} {L L' : List EnB} {ss ss' : List SpB} {last last' : Int} {k : UInt8} {x y : Value} {kl vl : List UInt8} {s : Nat} {hh : Int} (h : AwI w W m L ss last) (hb : Below W.heap.size W W1) (hx : Rd W1 x kl ∧ From W.heap.size x) (hy : Rd W1 y vl ∧ From W.heap.size y)
    (hc : batC [(k, kl, vl)] (s : Int) [hh] last = 0) (hlen : L.length + 1 ≤ 4000) (hss : ss.length ≤ 10000) (hlast : ∀ e ∈ L, (e.2.1 : Int) ≤ last) (hs64 : s < 18446744073709551616) (hr : riseB L' = true) (hp : (L ++ verO [(k, kl, vl)] s).Perm L') (hs' : ss ++ spnO [(k, kl, vl)] s = ss') (hl' : (s : Int) = last') :
    Calls Try.prog 30 #[.pointer (some ⟨m, 0, none⟩), .agg #[.int .u8 (k.toNat : Int), x, y], .int .u64 (s : Int), .int .i64 hh] W1 fun e W' => e = .returned (.int .i64 0) ∧ AwI w W' m L' ss' last' := by
  have h1 := h.below hb
  have hP : MmP (fun q => w.heap.size ≤ q ∧ q < W.heap.size) W1 m L ss last := (h.1.mono (Q := fun q => w.heap.size ≤ q ∧ q < W.heap.size) (fun q h1 h2 => ⟨h2, h1⟩)).below hb
  have h9 := mmP_do _ W1 m L ss last k x y kl vl s hh hP (fun W' hk => ⟨rd_apart hx.1 hx.2 (fun i hi => hi.2) W' hk, rd_apart hy.1 hy.2 (fun i hi => hi.2) W' hk⟩) hlen hss hlast hs64
  rw [hc] at h9
  refine h9.mono ?_
  rintro e W' ⟨he, hk, _, h4⟩
  obtain ⟨L2, hp2, hM⟩ := h4 rfl
  have hLL : L2 = L' := rise_unique hM.rise hr (hp2.trans hp)
  subst hLL hs' hl'
  refine ⟨he, ?_, ?_⟩
  · have h8 := hM.mono (Q := fun q => w.heap.size ≤ q) (fun q _ h2 => h2.elim (fun h3 => h3.1) (fun h3 => Nat.le_trans h1.2.size h3))
    simpa using h8
  · exact h1.2.trans (hk.below (fun i hi => hi.1) h1.2.size)

theorem awP1 : (([] : List EnB) ++ verO [(2, [97], [120])] 1).Perm aw1 := List.Perm.of_eq (by decide +kernel)
theorem awP2 : (aw1 ++ verO [(3, [97], [99])] 2).Perm aw1 := List.Perm.of_eq (by decide +kernel)
theorem awP3 : (aw1 ++ verO [(2, [98], [121])] 3).Perm aw2 := List.Perm.of_eq (by decide +kernel)

set_option maxHeartbeats 4000000 in
theorem mawake_any (w : World) : Calls Try.prog 9 #[] w fun e w' => e = .returned (.bool true) ∧ Below w.heap.size w w' := by
  go_enter Try.func9, Try.ntmps9
  go_wp2_with fail
  refine (mmP_new w).mono ?_
  rintro e w1 ⟨m, rfl, hM, hb1⟩
  have A1 : Hid (AwI w w1 m [] [] 0) := ⟨hM, hb1⟩
  clear hM hb1
  go_wp2_with fail
  refine (op10_any w1 _ _ 2 [97] [120] rfl (by simp) rfl (by simp)).mono ?_
  rintro e w2 ⟨x, y, rfl, rx, ry, hb⟩
  have hd := A1.out.do (k := 2) (x := x) (y := y) (kl := [97]) (vl := [120]) (s := 1) (hh := 1) hb rx ry awc1 (by decide) (by decide) (by decide) (by decide) awr1 awP1 (show _ = [] from rfl) rfl
  obtain ⟨xa, xc, rfl⟩ := rx.1.len
  obtain ⟨ya, yc, rfl⟩ := ry.1.len
  clear rx ry hb
  go_wp2_with fail
  refine hd.mono ?_
  rintro e w3 ⟨rfl, h9⟩
  have A2 : Hid (AwI w w3 m aw1 [] 1) := h9
  clear hd h9 A1
  go_wp2_with fail
  refine (op10_any w3 _ _ 3 [97] [99] rfl (by simp) rfl (by simp)).mono ?_
  rintro e w4 ⟨x, y, rfl, rx, ry, hb⟩
  have hd := A2.out.do (k := 3) (x := x) (y := y) (kl := [97]) (vl := [99]) (s := 2) (hh := 1) hb rx ry awc2 (by decide) (by decide) (by decide) (by decide) awr1 awP2 (show _ = awS from rfl) rfl
  obtain ⟨xa, xc, rfl⟩ := rx.1.len
  obtain ⟨ya, yc, rfl⟩ := ry.1.len
  clear rx ry hb
  go_wp2_with fail
  refine hd.mono ?_
  rintro e w5 ⟨rfl, h9⟩
  have A3 : Hid (AwI w w5 m aw1 awS 2) := h9
  clear hd h9 A2
  go_wp2_with fail
  refine (op10_any w5 _ _ 2 [98] [121] rfl (by simp) rfl (by simp)).mono ?_
  rintro e w6 ⟨x, y, rfl, rx, ry, hb⟩
  have hd := A3.out.do (k := 2) (x := x) (y := y) (kl := [98]) (vl := [121]) (s := 3) (hh := 2) hb rx ry awc3 (by decide) (by decide) (by decide) (by decide) awr2 awP3 (show _ = awS from rfl) rfl
  obtain ⟨xa, xc, rfl⟩ := rx.1.len
  obtain ⟨ya, yc, rfl⟩ := ry.1.len
  clear rx ry hb
  go_wp2_with fail
  refine hd.mono ?_
  rintro e w7 ⟨rfl, h9⟩
  have A4 : Hid (AwI w w7 m aw2 awS 3) := h9
  clear hd h9 A3
  have k1 := conv10one w7 97 w7.heap.size rfl
  have g1 := below_box4 w7 (.cells #[.int .u8 97] 5 (1, 2))
  have hg := mmP_get _ _ m aw2 awS 3 (.slice (some ⟨w7.heap.size, 0, none⟩) 1 1) [97] 1 (A4.out.below g1).1 (rd10one w7 97 97 rfl) (by decide) (by decide)
  rw [awg1.1, awg1.2] at hg
  have HB4 : Hid (AwI w (w7.alloc (.cells #[.int .u8 97] 5 (1, 2))) m aw2 awS 3) := A4.out.below g1
  clear g1
  go_wp2_with fail
  refine hg.mono ?_
  rintro e w8 ⟨v4, rfl, ov4, hb⟩
  have A5 : Hid (AwI w w8 m aw2 awS 3) := HB4.out.below hb
  have RV : Hid (Rd w8 v4 [120]) := ov4.rd
  obtain ⟨va, vc, rfl⟩ := ov4.rd.len
  clear ov4 hg hb HB4 A4 k1
  have k1 := conv10one w8 97 w8.heap.size rfl
  have g1 := below_box4 w8 (.cells #[.int .u8 97] 5 (1, 2))
  have hg := mmP_get _ _ m aw2 awS 3 (.slice (some ⟨w8.heap.size, 0, none⟩) 1 1) [97] 3 (A5.out.below g1).1 (rd10one w8 97 97 rfl) (by decide) (by decide)
  rw [awg2] at hg
  have HB5 : Hid (AwI w (w8.alloc (.cells #[.int .u8 97] 5 (1, 2))) m aw2 awS 3) := A5.out.below g1
  clear g1
  go_wp2_with fail
  refine hg.mono ?_
  rintro e w9 ⟨v5, rfl, ov5, hb⟩
  have A6 : Hid (AwI w w9 m aw2 awS 3) := HB5.out.below hb
  replace RV : Hid (Rd w9 _ [120]) := RV.out.below (bsplit (below_box4 _ _) hb) (Nat.le_refl _)
  obtain ⟨va5, vc5, rfl⟩ := ov5.rd.len
  clear ov5 hg hb HB5 A5 k1
  have k1 := conv10one w9 98 w9.heap.size rfl
  have g1 := below_box4 w9 (.cells #[.int .u8 98] 5 (1, 2))
  have hg := mmP_get _ _ m aw2 awS 3 (.slice (some ⟨w9.heap.size, 0, none⟩) 1 1) [98] 2 (A6.out.below g1).1 (rd10one w9 98 98 rfl) (by decide) (by decide)
  rw [awg3] at hg
  have HB6 : Hid (AwI w (w9.alloc (.cells #[.int .u8 98] 5 (1, 2))) m aw2 awS 3) := A6.out.below g1
  clear g1
  go_wp2_with fail
  refine hg.mono ?_
  rintro e w10 ⟨v6, rfl, ov6, hb⟩
  have A7 : Hid (AwI w w10 m aw2 awS 3) := HB6.out.below hb
  replace RV : Hid (Rd w10 _ [120]) := RV.out.below (bsplit (below_box4 _ _) hb) (Nat.le_refl _)
  obtain ⟨va6, vc6, rfl⟩ := ov6.rd.len
  clear ov6 hg hb HB6 A6 k1
  have k1 := conv10one w10 99 w10.heap.size rfl
  have g1 := below_box4 w10 (.cells #[.int .u8 99] 5 (1, 2))
  have hg := mmP_get _ _ m aw2 awS 3 (.slice (some ⟨w10.heap.size, 0, none⟩) 1 1) [99] 9 (A7.out.below g1).1 (rd10one w10 99 99 rfl) (by decide) (by decide)
  rw [awg4] at hg
  have HB7 : Hid (AwI w (w10.alloc (.cells #[.int .u8 99] 5 (1, 2))) m aw2 awS 3) := A7.out.below g1
  clear g1
  go_wp2_with fail
  refine hg.mono ?_
  rintro e w11 ⟨v7, rfl, ov7, hb⟩
  have A8 : Hid (AwI w w11 m aw2 awS 3) := HB7.out.below hb
  replace RV : Hid (Rd w11 _ [120]) := RV.out.below (bsplit (below_box4 _ _) hb) (Nat.le_refl _)
  obtain ⟨va7, vc7, rfl⟩ := ov7.rd.len
  clear ov7 hg hb HB7 A7 k1
  have hcv : (convert 40 9 (.slice va 1 vc)).run Try.prog w11 = .ok (.string ⟨#[120]⟩) w11 := conv_rd RV.out
  go_wp2
  go_ret
  exact ⟨rfl, A8.out.2⟩

end Go.Proofs.Ytgphjgpibjhbjaa

/- bartizanref03.SameEntry, SameEntries. -/
namespace Go.Proofs.Ytgphjgpibjhbjaa
open Go.RowKit
set_option linter.unusedVariables false

set_option maxRecDepth 20000 in
set_option maxHeartbeats 4000000 in
theorem sameen_any (w : World) (xa ya xb yb : Value) (la ma lb mb : List UInt8) (s k t j : Int) (r : Bool) (hxa : Rd w xa la) (hya : Rd w ya ma) (hxb : Rd w xb lb) (hyb : Rd w yb mb) (hr : decide ((la = lb ∧ s = t ∧ k = j) ∧ ma = mb) = r) :
    Calls Try.prog 40 #[.agg #[xa, .int .u64 s, .int .u8 k, ya], .agg #[xb, .int .u64 t, .int .u8 j, yb]] w fun e w' => e = .returned (.bool r) ∧ Below w.heap.size w w' := by
  obtain ⟨a1, a2, rfl⟩ := hxa.len
  obtain ⟨a3, a4, rfl⟩ := hya.len
  obtain ⟨b1, b2, rfl⟩ := hxb.len
  obtain ⟨b3, b4, rfl⟩ := hyb.len
  obtain ⟨n1, h1⟩ : ∃ n, la.length = n := ⟨_, rfl⟩
  obtain ⟨n2, h2⟩ : ∃ n, ma.length = n := ⟨_, rfl⟩
  obtain ⟨n3, h3⟩ : ∃ n, lb.length = n := ⟨_, rfl⟩
  obtain ⟨n4, h4⟩ : ∃ n, mb.length = n := ⟨_, rfl⟩
  rw [h1] at hxa ⊢
  rw [h2] at hya ⊢
  rw [h3] at hxb ⊢
  rw [h4] at hyb ⊢
  have hb0 := below_box4 w (.cells #[.slice a1 n1 a2, .int .u64 s, .int .u8 k, .slice a3 n2 a4] 44)
  have hb1 := below_box4 (w.alloc (.cells #[.slice a1 n1 a2, .int .u64 s, .int .u8 k, .slice a3 n2 a4] 44)) (.cells #[.slice b1 n3 b2, .int .u64 t, .int .u8 j, .slice b3 n4 b4] 44)
  have BA := (box4_new w (.slice a1 n1 a2) (.int .u64 s) (.int .u8 k) (.slice a3 n2 a4) 44).below hb1 (Nat.le_refl _)
  have BB := box4_new (w.alloc (.cells #[.slice a1 n1 a2, .int .u64 s, .int .u8 k, .slice a3 n2 a4] 44)) (.slice b1 n3 b2) (.int .u64 t) (.int .u8 j) (.slice b3 n4 b4) 44
  rw [show (w.alloc (.cells #[.slice a1 n1 a2, .int .u64 s, .int .u8 k, .slice a3 n2 a4] 44)).heap.size = w.heap.size + 1 by simp] at BB
  have hB1 := bsplit hb0 hb1
  have hks := keysame_any ((w.alloc (.cells #[.slice a1 n1 a2, .int .u64 s, .int .u8 k, .slice a3 n2 a4] 44)).alloc (.cells #[.slice b1 n3 b2, .int .u64 t, .int .u8 j, .slice b3 n4 b4] 44)) _ _ la lb s k t j (decide (la = lb ∧ s = t ∧ k = j)) (hxa.below hB1 (Nat.le_refl _)) (hxb.below hB1 (Nat.le_refl _)) rfl
  have HY : Hid (Rd w (.slice a3 n2 a4) ma ∧ Rd w (.slice b3 n4 b4) mb) := ⟨hya, hyb⟩
  have HB1 : Hid _ := hB1
  have HR : Hid (decide ((la = lb ∧ s = t ∧ k = j) ∧ ma = mb) = r) := hr
  obtain ⟨q, hq⟩ : ∃ q, decide (la = lb ∧ s = t ∧ k = j) = q := ⟨_, rfl⟩
  have HQ : Hid (decide (la = lb ∧ s = t ∧ k = j) = q) := hq
  rw [hq] at hks
  clear hxa hya hxb hyb hr h1 h2 h3 h4 hb0 hb1 hB1 hq
  go_enter Try.func40, Try.ntmps40
  cases q with
  | false =>
    have HF : Hid (r = false) := by
      show r = false
      rw [← HR.out]
      have := of_decide_eq_false HQ.out
      simp only [decide_eq_false_iff_not]
      exact fun h => this h.1
    obtain ⟨c0, c1, c2, c3⟩ := BA
    obtain ⟨d0, d1, d2, d3⟩ := BB
    go_wp2_with fail
    refine hks.mono ?_
    rintro e w1 ⟨rfl, hb⟩
    have HB2 : Hid (Below w.heap.size w w1) := bsplit HB1.out hb
    clear hks hb
    go_wp2
    go_ret
    exact ⟨ret_bool (by rw [HF.out]), HB2.out⟩
  | true =>
    have HT : Hid ((ma == mb) = r) := by
      show (ma == mb) = r
      rw [← HR.out]
      have := of_decide_eq_true HQ.out
      rw [Bool.eq_iff_iff]
      simp only [beq_iff_eq, decide_eq_true_eq]
      exact ⟨fun h => ⟨this, h⟩, fun h => h.2⟩
    have BA' := BA
    have BB' := BB
    obtain ⟨c0, c1, c2, c3⟩ := BA'
    obtain ⟨d0, d1, d2, d3⟩ := BB'
    go_wp2_with fail
    refine hks.mono ?_
    rintro e w1 ⟨rfl, hb⟩
    have HB2 : Hid (Below w.heap.size w w1) := bsplit HB1.out hb
    clear c0 c1 c2 c3 d0 d1 d2 d3
    obtain ⟨c0, c1, c2, c3⟩ := BA.below hb (Nat.le_refl _)
    obtain ⟨d0, d1, d2, d3⟩ := BB.below hb (Nat.le_refl _)
    have hsb := same_b w1 _ _ ma mb r (HY.out.1.below HB2.out (Nat.le_refl _)) (HY.out.2.below HB2.out (Nat.le_refl _)) HT.out
    clear hks hb BA BB
    go_wp2_with fail
    refine hsb.mono ?_
    rintro e w2 ⟨rfl, rfl⟩
    clear hsb
    go_wp2
    go_ret
    exact ⟨rfl, HB2.out⟩

set_option maxRecDepth 20000 in
set_option maxHeartbeats 4000000 in
theorem sameens_any (w : World) (va vb : Value) (us bs : List EnB) (r : Bool) (ha : RdE w va us) (hb : RdE w vb bs) (hr : us = bs ↔ r = true) :
    Calls Try.prog 16 #[va, vb] w fun e w' => e = .returned (.bool r) ∧ Below w.heap.size w w' := by
  have HA : Hid (RdE w va us) := ha
  have HBb : Hid (RdE w vb bs) := hb
  obtain ⟨a1, a2, rfl, ha1, ha2, _⟩ := ha
  obtain ⟨b1, b2, rfl, hb1, hb2, _⟩ := hb
  unfold maxLen at ha2 hb2
  obtain ⟨N, hN⟩ : ∃ n, us.length = n := ⟨_, rfl⟩
  obtain ⟨M, hM⟩ : ∃ n, bs.length = n := ⟨_, rfl⟩
  rw [hN] at ha1 HA ⊢
  rw [hM] at hb1 HBb ⊢
  have HNM : Hid (us.length = N ∧ bs.length = M) := ⟨hN, hM⟩
  have HR : Hid (us = bs ↔ r = true) := hr
  clear hN hM hr
  go_enter Try.func16, Try.ntmps16
  by_cases hnm : N = M
  · subst hnm
    go_wp2_with fail
    go_loopg [13] N (fun gk iv wr => ∃ j : Nat, gk + j = N ∧ iv = .int .i64 (j : Int) ∧ Hid (∀ i, i < j → us[i]? = bs[i]?) ∧ Hid (Below w.heap.size w wr))
    case atStart => exact ⟨0, by omega, rfl, fun i hi => absurd hi (Nat.not_lt_zero _), Below.refl _ _⟩
    case round =>
      obtain ⟨j, hj, rfl, HS, HB⟩ := hrel
      by_cases hlt : j < N
      · have l1 : j < us.length := by rw [HNM.out.1]; exact hlt
        have l2 : j < bs.length := by rw [HNM.out.2]; exact hlt
        obtain ⟨_, _, e, _, _, h3⟩ := rdE_below HA.out HB.out (Nat.le_refl _)
        rw [HNM.out.1] at e
        cases e
        obtain ⟨_, _, e, _, _, h4⟩ := rdE_below HBb.out HB.out (Nat.le_refl _)
        rw [HNM.out.2] at e
        cases e
        obtain ⟨p1, o1, rfl, x1, y1, c0, c1, c2, c3, rx1, ry1⟩ := h3 j l1
        obtain ⟨p2, o2, rfl, x2, y2, d0, d1, d2, d3, rx2, ry2⟩ := h4 j l2
        obtain ⟨q1, q2⟩ := gk_nxt hj hlt
        obtain ⟨t1, t2, hx1⟩ := rx1.len
        obtain ⟨t3, t4, hy1⟩ := ry1.len
        obtain ⟨t5, t6, hx2⟩ := rx2.len
        obtain ⟨t7, t8, hy2⟩ := ry2.len
        have hsm := sameen_any wr.drew x1 y1 x2 y2 us[j].1 us[j].2.2.2 bs[j].1 bs[j].2.2.2 (us[j].2.1 : Int) (us[j].2.2.1.toNat : Int) (bs[j].2.1 : Int) (bs[j].2.2.1.toNat : Int) (decide (us[j] = bs[j])) rx1.drew ry1.drew rx2.drew ry2.drew (by
          rw [decide_eq_decide]
          constructor
          · rintro ⟨⟨e1, e2, e3⟩, e4⟩
            have e2' : us[j].2.1 = bs[j].2.1 := by omega
            have e3' : us[j].2.2.1 = bs[j].2.2.1 := UInt8.toNat_inj.1 (by omega)
            exact Prod.ext e1 (Prod.ext e2' (Prod.ext e3' e4))
          · intro e
            rw [e]
            exact ⟨⟨rfl, rfl, rfl⟩, rfl⟩)
        have h1I : (j : Int) < (a2 : Int) := by omega
        have h2I : (j : Int) < (b2 : Int) := by omega
        rw [hx1] at c0 hsm
        rw [hy1] at c3 hsm
        rw [hx2] at d0 hsm
        rw [hy2] at d3 hsm
        obtain ⟨z1, hz1⟩ : ∃ z, (us[j].2.1 : Int) = z := ⟨_, rfl⟩
        obtain ⟨z2, hz2⟩ : ∃ z, (us[j].2.2.1.toNat : Int) = z := ⟨_, rfl⟩
        obtain ⟨z3, hz3⟩ : ∃ z, (bs[j].2.1 : Int) = z := ⟨_, rfl⟩
        obtain ⟨z4, hz4⟩ : ∃ z, (bs[j].2.2.1.toNat : Int) = z := ⟨_, rfl⟩
        obtain ⟨m1, hm1⟩ : ∃ z, us[j].1.length = z := ⟨_, rfl⟩
        obtain ⟨m2, hm2⟩ : ∃ z, us[j].2.2.2.length = z := ⟨_, rfl⟩
        obtain ⟨m3, hm3⟩ : ∃ z, bs[j].1.length = z := ⟨_, rfl⟩
        obtain ⟨m4, hm4⟩ : ∃ z, bs[j].2.2.2.length = z := ⟨_, rfl⟩
        rw [hz1] at c1 hsm
        rw [hz2] at c2 hsm
        rw [hz3] at d1 hsm
        rw [hz4] at d2 hsm
        rw [hm1] at c0 hsm
        rw [hm2] at c3 hsm
        rw [hm3] at d0 hsm
        rw [hm4] at d3 hsm
        obtain ⟨q, hq⟩ : ∃ q, decide (us[j] = bs[j]) = q := ⟨_, rfl⟩
        have HQ : Hid (decide (us[j] = bs[j]) = q) := hq
        rw [hq] at hsm
        have c0' := c0; have c1' := c1; have c2' := c2; have c3' := c3; have d0' := d0; have d1' := d1; have d2' := d2; have d3' := d3
        clear h3 h4 rx1 ry1 rx2 ry2 hx1 hy1 hx2 hy2 hz1 hz2 hz3 hz4 hm1 hm2 hm3 hm4 hq
        cases q with
        | true =>
          go_wp2_with fail
          go_region_held3 (fun w' => (w'.cell? ⟨p1, o1 + j * 4, none⟩ = some (.slice t1 m1 t2) ∧ w'.cell? ⟨p1, o1 + j * 4 + 1, none⟩ = some (.int .u64 z1) ∧ w'.cell? ⟨p1, o1 + j * 4 + 2, none⟩ = some (.int .u8 z2) ∧ w'.cell? ⟨p1, o1 + j * 4 + 3, none⟩ = some (.slice t3 m2 t4)) ∧ (w'.cell? ⟨p2, o2 + j * 4, none⟩ = some (.slice t5 m3 t6) ∧ w'.cell? ⟨p2, o2 + j * 4 + 1, none⟩ = some (.int .u64 z3) ∧ w'.cell? ⟨p2, o2 + j * 4 + 2, none⟩ = some (.int .u8 z4) ∧ w'.cell? ⟨p2, o2 + j * 4 + 3, none⟩ = some (.slice t7 m4 t8)))
            (first | with_reducible exact ⟨⟨e0, e1, e2, e3⟩, ⟨e4, e5, e6, e7⟩⟩ | exact ⟨⟨c0', c1', c2', c3'⟩, ⟨d0', d1', d2', d3'⟩⟩)
            (first
              | (go_at_call 40; refine hsm.mono ?_; rintro e w5 ⟨rfl, hb5⟩
                 have HB5 : Hid (Below w.heap.size w w5) := bsplit HB.out.drew hb5
                 have b1 := World.block_lt_of_cell? wr _ c0'
                 have b2 := World.block_lt_of_cell? wr _ d0'
                 have e0 := (hb5.cell (p := ⟨p1, o1 + j * 4, none⟩) b1).trans c0'
                 have e1 := (hb5.cell (p := ⟨p1, o1 + j * 4 + 1, none⟩) b1).trans c1'
                 have e2 := (hb5.cell (p := ⟨p1, o1 + j * 4 + 2, none⟩) b1).trans c2'
                 have e3 := (hb5.cell (p := ⟨p1, o1 + j * 4 + 3, none⟩) b1).trans c3'
                 have e4 := (hb5.cell (p := ⟨p2, o2 + j * 4, none⟩) b2).trans d0'
                 have e5 := (hb5.cell (p := ⟨p2, o2 + j * 4 + 1, none⟩) b2).trans d1'
                 have e6 := (hb5.cell (p := ⟨p2, o2 + j * 4 + 2, none⟩) b2).trans d2'
                 have e7 := (hb5.cell (p := ⟨p2, o2 + j * 4 + 3, none⟩) b2).trans d3')
              | fail)
          go_wp2_with fail
          go_roundg (gk - 1)
          case measure => exact q1
          case rel => exact ⟨j + 1, q2, by go_num, fun i hi => by
            by_cases e : i = j
            · subst e; rw [List.getElem?_eq_getElem l1, List.getElem?_eq_getElem l2, of_decide_eq_true HQ.out]
            · exact HS.out i (by omega), HB5⟩
        | false =>
          go_wp2_with fail
          go_region_held3 (fun w' => (w'.cell? ⟨p1, o1 + j * 4, none⟩ = some (.slice t1 m1 t2) ∧ w'.cell? ⟨p1, o1 + j * 4 + 1, none⟩ = some (.int .u64 z1) ∧ w'.cell? ⟨p1, o1 + j * 4 + 2, none⟩ = some (.int .u8 z2) ∧ w'.cell? ⟨p1, o1 + j * 4 + 3, none⟩ = some (.slice t3 m2 t4)) ∧ (w'.cell? ⟨p2, o2 + j * 4, none⟩ = some (.slice t5 m3 t6) ∧ w'.cell? ⟨p2, o2 + j * 4 + 1, none⟩ = some (.int .u64 z3) ∧ w'.cell? ⟨p2, o2 + j * 4 + 2, none⟩ = some (.int .u8 z4) ∧ w'.cell? ⟨p2, o2 + j * 4 + 3, none⟩ = some (.slice t7 m4 t8)))
            (first | with_reducible exact ⟨⟨e0, e1, e2, e3⟩, ⟨e4, e5, e6, e7⟩⟩ | exact ⟨⟨c0', c1', c2', c3'⟩, ⟨d0', d1', d2', d3'⟩⟩)
            (first
              | (go_at_call 40; refine hsm.mono ?_; rintro e w5 ⟨rfl, hb5⟩
                 have HB5 : Hid (Below w.heap.size w w5) := bsplit HB.out.drew hb5
                 have b1 := World.block_lt_of_cell? wr _ c0'
                 have b2 := World.block_lt_of_cell? wr _ d0'
                 have e0 := (hb5.cell (p := ⟨p1, o1 + j * 4, none⟩) b1).trans c0'
                 have e1 := (hb5.cell (p := ⟨p1, o1 + j * 4 + 1, none⟩) b1).trans c1'
                 have e2 := (hb5.cell (p := ⟨p1, o1 + j * 4 + 2, none⟩) b1).trans c2'
                 have e3 := (hb5.cell (p := ⟨p1, o1 + j * 4 + 3, none⟩) b1).trans c3'
                 have e4 := (hb5.cell (p := ⟨p2, o2 + j * 4, none⟩) b2).trans d0'
                 have e5 := (hb5.cell (p := ⟨p2, o2 + j * 4 + 1, none⟩) b2).trans d1'
                 have e6 := (hb5.cell (p := ⟨p2, o2 + j * 4 + 2, none⟩) b2).trans d2'
                 have e7 := (hb5.cell (p := ⟨p2, o2 + j * 4 + 3, none⟩) b2).trans d3')
              | fail)
          have HF : Hid (r = false) := by
            show r = false
            cases hrr : r with
            | false => rfl
            | true =>
              have h9 := HR.out.2 hrr
              subst h9
              exact absurd rfl (of_decide_eq_false HQ.out)
          go_wp2
          go_ret
          exact ⟨ret_bool (by rw [HF.out]), HB5.out⟩
      · have hjN : j = N := by omega
        subst hjN
        have HT : Hid (r = true) := HR.out.1 (List.ext_getElem? (fun i => by
          by_cases hi : i < j
          · exact HS.out i hi
          · rw [List.getElem?_eq_none (by rw [HNM.out.1]; omega), List.getElem?_eq_none (by rw [HNM.out.2]; omega)]))
        go_wp2
        go_ret
        exact ⟨ret_bool (by rw [HT.out]), HB.out⟩
  · have hnmI : ¬ (N : Int) = (M : Int) := by omega
    have HF : Hid (r = false) := by
      show r = false
      cases hrr : r with
      | false => rfl
      | true =>
        have h9 := HR.out.2 hrr
        exact absurd (by rw [← HNM.out.1, ← HNM.out.2, h9]) hnm
    go_wp2
    go_ret
    exact ⟨ret_bool (by rw [HF.out]), Below.refl _ _⟩

end Go.Proofs.Ytgphjgpibjhbjaa

/- The document's answer for tomb: Check, Covers, Cover. -/
namespace Go.Proofs.Ytgphjgpibjhbjaa
set_option maxRecDepth 20000
open Go.RowKit
set_option linter.unusedVariables false
set_option linter.unusedSimpArgs false

set_option maxHeartbeats 2000000 in
theorem rtcovers_any (w : World) (x y kv : Value) (l m k : List UInt8) (s : Int) (r : Bool) (hx : Rd w x l) (hy : Rd w y m) (hk : Rd w kv k) (hr : covB l m k = r) :
    Calls Try.prog 67 #[spV x y s, kv] w fun e w' => e = .returned (.bool r) ∧ Below w.heap.size w w' := by
  obtain ⟨xa, xc, rfl⟩ := hx.len
  obtain ⟨ya, yc, rfl⟩ := hy.len
  obtain ⟨ka, kc, rfl⟩ := hk.len
  have hb0 := below_box w #[.slice xa l.length xc, .slice ya m.length yc, .int .u64 s] 46
  have HB0 : Hid (Below w.heap.size w (w.alloc (.cells #[.slice xa l.length xc, .slice ya m.length yc, .int .u64 s] 46))) := hb0
  obtain ⟨r1, hr1⟩ : ∃ r, decide (Lib.compareBytes k l < 0) = r := ⟨_, rfl⟩
  obtain ⟨r2, hr2⟩ : ∃ r, decide (Lib.compareBytes k m < 0) = r := ⟨_, rfl⟩
  have HC : Hid (r = (!r1 && r2)) := by show r = _; rw [← hr, ← hr1, ← hr2]; rfl
  have e1 := refless_any (w.alloc (.cells #[.slice xa l.length xc, .slice ya m.length yc, .int .u64 s] 46)) _ _ k l r1 (hk.below hb0 (Nat.le_refl _)) (hx.below hb0 (Nat.le_refl _)) hr1
  have e2 := refless_any (w.alloc (.cells #[.slice xa l.length xc, .slice ya m.length yc, .int .u64 s] 46)) _ _ k m r2 (hk.below hb0 (Nat.le_refl _)) (hy.below hb0 (Nat.le_refl _)) hr2
  obtain ⟨c0, c1, c2, _, _, _⟩ := box_new w (.slice xa l.length xc) (.slice ya m.length yc) (.int .u64 s) 46
  clear hr hr1 hr2 hx hy hk hb0
  go_enter Try.func67, Try.ntmps67
  go_wp2_with fail
  refine e1.mono ?_
  rintro o w1 ⟨rfl, rfl⟩
  cases r1
  · go_wp2_with fail
    refine e2.mono ?_
    rintro o w1 ⟨rfl, rfl⟩
    go_wp2
    go_ret
    exact ⟨ret_bool (by rw [HC.out]; simp), HB0.out⟩
  · go_wp2
    go_ret
    exact ⟨ret_bool (by rw [HC.out]; rfl), HB0.out⟩

set_option maxHeartbeats 4000000 in
theorem rtcover_any (w : World) (v : Value) (ss : List SpB) (kv : Value) (k : List UInt8) (seq : Int) (hv : RdS w v ss) (hk : Rd w kv k) :
    Calls Try.prog 49 #[v, kv, .int .u64 seq] w fun e w' => e = .returned (.int .u64 (covN ss k seq : Int)) ∧ Below w.heap.size w w' := by
  obtain ⟨ka, kc, rfl⟩ := hk.len
  obtain ⟨kl, hkl⟩ : ∃ z, k.length = z := ⟨_, rfl⟩
  rw [hkl] at hk ⊢
  have HK : Hid (Rd w (.slice ka kl kc) k) := hk
  have HV : Hid (RdS w v ss) := hv
  obtain ⟨ao, cap, rfl, h1, h2, _⟩ := hv
  unfold maxLen at h2
  obtain ⟨N, hN⟩ : ∃ N, ss.length = N := ⟨_, rfl⟩
  rw [hN] at h1 HV ⊢
  have HN : Hid (ss.length = N) := hN
  clear hN hk hkl
  go_enter Try.func49, Try.ntmps49
  go_wp2_with fail
  go_loopg [12, 7] N (fun gk iv mv wr => ∃ j m : Nat, gk + j = N ∧ iv = .int .i64 (j : Int) ∧ mv = .int .u64 (m : Int) ∧ Hid (m = covN (ss.take j) k seq) ∧ Hid (Below w.heap.size w wr))
  case atStart => exact ⟨0, 0, by omega, rfl, rfl, rfl, Below.refl _ _⟩
  case round =>
    obtain ⟨j, m, hj, rfl, rfl, HS, HB⟩ := hrel
    by_cases hlt : j < N
    · have hlt2 : j < ss.length := by rw [HN.out]; exact hlt
      obtain ⟨_, _, e, _, _, h3⟩ := rdS_below HV.out HB.out (Nat.le_refl _)
      rw [HN.out] at e
      cases e
      obtain ⟨b, off, rfl, xv, yv, c0, c1, c2, rx, ry⟩ := h3 j hlt2
      obtain ⟨x1, x2, ex⟩ := rx.len
      obtain ⟨y1, y2, ey⟩ := ry.len
      subst ex ey
      obtain ⟨⟨sl, sm, sq⟩, ho⟩ : ∃ o, ss[j] = o := ⟨_, rfl⟩
      rw [ho] at c0 c1 c2 rx ry
      obtain ⟨q1, q2⟩ := gk_nxt hj hlt
      simp only at c0 c1 c2 rx ry
      obtain ⟨nl, hnl⟩ : ∃ nl, sl.length = nl := ⟨_, rfl⟩
      obtain ⟨ml, hml⟩ : ∃ ml, sm.length = ml := ⟨_, rfl⟩
      rw [hnl] at c0 rx
      rw [hml] at c1 ry
      have hb0 := below_box wr #[.slice x1 nl x2, .slice y1 ml y2, .int .u64 (sq : Int)] 46
      have HB0 : Hid (Below w.heap.size w (wr.alloc (.cells #[.slice x1 nl x2, .slice y1 ml y2, .int .u64 (sq : Int)] 46))) := bsplit HB.out hb0
      have BX := box_new wr (.slice x1 nl x2) (.slice y1 ml y2) (.int .u64 (sq : Int)) 46
      obtain ⟨r, hr⟩ : ∃ r, covB sl sm k = r := ⟨_, rfl⟩
      have hcv := rtcovers_any (wr.alloc (.cells #[.slice x1 nl x2, .slice y1 ml y2, .int .u64 (sq : Int)] 46)) (.slice x1 nl x2) (.slice y1 ml y2) (.slice ka kl kc) sl sm k (sq : Int) r (rx.below hb0 (Nat.le_refl _)) (ry.below hb0 (Nat.le_refl _)) ((HK.out.below HB.out (Nat.le_refl _)).below hb0 (Nat.le_refl _)) hr
      have HX : Hid (covN (ss.take (j + 1)) k seq = if (sq : Int) ≤ seq ∧ r = true then max m sq else m) := by
        show _ = _
        rw [covN_next ss k seq j hlt2, ho, ← HS.out, ← hr]
        rfl
      have BX' := BX
      obtain ⟨z0, z1, z2, _, _, _⟩ := BX'
      clear ho hb0 h3 rx ry hnl hml hr
      by_cases hle : (sq : Int) ≤ seq
      · by_cases hgt : (m : Int) < (sq : Int)
        · have hmx : max m sq = sq := by omega
          rw [hmx] at HX
          go_wp2_with fail
          refine hcv.mono ?_
          rintro e w2 ⟨rfl, hb2⟩
          have HB2 : Hid (Below w.heap.size w w2) := bsplit HB0.out hb2
          clear z0 z1 z2
          obtain ⟨z0, z1, z2, _, _, _⟩ := BX.below hb2 (Nat.le_refl _)
          clear hcv hb2 BX hmx
          cases r
          · go_wp2_with fail
            go_roundg (gk - 1)
            case measure => exact q1
            case rel => exact ⟨j + 1, m, q2, by go_num, rfl, by show _ = _; rw [HX.out, if_neg (by simp)], HB2⟩
          · go_wp2_with fail
            go_roundg (gk - 1)
            case measure => exact q1
            case rel => exact ⟨j + 1, sq, q2, by go_num, rfl, by show _ = _; rw [HX.out, if_pos (by simp [hle])], HB2⟩
        · have hmx : max m sq = m := by omega
          rw [hmx] at HX
          go_wp2_with fail
          refine hcv.mono ?_
          rintro e w2 ⟨rfl, hb2⟩
          have HB2 : Hid (Below w.heap.size w w2) := bsplit HB0.out hb2
          clear z0 z1 z2
          obtain ⟨z0, z1, z2, _, _, _⟩ := BX.below hb2 (Nat.le_refl _)
          clear hcv hb2 BX hmx
          cases r
          all_goals
            go_wp2_with fail
            go_roundg (gk - 1)
            case measure => exact q1
            case rel => exact ⟨j + 1, m, q2, by go_num, rfl, by show _ = _; rw [HX.out, ite_self], HB2⟩
      · go_wp2_with fail
        refine hcv.mono ?_
        rintro e w2 ⟨rfl, hb2⟩
        have HB2 : Hid (Below w.heap.size w w2) := bsplit HB0.out hb2
        clear z0 z1 z2
        obtain ⟨z0, z1, z2, _, _, _⟩ := BX.below hb2 (Nat.le_refl _)
        clear hcv hb2 BX
        cases r
        all_goals
          go_wp2_with fail
          go_roundg (gk - 1)
          case measure => exact q1
          case rel => exact ⟨j + 1, m, q2, by go_num, rfl, by show _ = _; rw [HX.out, if_neg (fun h => by have := h.1; omega)], HB2⟩
    · have hjN : j = N := by omega
      subst hjN
      go_wp2_with fail
      go_wp2
      go_ret
      exact ⟨ret_int (by rw [HS.out, ← HN.out, List.take_length]), HB.out⟩

end Go.Proofs.Ytgphjgpibjhbjaa

/- bartizanref09.Same. -/
namespace Go.Proofs.Ytgphjgpibjhbjaa
open Go.RowKit
set_option linter.unusedVariables false
set_option linter.unusedSimpArgs false

theorem sameq9 (w : World) (a b : Value) (l l' : List UInt8) (x : Bool) (ha : Rd w a l) (hb : Rd w b l') (hx : (l == l') = x) :
    Calls Try.prog 24 #[a, b] w fun e w' => e = .returned (.bool x) ∧ ∃ n, w' = w.drewN n :=
  (same_b w a b l l' x ha hb hx).mono (fun e w' h => ⟨h.1, 0, h.2⟩)

theorem retB9 {a b : Bool} (h : a = b) : Ending.returned (.bool a) = .returned (.bool b) := by rw [h]

set_option maxHeartbeats 16000000 in
set_option maxRecDepth 20000 in
theorem samesp_any (w : World) (va vb : Value) (os ps : List SpB) (r : Bool) (ha : RdS w va os) (hb : RdS w vb ps) (hr : os = ps ↔ r = true) :
    Calls Try.prog 18 #[va, vb] w fun e w' => e = .returned (.bool r) ∧ ∃ n, w' = w.drewN n := by
  obtain ⟨ao, ac, rfl, h1, h2, h3⟩ := ha
  obtain ⟨bo, bc, rfl, g1, g2, g3⟩ := hb
  unfold maxLen at h2 g2
  have H3 : Hid _ := h3
  have G3 : Hid _ := g3
  have HR : Hid _ := hr
  clear h3 g3 hr
  by_cases hl : os.length = ps.length
  · have HL : Hid _ := hl
    obtain ⟨n, hn⟩ : ∃ n, os.length = n := ⟨_, rfl⟩
    rw [hn] at hl h1 ⊢
    rw [← hl] at g1 ⊢
    have HN : Hid _ := hn
    clear hn hl
    go_enter Try.func18, Try.ntmps18
    go_wp2_with fail
    go_loopg [13] n (fun gk iv wr => ∃ j m : Nat, gk + j = n ∧ iv = .int .i64 (j : Int) ∧ wr = w.drewN m ∧ os.take j = ps.take j)
    case atStart => exact ⟨0, 0, rfl, rfl, rfl, by simp⟩
    case round =>
      obtain ⟨j, m, hj, rfl, hwr, ht⟩ := hrel
      have HW : Hid (∀ n, wr.drewN n = w.drewN (m + n)) := by intro n; rw [hwr]; exact World.drewN_drewN _ _ _
      have HW0 : Hid _ := hwr
      have HT : Hid _ := ht
      clear ht
      by_cases hlt : j < n
      · have hlo : j < os.length := by rw [HN.out]; exact hlt
        have hlp : j < ps.length := by rw [← HL.out, HN.out]; exact hlt
        obtain ⟨b, off, rfl, xv, yv, c0, c1, c2, rx, ry⟩ := H3.out j hlo
        obtain ⟨b', off', rfl, xv', yv', d0, d1, d2, rx', ry'⟩ := G3.out j hlp
        obtain ⟨⟨ol, oo, osq⟩, ho⟩ : ∃ o, os[j] = o := ⟨_, rfl⟩
        obtain ⟨⟨pl, po, psq⟩, hp⟩ : ∃ o, ps[j] = o := ⟨_, rfl⟩
        rw [ho] at c2 rx ry
        rw [hp] at d2 rx' ry'
        simp only at c2 rx ry d2 rx' ry'
        have e0 : ∀ p, w.cell? p = wr.cell? p := by intro p; rw [hwr]; rfl
        have e1 : ∀ v l, Rd w v l → Rd wr v l := by rw [hwr]; exact fun _ _ h => h
        rw [e0] at c0 c1 c2 d0 d1 d2
        replace rx := e1 _ _ rx
        replace rx' := e1 _ _ rx'
        replace ry := e1 _ _ ry
        replace ry' := e1 _ _ ry'
        clear e0 e1
        clear hwr
        have HO : Hid (os[j] = (ol, oo, osq)) := ho
        have HP : Hid (ps[j] = (pl, po, psq)) := hp
        clear ho hp
        obtain ⟨q, hq⟩ : ∃ q, (ol == pl) = q := ⟨_, rfl⟩
        have HQ : Hid _ := hq
        obtain ⟨q2, hq2⟩ : ∃ q2, (oo == po) = q2 := ⟨_, rfl⟩
        have HQ2 : Hid _ := hq2
        clear hq hq2
        cases q
        · have hno : Hid (r = false) := by
            show _ = _
            rw [← Bool.not_eq_true]
            intro hrt
            have heq := HR.out.2 hrt
            subst heq
            have e := HO.out.symm.trans HP.out
            simp only [Prod.mk.injEq] at e
            have := HQ.out
            rw [e.1] at this
            simp at this
          go_wp2_with fail
          go_quiet (first
            | (go_at_call 24; refine Calls.quiet_of (sameq9 _ _ _ ol pl false (by exact rx) (by exact rx') HQ.out)))
          go_wp2
          go_ret
          exact ⟨retB9 (by rw [hno.out]), _, HW.out _⟩
        · cases q2
          · have hno : Hid (r = false) := by
              show _ = _
              rw [← Bool.not_eq_true]
              intro hrt
              have heq := HR.out.2 hrt
              subst heq
              have e := HO.out.symm.trans HP.out
              simp only [Prod.mk.injEq] at e
              have := HQ2.out
              rw [e.2.1] at this
              simp at this
            go_wp2_with fail
            go_quiet (first
              | (go_at_call 24; refine Calls.quiet_of (sameq9 _ _ _ ol pl true (by exact rx) (by exact rx') HQ.out))
              | (go_at_call 24; refine Calls.quiet_of (sameq9 _ _ _ oo po false (by exact ry) (by exact ry') HQ2.out)))
            go_wp2
            go_ret
            exact ⟨retB9 (by rw [hno.out]), _, HW.out _⟩
          · by_cases hs : osq = psq
            · subst hs
              have hyes : Hid (os.take (j + 1) = ps.take (j + 1)) := by
                show _ = _
                rw [List.take_succ_eq_append_getElem hlo, List.take_succ_eq_append_getElem hlp, HT.out, HO.out, HP.out, eq_of_beq HQ.out, eq_of_beq HQ2.out]
              go_wp2_with fail
              go_quiet (first
                | (go_at_call 24; refine Calls.quiet_of (sameq9 _ _ _ ol pl true (by exact rx) (by exact rx') HQ.out))
                | (go_at_call 24; refine Calls.quiet_of (sameq9 _ _ _ oo po true (by exact ry) (by exact ry') HQ2.out)))
              go_wp2
              go_roundg (gk - 1)
              case measure => omega
              case rel => exact ⟨j + 1, _, by omega, by go_num, HW.out _, hyes.out⟩
            · have hsI : ¬ (osq : Int) = (psq : Int) := by omega
              have hsq : decide ((osq : Int) = (psq : Int)) = false := decide_eq_false hsI
              have hsq2 : ((osq : Int) != (psq : Int)) = true := by simp [hsI]
              have hno : Hid (r = false) := by
                show _ = _
                rw [← Bool.not_eq_true]
                intro hrt
                have heq := HR.out.2 hrt
                subst heq
                have e := HO.out.symm.trans HP.out
                simp only [Prod.mk.injEq] at e
                exact hs e.2.2
              go_wp2_with fail
              go_quiet (first
                | (go_at_call 24; refine Calls.quiet_of (sameq9 _ _ _ ol pl true (by exact rx) (by exact rx') HQ.out))
                | (go_at_call 24; refine Calls.quiet_of (sameq9 _ _ _ oo po true (by exact ry) (by exact ry') HQ2.out)))
              go_wp2
              go_ret
              exact ⟨retB9 (by rw [hno.out]), _, HW.out _⟩
      · obtain rfl : j = n := by omega
        have hyes : Hid (r = true) := by
          show _ = _
          apply HR.out.1
          have e := HT.out
          rw [List.take_of_length_le (by rw [HN.out]; omega), List.take_of_length_le (by rw [← HL.out, HN.out]; omega)] at e
          exact e
        clear hwr
        go_wp2
        go_ret
        exact ⟨retB9 (by rw [hyes.out]), _, HW0.out⟩
  · have hno : Hid (r = false) := by
      show _ = _
      rw [← Bool.not_eq_true]
      intro hrt
      exact hl (by rw [HR.out.2 hrt])
    obtain ⟨n, hn⟩ : ∃ n, os.length = n := ⟨_, rfl⟩
    obtain ⟨m, hm⟩ : ∃ n, ps.length = n := ⟨_, rfl⟩
    rw [hn, hm] at hl ⊢
    have hI : ¬ (n : Int) = (m : Int) := by omega
    have hbq : ((n : Int) == (m : Int)) = false := by simpa using hI
    clear hn hm hl h1 h2 g1 g2
    go_enter Try.func18, Try.ntmps18
    go_wp2
    go_ret
    exact ⟨retB9 (by rw [hno.out]), 0, rfl⟩

end Go.Proofs.Ytgphjgpibjhbjaa

/- An op more. -/
namespace Go.Proofs.Ytgphjgpibjhbjaa
open Go.RowKit

theorem own_ne_row {w : World} {B n : Nat} {v : Value} {cs : List Value} {B' g m c : Nat} {l : List UInt8} (h : w.ownsRow B 63 3 v n cs) (ho : Own B' w (.slice (some ⟨g, 0, none⟩) m c) l) : some g ≠ v.ownBlock := by
  obtain ⟨g', cap, cur, e, _, hg, _⟩ := ho
  cases e
  rcases h.2 with ⟨e, _⟩ | ⟨q, cap', cur', e, _, hq, _⟩
  · subst e; simp [Value.ownBlock]
  · subst e
    intro e2
    simp only [Value.ownBlock, Option.some.injEq] at e2
    subst e2
    rw [hq] at hg
    simp at hg

theorem OwnN.grownO {w w' : World} {B B' n : Nat} {v x : Value} {cs : List Value} {l : List UInt8} (h : OwnN B' w x l) (hr : w.ownsRow B 63 3 v n cs) (hg : w.grownBy w' v.ownBlock) : OwnN B' w' x l := by
  rcases h with h | h
  · exact .inl h
  · obtain ⟨g, c, rfl⟩ := h.shape
    exact .inr (own_kept h hg (own_ne_row hr h))

theorem own_push {B : Nat} {w w' : World} {v v' x y : Value} {os : List OpB} {cs : List Value} (o : OpB) (hrow : w.ownsRow B 63 3 v os.length cs)
    (hel : ∀ j (h : j < os.length), ∃ x y, cs[j * 3]? = some (.int .u8 (os[j].1.toNat : Int)) ∧ cs[j * 3 + 1]? = some x ∧ cs[j * 3 + 2]? = some y ∧ OwnN B w x os[j].2.1 ∧ OwnN B w y os[j].2.2)
    (hx : OwnN B w x o.2.1) (hy : OwnN B w y o.2.2) (hn : w'.ownsRow B 63 3 v' (os.length + 1) (cs ++ [.int .u8 (o.1.toNat : Int), x, y])) (hg : w.grownBy w' v.ownBlock) : OwnO B w' v' (os ++ [o]) := by
  have hcl : cs.length = os.length * 3 := hrow.1
  refine ⟨_, by rw [List.length_append]; exact hn, fun j h => ?_⟩
  by_cases hj : j < os.length
  · obtain ⟨x', y', c0, c1, c2, ox, oy⟩ := hel j hj
    refine ⟨x', y', ?_, ?_, ?_, ?_, ?_⟩
    · rw [List.getElem?_append_left (by omega), List.getElem_append_left hj]; exact c0
    · rw [List.getElem?_append_left (by omega)]; exact c1
    · rw [List.getElem?_append_left (by omega)]; exact c2
    · rw [List.getElem_append_left hj]; exact ox.grownO hrow hg
    · rw [List.getElem_append_left hj]; exact oy.grownO hrow hg
  · have hje : j = os.length := by rw [List.length_append] at h; simp at h; omega
    subst hje
    have e : (os ++ [o])[os.length]'h = o := by simp
    rw [e]
    refine ⟨x, y, ?_, ?_, ?_, hx.grownO hrow hg, hy.grownO hrow hg⟩
    · rw [List.getElem?_append_right (by omega), show os.length * 3 - cs.length = 0 by omega]; rfl
    · rw [List.getElem?_append_right (by omega), show os.length * 3 + 1 - cs.length = 1 by omega]; rfl
    · rw [List.getElem?_append_right (by omega), show os.length * 3 + 2 - cs.length = 2 by omega]; rfl

/-- an op's three cells, as they were laid -/
theorem laid3 (w : World) (v0 v1 v2 : Value) (t : TypeId) : ∀ j u, [v0, v1, v2][j]? = some u → (w.alloc (.cells #[v0, v1, v2] t)).cell? ((⟨w.heap.size, 0, none⟩ : Addr).add j) = some u := by
  intro j u hj
  match j, hj with
  | 0, hj => simp at hj; subst hj; simp [Addr.add]
  | 1, hj => simp at hj; subst hj; simp [Addr.add]
  | 2, hj => simp at hj; subst hj; simp [Addr.add]
  | (j + 3), hj => simp at hj

theorem one3 (k : Int) (a b : Option Addr) (n m c d : Nat) : ∀ u ∈ [Value.int .u8 k, .slice a n c, .slice b m d], u.oneCell' = true := by
  intro u hu
  simp at hu
  rcases hu with rfl | rfl | rfl <;> rfl

/-- an op, cut -/
def cutOp (o : OpB) : OpB := (o.1, o.2.1.take 80, o.2.2.take 600)

def fewO (n : Nat) (os : List OpB) : List OpB := (os.take n).map cutOp

end Go.Proofs.Ytgphjgpibjhbjaa

/- bartizanref04's Few. -/
namespace Go.Proofs.Ytgphjgpibjhbjaa
open Go.RowKit

theorem few_take {n : Nat} {os : List OpB} {j : Nat} (h : j < os.length) (hn : j < n) : fewO n (os.take (j + 1)) = fewO n (os.take j) ++ [cutOp os[j]] := by
  unfold fewO
  rw [List.take_take, List.take_take, Nat.min_eq_right (by omega), Nat.min_eq_right (by omega), List.take_succ_eq_append_getElem h, List.map_append]
  rfl

theorem few_stay {n : Nat} {os : List OpB} {j : Nat} (hn : ¬ j < n) : fewO n (os.take (j + 1)) = fewO n (os.take j) := by
  unfold fewO
  rw [List.take_take, List.take_take, Nat.min_eq_left (by omega), Nat.min_eq_left (by omega)]

set_option maxHeartbeats 4000000 in
theorem fewop_any (w : World) (v : Value) (os : List OpB) (n : Nat) (hv : ArgO w v os) (hn : n ≤ 1000) :
    Calls Try.prog 28 #[v, .int .i64 (n : Int)] w fun e w' => ∃ x, e = .returned x ∧ OwnO w.heap.size w' x (fewO n os) ∧ Below w.heap.size w w' := by
  obtain ⟨i0, hi, hz0, hz1, hz2⟩ := info_parts infoOp
  have hv0 := hv
  obtain ⟨ao, cap, rfl, h1, h2, h3⟩ := hv
  unfold maxLen at h2
  have H3 : Hid _ := hv0
  clear hv0 h3
  go_enter Try.func28, Try.ntmps28
  go_wp2_with fail
  go_loopg [5, 10] os.length (fun gk pv iv wr => ∃ j n' c' : Nat, ∃ a' : Option Addr, gk + j = os.length ∧ iv = .int .i64 (j : Int) ∧ pv = .slice a' n' c' ∧ OwnO w.heap.size wr pv (fewO n (os.take j)) ∧ Below w.heap.size w wr)
  case atStart => exact ⟨0, 0, 0, none, rfl, rfl, rfl, by rw [List.take_zero, show fewO n [] = [] by simp [fewO]]; exact OwnO.nil _ _, Below.refl _ _⟩
  case round =>
    obtain ⟨j, n', c', a', hj, rfl, rfl, hO, hB⟩ := hrel
    have hrd : ArgO wr _ os := LsO.belowA (show ArgO w _ os from H3.out) hB (Nat.le_refl _)
    by_cases hlt : j < os.length
    · obtain ⟨_, _, e, _, _, h3⟩ := hrd
      cases e
      obtain ⟨b, off, rfl, xv, yv, c0, c1, c2, rx, ry⟩ := h3 j hlt
      obtain ⟨x1, x2, ex⟩ := Arg.shape rx
      obtain ⟨y1, y2, ey⟩ := Arg.shape ry
      subst ex ey
      obtain ⟨⟨ok, ol, om⟩, ho⟩ : ∃ o, os[j] = o := ⟨_, rfl⟩
      rw [ho] at c0 c1 c2 rx ry
      obtain ⟨ck, hck⟩ : ∃ ck, ol.take 80 = ck := ⟨_, rfl⟩
      obtain ⟨cv, hcv⟩ : ∃ cv, om.take 600 = cv := ⟨_, rfl⟩
      have HCK : Hid _ := hck
      have HCV : Hid _ := hcv
      have HR : Hid (j < n → fewO n (os.take (j + 1)) = fewO n (os.take j) ++ [(ok, ck, cv)]) := by intro h; rw [few_take hlt h, ho, ← hck, ← hcv]; rfl
      have hnl : (fewO n (os.take j)).length = min n j := by unfold fewO; rw [List.length_map, List.length_take, List.length_take, Nat.min_eq_left (show j ≤ os.length by omega)]
      clear hck hcv
      clear h3 ho
      have hlow := hB.size
      have hb0 := below_box wr #[.int .u8 (ok.toNat : Int), .slice x1 ol.length x2, .slice y1 om.length y2] 63
      have bx := (box_new wr (.int .u8 (ok.toNat : Int)) (.slice x1 ol.length x2) (.slice y1 om.length y2) 63).drew
      have rx0 := arg_drew (rx.below hb0 (Nat.le_refl _))
      have ry0 := arg_drew (ry.below hb0 (Nat.le_refl _))
      have hO0 := (hO.below hb0 (Nat.le_refl _)).drew
      have hB9 := hB.alloc hB.size (.cells #[.int .u8 (ok.toNat : Int), .slice x1 ol.length x2, .slice y1 om.length y2] 63)
      have hB0 := (hB.alloc hB.size (.cells #[.int .u8 (ok.toNat : Int), .slice x1 ol.length x2, .slice y1 om.length y2] 63)).drew
      have hne : some wr.heap.size ≠ (Value.slice a' n' c').ownBlock := by
        obtain ⟨cs, hrow, _⟩ := hO
        intro e
        have := (hrow.lt _ e.symm).2
        omega
      have hlen : n' = (fewO n (os.take j)).length := by
        obtain ⟨cs, hrow, _⟩ := hO
        rcases hrow.2 with ⟨e, e2⟩ | ⟨g, cap', cur, e, _⟩
        · cases e; exact e2.symm
        · cases e; rfl
      have hmm : n' = min n j := by omega
      clear rx ry hO hB hb0
      have htl : (fewO n (os.take j)).length = n' := hlen.symm
      have hnb : n' ≤ 1000 := by omega
      clear hlen hnl hmm

      by_cases hjn : j < n
      · go_wp2_with fail
        go_region_held3 (fun w' => w'.cell? ⟨wr.heap.size, 0, none⟩ = some (.int .u8 (ok.toNat : Int)) ∧ w'.cell? ⟨wr.heap.size, 1, none⟩ = some (.slice x1 ol.length x2) ∧ w'.cell? ⟨wr.heap.size, 2, none⟩ = some (.slice y1 om.length y2))
          (first | exact ⟨b4.c0, b4.c1, b4.c2⟩ | exact ⟨be.c0, be.c1, be.c2⟩ | exact ⟨by2.c0, by2.c1, by2.c2⟩ | exact ⟨bx2.c0, bx2.c1, bx2.c2⟩ | exact ⟨bx.c0, bx.c1, bx.c2⟩)
          (first
            | (go_at_call_of 21 (Value.slice x1 ol.length x2); refine (cut_any _ _ ol 80 rx0 (by omega)).mono ?_; rintro e wx ⟨x, rfl, ox, hbx⟩; rw [HCK.out] at ox; obtain ⟨gx, kx, hx⟩ := ox.shape; subst hx; have bx2 := bx.below hbx (Nat.le_refl _))
            | (go_at_call_of 21 (Value.slice y1 om.length y2); refine (cut_any _ _ om 600 (ry0.below hbx (Nat.le_refl _)) (by omega)).mono ?_; rintro e wy ⟨y, rfl, oy, hby⟩; rw [HCV.out] at oy; obtain ⟨gy, ky, hy⟩ := oy.shape; subst hy; have by2 := bx2.below hby (Nat.le_refl _); have be := by2.alloc (.cells #[.int .u8 (ok.toNat : Int), .slice (some ⟨gx, 0, none⟩) ck.length kx, .slice (some ⟨gy, 0, none⟩) cv.length ky] 63))
            | (have hbe := below_box wy #[.int .u8 (ok.toNat : Int), .slice (some ⟨gx, 0, none⟩) ck.length kx, .slice (some ⟨gy, 0, none⟩) cv.length ky] 63
               have hOe := ((hO0.below hbx (Nat.le_refl _)).below hby (Nat.le_refl _)).below hbe (Nat.le_refl _)
               have oxe := ((ox.below hby (Nat.le_refl _)).below hbe (Nat.le_refl _)).mono (C := w.heap.size) (by simp; omega)
               have oye := (oy.below hbe (Nat.le_refl _)).mono (C := w.heap.size) (by have := hbx.size; simp at this; omega)
               have hBx := hB0.trans (hbx.mono hB0.size)
               have hBy := hBx.trans (hby.mono hBx.size)
               have hBe := hBy.trans (hbe.mono hBy.size)
               obtain ⟨cs, hrow, hel⟩ := hOe
               have hsz : w.heap.size ≤ wy.heap.size := hBy.size
               refine step_append_lies _ rfl (.tmp 18) (.tmp 28) 29 rfl w.heap.size 63 i0 (.agg #[.int .u8 0, .slice none 0 0, .slice none 0 0]) 3 56 Try.underlying29 hi hz0 hz1 hz2 rfl (by decide) (.slice a' n' c') (fewO n (os.take j)).length cs rfl hrow ⟨wy.heap.size, 0, none⟩ 1 1 [.int .u8 (ok.toNat : Int), .slice (some ⟨gx, 0, none⟩) ck.length kx, .slice (some ⟨gy, 0, none⟩) cv.length ky] rfl rfl (laid3 _ _ _ _ _) (one3 _ _ _ _ _ _ _) (by decide) (by simp only [maxLen]; omega) (by omega) (by simp; omega) _ rfl ?_
               intro g4 c4 w4 hown hgrow hat hlt4
               have b4 := be.grown hgrow hne
               have hpush := own_push (ok, ck, cv) hrow hel (.inr oxe) (.inr oye) hown hgrow
               rw [htl] at hpush
               have hB4 := hBe.grown hgrow (Nat.le_trans hsz (by simp)) (fun k' e => (hrow.lt k' e).1))
            | fail)
        all_goals
          clear hO0 hB0 bx rx0 ry0 hB9
          go_wp2
          go_roundg (gk - 1)
          case measure => omega
          case rel => exact ⟨j + 1, _, c4, _, by omega, by go_num, rfl, by rw [HR.out hjn]; exact hpush, hB4⟩
      · have HN : Hid (fewO n (os.take (j + 1)) = fewO n (os.take j)) := few_stay hjn
        go_wp2
        go_roundg (gk - 1)
        case measure => omega
        case rel => exact ⟨j + 1, n', c', a', by omega, by go_num, rfl, by rw [HN.out]; exact hO0, hB9⟩
    · obtain rfl : j = os.length := by omega
      clear hrd
      go_wp2
      go_ret
      exact ⟨_, rfl, by rw [List.take_length] at hO; exact hO, hB⟩

end Go.Proofs.Ytgphjgpibjhbjaa

/- For MemoBatches: heights, a batch's ops one by one. -/
namespace Go.Proofs.Ytgphjgpibjhbjaa
set_option maxRecDepth 20000
open Go.RowKit
set_option linter.unusedVariables false
set_option linter.unusedSimpArgs false

/-- heights out of bytes -/
def hgt (l : List UInt8) (j : Nat) : List Int := ((l.take j).take 66).map fun x => 1 + ((x.toNat % 8 : Nat) : Int)

theorem hgt_next {l : List UInt8} {j : Nat} (h : j < l.length) (h2 : j < 66) : hgt l (j + 1) = hgt l j ++ [1 + ((l[j].toNat % 8 : Nat) : Int)] := by
  unfold hgt
  rw [List.take_succ_eq_append_getElem h, List.take_append, List.map_append]
  have e1 : (l.take j).length = j := by rw [List.length_take]; omega
  rw [e1, List.take_of_length_le (l := [l[j]]) (by simp; omega)]
  rfl

theorem hgt_stay {l : List UInt8} {j : Nat} (h : j < l.length) (h2 : ¬ j < 66) : hgt l (j + 1) = hgt l j := by
  unfold hgt
  rw [List.take_take, List.take_take, Nat.min_eq_left (by omega), Nat.min_eq_left (by omega)]

theorem hgt_len (l : List UInt8) (j : Nat) : (hgt l j).length ≤ 66 := by
  unfold hgt
  rw [List.length_map, List.length_take]
  omega

/-- a row of heights -/
def RowI (B : Nat) (w : World) (v : Value) (hs : List Int) : Prop := w.ownsRow B 3 1 v hs.length (hs.map fun h => Value.int .i64 h)

theorem RowI.below {B : Nat} {w w' : World} {v : Value} {hs : List Int} (h : RowI B w v hs) (hb : Below w.heap.size w w') : RowI B w' v hs := row_below h hb

/-- it is read, whatever is done elsewhere -/
theorem RowI.rdi {B : Nat} {w : World} {v : Value} {hs : List Int} (h : RowI B w v hs) : ∃ a c, v = .slice a hs.length c ∧ ((a = none ∧ c = 0) ∨ ∃ b off, a = some ⟨b, off, none⟩) ∧ hs.length ≤ c ∧ ∀ (F : Nat → Prop) (W : World), Keeps F w W → (∀ q, B ≤ q → ¬ F q) → RdI W a hs.length hs := by
  have h0 := h
  rcases h.2 with ⟨e, hn⟩ | ⟨g, cap, cur, e, hg, _, h1, h2, _⟩
  · exact ⟨none, 0, by rw [e, hn], .inl ⟨rfl, rfl⟩, by omega, fun F W _ _ => ⟨rfl, fun j hj => absurd hj (by omega)⟩⟩
  · subst e
    refine ⟨_, cap, rfl, .inr ⟨g, 0, rfl⟩, h1, fun F W hk hF => ⟨rfl, fun j hj => ⟨g, 0, rfl, ?_⟩⟩⟩
    rw [Nat.zero_add]
    refine hk.cell (p := ⟨g, j, none⟩) (hF g hg) ?_
    rw [World.ownsRow.cellAt h0 j (by omega)]
    rw [List.getElem?_map, List.getElem?_eq_getElem hj]
    simp [List.getD_eq_getElem?_getD, List.getElem?_eq_getElem hj]

theorem infoI : (Try.prog.info? 3).map (fun i => (i.zero, i.size, i.bytes)) = some (some (.int .i64 0), 1, 8) := by kernel_rfl

theorem laidI1 (w : World) (v0 : Value) (t : TypeId) : ∀ j u, [v0][j]? = some u → (w.alloc (.cells #[v0] t)).cell? ((⟨w.heap.size, 0, none⟩ : Addr).add j) = some u := by
  intro j u hu
  rw [Addr.add_lit, Nat.zero_add]
  have hg : (w.alloc (.cells #[v0] t)).heap[w.heap.size]? = some (.cells #[v0] t) := heap_alloc_new w _
  rw [cell_of_row _ _ j _ _ _ hg]
  simpa using hu

/-- the ops' numbers are right one by one -/
theorem batC_one {fs : List OpB} {o : OpB} {s j : Nat} {last : Int} (hc : chkL fs = 0) (ho : o ∈ fs) (hn : hasN (s : Int) (fs.length : Int) = true) (hj : j < fs.length) (hl : last < ((s + j : Nat) : Int)) : batC [o] ((s + j : Nat) : Int) [1] last = 0 := by
  obtain ⟨_, h2⟩ := chkL_mem hc
  have h3 : chkL [o] = 0 := by
    unfold chkL
    rw [if_neg (by simp)]
    unfold chkOps
    rw [if_pos (h2 o ho)]
    rfl
  unfold hasN at hn
  have h4 := of_decide_eq_true hn
  have h5 : hasN ((s + j : Nat) : Int) (([o].length : Nat) : Int) = true := by
    unfold hasN
    refine decide_eq_true ⟨by omega, by omega, ?_⟩
    simp
    omega
  unfold batC
  rw [if_pos h3, if_pos h5, if_neg (by simp [noHt]), if_neg (by omega)]

theorem batC_zero {os : List OpB} {s : Int} {hs : List Int} {last : Int} (h : batC os s hs last = 0) : chkL os = 0 ∧ hasN s os.length = true ∧ last < s := by
  unfold batC at h
  by_cases h1 : chkL os = 0
  · rw [if_pos h1] at h
    by_cases h2 : hasN s os.length = true
    · rw [if_pos h2] at h
      by_cases h3 : (hs.take os.length).any noHt = true
      · rw [if_pos h3] at h; cases h
      · rw [if_neg h3] at h
        by_cases h4 : s ≤ last
        · rw [if_pos h4] at h; cases h
        · exact ⟨h1, h2, by omega⟩
    · rw [if_neg h2] at h; cases h
  · rw [if_neg h1] at h; exact absurd h h1

theorem verO_lens {fs : List OpB} {s : Nat} (h : chkL fs = 0) : ∀ e ∈ verO fs s, e.1.length ≤ 1000 ∧ e.2.2.2.length ≤ 1000 := by
  intro e he
  obtain ⟨o, ho, e1, e2⟩ := verO_mem he
  obtain ⟨_, h1, h2, h3, _⟩ := chkOp_len ((chkL_mem h).2 o ho)
  rw [e1, e2]
  omega

theorem spnO_lens {fs : List OpB} {s : Nat} (h : chkL fs = 0) : ∀ e ∈ spnO fs s, e.1.length ≤ 1000 ∧ e.2.1.length ≤ 1000 := by
  intro e he
  obtain ⟨o, ho, e1, e2⟩ := spnO_mem he
  obtain ⟨_, h1, h2, h3, _⟩ := chkOp_len ((chkL_mem h).2 o ho)
  rw [e1, e2]
  omega

/-- b, behind j of the ops -/
def BatB (PB : Nat → Prop) (W6 wr : World) (b : Nat) (fs : List OpB) (s j : Nat) : Prop :=
  Keeps PB W6 wr ∧ ∃ LB : List EnB, LB.Perm (verO (fs.take j) s) ∧ MmP (fun q => PB q ∨ W6.heap.size ≤ q) wr b LB (spnO (fs.take j) s) (if j = 0 then 0 else ((s + j - 1 : Nat) : Int))

theorem BatB.next {PB : Nat → Prop} {W6 wr W W' : World} {b : Nat} {fs : List OpB} {s j : Nat} {LB : List EnB} {e : Ending} {last : Int} (h1 : Keeps PB W6 wr) (h2 : LB.Perm (verO (fs.take j) s)) (hj : j < fs.length) (hb : Below wr.heap.size wr W)
    (hq : BatQ (fun q => PB q ∨ W6.heap.size ≤ q) W b LB (spnO (fs.take j) s) last [fs[j]] (s + j) 0 e W') : BatB PB W6 W' b fs s (j + 1) := by
  obtain ⟨_, hk, _, h4⟩ := hq
  obtain ⟨L2, hp, hM⟩ := h4 rfl
  have hjl : (fs.take j).length = j := by rw [List.length_take]; omega
  have htk : fs.take (j + 1) = fs.take j ++ [fs[j]] := List.take_succ_eq_append_getElem hj
  have hk2 : Keeps PB W6 W' := (h1.then (Below.keeps hb (fun _ => False)) (fun i hi => hi.elim)).then hk (fun i hi => hi)
  have hs : W6.heap.size ≤ W.heap.size := Nat.le_trans h1.size hb.size
  refine ⟨hk2, L2, ?_, ?_⟩
  · rw [htk, verO_snoc, hjl]
    have e1 : verO [fs[j]] (s + j) = if fs[j].1 = 3 then [] else [(fs[j].2.1, s + j, fs[j].1, fs[j].2.2)] := by
      by_cases h : fs[j].1 = 3 <;> simp [verO, h]
    rw [← e1]
    exact hp.trans (h2.append_right _)
  · rw [htk, spnO_snoc, hjl]
    have e1 : spnO [fs[j]] (s + j) = if fs[j].1 = 3 then [(fs[j].2.1, fs[j].2.2, s + j)] else [] := by
      by_cases h : fs[j].1 = 3 <;> simp [spnO, h]
    rw [← e1, if_neg (by omega)]
    have h9 := hM.mono (Q := fun q => PB q ∨ W6.heap.size ≤ q) (fun q _ hq => hq.elim id (fun h8 => .inr (Nat.le_trans hs h8)))
    simpa using h9

/-- what came in, by places that are told -/
theorem Arg.lit10 {w : World} {v : Value} {l : List UInt8} (h : Arg w v l) : ∃ a c, v = .slice a l.length c ∧ l.length ≤ c ∧ c ≤ 9223372036854775807 ∧ ∀ j (hj : j < l.length), ∃ b off, a = some ⟨b, off, none⟩ ∧ w.cell? ⟨b, off + j, none⟩ = some (.int .u8 (l[j].toNat : Int)) := by
  rcases h with ⟨rfl, rfl⟩ | ⟨a, cap, rfl, h1, h2, h3⟩
  · exact ⟨none, 0, rfl, by simp, by omega, fun j hj => by simp at hj⟩
  · refine ⟨some a, cap, rfl, h1, by unfold maxLen at h2; omega, fun j hj => ?_⟩
    have hc := h3 j _ (bv_get l j hj)
    have hc0 := h3 0 _ (bv_get l 0 (by omega))
    have hs : a.spot = none := by simpa [Addr.add] using World.cell?_spot hc0
    obtain ⟨b, off, sp⟩ := a
    simp only at hs
    subst hs
    exact ⟨b, off, rfl, by rw [Addr.add_lit] at hc; exact hc⟩

end Go.Proofs.Ytgphjgpibjhbjaa

/- MemoBatches: a batch is its ops one by one. -/
namespace Go.Proofs.Ytgphjgpibjhbjaa
set_option maxRecDepth 100000
open Go.RowKit
set_option linter.unusedVariables false
set_option linter.unusedSimpArgs false

set_option maxHeartbeats 8000000 in
theorem mbatches (w : World) (v vh : Value) (os fs : List OpB) (l : List UInt8) (s : Nat) (HF : Hid (fewO 66 os = fs)) (hv : ArgO w v os) (hh : Arg w vh l) (hs64 : s < 18446744073709551616) :
    Calls Try.prog 7 #[v, .int .u64 (s : Int), vh] w fun e w' => e = .returned (.bool true) ∧ Below w.heap.size w w' := by
  obtain ⟨i0, hi, hz0, hz1, hz2⟩ := info_parts infoI
  have HV : Hid (ArgO w v os) := hv
  have HH : Hid (Arg w vh l) := hh
  obtain ⟨ha, hc, rfl, h1, h2, _⟩ := hh.lit10
  obtain ⟨N, hN⟩ : ∃ N, l.length = N := ⟨_, rfl⟩
  rw [hN] at h1 HH ⊢
  have HN : Hid (l.length = N) := hN
  obtain ⟨va, vc, rfl, _⟩ := hv
  clear hN
  have hA := mawake_any w
  go_enter Try.func7, Try.ntmps7
  go_wp2_with fail
  refine hA.mono ?_
  rintro e w1 ⟨rfl, hb1⟩
  have HB1 : Hid (Below w.heap.size w w1) := hb1
  have hfw := fewop_any w1 _ os 66 (LsO.belowA HV.out hb1 (Nat.le_refl _)) (by omega)
  rw [HF.out] at hfw
  clear hA hb1
  go_wp2_with fail
  refine hfw.mono ?_
  rintro e w2 ⟨x, rfl, ox, hb2⟩
  have HB2 : Hid (Below w.heap.size w w2) := bsplit HB1.out hb2
  have HO : Hid (OwnO w1.heap.size w2 x fs) := ox
  obtain ⟨xa, xc, rfl, ho1, ho2, _⟩ := ox.rd
  unfold maxLen at ho2
  obtain ⟨K, hK⟩ : ∃ K, fs.length = K := ⟨_, rfl⟩
  rw [hK] at HO ho1
  have HK : Hid (fs.length = K) := hK
  have hn1 := mmP_new w2
  rw [hK]
  clear hfw hb2 ox hK HV HF HB1
  go_wp2_with fail
  refine hn1.mono ?_
  rintro e w3 ⟨a, rfl, hMa, hb3⟩
  have HMa : Hid (MmP (fun q => w2.heap.size ≤ q ∧ q < w3.heap.size) w3 a [] [] 0) := hMa.mono (fun q h1 h2 => ⟨h2, h1⟩)
  have HB3 : Hid (Below w2.heap.size w2 w3) := hb3
  have hn2 := mmP_new w3
  clear hn1 hMa hb3
  go_wp2_with fail
  refine hn2.mono ?_
  rintro e w4 ⟨b, rfl, hMb, hb4⟩
  have HMb : Hid (MmP (fun q => w3.heap.size ≤ q ∧ q < w4.heap.size) w4 b [] [] 0) := hMb.mono (fun q h1 h2 => ⟨h2, h1⟩)
  have HB4 : Hid (Below w3.heap.size w3 w4) := hb4
  have HW4 : Hid (Below w.heap.size w w4) := bsplit (bsplit HB2.out HB3.out) hb4
  clear hn2 hMb hb4
  go_wp2_with fail
  go_loopg [9, 23] N (fun gk pv iv wr => ∃ (j n c' : Nat) (a' : Option Addr), gk + j = N ∧ iv = .int .i64 (j : Int) ∧ pv = .slice a' n c' ∧ n ≤ 66 ∧ Hid ((hgt l j).length = n) ∧ Hid (RowI w4.heap.size wr pv (hgt l j)) ∧ Hid (Below w4.heap.size w4 wr))
  case atStart => exact ⟨0, 0, 0, none, by omega, rfl, rfl, by omega, rfl, World.ownsRow_nil _ _ _ _, Below.refl _ _⟩
  case round =>
    obtain ⟨j, n, c', a', hj, rfl, rfl, hn66, HL, HR, HB⟩ := hrel
    by_cases hlt : j < N
    · have hlt2 : j < l.length := by rw [HN.out]; exact hlt
      obtain ⟨q1, q2⟩ := gk_nxt hj hlt
      obtain ⟨_, _, e9, _, _, h3⟩ := ((HH.out.below HW4.out (Nat.le_refl _)).below HB.out (Nat.le_refl _)).lit10
      rw [HN.out] at e9
      cases e9
      obtain ⟨gb, off, rfl, hcell⟩ := h3 j hlt2
      obtain ⟨z, hz⟩ : ∃ z, l[j].toNat = z := ⟨_, rfl⟩
      rw [hz] at hcell
      by_cases h66 : j < 66
      · obtain ⟨k, hk⟩ : ∃ k, z % 8 = k := ⟨_, rfl⟩
        have hk8 : k < 8 := by omega
        have hkt : (z : Int).tmod 8 = (k : Int) := by rw [← hk]; rfl
        have HNX : Hid (hgt l (j + 1) = hgt l j ++ [1 + (k : Int)]) := by show _ = _; rw [hgt_next hlt2 h66, hz, hk]
        have hbe := below_box4 wr (.cells #[.int .i64 (1 + (k : Int))] 3)
        have hlit := laidI1 wr (.int .i64 (1 + (k : Int))) 3
        have HBE : Hid (Below w4.heap.size w4 (wr.alloc (.cells #[.int .i64 (1 + (k : Int))] 3))) := bsplit HB.out hbe
        have hse := HBE.out.size
        have hrow := HR.out.below hbe
        unfold RowI at hrow
        rw [HL.out] at hrow
        have HLT : Hid (∀ k', (Value.slice a' n c').ownBlock = some k' → w4.heap.size ≤ k') := fun k' e => (hrow.lt k' e).1
        have HPS : Hid (∀ g4 c4 w4', w4'.ownsRow w4.heap.size 3 1 (.slice (some ⟨g4, 0, none⟩) (n + 1) c4) (n + 1) ((hgt l j).map (fun h => Value.int .i64 h) ++ [.int .i64 (1 + (k : Int))]) → (wr.alloc (.cells #[.int .i64 (1 + (k : Int))] 3)).grownBy w4' (Value.slice a' n c').ownBlock → (hgt l (j + 1)).length = n + 1 ∧ RowI w4.heap.size w4' (.slice (some ⟨g4, 0, none⟩) (n + 1) c4) (hgt l (j + 1)) ∧ Below w4.heap.size w4 w4') := by
          intro g4 c4 w4' hown hgrow
          have hl1 : (hgt l (j + 1)).length = n + 1 := by rw [HNX.out, List.length_append, HL.out]; rfl
          refine ⟨hl1, ?_, HBE.out.grown hgrow HBE.out.size HLT.out⟩
          unfold RowI
          rw [hl1, HNX.out, List.map_append]
          exact hown
        have HN67 : Hid (n + 1 ≤ 66) := by show _ ≤ _; have h9 := hgt_len l (j + 1); rw [HNX.out, List.length_append, HL.out] at h9; simpa using h9
        have hu8 : k ≤ 255 := by omega
        clear hk hz hbe h3 HNX HLT HR HL
        go_wp2_with (first | (at_builtin; refine wpList_append_lies _ rfl (.tmp 30) (.tmp 35) 67 rfl w4.heap.size 3 i0 (.int .i64 0) 1 8 Try.underlying67 hi hz0 hz1 hz2 rfl (by decide) (.slice a' n c') n ((hgt l j).map (fun h => Value.int .i64 h)) rfl hrow ⟨wr.heap.size, 0, none⟩ 1 1 [.int .i64 (1 + (k : Int))] rfl rfl hlit (by intro u hu; simp at hu; rw [hu]; rfl) (by decide) (by simp only [maxLen]; omega) (by omega) hse _ rfl ?_; intro g4 c4 w5 hown hgrow hat hlt4; have HP4 : Hid _ := HPS.out g4 c4 w5 hown hgrow; clear hown hgrow hat hlt4) | fail)
        clear hrow hlit hse
        go_roundg (gk - 1)
        case measure => exact q1
        case rel => exact ⟨j + 1, n + 1, c4, _, q2, by go_num, rfl, HN67.out, HP4.out.1, HP4.out.2.1, HP4.out.2.2⟩
      · have HNX : Hid (hgt l (j + 1) = hgt l j) := hgt_stay hlt2 h66
        have h66I : ¬ (j : Int) < 66 := by omega
        clear hz h3
        go_wp2_with fail
        go_roundg (gk - 1)
        case measure => exact q1
        case rel => exact ⟨j + 1, n, c', a', q2, by go_num, rfl, hn66, by show _ = _; rw [HNX.out]; exact HL.out, by rw [HNX.out]; exact HR.out, HB⟩
    · have hjN : j = N := by omega
      subst hjN
      obtain ⟨pa, pc, ep, hpa, hpn, hprd⟩ := HR.out.rdi
      rw [HL.out] at ep hpn hprd
      cases ep
      have HPR : Hid (∀ (F : Nat → Prop) (W : World), Keeps F wr W → (∀ q, w4.heap.size ≤ q → ¬ F q) → RdI W a' n (hgt l j)) := hprd
      have HBw : Hid (Below w2.heap.size w2 wr) := bsplit (bsplit HB3.out HB4.out) HB.out
      have HWr : Hid (Below w.heap.size w wr) := bsplit HW4.out HB.out
      have HPA : Hid (MmP (fun q => w2.heap.size ≤ q ∧ q < w3.heap.size) wr a [] [] 0) := (HMa.out.below HB4.out).below HB.out
      have HPB : Hid (MmP (fun q => w3.heap.size ≤ q ∧ q < w4.heap.size) wr b [] [] 0) := HMb.out.below HB.out
      have HSZ : Hid (w2.heap.size ≤ w3.heap.size ∧ w3.heap.size ≤ w4.heap.size ∧ w4.heap.size ≤ wr.heap.size ∧ w.heap.size ≤ w2.heap.size) := ⟨HB3.out.size, HB4.out.size, HB.out.size, HB2.out.size⟩
      have hbat := mmP_batch (fun q => w2.heap.size ≤ q ∧ q < w3.heap.size) wr a [] [] 0 (.slice xa K xc) fs s a' n c' (hgt l j) HPA.out
        (fun W' hk => LsO.below HO.out.rd (HBw.out.trans (hk.below (fun i hi => hi.1) HBw.out.size)) (Nat.le_refl _))
        (fun W' hk => HPR.out _ W' hk (fun q hq h => by have := HSZ.out; omega)) hpa hpn (by omega) (fun h0 => by have := (chkL_mem h0).1; simp; omega) (by simp) (by simp) hs64
      obtain ⟨c, hc⟩ : ∃ c, batC fs (s : Int) (hgt l j) 0 = c := ⟨_, rfl⟩
      rw [hc] at hbat
      have HC : Hid (batC fs (s : Int) (hgt l j) 0 = c) := hc
      clear hc hpa hpn hprd HPR HMa HMb HB HR HL HB2 HB3 HB4 HW4 HN HH h1 h2 hh
      go_wp2_with fail
      refine hbat.mono ?_
      rintro e w6 ⟨rfl, hk, h5, h6⟩
      have HK6 : Hid (Keeps (fun q => w2.heap.size ≤ q ∧ q < w3.heap.size) wr w6) := hk
      have HW6 : Hid (Below w.heap.size w w6) := HWr.out.trans (hk.below (fun i hi => Nat.le_trans HSZ.out.2.2.2 hi.1) HWr.out.size)
      have HB6 : Hid (Below w2.heap.size w2 w6) := HBw.out.trans (hk.below (fun i hi => hi.1) HBw.out.size)
      clear hbat
      by_cases hc0 : c = 0
      · subst hc0
        obtain ⟨LA, hpA, hMA⟩ := h6 rfl
        obtain ⟨hck, hhas, hs0⟩ := batC_zero HC.out
        have HCK : Hid (chkL fs = 0 ∧ hasN (s : Int) (fs.length : Int) = true) := ⟨hck, hhas⟩
        have HPE : Hid (LA.Perm (verO fs s)) := hpA
        have HA6 : Hid (MmP (fun q => (w2.heap.size ≤ q ∧ q < w3.heap.size) ∨ (wr.heap.size ≤ q ∧ q < w6.heap.size)) w6 a LA (spnO fs s) (if K = 0 then 0 else ((s + K - 1 : Nat) : Int))) := by
          have h9 := hMA.mono (Q := fun q => (w2.heap.size ≤ q ∧ q < w3.heap.size) ∨ (wr.heap.size ≤ q ∧ q < w6.heap.size)) (fun q hq h => h.imp id (fun h8 => ⟨h8, hq⟩))
          rw [HK.out] at h9
          exact h9
        have HBS : Hid (BatB (fun q => w3.heap.size ≤ q ∧ q < w4.heap.size) w6 w6 b fs s 0) := ⟨Keeps.refl _ _, [], by simp [verO], (HPB.out.keeps hk (fun q _ hq h => by omega)).mono (fun q _ h => .inl h)⟩
        have hsz6 : wr.heap.size ≤ w6.heap.size := hk.size
        have HSZ6 : Hid (wr.heap.size ≤ w6.heap.size) := hsz6
        have hK64 : K ≤ 64 := by have := (chkL_mem hck).1; rw [HK.out] at this; exact this
        have HS1 : Hid (1 ≤ (s : Int) ∧ (s : Int) + ((K : Int) - 1) ≤ 72057594037927935 ∧ (s : Int) ≤ 72057594037927935) := by
          have h9 := hhas
          unfold hasN at h9
          have h8 := of_decide_eq_true h9
          rw [HK.out] at h8
          exact ⟨h8.1, by omega, h8.2.1⟩
        clear hpA hMA hck hhas hs0 h5 h6 hk hsz6 HPA HPB HC HBw HWr
        go_wp2_with fail
        obtain ⟨w5, rfl⟩ : ∃ w5, w5 = wr := ⟨_, rfl⟩
        go_loopg [67] K (fun gk iv wq => ∃ j2 : Nat, gk + j2 = K ∧ iv = .int .i64 (j2 : Int) ∧ Hid (BatB (fun q => w3.heap.size ≤ q ∧ q < w4.heap.size) w6 wq b fs s j2))
        case atStart => exact ⟨0, by omega, rfl, HBS⟩
        case round =>
          obtain ⟨j2, hj2, rfl, HI⟩ := hrel
          have hsq := HI.out.1.size
          have HBq : Hid (Below w2.heap.size w2 wr) := HB6.out.trans (HI.out.1.below (fun i hi => Nat.le_trans HSZ.out.1 hi.1) HB6.out.size)
          by_cases hlt : j2 < K
          · have hlt2 : j2 < fs.length := by rw [HK.out]; exact hlt
            obtain ⟨q1, q2⟩ := gk_nxt hj2 hlt
            obtain ⟨hk2, LB, hp2, hM2⟩ := HI.out
            obtain ⟨_, _, e9, _, _, h3⟩ := LsO.below HO.out.rd HBq.out (Nat.le_refl _)
            rw [HK.out] at e9
            cases e9
            obtain ⟨gb, off, rfl, xv, yv, d0, d1, d2, rx, ry⟩ := h3 j2 hlt2
            obtain ⟨x1, x2, ex⟩ := rx.len
            obtain ⟨y1, y2, ey⟩ := ry.len
            subst ex ey
            have hb0 := below_box wr #[.int .u8 (fs[j2].1.toNat : Int), .slice x1 fs[j2].2.1.length x2, .slice y1 fs[j2].2.2.length y2] 63
            have hlast : ∀ e ∈ LB, (e.2.1 : Int) ≤ (if j2 = 0 then 0 else ((s + j2 - 1 : Nat) : Int)) := fun e he => by
              have h9 := verO_seq (hp2.mem_iff.1 he)
              rw [List.length_take] at h9
              split <;> omega
            have hlen : LB.length + 1 ≤ 4000 := by
              have h9 := hp2.length_eq
              have h8 := verO_len (fs.take j2) s
              rw [List.length_take] at h8
              omega
            have hss : (spnO (fs.take j2) s).length ≤ 10000 := by
              have h8 := verO_len (fs.take j2) s
              rw [List.length_take] at h8
              omega
            have hS1 := HS1.out
            have hdo := mmP_do _ _ b LB (spnO (fs.take j2) s) _ fs[j2].1 (.slice x1 fs[j2].2.1.length x2) (.slice y1 fs[j2].2.2.length y2) fs[j2].2.1 fs[j2].2.2 (s + j2) 1 (hM2.below hb0) (fun W' hk' => by
              have hbb : Below w2.heap.size (wr.alloc (.cells #[.int .u8 (fs[j2].1.toNat : Int), .slice x1 fs[j2].2.1.length x2, .slice y1 fs[j2].2.2.length y2] 63)) W' := hk'.below (fun i hi => by have := HSZ.out; have := HSZ6.out; omega) (Nat.le_trans HBq.out.size hb0.size)
              have hbc : Below w2.heap.size wr W' := (hb0.mono HBq.out.size).trans hbb
              have hall : Below w2.heap.size w2 W' := HBq.out.trans hbc
              obtain ⟨_, _, e9, _, _, h3'⟩ := LsO.below HO.out.rd hall (Nat.le_refl _)
              cases e9
              obtain ⟨gb', off', eg, xv', yv', d0', d1', d2', rx', ry'⟩ := h3' j2 hlt2
              cases eg
              obtain ⟨_, _, e8, _, _, h2'⟩ := HO.out.rd
              cases e8
              obtain ⟨gb'', off'', eg, xv'', yv'', d0'', d1'', d2'', _, _⟩ := h2' j2 hlt2
              cases eg
              have a1 := (HBq.out.cell (World.block_lt_of_cell? w2 _ d1'')).trans d1''
              have a2 := (HBq.out.cell (World.block_lt_of_cell? w2 _ d2'')).trans d2''
              have b1 := (hall.cell (World.block_lt_of_cell? w2 _ d1'')).trans d1''
              have b2 := (hall.cell (World.block_lt_of_cell? w2 _ d2'')).trans d2''
              rw [d1] at a1
              rw [d2] at a2
              rw [d1'] at b1
              rw [d2'] at b2
              cases a1
              cases a2
              cases b1
              cases b2
              exact ⟨rx', ry'⟩) hlen hss hlast (by omega)
            rw [batC_one HCK.out.1 (List.getElem_mem hlt2) HCK.out.2 hlt2 (by split <;> omega)] at hdo
            have hdo2 := hdo.mono (R' := fun e W' => e = .returned (.int .i64 0) ∧ BatB (fun q => w3.heap.size ≤ q ∧ q < w4.heap.size) w6 W' b fs s (j2 + 1)) (fun e W' hq => ⟨hq.1, BatB.next hk2 hp2 hlt2 hb0 hq⟩)
            obtain ⟨z, hz⟩ : ∃ z : Int, ((s + j2 : Nat) : Int) = z := ⟨_, rfl⟩
            have u1 : IntKind.u64.wrap (j2 : Int) = (j2 : Int) := by rw [IntKind.wrap_u64]; omega
            have u2 : IntKind.u64.wrap ((s : Int) + (j2 : Int)) = z := by rw [← hz, IntKind.wrap_u64]; omega
            rw [hz] at hdo2
            obtain ⟨nl, hnl⟩ : ∃ nl, fs[j2].2.1.length = nl := ⟨_, rfl⟩
            obtain ⟨ml, hml⟩ : ∃ ml, fs[j2].2.2.length = ml := ⟨_, rfl⟩
            obtain ⟨kk, hkk⟩ : ∃ kk : Int, (fs[j2].1.toNat : Int) = kk := ⟨_, rfl⟩
            rw [hnl, hml, hkk] at hdo2
            rw [hkk] at d0
            rw [hnl] at d1
            rw [hml] at d2
            clear hdo hM2 hp2 hk2 h3 rx ry hb0 hlast hlen hss hS1 hz hnl hml hkk HI
            go_wp2_with fail
            refine hdo2.mono ?_
            rintro e w9 ⟨rfl, h9⟩
            have HI9 : Hid (BatB (fun q => w3.heap.size ≤ q ∧ q < w4.heap.size) w6 w9 b fs s (j2 + 1)) := h9
            clear hdo2 h9
            go_wp2_with fail
            go_roundg (gk - 1)
            case measure => exact q1
            case rel => exact ⟨j2 + 1, q2, by go_num, HI9⟩
          · have hjK : j2 = K := by omega
            subst hjK
            obtain ⟨hk2, LB, hp2, hM2⟩ := HI.out
            have htk : fs.take j2 = fs := by rw [← HK.out, List.take_length]
            rw [htk] at hp2 hM2
            have hLL : LB = LA := rise_unique hM2.rise HA6.out.rise (hp2.trans HPE.out.symm)
            subst hLL
            obtain ⟨SP, hSP⟩ : ∃ SP, spnO fs s = SP := ⟨_, rfl⟩
            obtain ⟨la, hla⟩ : ∃ la : Int, (if j2 = 0 then 0 else ((s + j2 - 1 : Nat) : Int)) = la := ⟨_, rfl⟩
            have hA := HA6.out.keeps hk2 (fun q _ hq h => by have := HSZ.out; have := HSZ6.out; omega)
            rw [hSP, hla] at hA hM2
            have HLE : Hid (∀ e ∈ LB, e.1.length ≤ 1000 ∧ e.2.2.2.length ≤ 1000) := fun e he => verO_lens HCK.out.1 e (hp2.mem_iff.1 he)
            have HLS : Hid (∀ e ∈ SP, e.1.length ≤ 1000 ∧ e.2.1.length ≤ 1000) := fun e he => by rw [← hSP] at he; exact spnO_lens HCK.out.1 e he
            have HNS : Hid (SP.length ≤ 4000) := by show _ ≤ _; rw [← hSP]; have := verO_len fs s; rw [HK.out] at this; omega
            have MA : Hid (MmP (fun q => (w2.heap.size ≤ q ∧ q < w3.heap.size) ∨ (w5.heap.size ≤ q ∧ q < w6.heap.size)) wr a LB SP la) := hA
            have MB : Hid (MmP (fun q => (w3.heap.size ≤ q ∧ q < w4.heap.size) ∨ w6.heap.size ≤ q) wr b LB SP la) := hM2
            have HWq : Hid (Below w.heap.size w wr) := HW6.out.trans (hk2.below (fun i hi => by have := HSZ.out; omega) HW6.out.size)
            have hen := mmP_entries _ wr a LB SP la MA.out HLE.out
            clear hk2 hp2 hM2 hSP hla hA htk HI HA6 HPE HBS
            go_wp2_with fail
            refine hen.mono ?_
            rintro e w9 ⟨v9, rfl, ov9, hb9⟩
            have R9 : Hid (RdE w9 v9 LB) := ov9.own.rd
            have MA9 : Hid (MmP (fun q => (w2.heap.size ≤ q ∧ q < w3.heap.size) ∨ (w5.heap.size ≤ q ∧ q < w6.heap.size)) w9 a LB SP la) := MA.out.below hb9
            have MB9 : Hid (MmP (fun q => (w3.heap.size ≤ q ∧ q < w4.heap.size) ∨ w6.heap.size ≤ q) w9 b LB SP la) := MB.out.below hb9
            have HW9 : Hid (Below w.heap.size w w9) := bsplit HWq.out hb9
            obtain ⟨e1, e2, rfl, _⟩ := ov9.own.rd
            have hen2 := mmP_entries _ w9 b LB SP la MB9.out HLE.out
            clear hen hb9 ov9 MA MB
            go_wp2_with fail
            refine hen2.mono ?_
            rintro e w10 ⟨v10, rfl, ov10, hb10⟩
            have MA10 : Hid (MmP (fun q => (w2.heap.size ≤ q ∧ q < w3.heap.size) ∨ (w5.heap.size ≤ q ∧ q < w6.heap.size)) w10 a LB SP la) := MA9.out.below hb10
            have MB10 : Hid (MmP (fun q => (w3.heap.size ≤ q ∧ q < w4.heap.size) ∨ w6.heap.size ≤ q) w10 b LB SP la) := MB9.out.below hb10
            have HW10 : Hid (Below w.heap.size w w10) := bsplit HW9.out hb10
            have hse := sameens_any w10 _ v10 LB LB true (rdE_below R9.out hb10 (Nat.le_refl _)) ov10.own.rd (by simp)
            obtain ⟨f1, f2, rfl, _⟩ := ov10.own.rd
            clear hen2 hb10 ov10 MA9 MB9 R9
            go_wp2_with fail
            refine hse.mono ?_
            rintro e w11 ⟨rfl, hb11⟩
            have MA11 : Hid (MmP (fun q => (w2.heap.size ≤ q ∧ q < w3.heap.size) ∨ (w5.heap.size ≤ q ∧ q < w6.heap.size)) w11 a LB SP la) := MA10.out.below hb11
            have MB11 : Hid (MmP (fun q => (w3.heap.size ≤ q ∧ q < w4.heap.size) ∨ w6.heap.size ≤ q) w11 b LB SP la) := MB10.out.below hb11
            have HW11 : Hid (Below w.heap.size w w11) := bsplit HW10.out hb11
            have hs1 := mmP_spans _ w11 a LB SP la MA11.out HNS.out HLS.out
            clear hse hb11 MA10 MB10
            go_wp2_with fail
            refine hs1.mono ?_
            rintro e w12 ⟨v12, rfl, ov12, hb12⟩
            have MA12 : Hid (MmP (fun q => (w2.heap.size ≤ q ∧ q < w3.heap.size) ∨ (w5.heap.size ≤ q ∧ q < w6.heap.size)) w12 a LB SP la) := MA11.out.below hb12
            have MB12 : Hid (MmP (fun q => (w3.heap.size ≤ q ∧ q < w4.heap.size) ∨ w6.heap.size ≤ q) w12 b LB SP la) := MB11.out.below hb12
            have HW12 : Hid (Below w.heap.size w w12) := bsplit HW11.out hb12
            have R12 : Hid (RdS w12 v12 SP) := ov12.rd
            obtain ⟨g1, g2, rfl, _⟩ := ov12.rd
            have hs2 := mmP_spans _ w12 b LB SP la MB12.out HNS.out HLS.out
            clear hs1 hb12 ov12 MA11 MB11
            go_wp2_with fail
            refine hs2.mono ?_
            rintro e w13 ⟨v13, rfl, ov13, hb13⟩
            have MA13 : Hid (MmP (fun q => (w2.heap.size ≤ q ∧ q < w3.heap.size) ∨ (w5.heap.size ≤ q ∧ q < w6.heap.size)) w13 a LB SP la) := MA12.out.below hb13
            have MB13 : Hid (MmP (fun q => (w3.heap.size ≤ q ∧ q < w4.heap.size) ∨ w6.heap.size ≤ q) w13 b LB SP la) := MB12.out.below hb13
            have HW13 : Hid (Below w.heap.size w w13) := bsplit HW12.out hb13
            have hsm := samesp_any w13 _ v13 SP SP true (rdS_below R12.out hb13 (Nat.le_refl _)) ov13.rd (by simp)
            obtain ⟨k1, k2, rfl, _⟩ := ov13.rd
            clear hs2 hb13 ov13 MA12 MB12 R12
            go_wp2_with fail
            refine hsm.mono ?_
            rintro e w14 ⟨rfl, nn, hw14⟩
            have hb14 : Below w13.heap.size w13 w14 := by rw [hw14]; exact below_drewN (Below.refl _ _) _
            have MA14 : Hid (MmP (fun q => (w2.heap.size ≤ q ∧ q < w3.heap.size) ∨ (w5.heap.size ≤ q ∧ q < w6.heap.size)) w14 a LB SP la) := MA13.out.below hb14
            have MB14 : Hid (MmP (fun q => (w3.heap.size ≤ q ∧ q < w4.heap.size) ∨ w6.heap.size ≤ q) w14 b LB SP la) := MB13.out.below hb14
            have HW14 : Hid (Below w.heap.size w w14) := bsplit HW13.out hb14
            have hz1 := mmP_size _ w14 a LB SP la MA14.out HLE.out HNS.out HLS.out
            obtain ⟨Z, hZ⟩ : ∃ Z, sizL LB + spSz SP = Z := ⟨_, rfl⟩
            rw [hZ] at hz1
            have HZ : Hid (sizL LB + spSz SP = Z) := hZ
            clear hsm hb14 hw14 MA13 MB13 hZ
            go_wp2_with fail
            refine hz1.mono ?_
            rintro e w15 ⟨rfl, hb15⟩
            have MA15 : Hid (MmP (fun q => (w2.heap.size ≤ q ∧ q < w3.heap.size) ∨ (w5.heap.size ≤ q ∧ q < w6.heap.size)) w15 a LB SP la) := MA14.out.below hb15
            have MB15 : Hid (MmP (fun q => (w3.heap.size ≤ q ∧ q < w4.heap.size) ∨ w6.heap.size ≤ q) w15 b LB SP la) := MB14.out.below hb15
            have HW15 : Hid (Below w.heap.size w w15) := bsplit HW14.out hb15
            have hz2 := mmP_size _ w15 b LB SP la MB15.out HLE.out HNS.out HLS.out
            rw [HZ.out] at hz2
            clear hz1 hb15 MA14 MB14
            go_wp2_with fail
            refine hz2.mono ?_
            rintro e w16 ⟨rfl, hb16⟩
            have MA16 : Hid (MmP (fun q => (w2.heap.size ≤ q ∧ q < w3.heap.size) ∨ (w5.heap.size ≤ q ∧ q < w6.heap.size)) w16 a LB SP la) := MA15.out.below hb16
            have MB16 : Hid (MmP (fun q => (w3.heap.size ≤ q ∧ q < w4.heap.size) ∨ w6.heap.size ≤ q) w16 b LB SP la) := MB15.out.below hb16
            have HW16 : Hid (Below w.heap.size w w16) := bsplit HW15.out hb16
            have hl1 := mmP_last _ w16 a LB SP la MA16.out
            have hl2 := mmP_last _ w16 b LB SP la MB16.out
            clear hz2 hb16 MA15 MB15
            go_wp2_with fail
            refine hl1.mono ?_
            rintro e w17 ⟨rfl, rfl⟩
            clear hl1
            go_wp2_with fail
            refine hl2.mono ?_
            rintro e w18 ⟨rfl, rfl⟩
            clear hl2
            go_wp2
            go_ret
            exact ⟨rfl, HW16.out⟩
      · have hdb : (c != 0) = true := by simp [hc0]
        have hdb2 : (c == 0) = false := by simp [hc0]
        have HMA := (h5 hc0).1
        have hsz := mmP_size _ w6 a [] [] 0 HMA (by simp) (by simp) (by simp)
        simp only [sizL, spSz, List.map_nil, List.sum_nil, Nat.add_zero, Int.cast_ofNat_Int] at hsz
        have HM6 : Hid (MmP (fun q => w2.heap.size ≤ q ∧ q < w3.heap.size) w6 a [] [] 0) := HMA
        clear h5 h6 hk HMA
        go_wp2_with fail
        refine hsz.mono ?_
        rintro e w7 ⟨rfl, hb7⟩
        have HM7 : Hid (MmP (fun q => w2.heap.size ≤ q ∧ q < w3.heap.size) w7 a [] [] 0) := HM6.out.below hb7
        have HW7 : Hid (Below w.heap.size w w7) := bsplit HW6.out hb7
        have hla := mmP_last _ w7 a [] [] 0 HM7.out
        clear hsz hb7
        go_wp2_with fail
        refine hla.mono ?_
        rintro e w8 ⟨rfl, rfl⟩
        have hen := mmP_entries _ w8 a [] [] 0 HM7.out (by simp)
        clear hla
        go_wp2_with fail
        refine hen.mono ?_
        rintro e w9 ⟨v9, rfl, ov9, hb9⟩
        obtain ⟨ea, ec, rfl, _⟩ := ov9.own.rd
        have HM9 : Hid (MmP (fun q => w2.heap.size ≤ q ∧ q < w3.heap.size) w9 a [] [] 0) := HM7.out.below hb9
        have HW9 : Hid (Below w.heap.size w w9) := bsplit HW7.out hb9
        have hsp := mmP_spans _ w9 a [] [] 0 HM9.out (by simp) (by simp)
        clear hen hb9 ov9
        go_wp2_with fail
        refine hsp.mono ?_
        rintro e w10 ⟨v10, rfl, ov10, hb10⟩
        obtain ⟨sa, sc, rfl, _⟩ := ov10.rd
        have HW10 : Hid (Below w.heap.size w w10) := bsplit HW9.out hb10
        clear hsp hb10 ov10
        go_wp2
        go_ret
        exact ⟨rfl, HW10.out⟩

theorem memoBatches_walk (a0 : Option Addr) (len0 cap0 : Nat) (z0 : List OpB) (a1 : Int) (a2 : Option Addr) (len2 cap2 : Nat) (z2 : List Int) (w : World)
    (w0 : ArgO w (.slice a0 len0 cap0) z0) (w1 : (Lit.int .u64 a1).wf = true) (w2 : IsRow .u8 w a2 len2 cap2 z2) :
    Calls Try.prog 7 #[.slice a0 len0 cap0, .int .u64 a1, .slice a2 len2 cap2] w fun e w' => e = .returned (.bool true) ∧ Below w.heap.size w w' := by
  have h := bounds_u64 w1
  obtain ⟨s, rfl⟩ : ∃ s : Nat, a1 = (s : Int) := ⟨a1.toNat, by omega⟩
  exact mbatches w _ _ z0 _ _ s rfl w0 (arg_of w2) (by omega)

end Go.Proofs.Ytgphjgpibjhbjaa
