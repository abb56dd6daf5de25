/- A memo in memory: its box, its list, its set; they lie apart. -/
import Derived.Test.YthcoblmfmbmdkaaTbAddG
import Derived.Test.YthcoblmfmbmdkaaSkInsert
import Derived.Test.YthcoblmfmbmdkaaSkKeep
import Derived.Test.YthcoblmfmbmdkaaBoxes
namespace Go.Proofs.Ythcoblmfmbmdkaa
set_option maxRecDepth 20000
open Go.RowKit
set_option linter.unusedVariables false
set_option linter.unusedSimpArgs false

/-- the blocks of a list: its nodes, and what they hold -/
def FpK (l : Nat) (ts : List Tow) (q : Nat) : Prop := q = l ∨ ∃ T ∈ ts, q = T.b ∨ T.x.ownBlock = some q ∨ T.y.ownBlock = some q

theorem fpK_nb {l : Nat} {ts : List Tow} {a : Nat} (ha : a ≤ ts.length) : FpK l ts (nb l ts a) := by
  rcases nb_cases (l := l) ha with e | ⟨t, ht, e⟩
  · exact .inl e
  · exact .inr ⟨t, ht, .inl e⟩

theorem fpK_lt {w : World} {l : Nat} {ts : List Tow} (h : SkAt w l ts) {q : Nat} (hq : FpK l ts q) : q < w.heap.size := by
  rcases hq with rfl | ⟨T, hT, rfl | hq | hq⟩
  · exact (h.nod 0 (Nat.zero_le _)).lt
  · obtain ⟨a, ha, rfl⟩ := List.getElem_of_mem hT
    have h9 := (h.nod (a + 1) (by omega)).lt
    rw [nb_succ l ha] at h9
    exact h9
  · exact (h.inn T hT).1 q hq
  · exact (h.inn T hT).2 q hq

theorem from_q {B q : Nat} {v : Value} (h : From B v) (hq : v.ownBlock = some q) : B ≤ q := by
  unfold Value.ownBlock at hq
  split at hq
  · rename_i a n c
    cases hq
    exact h _ _ _ rfl
  · cases hq

/-- a tower more -/
theorem fpK_ins {l c q B : Nat} {ts : List Tow} {T : Tow} (hT : B ≤ T.b ∧ From B T.x ∧ From B T.y) (h : FpK l (insT ts c T) q) : FpK l ts q ∨ B ≤ q := by
  rcases h with h | ⟨U, hU, h⟩
  · exact .inl (.inl h)
  · unfold insT at hU
    have hm : U ∈ ts ∨ U = T := by
      rcases List.mem_append.1 hU with hU | hU
      · exact .inl (List.mem_of_mem_take hU)
      · rcases List.mem_cons.1 hU with hU | hU
        · exact .inr hU
        · exact .inl (List.mem_of_mem_drop hU)
    rcases hm with hm | rfl
    · exact .inl (.inr ⟨U, hm, h⟩)
    · rcases h with rfl | h | h
      · exact .inr hT.1
      · exact .inr (from_q hT.2.1 h)
      · exact .inr (from_q hT.2.2 h)

theorem Box.same9 {w w' : World} {b : Nat} {v0 v1 v2 : Value} (h : Box w b v0 v1 v2) (e : w'.heap[b]? = w.heap[b]?) : Box w' b v0 v1 v2 := by
  obtain ⟨c0, c1, c2, f0, f1, f2⟩ := h
  constructor
  · rw [← c0]; unfold World.cell?; rw [e]
  · rw [← c1]; unfold World.cell?; rw [e]
  · rw [← c2]; unfold World.cell?; rw [e]
  · rw [← f0]; exact World.frozen?_of_block (w := w) e
  · rw [← f1]; exact World.frozen?_of_block (w := w) e
  · rw [← f2]; exact World.frozen?_of_block (w := w) e

/-- a memo: its box, its list and towers, its set and spans, its last number; G has the set's blocks -/
structure MemA (G : Nat → Prop) (W : World) (m l t : Nat) (ts : List Tow) (ss : List SpB) (last : Int) : Prop where
  bx : Box W m (.pointer (some ⟨l, 0, none⟩)) (.pointer (some ⟨t, 0, none⟩)) (.int .u64 last)
  sk : SkAt W l ts
  st : SetF G W t ss
  dm : ¬ G m ∧ ¬ FpK l ts m
  dg : ∀ q, G q → ¬ FpK l ts q

theorem SetF.lt {G : Nat → Prop} {w : World} {t : Nat} {ss : List SpB} (h : SetF G w t ss) {q : Nat} (hq : G q) : q < w.heap.size := by
  obtain ⟨_, _, _, _, _, _, _, _, h7⟩ := h
  exact h7 q hq

theorem MemA.below {G : Nat → Prop} {W W' : World} {m l t : Nat} {ts : List Tow} {ss : List SpB} {last : Int} (h : MemA G W m l t ts ss last) (hb : Below W.heap.size W W') : MemA G W' m l t ts ss last :=
  ⟨h.bx.below hb (Nat.le_refl _), h.sk.below hb, h.st.below hb, h.dm, h.dg⟩

/-- a version is put in -/
theorem MemA.ins {G : Nat → Prop} {W W' : World} {m l t c : Nat} {ts : List Tow} {ss : List SpB} {last : Int} {T : Tow} (h : MemA G W m l t ts ss last) (hT : W.heap.size ≤ T.b ∧ From W.heap.size T.x ∧ From W.heap.size T.y) (hS : SkAt W' l (insT ts c T)) (hk : Keeps (fun i => ∃ a, a ≤ ts.length ∧ i = nb l ts a) W W') : MemA G W' m l t (insT ts c T) ss last := by
  have hF : ∀ q, (∃ a, a ≤ ts.length ∧ q = nb l ts a) → FpK l ts q := fun q ⟨a, ha, e⟩ => by rw [e]; exact fpK_nb ha
  refine ⟨h.bx.same9 (hk.block m h.bx.lt (fun hf => h.dm.2 (hF m hf))), hS, h.st.keeps hk (fun q hq hf => h.dg q hq (hF q hf)), ⟨h.dm.1, fun hf => ?_⟩, fun q hq hf => ?_⟩
  · rcases fpK_ins hT hf with h9 | h9
    · exact h.dm.2 h9
    · have := h.bx.lt; omega
  · rcases fpK_ins hT hf with h9 | h9
    · exact h.dg q hq h9
    · have := h.st.lt hq; omega

/-- a span is put in -/
theorem MemA.add {G : Nat → Prop} {W W' : World} {m l t : Nat} {ts : List Tow} {ss : List SpB} {last c : Int} {o : SpB} {e : Ending} (h : MemA G W m l t ts ss last) (hp : AddPostG G W t ss o c e W') : ∃ G' : Nat → Prop, MemA G' W' m l t ts (if c = 0 then ss ++ [o] else ss) last ∧ ∀ q, G' q → G q ∨ W.heap.size ≤ q := by
  obtain ⟨_, hk, G', hS, hG⟩ := hp
  have hn : ∀ q, FpK l ts q → ¬ G q := fun q hq hg => h.dg q hg hq
  refine ⟨G', ⟨h.bx.same9 (hk.block m h.bx.lt h.dm.1), h.sk.keeps hk (hn l (.inl rfl)) (fun T hT => hn _ (.inr ⟨T, hT, .inl rfl⟩)) (fun T hT => ⟨fun q hq => hn q (.inr ⟨T, hT, .inr (.inl hq)⟩), fun q hq => hn q (.inr ⟨T, hT, .inr (.inr hq)⟩)⟩), hS, ⟨fun hg => ?_, h.dm.2⟩, fun q hq hf => ?_⟩, hG⟩
  · rcases hG m hg with h9 | h9
    · exact h.dm.1 h9
    · have := h.bx.lt; omega
  · rcases hG q hq with h9 | h9
    · exact h.dg q h9 hf
    · have := fpK_lt h.sk hf; omega

/-- its last number is written -/
theorem MemA.put {G : Nat → Prop} {W : World} {m l t : Nat} {ts : List Tow} {ss : List SpB} {last : Int} (h : MemA G W m l t ts ss last) (s : Int) : MemA G (W.setCell ⟨m, 2, none⟩ (.int .u64 s)) m l t ts ss s := by
  have hk : Keeps (fun i => i = m) W (W.setCell ⟨m, 2, none⟩ (.int .u64 s)) := Keeps.setCell (F := fun i => i = m) (Keeps.refl _ W) (p := ⟨m, 2, none⟩) rfl _
  have hn : ∀ q, FpK l ts q → ¬ q = m := fun q hq e => h.dm.2 (e ▸ hq)
  refine ⟨?_, h.sk.keeps hk (hn l (.inl rfl)) (fun T hT => hn _ (.inr ⟨T, hT, .inl rfl⟩)) (fun T hT => ⟨fun q hq => hn q (.inr ⟨T, hT, .inr (.inl hq)⟩), fun q hq => hn q (.inr ⟨T, hT, .inr (.inr hq)⟩)⟩), h.st.keeps hk (fun q hq e => h.dm.1 (e ▸ hq)), h.dm, h.dg⟩
  obtain ⟨c0, c1, c2, f0, f1, f2⟩ := h.bx
  constructor <;> simp [go_sem, c0, c1, c2, f0, f1, f2]

end Go.Proofs.Ythcoblmfmbmdkaa
