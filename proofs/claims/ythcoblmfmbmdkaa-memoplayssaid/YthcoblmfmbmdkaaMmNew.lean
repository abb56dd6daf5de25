/- memo.New, Last, heightOf. -/
import Derived.Test.YthcoblmfmbmdkaaMmAt
import Derived.Test.YthcoblmfmbmdkaaMmSmall
namespace Go.Proofs.Ythcoblmfmbmdkaa
set_option maxRecDepth 20000
open Go.RowKit
set_option linter.unusedVariables false
set_option linter.unusedSimpArgs false

/-- a set that is one's own has blocks of one's own -/
theorem setF_o {B t : Nat} {w : World} {ss : List SpB} (h : SetO B w t ss) : SetF (fun q => B ≤ q ∧ q < w.heap.size) w t ss := by
  obtain ⟨hB, v, hv, cs, hrow, hel⟩ := h
  have hr0 : w.ownsRow 0 46 3 v ss.length cs := by
    obtain ⟨h1, h2⟩ := hrow
    refine ⟨h1, ?_⟩
    rcases h2 with h2 | ⟨q, cap, cur, e, hb, r⟩
    · exact .inl h2
    · exact .inr ⟨q, cap, cur, e, Nat.zero_le _, r⟩
  refine ⟨v, cs, hv, hr0, fun j hj => ?_, ⟨hB, hv.lt⟩, fun q hq => hrow.lt q hq, fun z hz q hq => ?_, fun q hq => hq.2⟩
  · obtain ⟨x, y, c0, c1, c2, ox, oy⟩ := hel j hj
    exact ⟨x, y, c0, c1, c2, ox.mono (Nat.zero_le _), oy.mono (Nat.zero_le _)⟩
  · obtain ⟨i, hi, rfl⟩ := List.getElem_of_mem hz
    have hl : cs.length = ss.length * 3 := hrow.1
    obtain ⟨x, y, c0, c1, c2, ox, oy⟩ := hel (i / 3) (by omega)
    have hc : cs[i]? = some cs[i] := List.getElem?_eq_getElem hi
    have h3 : i = i / 3 * 3 ∨ i = i / 3 * 3 + 1 ∨ i = i / 3 * 3 + 2 := by omega
    rcases h3 with h3 | h3 | h3
    · rw [← h3, hc] at c0
      cases c0
      exact ownN_lt9 ox q hq
    · rw [← h3, hc] at c1
      cases c1
      exact ownN_lt9 oy q hq
    · rw [← h3, hc] at c2
      rw [Option.some.inj c2] at hq
      simp [Value.ownBlock] at hq

theorem mnew_any (w : World) : Calls Try.prog 10 #[] w fun e w' => ∃ (G : Nat → Prop) (m l t : Nat), e = .returned (.pointer (some ⟨m, 0, none⟩)) ∧ MemA G w' m l t [] [] 0 ∧ (∀ q, G q → w.heap.size ≤ q) ∧ (w.heap.size ≤ m ∧ w.heap.size ≤ l) ∧ Below w.heap.size w w' := by
  have h1 := sknew_any w
  go_enter Try.func10, Try.ntmps10
  go_wp2_with fail
  refine h1.mono ?_
  rintro e w1 ⟨rfl, hs, hb1⟩
  have h2 := tnew_any w1 (.slice none 0 0) [] (AllS.nil 0 w1).rd (by simp)
  have HS : Hid (SkAt w1 w.heap.size []) := hs
  have HB : Hid (Below w.heap.size w w1) := hb1
  clear h1 hs hb1
  go_wp2_with fail
  refine h2.mono ?_
  rintro e w2 ⟨rfl, ht, hb2⟩
  have HT : Hid (SetO w1.heap.size w2 w1.heap.size []) := ht
  have HB2 : Hid (Below w1.heap.size w1 w2) := hb2
  clear h2 ht hb2
  go_wp2
  go_ret
  have hbe := below_box4 w2 (.cells #[.pointer (some ⟨w.heap.size, 0, none⟩), .pointer (some ⟨w1.heap.size, 0, none⟩), .int .u64 0] 84)
  have hl1 : w.heap.size < w1.heap.size := fpK_lt HS.out (.inl rfl)
  have hs2 := HB2.out.size
  refine ⟨_, w2.heap.size, w.heap.size, w1.heap.size, rfl, ⟨box_new w2 _ _ _ _, (HS.out.below HB2.out).below hbe, (setF_o HT.out).below hbe, ⟨fun h => by have := h.2; omega, fun h => ?_⟩, fun q hq h => ?_⟩, fun q hq => Nat.le_trans HB.out.size hq.1, ⟨by omega, Nat.le_refl _⟩, bsplit (bsplit HB.out HB2.out) hbe⟩
  · rcases h with h | ⟨T, hT, _⟩
    · omega
    · simp at hT
  · rcases h with h | ⟨T, hT, _⟩
    · have := hq.1; omega
    · simp at hT

theorem eqMm (m : Nat) : ∀ w : World, (binOp .eql 26 (.pointer (some ⟨m, 0, none⟩)) (.pointer none)).run Try.prog w = .ok (.bool false) w := fun _ => rfl

theorem mlast_any (G : Nat → Prop) (w : World) (m l t : Nat) (ts : List Tow) (ss : List SpB) (last : Int) (h : MemA G w m l t ts ss last) : Calls Try.prog 12 #[.pointer (some ⟨m, 0, none⟩)] w fun e w' => e = .returned (.int .u64 last) ∧ w' = w := by
  have he := eqMm m
  obtain ⟨c0, c1, c2, _, _, _⟩ := h.bx
  go_enter Try.func12, Try.ntmps12
  go_wp2
  go_ret
  exact ⟨rfl, rfl⟩

theorem mspans_any (G : Nat → Prop) (w : World) (m l t : Nat) (ts : List Tow) (ss : List SpB) (last : Int) (h : MemA G w m l t ts ss last) (hn : ss.length ≤ 4000) (hL : ∀ s ∈ ss, s.1.length ≤ 1000 ∧ s.2.1.length ≤ 1000) : Calls Try.prog 19 #[.pointer (some ⟨m, 0, none⟩)] w fun e w' => ∃ v, e = .returned v ∧ AllS w.heap.size w' v ss ∧ Below w.heap.size w w' := by
  have he := eqMm m
  obtain ⟨c0, c1, c2, _, _, _⟩ := h.bx
  have ha := tall_any w t ss h.st.at hn hL
  go_enter Try.func19, Try.ntmps19
  go_wp2_with fail
  refine ha.mono ?_
  rintro e w1 ⟨v, rfl, h1, h2⟩
  go_wp2
  go_ret
  exact ⟨_, rfl, h1, h2⟩

end Go.Proofs.Ythcoblmfmbmdkaa
