/- bartizanref06.All. -/
import Derived.Test.YtppoimmoohfbnaaDoorRefFrame3
namespace Go.Proofs.YtppoimmoohfbnaaDoor
open Go.RowKit
set_option linter.unusedVariables false

/-- texts in a row, each of them there already -/
def TexL (w : World) (v : Value) (ls : List (List UInt8)) : Prop :=
  ∃ ao cap, v = .slice ao ls.length cap ∧ ls.length ≤ cap ∧ cap ≤ 9223372036854775807 ∧ ∀ j (h : j < ls.length), ∃ b off, ao = some ⟨b, off, none⟩ ∧ b < w.heap.size ∧ ∃ u, w.cell? ⟨b, off + j, none⟩ = some u ∧ Rd w u ls[j] ∧ ∀ bb, u.ownBlock = some bb → bb < w.heap.size

theorem OwnT.tex {B : Nat} {w : World} {v : Value} {ls : List (List UInt8)} (h : OwnT B w v ls) : TexL w v ls := by
  obtain ⟨ao, cap, rfl, h1, h2, h3⟩ := h.rd.places
  refine ⟨ao, cap, rfl, h1, h2, fun j hj => ?_⟩
  obtain ⟨g, rfl, hg, u, hu, hou⟩ := h.elem j hj
  exact ⟨g, 0, rfl, hg, u, by rw [Nat.zero_add]; exact hu, hou.rd, ownN_block hou⟩

theorem TexL.below {C : Nat} {w w' : World} {v : Value} {ls : List (List UInt8)} (h : TexL w v ls) (hb : Below C w w') (hC : w.heap.size ≤ C) : TexL w' v ls := by
  obtain ⟨ao, cap, rfl, h1, h2, h3⟩ := h
  refine ⟨ao, cap, rfl, h1, h2, fun j hj => ?_⟩
  obtain ⟨b, off, rfl, hbl, u, hu, hr, hbb⟩ := h3 j hj
  refine ⟨b, off, rfl, Nat.lt_of_lt_of_le hbl hb.size, u, ?_, hr.below hb hC, fun bb e => Nat.lt_of_lt_of_le (hbb bb e) hb.size⟩
  rw [hb.cell (p := ⟨b, off + j, none⟩) (Nat.lt_of_lt_of_le hbl hC)]
  exact hu

theorem TexL.take {w : World} {ao : Option Addr} {n c : Nat} {ls : List (List UInt8)} (h : TexL w (.slice ao n c) ls) (k : Nat) (hk : k ≤ ls.length) : TexL w (.slice ao k c) (ls.take k) := by
  obtain ⟨ao', cap, e, h1, h2, h3⟩ := h
  cases e
  have hl : (ls.take k).length = k := by rw [List.length_take]; omega
  refine ⟨ao, c, by rw [hl], by omega, h2, fun j hj => ?_⟩
  obtain ⟨b, off, e, hb, u, hu, hr, hbb⟩ := h3 j (by omega)
  exact ⟨b, off, e, hb, u, hu, by rw [List.getElem_take]; exact hr, hbb⟩

theorem TexL.rd {w : World} {v : Value} {ls : List (List UInt8)} (h : TexL w v ls) (hn : ls = [] → v = .slice none 0 0 ∨ ∃ b off c, v = .slice (some ⟨b, off, none⟩) 0 c) : RdL w v ls := by
  obtain ⟨ao, cap, rfl, h1, h2, h3⟩ := h
  by_cases h0 : ls = []
  · subst h0
    rcases hn rfl with e | ⟨b, off, c, e⟩
    · exact .inl ⟨e, rfl⟩
    · cases e
      exact .inr ⟨b, off, _, rfl, h1, by unfold maxLen; omega, fun j hj => absurd hj (Nat.not_lt_zero _)⟩
  · have hp : 0 < ls.length := List.length_pos_iff.2 h0
    obtain ⟨b, off, rfl, _⟩ := h3 0 hp
    refine .inr ⟨b, off, cap, rfl, h1, by unfold maxLen; omega, fun j hj => ?_⟩
    obtain ⟨b', off', e, _, u, hu, hr, _⟩ := h3 j hj
    cases e
    exact ⟨u, hu, hr⟩

set_option maxRecDepth 100000 in
set_option maxHeartbeats 4000000 in
theorem rall_any (w : World) (v : Value) (T : List (List UInt8)) (m : Nat) (hv : TexL w v T) (hm : ∀ l ∈ T, l.length ≤ m) (hm65 : m ≤ 65536) (hN : T.length ≤ 100) :
    Calls Tryd.prog 22 #[v] w fun e w' => ∃ x, e = .returned x ∧ OwnN w.heap.size w' x (allB T []) ∧ Below w.heap.size w w' := by
  obtain ⟨i0, hi, hz0, hz1, hz2⟩ := info_parts info5
  obtain ⟨ta, tc, rfl, h1, h2, h3⟩ := hv
  have H3 : Hid _ := h3
  have HM : Hid (∀ l ∈ T, l.length ≤ m) := hm
  obtain ⟨N, hNq⟩ : ∃ N, T.length = N := ⟨_, rfl⟩
  rw [hNq] at h1 hN ⊢
  have HN : Hid (T.length = N) := hNq
  have HM65 : Hid (m ≤ 65536 ∧ N ≤ 100) := ⟨hm65, hN⟩
  clear h3 hm hNq hm65 hN
  go_enter Tryd.func22, Tryd.ntmps22
  go_wp2_with fail
  go_loopg [3, 10] N (fun gk pv iv wr => ∃ (j : Nat) (P : List UInt8) (pa : Option Addr) (pc : Nat), gk + j = N ∧ iv = .int .i64 (j : Int) ∧ pv = .slice pa P.length pc ∧ Hid (FrK m w wr T j pv P))
  case atStart => exact ⟨0, [], none, 0, by omega, rfl, rfl, ⟨rfl, .inl ⟨rfl, rfl⟩, by simp, Below.refl _ _⟩⟩
  case round =>
    obtain ⟨j, P, pa, pc, hj, rfl, rfl, HF⟩ := hrel
    by_cases hlt : j < N
    · have hlt2 : j < T.length := by rw [HN.out]; exact hlt
      obtain ⟨b, off, rfl, hg, u, hu, hru, hub⟩ := H3.out j hlt2
      have hur := (HF.out.be.cell (p := ⟨b, off + j, none⟩) hg).trans hu
      have hrur := hru.below HF.out.be (Nat.le_refl _)
      obtain ⟨q1, q2⟩ := gk_nxt hj hlt
      obtain ⟨lj, hlj⟩ : ∃ lj, T[j] = lj := ⟨_, rfl⟩
      have hlm : lj.length ≤ m := by rw [← hlj]; exact HM.out _ (List.getElem_mem hlt2)
      rw [hlj] at hrur
      obtain ⟨ua, uc, rfl⟩ := hrur.len
      have hfr := rframe_any wr P.length _ lj hrur (fun bb e => Nat.lt_of_lt_of_le (hub bb e) HF.out.be.size) (by have := HM65.out; omega)
      have hstep := fun w4 pv' => frk_step (w4 := w4) (pv' := pv') HF.out hlt2 (by rw [hlj]; exact hlm)
      rw [hlj] at hstep
      obtain ⟨FB, hFB⟩ : ∃ FB, frameB P.length lj = FB := ⟨_, rfl⟩
      have hPl : P.length ≤ 20000000 := by
        have h9 := HF.out.bd
        have h8 := HM65.out
        have : (2 * m + 20) * j ≤ 131092 * 100 := Nat.mul_le_mul (by omega) (by omega)
        omega
      have hFl : FB.length ≤ 131092 := by have := frame_most P.length lj; rw [hFB] at this; have := HM65.out; omega
      rw [hFB] at hfr hstep
      have HST : Hid (∀ (w4 : World) (pv' : Value), OwnN w.heap.size w4 pv' (P ++ FB) → Below w.heap.size w w4 → FrK m w w4 T (j + 1) pv' (P ++ FB)) := hstep
      have HBD : Hid (P.length + FB.length ≤ maxLen ∧ (P.length + FB.length) * 1 ≤ 140737488355328) := by show _ ∧ _; unfold maxLen; omega
      clear hu hru hrur hlj hlm hstep hFB hPl hFl
      go_wp2_with fail
      refine hfr.mono ?_
      rintro e w3 ⟨g3, c3, rfl, o3, hb3⟩
      have HB3 : Hid (Below w.heap.size w w3) := HF.out.be.trans (hb3.mono HF.out.be.size)
      have hrow := ownN_row (HF.out.ow.below hb3 (Nat.le_refl _))
      have hfc := (rd_cells o3.rd).2
      clear hfr hur hb3
      go_wp2_with (first | (at_builtin; refine wpList_append_own _ rfl (.tmp 21) (.tmp 22) 22 rfl w.heap.size 5 i0 (.int .u8 0) 1 1 Tryd.underlying22 hi hz0 hz1 hz2 rfl (by decide) (.slice pa P.length pc) P.length (bv P) rfl hrow ⟨g3, 0, none⟩ FB.length c3 (bv FB) rfl (by rw [bv_length, Nat.mul_one]) hfc (bv_one _) HBD.out.1 HBD.out.2 HB3.out.size ?_; intro v' w4 ho' hgr' hn'; have HO4 : Hid (OwnN w.heap.size w4 v' (P ++ FB)) := ownN_of_rowT ho'; have HB4 : Hid (Below w.heap.size w w4) := HB3.out.grown hgr' HB3.out.size (fun k' e => (hrow.lt k' e).1); obtain ⟨va, vc, hvv⟩ := HO4.out.rd.len; subst hvv; clear ho' hgr' hn') | fail)
      clear hrow hfc
      go_roundg (gk - 1)
      case measure => exact q1
      case rel => exact ⟨j + 1, P ++ FB, va, vc, q2, by go_num, by rw [List.length_append], by have h4 := HST.out _ _ HO4.out HB4.out; rw [List.length_append] at h4; exact h4⟩
    · have hjN : j = N := by omega
      subst hjN
      have HP : Hid (P = allB T []) := by have := HF.out.eq; rw [← HN.out, List.take_length] at this; exact this
      go_wp2
      go_ret
      rw [← HP.out]
      exact ⟨_, rfl, HF.out.ow, HF.out.be⟩

end Go.Proofs.YtppoimmoohfbnaaDoor
