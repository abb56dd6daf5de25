/- ReelBack answers true. -/
import Derived.Test.YtppoimmoohfbnaaDoorReelRead
namespace Go.Proofs.YtppoimmoohfbnaaDoor
open Go.RowKit
set_option linter.unusedVariables false

/-- where the loop has come to; each record has at most m bytes -/
structure FrK (m : Nat) (w2 wr : World) (T : List (List UInt8)) (j : Nat) (pv : Value) (P : List UInt8) : Prop where
  eq : P = allB (T.take j) []
  ow : OwnN w2.heap.size wr pv P
  bd : P.length ≤ (2 * m + 20) * j
  be : Below w2.heap.size w2 wr

theorem frk_step {m : Nat} {w2 wr w4 : World} {T : List (List UInt8)} {j : Nat} {pv pv' : Value} {P : List UInt8} (h : FrK m w2 wr T j pv P) (hj : j < T.length) (hl : T[j].length ≤ m) (ho : OwnN w2.heap.size w4 pv' (P ++ frameB P.length T[j])) (hb : Below w2.heap.size w2 w4) : FrK m w2 w4 T (j + 1) pv' (P ++ frameB P.length T[j]) := by
  refine ⟨?_, ho, ?_, hb⟩
  · rw [List.take_succ_eq_append_getElem hj, allB_snoc, ← h.eq]
  · have := frame_most P.length T[j]
    have := h.bd
    rw [List.length_append, Nat.mul_add]
    omega

theorem allB_most (m : Nat) : ∀ (ls : List (List UInt8)) (P : List UInt8), (∀ r ∈ ls, r.length ≤ m) → (allB ls P).length ≤ P.length + (2 * m + 20) * ls.length := by
  intro ls
  induction ls with
  | nil => intro P h; simp [allB]
  | cons r ls ih =>
    intro P h
    have := ih (P ++ frameB P.length r) (fun x hx => h x (by simp [hx]))
    have h1 := frame_most P.length r
    have h2 := h r (by simp)
    rw [List.length_append] at this
    rw [allB, List.length_cons, Nat.mul_add]
    omega

set_option maxRecDepth 100000 in
set_option maxHeartbeats 4000000 in
theorem rback (w : World) (v : Value) (ls : List (List UInt8)) (hv : ArgL w v ls) (hT : Tab w) (h0 : 0 < w.heap.size) :
    Calls Tryd.prog 5 #[v] w fun e w' => e = .returned (.bool true) ∧ Below w.heap.size w w' := by
  obtain ⟨i0, hi, hz0, hz1, hz2⟩ := info_parts info5
  obtain ⟨ao, cap, hvv, _⟩ := hv.places
  have HV : Hid (ArgL w v ls) := hv
  have HT : Hid (Tab w) := hT
  have H0 : Hid (0 < w.heap.size) := h0
  clear hv hT h0
  subst hvv
  go_enter Tryd.func5, Tryd.ntmps5
  go_wp2_with fail
  refine (rawake_any w HT.out H0.out).mono ?_
  rintro e w1 ⟨rfl, hb1⟩
  have HB1 : Hid (Below w.heap.size w w1) := hb1
  have hv1 := HV.out.below hb1 (Nat.le_refl _)
  clear hb1
  go_wp2_with fail
  refine (few_any w1 _ ls 20 300 hv1 (by decide) (by decide)).mono ?_
  rintro e w2 ⟨x, rfl, oT, hb2⟩
  obtain ⟨T, hTT⟩ : ∃ T, fewT 20 300 ls = T := ⟨_, rfl⟩
  have HTL : Hid (T.length ≤ 20 ∧ ∀ l ∈ T, l.length ≤ 300) := ⟨by rw [← hTT]; exact few_len _ _ _, fun l hl => few_mem (by rw [hTT]; exact hl)⟩
  rw [hTT] at oT
  obtain ⟨ta, tc, rfl⟩ := oT.shape
  have HB2 : Hid (Below w.heap.size w w2) := HB1.out.trans (hb2.mono HB1.out.size)
  have OT : Hid (OwnT w1.heap.size w2 (.slice ta T.length tc) T) := oT
  obtain ⟨N, hN⟩ : ∃ N, T.length = N := ⟨_, rfl⟩
  rw [hN]
  rw [hN] at OT
  have HN : Hid _ := hN
  have hN20 : N ≤ 20 := by rw [← hN]; exact HTL.out.1
  clear hv1 oT hb2 hTT hN
  go_wp2_with fail
  go_loopg [3, 16] N (fun gk pv iv wr => ∃ (j : Nat) (P : List UInt8) (pa : Option Addr) (pc : Nat), gk + j = N ∧ iv = .int .i64 (j : Int) ∧ pv = .slice pa P.length pc ∧ Hid (FrK 300 w2 wr T j pv P))
  case atStart => exact ⟨0, [], none, 0, by omega, rfl, rfl, ⟨rfl, .inl ⟨rfl, rfl⟩, by simp, Below.refl _ _⟩⟩
  case round =>
    obtain ⟨j, P, pa, pc, hj, rfl, rfl, HF⟩ := hrel
    by_cases hlt : j < N
    · have hlt2 : j < T.length := by rw [HN.out]; exact hlt
      obtain ⟨g, rfl, hg, u, hu, hou⟩ := OT.out.elem j hlt2
      have hur := (HF.out.be.cell (p := ⟨g, j, none⟩) hg).trans hu
      have hour := hou.below HF.out.be (Nat.le_refl _)
      obtain ⟨q1, q2⟩ := gk_nxt hj hlt
      obtain ⟨lj, hlj⟩ : ∃ lj, T[j] = lj := ⟨_, rfl⟩
      have hl300 : lj.length ≤ 300 := by rw [← hlj]; exact HTL.out.2 _ (List.getElem_mem hlt2)
      rw [hlj] at hour
      obtain ⟨ua, uc, rfl⟩ := hour.rd.len
      have hBw := HB2.out.trans (HF.out.be.mono HB2.out.size)
      have hfr := frame_any wr P.length _ lj hour.rd (ownN_block hour) (by omega) (HT.out.below hBw (Nat.le_refl _)) (Nat.lt_of_lt_of_le H0.out hBw.size)
      have hstep := fun w4 pv' => frk_step (w4 := w4) (pv' := pv') HF.out hlt2 (by rw [hlj]; exact hl300)
      rw [hlj] at hstep
      obtain ⟨FB, hFB⟩ : ∃ FB, frameB P.length lj = FB := ⟨_, rfl⟩
      have hPl : P.length ≤ 12400 := by have := HF.out.bd; omega
      have hFl : FB.length ≤ 620 := by have := frame_most P.length lj; rw [hFB] at this; omega
      rw [hFB] at hfr hstep
      have HST : Hid (∀ (w4 : World) (pv' : Value), OwnN w2.heap.size w4 pv' (P ++ FB) → Below w2.heap.size w2 w4 → FrK 300 w2 w4 T (j + 1) pv' (P ++ FB)) := hstep
      have HBD : Hid (P.length + FB.length ≤ maxLen ∧ (P.length + FB.length) * 1 ≤ 140737488355328) := by show _ ∧ _; unfold maxLen; omega
      clear hu hou hour hlj hl300 hBw hstep hFB hPl hFl
      go_wp2_with fail
      refine hfr.mono ?_
      rintro e w3 ⟨g3, c3, rfl, o3, hb3⟩
      have HB3 : Hid (Below w2.heap.size w2 w3) := HF.out.be.trans (hb3.mono HF.out.be.size)
      have hrow := ownN_row (HF.out.ow.below hb3 (Nat.le_refl _))
      have hfc := (rd_cells o3.rd).2
      clear hfr hur hb3
      go_wp2_with (first | (at_builtin; refine wpList_append_own _ rfl (.tmp 29) (.tmp 30) 22 rfl w2.heap.size 5 i0 (.int .u8 0) 1 1 Tryd.underlying22 hi hz0 hz1 hz2 rfl (by decide) (.slice pa P.length pc) P.length (bv P) rfl hrow ⟨g3, 0, none⟩ FB.length c3 (bv FB) rfl (by rw [bv_length, Nat.mul_one]) hfc (bv_one _) HBD.out.1 HBD.out.2 HB3.out.size ?_; intro v' w4 ho' hgr' hn'; have HO4 : Hid (OwnN w2.heap.size w4 v' (P ++ FB)) := ownN_of_rowT ho'; have HB4 : Hid (Below w2.heap.size w2 w4) := HB3.out.grown hgr' HB3.out.size (fun k' e => (hrow.lt k' e).1); obtain ⟨va, vc, hvv⟩ := HO4.out.rd.len; subst hvv; clear ho' hgr' hn') | fail)
      clear hrow hfc
      go_roundg (gk - 1)
      case measure => exact q1
      case rel => exact ⟨j + 1, P ++ FB, va, vc, q2, by go_num, by rw [List.length_append], by have h4 := HST.out _ _ HO4.out HB4.out; rw [List.length_append] at h4; exact h4⟩
    · have hjN : j = N := by omega
      subst hjN
      have hP : P = allB T [] := by have := HF.out.eq; rw [← HN.out, List.take_length] at this; exact this
      have hPl : P.length ≤ 12400 := by have := HF.out.bd; omega
      have hrb : readB P = (T, P.length) := by rw [hP]; exact readB_all T (fun r hr => by have := HTL.out.2 r hr; omega)
      have hrn : readN P = P.length := readN_end (by rw [hrb])
      have hBw := HB2.out.trans (HF.out.be.mono HB2.out.size)
      have hrd := read_any wr _ P HF.out.ow.rd (ownN_block HF.out.ow) (by omega) (HT.out.below hBw (Nat.le_refl _))
      unfold ReadPost at hrd
      rw [hrn, hrb] at hrd
      have HBW : Hid (Below w.heap.size w wr) := hBw
      have OT3 : Hid (OwnT w1.heap.size wr (.slice ta j tc) T) := OT.out.below HF.out.be (Nat.le_refl _)
      obtain ⟨L, hL⟩ : ∃ L, P.length = L := ⟨_, rfl⟩
      rw [hL] at hrd
      rw [hL]
      have HLT : Hid (T.length = j) := HN.out
      clear hP hPl hrb hrn hBw hL hj hlt HF HN
      go_wp2_with fail
      refine hrd.mono ?_
      rintro e w5 ⟨hb5, y, rfl, oy⟩
      have HB5 : Hid (Below w.heap.size w w5) := HBW.out.trans (hb5.mono HBW.out.size)
      have hsm := sameT_any w5 _ _ T T true oy.rd (OT3.out.below hb5 (Nat.le_refl _)).rd (by simp)
      obtain ⟨y1, y2, rfl⟩ := oy.shape
      clear hrd hb5 oy
      go_wp2_with fail
      refine hsm.mono ?_
      rintro e w6 ⟨rfl, n6, hw6⟩
      have HB6 : Hid (Below w.heap.size w w6) := by rw [hw6]; exact below_drewN' HB5.out _
      clear hsm hw6
      go_wp2
      go_ret
      exact ⟨rfl, HB6.out⟩

theorem reelBack_walk (a0 : Option Addr) (len0 cap0 : Nat) (z0 : List (List UInt8)) (w : World) (w0 : ArgL w (.slice a0 len0 cap0) z0) (ht : Tab w) :
    Calls Tryd.prog 5 #[.slice a0 len0 cap0] w fun e w' => e = .returned (.bool true) ∧ Below w.heap.size w w' :=
  rback w _ z0 w0 ht (World.block_lt_of_cell? w _ (ht 0 (by decide)))

end Go.Proofs.YtppoimmoohfbnaaDoor
