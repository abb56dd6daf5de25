/- bartizanref06.Frame, of nothing; of any record. -/
import Derived.Test.YtppoimmoohfbnaaDoorRefFrame2
namespace Go.Proofs.YtppoimmoohfbnaaDoor
open Go.RowKit
set_option linter.unusedVariables false

theorem frame_nil (x : Nat) (hx : x < 64) : frameB x [] = List.replicate (gapN x) 0 ++ headB 1 0 (sumK 1 []) := by
  unfold frameB frF
  rw [if_pos (by simp), pcB_head]
  simp [sumK]

theorem seven_lit0 (w : World) (m : Nat) (mI kz : Int) (k : UInt8) (hm : m < 4294967296 ∧ (m : Int) = mI) (hk : (k.toNat : Int) = kz) :
    ∀ j u, (bv (headB k 0 m))[j]? = some u → (w.alloc (.cells #[.int .u8 (mI % 256), .int .u8 (mI / 256 % 256), .int .u8 (mI / 65536 % 256), .int .u8 (mI / 16777216), .int .u8 0, .int .u8 0, .int .u8 kz] 5)).cell? ((⟨w.heap.size, 0, none⟩ : Addr).add j) = some u :=
  seven_lit w m 0 mI kz k hm (by omega) hk

set_option maxRecDepth 100000 in
set_option maxHeartbeats 8000000 in
theorem rframe_nil (w : World) (a : Nat) :
    Calls Tryd.prog 14 #[.int .i64 (a : Int), .slice none 0 0] w fun e w' => ∃ g c, e = .returned (.tuple #[.slice (some ⟨g, 0, none⟩) (frameB a []).length c, .int .i64 0]) ∧ Own w.heap.size w' (.slice (some ⟨g, 0, none⟩) (frameB a []).length c) (frameB a []) ∧ Below w.heap.size w w' := by
  obtain ⟨i0, hi, hz0, hz1, hz2⟩ := info_parts info5
  obtain ⟨x, hx⟩ : ∃ x, a % 64 = x := ⟨_, rfl⟩
  have hx64 : x < 64 := by omega
  have hm := mod_64 a
  rw [hx] at hm
  have hfn : frameB a [] = List.replicate (gapN x) 0 ++ headB 1 0 (sumK 1 []) := by rw [← frameB_mod a, hx]; exact frame_nil x hx64
  obtain ⟨W, hW⟩ : ∃ W, frameB a [] = W := ⟨_, rfl⟩
  rw [hW] at hfn ⊢
  have hWL : 0 < W.length := by rw [← hW]; exact Nat.lt_of_le_of_lt (Nat.zero_le _) (frameB_long a [])
  have HWL : Hid (0 < W.length) := hWL
  have hx0 : (0 : Int) ≤ (x : Int) := by omega
  have hx1 : (x : Int) ≤ 63 := by omega
  have ha0 : ¬ (a : Int) < 0 := by omega
  have hstate : ∃ (w1 : World) (F1 : List UInt8) (f1a : Option Addr) (f1l f1c : Nat),
      Hid (OwnN w.heap.size w1 (.slice f1a f1l f1c) F1) ∧ Hid (F1.length = f1l) ∧ Hid (f1l ≤ 6) ∧ Hid (Below w.heap.size w w1) ∧ Hid (F1 ++ headB 1 0 (sumK 1 []) = W) ∧
      (((x : Int) ≤ 63 ∧ ∃ lf : Nat, 64 - (x : Int) = (lf : Int) ∧ (lf : Int) < 7 ∧ (0 : Int) ≤ (lf : Int) ∧ f1l = lf ∧ ∀ ty, (Builtin.append_ #[22, 3] ty #[.slice none 0 0, .int .i64 (lf : Int)]).run Tryd.prog w = .ok (.slice f1a f1l f1c) w1) ∨
       (¬ 64 - (x : Int) < 7 ∧ w1 = w ∧ F1 = [] ∧ f1a = none ∧ f1l = 0 ∧ f1c = 0)) := by
    by_cases hgap : 64 - x < 7
    · have hg : gapN x = 64 - x := by unfold gapN leftN; rw [if_pos (by omega)]; omega
      obtain ⟨lf, hlfq⟩ : ∃ lf, 64 - x = lf := ⟨_, rfl⟩
      obtain ⟨cz, wz, hrz, hoz, hbz⟩ := zeros_run w w.heap.size lf (Nat.le_refl _) (by omega) (by omega)
      rw [hg, hlfq] at hfn
      exact ⟨wz, List.replicate lf 0, _, lf, cz, .inr hoz, (by show _ = _; simp), (by show _ ≤ _; omega), hbz, hfn.symm, .inl ⟨by omega, lf, by omega, by omega, by omega, rfl, hrz⟩⟩
    · have hg : gapN x = 0 := by unfold gapN leftN; rw [if_neg (by omega)]
      rw [hg] at hfn
      exact ⟨w, [], none, 0, 0, .inl ⟨rfl, rfl⟩, rfl, (by show _ ≤ _; omega), Below.refl _ _, hfn.symm, .inr ⟨by omega, rfl, rfl, rfl, rfl, rfl⟩⟩
  clear hx hW hfn hWL hx64
  obtain ⟨w1, F1, f1a, f1l, f1c, HO1, HL1, HL6, HB1, HT, hgapc⟩ := hstate
  obtain ⟨s, m, hs, hmm, hsl, hml⟩ := mask_facts (1 : UInt8) []
  have HSM : Hid (sumK (1 : UInt8) [] = m) := by show _ = _; unfold sumK; rw [hs]; exact hmm
  rw [HSM.out] at HT
  have hlit := lit_row w1 w1.heap.size (Nat.le_refl _) (1 : UInt8)
  rw [show (((1 : UInt8).toNat : Nat) : Int) = 1 from rfl] at hlit
  have olit : Own w1.heap.size (w1.alloc (.cells #[.int .u8 1] 5)) (.slice (some ⟨w1.heap.size, 0, none⟩) 1 1) [(1 : UInt8)] := Own.of_row hlit (by simp)
  have hrs := refsum_any (w1.alloc (.cells #[.int .u8 1] 5)) _ _ olit.rd (by simp)
  rw [hs] at hrs
  have b12 : Below w1.heap.size w1 (w1.alloc (.cells #[.int .u8 1] 5)) := (Below.refl _ _).alloc (Nat.le_refl _) _
  obtain ⟨mI, hmI⟩ : ∃ mI : Int, (m : Int) = mI := ⟨_, rfl⟩
  have hmI0 : 0 ≤ mI := by omega
  have hmI1 : mI < 4294967296 := by omega
  have HML : Hid (m < 4294967296 ∧ (m : Int) = mI) := ⟨hml, hmI⟩
  have HRM : Hid (∀ w3, Calls Tryd.prog 27 #[.int .u32 (s : Int)] w3 fun e w' => e = .returned (.int .u32 mI) ∧ w' = w3) := fun w3 => by
    have := refmask_any s hsl w3
    rw [hmm, hmI] at this
    exact this
  have HB12 : Hid _ := b12
  have HRS : Hid _ := hrs
  have HLI : Hid _ := hlit
  clear hs hmm hsl hml hmI olit hrs b12
  go_enter Tryd.func14, Tryd.ntmps14
  go_wp2_with fail
  go_loopg [0, 1, 6, 7] 1 (fun gk yv pv fv kv wr => yv = .int .i64 (x : Int) ∧ pv = .slice none 0 0 ∧ fv = .slice none 0 0 ∧ kv = .int .u8 1 ∧ wr = w)
  case atStart => exact ⟨rfl, rfl, rfl, rfl, rfl⟩
  case round =>
    obtain ⟨rfl, rfl, rfl, rfl, rfl⟩ := hrel
    rcases hgapc with ⟨hy63, lf, g1, g2, g3, rfl, hrz⟩ | ⟨hng, hw1, rfl, rfl, rfl, rfl⟩
    · skip
      go_wp2_with (first | (at_builtin; refine Lib.wpList_append_run _ rfl (.tmp 22) (.tmp 23) 22 3 rfl (.slice none 0 0) (.int .i64 (f1l : Int)) rfl rfl _ _ (hrz _) ?_) | (at_builtin; refine wpList_append_own_none rfl (.tmp 45) (.tmp 48) 22 rfl w1.heap.size 5 i0 1 Tryd.underlying22 hi _ _ _ rfl HLI.out rfl ?_) | fail)
      refine Calls.mono HRS.out ?_
      rintro e w3 ⟨rfl, hb3⟩
      have b13 := HB12.out.trans (hb3.mono HB12.out.size)
      have HO3 : Hid (OwnN wr.heap.size w3 (.slice f1a f1l f1c) F1) := HO1.out.below b13 (Nat.le_refl _)
      have HB3 : Hid (Below wr.heap.size wr w3) := HB1.out.trans (b13.mono HB1.out.size)
      clear b13 hb3
      go_wp2_with fail
      refine (HRM.out _).mono ?_
      rintro e w4 ⟨rfl, rfl⟩
      have hsev := seven_lit0 w4 m mI 1 (1 : UInt8) HML.out rfl
      have hrw5 : (w4.alloc (.cells #[.int .u8 (mI % 256), .int .u8 (mI / 256 % 256), .int .u8 (mI / 65536 % 256), .int .u8 (mI / 16777216), .int .u8 0, .int .u8 0, .int .u8 1] 5)).ownsRow wr.heap.size 5 1 (.slice f1a f1l f1c) f1l (bv F1) := by
        have h9 := (ownN_row HO3.out).alloc (.cells #[.int .u8 (mI % 256), .int .u8 (mI / 256 % 256), .int .u8 (mI / 65536 % 256), .int .u8 (mI / 16777216), .int .u8 0, .int .u8 0, .int .u8 1] 5)
        rw [HL1.out] at h9
        exact h9
      have HB4 : Hid (Below wr.heap.size wr (w4.alloc (.cells #[.int .u8 (mI % 256), .int .u8 (mI / 256 % 256), .int .u8 (mI / 65536 % 256), .int .u8 (mI / 16777216), .int .u8 0, .int .u8 0, .int .u8 1] 5))) := HB3.out.alloc HB3.out.size _
      go_wp2_with (first
        | (at_builtin; refine wpList_append_own _ rfl (.tmp 52) (.tmp 70) 22 rfl wr.heap.size 5 i0 (.int .u8 0) 1 1 Tryd.underlying22 hi hz0 hz1 hz2 rfl (by decide) (.slice f1a f1l f1c) f1l (bv F1) rfl hrw5 ⟨w4.heap.size, 0, none⟩ 7 7 (bv (headB (1 : UInt8) 0 m)) rfl (by rw [bv_length, head_len]) hsev (bv_one _) (by have := HL6.out; unfold maxLen; omega) (by have := HL6.out; omega) HB4.out.size ?_; intro v5 w5 ho5 hgr5 hn5; have h9 : OwnN wr.heap.size w5 v5 (F1 ++ headB (1 : UInt8) 0 m) := ownN_of_rowT (by rw [HL1.out]; exact ho5); rw [HT.out] at h9; obtain ⟨v5a, v5c, hv5⟩ := h9.rd.len; subst hv5; obtain ⟨g6, hg6, h10⟩ := ownN_some h9 HWL.out; subst hg6; have HO5 : Hid (Own wr.heap.size w5 (.slice (some ⟨g6, 0, none⟩) W.length v5c) W) := h10; have HB5 : Hid (Below wr.heap.size wr w5) := HB4.out.grown hgr5 HB4.out.size (fun k' e => (hrw5.lt k' e).1); clear ho5 hgr5 hn5 h9 h10)
        | (at_builtin; refine wpList_append_own_none rfl (.tmp 72) (.tmp 75) 22 rfl wr.heap.size 5 i0 1 Tryd.underlying22 hi _ _ _ rfl HO5.out.row rfl ?_)
        | fail)
      all_goals
        go_ret2
        exact ⟨g6, v5c, rfl, HO5.out, HB5.out⟩
    · subst hw1
      go_wp2_with (first | (at_builtin; refine wpList_append_own_none rfl (.tmp 45) (.tmp 48) 22 rfl w1.heap.size 5 i0 1 Tryd.underlying22 hi _ _ _ rfl HLI.out rfl ?_) | fail)
      refine Calls.mono HRS.out ?_
      rintro e w3 ⟨rfl, hb3⟩
      have b13 := HB12.out.trans (hb3.mono HB12.out.size)
      have HO3 : Hid (OwnN w1.heap.size w3 (.slice none 0 0) []) := HO1.out.below b13 (Nat.le_refl _)
      have HB3 : Hid (Below w1.heap.size w1 w3) := HB1.out.trans (b13.mono HB1.out.size)
      clear b13 hb3
      go_wp2_with fail
      refine (HRM.out _).mono ?_
      rintro e w4 ⟨rfl, rfl⟩
      have hsev := seven_lit0 w4 m mI 1 (1 : UInt8) HML.out rfl
      have hrw5 : (w4.alloc (.cells #[.int .u8 (mI % 256), .int .u8 (mI / 256 % 256), .int .u8 (mI / 65536 % 256), .int .u8 (mI / 16777216), .int .u8 0, .int .u8 0, .int .u8 1] 5)).ownsRow w1.heap.size 5 1 (.slice none 0 0) 0 (bv []) := by
        have h9 := (ownN_row HO3.out).alloc (.cells #[.int .u8 (mI % 256), .int .u8 (mI / 256 % 256), .int .u8 (mI / 65536 % 256), .int .u8 (mI / 16777216), .int .u8 0, .int .u8 0, .int .u8 1] 5)
        rw [HL1.out] at h9
        exact h9
      have HB4 : Hid (Below w1.heap.size w1 (w4.alloc (.cells #[.int .u8 (mI % 256), .int .u8 (mI / 256 % 256), .int .u8 (mI / 65536 % 256), .int .u8 (mI / 16777216), .int .u8 0, .int .u8 0, .int .u8 1] 5))) := HB3.out.alloc HB3.out.size _
      go_wp2_with (first
        | (at_builtin; refine wpList_append_own _ rfl (.tmp 52) (.tmp 70) 22 rfl w1.heap.size 5 i0 (.int .u8 0) 1 1 Tryd.underlying22 hi hz0 hz1 hz2 rfl (by decide) (.slice none 0 0) 0 (bv []) rfl hrw5 ⟨w4.heap.size, 0, none⟩ 7 7 (bv (headB (1 : UInt8) 0 m)) rfl (by rw [bv_length, head_len]) hsev (bv_one _) (by have := HL6.out; unfold maxLen; omega) (by have := HL6.out; omega) HB4.out.size ?_; intro v5 w5 ho5 hgr5 hn5; have h9 : OwnN w1.heap.size w5 v5 ([] ++ headB (1 : UInt8) 0 m) := ownN_of_rowT (by rw [HL1.out]; exact ho5); rw [HT.out] at h9; obtain ⟨v5a, v5c, hv5⟩ := h9.rd.len; subst hv5; obtain ⟨g6, hg6, h10⟩ := ownN_some h9 HWL.out; subst hg6; have HO5 : Hid (Own w1.heap.size w5 (.slice (some ⟨g6, 0, none⟩) W.length v5c) W) := h10; have HB5 : Hid (Below w1.heap.size w1 w5) := HB4.out.grown hgr5 HB4.out.size (fun k' e => (hrw5.lt k' e).1); clear ho5 hgr5 hn5 h9 h10)
        | (at_builtin; refine wpList_append_own_none rfl (.tmp 72) (.tmp 75) 22 rfl w1.heap.size 5 i0 1 Tryd.underlying22 hi _ _ _ rfl HO5.out.row rfl ?_)
        | fail)
      all_goals
        go_ret2
        exact ⟨g6, v5c, rfl, HO5.out, HB5.out⟩

theorem rframe_any (w : World) (a : Nat) (v : Value) (l : List UInt8) (hv : Rd w v l) (hvb : ∀ b, v.ownBlock = some b → b < w.heap.size) (hl : l.length ≤ 65536) :
    Calls Tryd.prog 14 #[.int .i64 (a : Int), v] w fun e w' => ∃ g c, e = .returned (.tuple #[.slice (some ⟨g, 0, none⟩) (frameB a l).length c, .int .i64 0]) ∧ Own w.heap.size w' (.slice (some ⟨g, 0, none⟩) (frameB a l).length c) (frameB a l) ∧ Below w.heap.size w w' := by
  rcases rd_shape hv hvb with ⟨rfl, rfl⟩ | ⟨b, off, c, rfl, h1, h2, h3, h4⟩
  · exact rframe_nil w a
  · exact rframe_some w a b off c l h4 h3 h1 (by unfold maxLen; omega) hl

end Go.Proofs.YtppoimmoohfbnaaDoor
