/- reel.piece: just seven bytes of room. -/
import Derived.Test.YtppoimmoohfbnaaDoorReelSeven
namespace Go.Proofs.YtppoimmoohfbnaaDoor
open Go.RowKit
set_option linter.unusedVariables false

set_option maxRecDepth 100000 in
set_option maxHeartbeats 4000000 in
theorem pieceA_y (w : World) (a b off c n e lf sz sm : Nat) (s0 s1 s2 s3 n0 n1 k : UInt8) (r : List UInt8) (H7 : Hid (Seven w b (off + a) 7 7 s0 s1 s2 s3 n0 n1 k r)) (hT : Tab w)
    (f1 : ¬ c = a) (f2 : (a : Int) < (n : Int)) (f3 : (a : Int) ≤ (e : Int)) (f4 : (e : Int) ≤ (c : Int)) (f5 : min (n : Int) ((a : Int) + (lf : Int)) = (e : Int)) (f13 : (if (a : Int) + (lf : Int) < (n : Int) then (a : Int) + (lf : Int) else (n : Int)) = (e : Int)) (f10 : (a : Int) ≤ 1000000) (f11 : (lf : Int) ≤ 64) (f12 : (1 : Int) ≤ (lf : Int)) (HL : Hid (leftN a = lf ∧ a ≤ 4611686018427387904))
    (hm : e - a = 7) (hd : c - a = 7) (hsz0 : (sz : Int) ≤ 65535) (HSZ : Hid (n0.toNat + n1.toNat * 256 = sz)) (HSM : Hid (Crc.low [s0, s1, s2, s3] = sm))  (hA : (0 : Int) < (sz : Int)) :
    Calls Tryd.prog 31 #[.slice (some ⟨b, off, none⟩) n c, .int .i64 (a : Int)] w fun x w' => x = .returned (.tuple #[.int .u8 0, .slice none 0 0, .bool false]) ∧ Below w.heap.size w w' := by
  have hleft := left_any w a HL.out.2
  rw [HL.out.1] at hleft
  have ha0 : (0 : Int) ≤ (a : Int) := Int.natCast_nonneg a
  have c6 := H7.out.c6
  have l4 := rlow_any w.drew _ s0 s1 s2 s3 H7.out.r4.drew
  rw [HSM.out] at l4
  have l2 := rlow2_any w.drew _ n0 n1 H7.out.r2.drew
  rw [HSZ.out] at l2
  have HT : Hid (Tab w) := hT
  clear hT
  go_enter Tryd.func31, Tryd.ntmps31
  go_wp2_with fail
  refine hleft.mono ?_
  rintro e' w1 ⟨rfl, rfl⟩
  clear hleft
  go_wp2_with fail
  go_region_held3 (fun w' => w'.cell? ⟨b, off + a + 6, none⟩ = some (.int .u8 (k.toNat : Int))) (exact c6)
    (first
      | (go_at_call 36; refine l4.mono ?_; rintro e' wx ⟨rfl, hwx⟩; subst hwx; clear l4)
      | (go_at_call 36; refine l2.mono ?_; rintro e' wx ⟨rfl, hwx⟩; subst hwx; clear l2)
      | fail)
  all_goals
    go_wp2
    go_ret3
    exact ⟨rfl, (Below.refl _ _).drew⟩

set_option maxRecDepth 100000 in
set_option maxHeartbeats 4000000 in
theorem pieceB_y (w : World) (a b off c n e lf sz sm : Nat) (s0 s1 s2 s3 n0 n1 k : UInt8) (r : List UInt8) (H7 : Hid (Seven w b (off + a) 7 7 s0 s1 s2 s3 n0 n1 k r)) (hT : Tab w)
    (f1 : ¬ c = a) (f2 : (a : Int) < (n : Int)) (f3 : (a : Int) ≤ (e : Int)) (f4 : (e : Int) ≤ (c : Int)) (f5 : min (n : Int) ((a : Int) + (lf : Int)) = (e : Int)) (f13 : (if (a : Int) + (lf : Int) < (n : Int) then (a : Int) + (lf : Int) else (n : Int)) = (e : Int)) (f10 : (a : Int) ≤ 1000000) (f11 : (lf : Int) ≤ 64) (f12 : (1 : Int) ≤ (lf : Int)) (HL : Hid (leftN a = lf ∧ a ≤ 4611686018427387904))
    (hm : e - a = 7) (hd : c - a = 7) (hsz0 : (sz : Int) ≤ 65535) (HSZ : Hid (n0.toNat + n1.toNat * 256 = sz)) (HSM : Hid (Crc.low [s0, s1, s2, s3] = sm))  (hA : (sz : Int) ≤ (0 : Int)) (hk : (k.toNat : Int) < 1) :
    Calls Tryd.prog 31 #[.slice (some ⟨b, off, none⟩) n c, .int .i64 (a : Int)] w fun x w' => x = .returned (.tuple #[.int .u8 0, .slice none 0 0, .bool false]) ∧ Below w.heap.size w w' := by
  have hleft := left_any w a HL.out.2
  rw [HL.out.1] at hleft
  have ha0 : (0 : Int) ≤ (a : Int) := Int.natCast_nonneg a
  have c6 := H7.out.c6
  have l4 := rlow_any w.drew _ s0 s1 s2 s3 H7.out.r4.drew
  rw [HSM.out] at l4
  have l2 := rlow2_any w.drew _ n0 n1 H7.out.r2.drew
  rw [HSZ.out] at l2
  have HT : Hid (Tab w) := hT
  clear hT
  go_enter Tryd.func31, Tryd.ntmps31
  go_wp2_with fail
  refine hleft.mono ?_
  rintro e' w1 ⟨rfl, rfl⟩
  clear hleft
  go_wp2_with fail
  go_region_held3 (fun w' => w'.cell? ⟨b, off + a + 6, none⟩ = some (.int .u8 (k.toNat : Int))) (exact c6)
    (first
      | (go_at_call 36; refine l4.mono ?_; rintro e' wx ⟨rfl, hwx⟩; subst hwx; clear l4)
      | (go_at_call 36; refine l2.mono ?_; rintro e' wx ⟨rfl, hwx⟩; subst hwx; clear l2)
      | fail)
  all_goals
    go_wp2
    go_ret3
    exact ⟨rfl, (Below.refl _ _).drew⟩

set_option maxRecDepth 100000 in
set_option maxHeartbeats 4000000 in
theorem pieceC_y (w : World) (a b off c n e lf sz sm : Nat) (s0 s1 s2 s3 n0 n1 k : UInt8) (r : List UInt8) (H7 : Hid (Seven w b (off + a) 7 7 s0 s1 s2 s3 n0 n1 k r)) (hT : Tab w)
    (f1 : ¬ c = a) (f2 : (a : Int) < (n : Int)) (f3 : (a : Int) ≤ (e : Int)) (f4 : (e : Int) ≤ (c : Int)) (f5 : min (n : Int) ((a : Int) + (lf : Int)) = (e : Int)) (f13 : (if (a : Int) + (lf : Int) < (n : Int) then (a : Int) + (lf : Int) else (n : Int)) = (e : Int)) (f10 : (a : Int) ≤ 1000000) (f11 : (lf : Int) ≤ 64) (f12 : (1 : Int) ≤ (lf : Int)) (HL : Hid (leftN a = lf ∧ a ≤ 4611686018427387904))
    (hm : e - a = 7) (hd : c - a = 7) (hsz0 : (sz : Int) ≤ 65535) (HSZ : Hid (n0.toNat + n1.toNat * 256 = sz)) (HSM : Hid (Crc.low [s0, s1, s2, s3] = sm))  (hA : (sz : Int) ≤ (0 : Int)) (hk : ¬ (k.toNat : Int) < 1) (hk4 : (4 : Int) < (k.toNat : Int)) :
    Calls Tryd.prog 31 #[.slice (some ⟨b, off, none⟩) n c, .int .i64 (a : Int)] w fun x w' => x = .returned (.tuple #[.int .u8 0, .slice none 0 0, .bool false]) ∧ Below w.heap.size w w' := by
  have hleft := left_any w a HL.out.2
  rw [HL.out.1] at hleft
  have ha0 : (0 : Int) ≤ (a : Int) := Int.natCast_nonneg a
  have c6 := H7.out.c6
  have l4 := rlow_any w.drew _ s0 s1 s2 s3 H7.out.r4.drew
  rw [HSM.out] at l4
  have l2 := rlow2_any w.drew _ n0 n1 H7.out.r2.drew
  rw [HSZ.out] at l2
  have HT : Hid (Tab w) := hT
  clear hT
  go_enter Tryd.func31, Tryd.ntmps31
  go_wp2_with fail
  refine hleft.mono ?_
  rintro e' w1 ⟨rfl, rfl⟩
  clear hleft
  go_wp2_with fail
  go_region_held3 (fun w' => w'.cell? ⟨b, off + a + 6, none⟩ = some (.int .u8 (k.toNat : Int))) (exact c6)
    (first
      | (go_at_call 36; refine l4.mono ?_; rintro e' wx ⟨rfl, hwx⟩; subst hwx; clear l4)
      | (go_at_call 36; refine l2.mono ?_; rintro e' wx ⟨rfl, hwx⟩; subst hwx; clear l2)
      | fail)
  all_goals
    go_wp2
    go_ret3
    exact ⟨rfl, (Below.refl _ _).drew⟩

set_option maxRecDepth 100000 in
set_option maxHeartbeats 4000000 in
theorem pieceD_y (w : World) (a b off c n e lf sm : Nat) (s0 s1 s2 s3 n0 n1 k : UInt8) (r : List UInt8) (H7 : Hid (Seven w b (off + a) 7 7 s0 s1 s2 s3 n0 n1 k r)) 
    (f1 : ¬ c = a) (f2 : (a : Int) < (n : Int)) (f3 : (a : Int) ≤ (e : Int)) (f4 : (e : Int) ≤ (c : Int)) (f5 : min (n : Int) ((a : Int) + (lf : Int)) = (e : Int)) (f13 : (if (a : Int) + (lf : Int) < (n : Int) then (a : Int) + (lf : Int) else (n : Int)) = (e : Int)) (f10 : (a : Int) ≤ 1000000) (f11 : (lf : Int) ≤ 64) (f12 : (1 : Int) ≤ (lf : Int)) (HL : Hid (leftN a = lf ∧ a ≤ 4611686018427387904))
    (hm : e - a = 7) (hd : c - a = 7) (HSZ : Hid (n0.toNat + n1.toNat * 256 = 0)) (HSM : Hid (Crc.low [s0, s1, s2, s3] = sm))  (sv : Nat) (HK : Hid (¬ (k.toNat : Int) < 1)) (HK4 : Hid (¬ (4 : Int) < (k.toNat : Int))) (HSO : Hid (Calls Tryd.prog 34 #[.int .u8 (k.toNat : Int), .slice (some ⟨b, off + a, none⟩) 0 0] w.drew fun e w' => e = .returned (.int .u32 (sv : Int)) ∧ Below w.heap.size w.drew w')) (HNE : Hid (¬ (sm : Int) = (sv : Int))) :
    Calls Tryd.prog 31 #[.slice (some ⟨b, off, none⟩) n c, .int .i64 (a : Int)] w fun x w' => x = .returned (.tuple #[.int .u8 0, .slice none 0 0, .bool false]) ∧ Below w.heap.size w w' := by
  have hleft := left_any w a HL.out.2
  rw [HL.out.1] at hleft
  have ha0 : (0 : Int) ≤ (a : Int) := Int.natCast_nonneg a
  have c6 := H7.out.c6
  have l4 := rlow_any w.drew _ s0 s1 s2 s3 H7.out.r4.drew
  rw [HSM.out] at l4
  have l2 := rlow2_any w.drew _ n0 n1 H7.out.r2.drew
  rw [HSZ.out] at l2
  go_enter Tryd.func31, Tryd.ntmps31
  go_wp2_with fail
  refine hleft.mono ?_
  rintro e' w1 ⟨rfl, rfl⟩
  clear hleft
  go_wp2_with fail
  go_region_held3 (fun w' => w'.cell? ⟨b, off + a + 6, none⟩ = some (.int .u8 (k.toNat : Int))) (exact c6)
    (first
      | (go_at_call 36; refine l4.mono ?_; rintro e' wx ⟨rfl, hwx⟩; subst hwx; clear l4)
      | (go_at_call 36; refine l2.mono ?_; rintro e' wx ⟨rfl, hwx⟩; subst hwx; clear l2; have hk4 := HK4.out; have hk := HK.out)
      | fail)
  all_goals
    go_wp2_with fail
    refine HSO.out.mono ?_
    rintro e' w2 ⟨rfl, hb2⟩
    have hneN : ¬ sm = sv := fun h => HNE.out (by rw [h])
    have hneB : ((sm : Int) == (sv : Int)) = false := beq_eq_false_iff_ne.2 HNE.out
    have hneC : ((sm : Int) != (sv : Int)) = true := bne_iff_ne.2 HNE.out
    have HB2 : Hid (Below w1.heap.size w1 w2) := Below.mk hb2.os hb2.tape hb2.output hb2.size hb2.block
    clear hb2
    go_wp2
    go_ret3
    exact ⟨rfl, HB2.out⟩

set_option maxRecDepth 100000 in
set_option maxHeartbeats 4000000 in
theorem pieceE_y (w : World) (a b off c n e lf sm : Nat) (s0 s1 s2 s3 n0 n1 k : UInt8) (r : List UInt8) (H7 : Hid (Seven w b (off + a) 7 7 s0 s1 s2 s3 n0 n1 k r)) 
    (f1 : ¬ c = a) (f2 : (a : Int) < (n : Int)) (f3 : (a : Int) ≤ (e : Int)) (f4 : (e : Int) ≤ (c : Int)) (f5 : min (n : Int) ((a : Int) + (lf : Int)) = (e : Int)) (f13 : (if (a : Int) + (lf : Int) < (n : Int) then (a : Int) + (lf : Int) else (n : Int)) = (e : Int)) (f10 : (a : Int) ≤ 1000000) (f11 : (lf : Int) ≤ 64) (f12 : (1 : Int) ≤ (lf : Int)) (HL : Hid (leftN a = lf ∧ a ≤ 4611686018427387904))
    (hm : e - a = 7) (hd : c - a = 7) (HSZ : Hid (n0.toNat + n1.toNat * 256 = 0)) (HSM : Hid (Crc.low [s0, s1, s2, s3] = sm))  (HK : Hid (¬ (k.toNat : Int) < 1)) (HK4 : Hid (¬ (4 : Int) < (k.toNat : Int))) (HSO : Hid (Calls Tryd.prog 34 #[.int .u8 (k.toNat : Int), .slice (some ⟨b, off + a, none⟩) 0 0] w.drew fun e w' => e = .returned (.int .u32 (sm : Int)) ∧ Below w.heap.size w.drew w')) :
    Calls Tryd.prog 31 #[.slice (some ⟨b, off, none⟩) n c, .int .i64 (a : Int)] w fun x w' => x = .returned (.tuple #[.int .u8 (k.toNat : Int), .slice (some ⟨b, off + a, none⟩) 0 0, .bool true]) ∧ Below w.heap.size w w' := by
  have hleft := left_any w a HL.out.2
  rw [HL.out.1] at hleft
  have ha0 : (0 : Int) ≤ (a : Int) := Int.natCast_nonneg a
  have c6 := H7.out.c6
  have l4 := rlow_any w.drew _ s0 s1 s2 s3 H7.out.r4.drew
  rw [HSM.out] at l4
  have l2 := rlow2_any w.drew _ n0 n1 H7.out.r2.drew
  rw [HSZ.out] at l2
  go_enter Tryd.func31, Tryd.ntmps31
  go_wp2_with fail
  refine hleft.mono ?_
  rintro e' w1 ⟨rfl, rfl⟩
  clear hleft
  go_wp2_with fail
  go_region_held3 (fun w' => w'.cell? ⟨b, off + a + 6, none⟩ = some (.int .u8 (k.toNat : Int))) (exact c6)
    (first
      | (go_at_call 36; refine l4.mono ?_; rintro e' wx ⟨rfl, hwx⟩; subst hwx; clear l4)
      | (go_at_call 36; refine l2.mono ?_; rintro e' wx ⟨rfl, hwx⟩; subst hwx; clear l2; have hk4 := HK4.out; have hk := HK.out)
      | fail)
  all_goals
    go_wp2_with fail
    refine HSO.out.mono ?_
    rintro e' w2 ⟨rfl, hb2⟩
    have HB2 : Hid (Below w1.heap.size w1 w2) := Below.mk hb2.os hb2.tape hb2.output hb2.size hb2.block
    clear hb2
    go_wp2
    go_region
    all_goals
      go_wp2
      go_ret3
      exact ⟨rfl, HB2.out.drew⟩

end Go.Proofs.YtppoimmoohfbnaaDoor
