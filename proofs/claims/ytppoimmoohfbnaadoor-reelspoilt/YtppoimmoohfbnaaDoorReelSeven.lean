/- reel.piece: seven bytes and more. -/
import Derived.Test.YtppoimmoohfbnaaDoorReelTake
namespace Go.Proofs.YtppoimmoohfbnaaDoor
open Go.RowKit
set_option linter.unusedVariables false

theorem cells_drop {w : World} {b off a : Nat} {p : List UInt8} (h : ∀ j u, (bv p)[j]? = some u → w.cell? ⟨b, off + j, none⟩ = some u) : ∀ j u, (bv (p.drop a))[j]? = some u → w.cell? ⟨b, off + a + j, none⟩ = some u := fun j u hu => by
  rw [Nat.add_assoc]
  refine h (a + j) u ?_
  rw [← hu]
  simp [bv]

theorem take_in (l : List UInt8) (L i k : Nat) (h : i + k ≤ L) : (l.drop i).take k = ((l.take L).drop i).take k := by
  rw [List.drop_take, List.take_take, Nat.min_eq_left (by omega)]

/-- what the walk of a piece is told -/
structure Seven (w : World) (b o m d : Nat) (s0 s1 s2 s3 n0 n1 k : UInt8) (r : List UInt8) : Prop where
  r4 : Rd w (.slice (some ⟨b, o, none⟩) 4 d) [s0, s1, s2, s3]
  r2 : Rd w (.slice (some ⟨b, o + 4, none⟩) 2 (d - 4)) [n0, n1]
  c6 : w.cell? ⟨b, o + 6, none⟩ = some (.int .u8 (k.toNat : Int))
  cr : ∀ j u, (bv r)[j]? = some u → w.cell? ⟨b, o + 7 + j, none⟩ = some u
  ln : r.length = m - 7

theorem seven_of {w : World} {b off a c m : Nat} {p : List UInt8} {s0 s1 s2 s3 n0 n1 k : UInt8} {r : List UInt8} (h : ∀ j u, (bv p)[j]? = some u → w.cell? ⟨b, off + j, none⟩ = some u) (hq : (p.drop a).take (leftN a) = s0 :: s1 :: s2 :: s3 :: n0 :: n1 :: k :: r)
    (ha : a < p.length) (hc : p.length ≤ c) (hM : c ≤ maxLen) (hm : min p.length (a + leftN a) - a = m) : Seven w b (off + a) m (c - a) s0 s1 s2 s3 n0 n1 k r := by
  have hcd := cells_drop (a := a) h
  have hl : ((p.drop a).take (leftN a)).length = m := by rw [List.length_take, List.length_drop]; omega
  have hl2 : m = 7 + r.length := by rw [← hl, hq]; simp; omega
  have hlen : m ≤ (p.drop a).length := by rw [List.length_drop]; omega
  have hml : m ≤ leftN a := by omega
  have hcut : ∀ j u, (bv (s0 :: s1 :: s2 :: s3 :: n0 :: n1 :: k :: r))[j]? = some u → w.cell? ⟨b, off + a + j, none⟩ = some u := fun j u hu => by
    refine hcd j u ?_
    rw [← hq] at hu
    have hj : j < m := by have := (List.getElem?_eq_some_iff.1 hu).1; rw [bv_length, hl] at this; exact this
    rw [← hu]
    unfold bv
    rw [List.map_take, List.getElem?_take, if_pos (by omega)]
  have hd7 : 7 ≤ c - a := by rw [List.length_drop] at hlen; omega
  refine ⟨?_, ?_, ?_, fun j u hu => ?_, by omega⟩
  · have := rd_sub hcut 0 4 (c - a) (by omega) (by omega) (by simp)
    simpa using this
  · have := rd_sub hcut 4 2 (c - a - 4) (by omega) (by omega) (by simp)
    simpa using this
  · have := hcut 6 (.int .u8 (k.toNat : Int)) (by simp [bv])
    exact this
  · have := hcut (7 + j) u (by
      rw [← hu]
      simp [bv, show 7 + j = j + 7 by omega])
    rw [← Nat.add_assoc] at this
    exact this

theorem low2_bd (a b : UInt8) : a.toNat + b.toNat * 256 < 65536 := by have := a.toNat_lt; have := b.toNat_lt; omega

set_option maxRecDepth 100000 in
set_option maxHeartbeats 4000000 in
theorem pieceA_n (w : World) (a b off c n e m d lf rl sz sm d7 : Nat) (s0 s1 s2 s3 n0 n1 k : UInt8) (r : List UInt8) (H7 : Hid (Seven w b (off + a) m d s0 s1 s2 s3 n0 n1 k r)) (hT : Tab w)
    (f1 : ¬ c = a) (f2 : (a : Int) < (n : Int)) (f3 : (a : Int) ≤ (e : Int)) (f4 : (e : Int) ≤ (c : Int)) (f5 : min (n : Int) ((a : Int) + (lf : Int)) = (e : Int)) (f13 : (if (a : Int) + (lf : Int) < (n : Int) then (a : Int) + (lf : Int) else (n : Int)) = (e : Int)) (f7 : ¬ (m : Int) < 7) (f8 : (m : Int) ≤ (d : Int)) (f10 : (a : Int) ≤ 1000000) (f11 : (lf : Int) ≤ 64) (f12 : (1 : Int) ≤ (lf : Int)) (HL : Hid (leftN a = lf ∧ a ≤ 4611686018427387904))
    (hm : e - a = m) (hd : c - a = d) (hrl : m - 7 = rl) (h7d : d - 7 = d7) (hrd : (rl : Int) ≤ (d7 : Int)) (hsz0 : (sz : Int) ≤ 65535) (HSZ : Hid (n0.toNat + n1.toNat * 256 = sz)) (HSM : Hid (Crc.low [s0, s1, s2, s3] = sm)) (hd7 : ¬ d = 7) (hd8 : (7 : Int) ≤ (d : Int)) (g4 : (4 : Int) ≤ (d : Int)) (g6 : (6 : Int) ≤ (d : Int)) (gn : ¬ d = 4) (g6m : (6 : Int) < (m : Int)) (g7m : (7 : Int) ≤ (m : Int)) (hA : (rl : Int) < (sz : Int)) :
    Calls Tryd.prog 31 #[.slice (some ⟨b, off, none⟩) n c, .int .i64 (a : Int)] w fun x w' => x = .returned (.tuple #[.int .u8 0, .slice none 0 0, .bool false]) ∧ Below w.heap.size w w' := by
  have hleft := left_any w a HL.out.2
  rw [HL.out.1] at hleft
  have ha0 : (0 : Int) ≤ (a : Int) := Int.natCast_nonneg a
  have c6 := H7.out.c6
  have l4 := rlow_any w.drew _ s0 s1 s2 s3 H7.out.r4.drew
  rw [HSM.out] at l4
  have l2 := rlow2_any w.drew _ n0 n1 H7.out.r2.drew
  rw [HSZ.out] at l2
  have HT : Hid (Tab w) := hT
  clear hT
  go_enter Tryd.func31, Tryd.ntmps31
  go_wp2_with fail
  refine hleft.mono ?_
  rintro e' w1 ⟨rfl, rfl⟩
  clear hleft
  go_wp2_with fail
  go_region_held3 (fun w' => w'.cell? ⟨b, off + a + 6, none⟩ = some (.int .u8 (k.toNat : Int))) (exact c6)
    (first
      | (go_at_call 36; refine l4.mono ?_; rintro e' wx ⟨rfl, hwx⟩; subst hwx; clear l4)
      | (go_at_call 36; refine l2.mono ?_; rintro e' wx ⟨rfl, hwx⟩; subst hwx; clear l2)
      | fail)
  all_goals
    go_wp2
    go_ret3
    exact ⟨rfl, (Below.refl _ _).drew⟩

set_option maxRecDepth 100000 in
set_option maxHeartbeats 4000000 in
theorem pieceB_n (w : World) (a b off c n e m d lf rl sz sm d7 : Nat) (s0 s1 s2 s3 n0 n1 k : UInt8) (r : List UInt8) (H7 : Hid (Seven w b (off + a) m d s0 s1 s2 s3 n0 n1 k r)) (hT : Tab w)
    (f1 : ¬ c = a) (f2 : (a : Int) < (n : Int)) (f3 : (a : Int) ≤ (e : Int)) (f4 : (e : Int) ≤ (c : Int)) (f5 : min (n : Int) ((a : Int) + (lf : Int)) = (e : Int)) (f13 : (if (a : Int) + (lf : Int) < (n : Int) then (a : Int) + (lf : Int) else (n : Int)) = (e : Int)) (f7 : ¬ (m : Int) < 7) (f8 : (m : Int) ≤ (d : Int)) (f10 : (a : Int) ≤ 1000000) (f11 : (lf : Int) ≤ 64) (f12 : (1 : Int) ≤ (lf : Int)) (HL : Hid (leftN a = lf ∧ a ≤ 4611686018427387904))
    (hm : e - a = m) (hd : c - a = d) (hrl : m - 7 = rl) (h7d : d - 7 = d7) (hrd : (rl : Int) ≤ (d7 : Int)) (hsz0 : (sz : Int) ≤ 65535) (HSZ : Hid (n0.toNat + n1.toNat * 256 = sz)) (HSM : Hid (Crc.low [s0, s1, s2, s3] = sm)) (hd7 : ¬ d = 7) (hd8 : (7 : Int) ≤ (d : Int)) (g4 : (4 : Int) ≤ (d : Int)) (g6 : (6 : Int) ≤ (d : Int)) (gn : ¬ d = 4) (g6m : (6 : Int) < (m : Int)) (g7m : (7 : Int) ≤ (m : Int)) (hA : (sz : Int) ≤ (rl : Int)) (hk : (k.toNat : Int) < 1) :
    Calls Tryd.prog 31 #[.slice (some ⟨b, off, none⟩) n c, .int .i64 (a : Int)] w fun x w' => x = .returned (.tuple #[.int .u8 0, .slice none 0 0, .bool false]) ∧ Below w.heap.size w w' := by
  have hleft := left_any w a HL.out.2
  rw [HL.out.1] at hleft
  have ha0 : (0 : Int) ≤ (a : Int) := Int.natCast_nonneg a
  have c6 := H7.out.c6
  have l4 := rlow_any w.drew _ s0 s1 s2 s3 H7.out.r4.drew
  rw [HSM.out] at l4
  have l2 := rlow2_any w.drew _ n0 n1 H7.out.r2.drew
  rw [HSZ.out] at l2
  have HT : Hid (Tab w) := hT
  clear hT
  go_enter Tryd.func31, Tryd.ntmps31
  go_wp2_with fail
  refine hleft.mono ?_
  rintro e' w1 ⟨rfl, rfl⟩
  clear hleft
  go_wp2_with fail
  go_region_held3 (fun w' => w'.cell? ⟨b, off + a + 6, none⟩ = some (.int .u8 (k.toNat : Int))) (exact c6)
    (first
      | (go_at_call 36; refine l4.mono ?_; rintro e' wx ⟨rfl, hwx⟩; subst hwx; clear l4)
      | (go_at_call 36; refine l2.mono ?_; rintro e' wx ⟨rfl, hwx⟩; subst hwx; clear l2)
      | fail)
  all_goals
    go_wp2
    go_ret3
    exact ⟨rfl, (Below.refl _ _).drew⟩

set_option maxRecDepth 100000 in
set_option maxHeartbeats 4000000 in
theorem pieceC_n (w : World) (a b off c n e m d lf rl sz sm d7 : Nat) (s0 s1 s2 s3 n0 n1 k : UInt8) (r : List UInt8) (H7 : Hid (Seven w b (off + a) m d s0 s1 s2 s3 n0 n1 k r)) (hT : Tab w)
    (f1 : ¬ c = a) (f2 : (a : Int) < (n : Int)) (f3 : (a : Int) ≤ (e : Int)) (f4 : (e : Int) ≤ (c : Int)) (f5 : min (n : Int) ((a : Int) + (lf : Int)) = (e : Int)) (f13 : (if (a : Int) + (lf : Int) < (n : Int) then (a : Int) + (lf : Int) else (n : Int)) = (e : Int)) (f7 : ¬ (m : Int) < 7) (f8 : (m : Int) ≤ (d : Int)) (f10 : (a : Int) ≤ 1000000) (f11 : (lf : Int) ≤ 64) (f12 : (1 : Int) ≤ (lf : Int)) (HL : Hid (leftN a = lf ∧ a ≤ 4611686018427387904))
    (hm : e - a = m) (hd : c - a = d) (hrl : m - 7 = rl) (h7d : d - 7 = d7) (hrd : (rl : Int) ≤ (d7 : Int)) (hsz0 : (sz : Int) ≤ 65535) (HSZ : Hid (n0.toNat + n1.toNat * 256 = sz)) (HSM : Hid (Crc.low [s0, s1, s2, s3] = sm)) (hd7 : ¬ d = 7) (hd8 : (7 : Int) ≤ (d : Int)) (g4 : (4 : Int) ≤ (d : Int)) (g6 : (6 : Int) ≤ (d : Int)) (gn : ¬ d = 4) (g6m : (6 : Int) < (m : Int)) (g7m : (7 : Int) ≤ (m : Int)) (hA : (sz : Int) ≤ (rl : Int)) (hk : ¬ (k.toNat : Int) < 1) (hk4 : (4 : Int) < (k.toNat : Int)) :
    Calls Tryd.prog 31 #[.slice (some ⟨b, off, none⟩) n c, .int .i64 (a : Int)] w fun x w' => x = .returned (.tuple #[.int .u8 0, .slice none 0 0, .bool false]) ∧ Below w.heap.size w w' := by
  have hleft := left_any w a HL.out.2
  rw [HL.out.1] at hleft
  have ha0 : (0 : Int) ≤ (a : Int) := Int.natCast_nonneg a
  have c6 := H7.out.c6
  have l4 := rlow_any w.drew _ s0 s1 s2 s3 H7.out.r4.drew
  rw [HSM.out] at l4
  have l2 := rlow2_any w.drew _ n0 n1 H7.out.r2.drew
  rw [HSZ.out] at l2
  have HT : Hid (Tab w) := hT
  clear hT
  go_enter Tryd.func31, Tryd.ntmps31
  go_wp2_with fail
  refine hleft.mono ?_
  rintro e' w1 ⟨rfl, rfl⟩
  clear hleft
  go_wp2_with fail
  go_region_held3 (fun w' => w'.cell? ⟨b, off + a + 6, none⟩ = some (.int .u8 (k.toNat : Int))) (exact c6)
    (first
      | (go_at_call 36; refine l4.mono ?_; rintro e' wx ⟨rfl, hwx⟩; subst hwx; clear l4)
      | (go_at_call 36; refine l2.mono ?_; rintro e' wx ⟨rfl, hwx⟩; subst hwx; clear l2)
      | fail)
  all_goals
    go_wp2
    go_ret3
    exact ⟨rfl, (Below.refl _ _).drew⟩

set_option maxRecDepth 100000 in
set_option maxHeartbeats 4000000 in
theorem pieceD_n (w : World) (a b off c n e m d lf rl sz sm d7 : Nat) (s0 s1 s2 s3 n0 n1 k : UInt8) (r : List UInt8) (H7 : Hid (Seven w b (off + a) m d s0 s1 s2 s3 n0 n1 k r)) 
    (f1 : ¬ c = a) (f2 : (a : Int) < (n : Int)) (f3 : (a : Int) ≤ (e : Int)) (f4 : (e : Int) ≤ (c : Int)) (f5 : min (n : Int) ((a : Int) + (lf : Int)) = (e : Int)) (f13 : (if (a : Int) + (lf : Int) < (n : Int) then (a : Int) + (lf : Int) else (n : Int)) = (e : Int)) (f7 : ¬ (m : Int) < 7) (f8 : (m : Int) ≤ (d : Int)) (f10 : (a : Int) ≤ 1000000) (f11 : (lf : Int) ≤ 64) (f12 : (1 : Int) ≤ (lf : Int)) (HL : Hid (leftN a = lf ∧ a ≤ 4611686018427387904))
    (hm : e - a = m) (hd : c - a = d) (hrl : m - 7 = rl) (h7d : d - 7 = d7) (hrd : (rl : Int) ≤ (d7 : Int)) (hsz0 : (sz : Int) ≤ 65535) (HSZ : Hid (n0.toNat + n1.toNat * 256 = sz)) (HSM : Hid (Crc.low [s0, s1, s2, s3] = sm)) (hd7 : ¬ d = 7) (hd8 : (7 : Int) ≤ (d : Int)) (g4 : (4 : Int) ≤ (d : Int)) (g6 : (6 : Int) ≤ (d : Int)) (gn : ¬ d = 4) (g6m : (6 : Int) < (m : Int)) (g7m : (7 : Int) ≤ (m : Int)) (sv : Nat) (hA : (sz : Int) ≤ (rl : Int)) (HA7 : Hid ((sz : Int) ≤ (d7 : Int))) (HK : Hid (¬ (k.toNat : Int) < 1)) (HK4 : Hid (¬ (4 : Int) < (k.toNat : Int))) (HSO : Hid (Calls Tryd.prog 34 #[.int .u8 (k.toNat : Int), .slice (some ⟨b, off + a + 7, none⟩) sz d7] w.drew fun e w' => e = .returned (.int .u32 (sv : Int)) ∧ Below w.heap.size w.drew w')) (HNE : Hid (¬ (sm : Int) = (sv : Int))) :
    Calls Tryd.prog 31 #[.slice (some ⟨b, off, none⟩) n c, .int .i64 (a : Int)] w fun x w' => x = .returned (.tuple #[.int .u8 0, .slice none 0 0, .bool false]) ∧ Below w.heap.size w w' := by
  have hleft := left_any w a HL.out.2
  rw [HL.out.1] at hleft
  have ha0 : (0 : Int) ≤ (a : Int) := Int.natCast_nonneg a
  have c6 := H7.out.c6
  have l4 := rlow_any w.drew _ s0 s1 s2 s3 H7.out.r4.drew
  rw [HSM.out] at l4
  have l2 := rlow2_any w.drew _ n0 n1 H7.out.r2.drew
  rw [HSZ.out] at l2
  go_enter Tryd.func31, Tryd.ntmps31
  go_wp2_with fail
  refine hleft.mono ?_
  rintro e' w1 ⟨rfl, rfl⟩
  clear hleft
  go_wp2_with fail
  go_region_held3 (fun w' => w'.cell? ⟨b, off + a + 6, none⟩ = some (.int .u8 (k.toNat : Int))) (exact c6)
    (first
      | (go_at_call 36; refine l4.mono ?_; rintro e' wx ⟨rfl, hwx⟩; subst hwx; clear l4)
      | (go_at_call 36; refine l2.mono ?_; rintro e' wx ⟨rfl, hwx⟩; subst hwx; clear l2; have hA7 := HA7.out; have hk4 := HK4.out; have hk := HK.out)
      | fail)
  all_goals
    go_wp2_with fail
    refine HSO.out.mono ?_
    rintro e' w2 ⟨rfl, hb2⟩
    have hneN : ¬ sm = sv := fun h => HNE.out (by rw [h])
    have hneB : ((sm : Int) == (sv : Int)) = false := beq_eq_false_iff_ne.2 HNE.out
    have hneC : ((sm : Int) != (sv : Int)) = true := bne_iff_ne.2 HNE.out
    have HB2 : Hid (Below w1.heap.size w1 w2) := Below.mk hb2.os hb2.tape hb2.output hb2.size hb2.block
    clear hb2
    go_wp2
    go_ret3
    exact ⟨rfl, HB2.out⟩

set_option maxRecDepth 100000 in
set_option maxHeartbeats 4000000 in
theorem pieceE_n (w : World) (a b off c n e m d lf rl sz sm d7 : Nat) (s0 s1 s2 s3 n0 n1 k : UInt8) (r : List UInt8) (H7 : Hid (Seven w b (off + a) m d s0 s1 s2 s3 n0 n1 k r)) 
    (f1 : ¬ c = a) (f2 : (a : Int) < (n : Int)) (f3 : (a : Int) ≤ (e : Int)) (f4 : (e : Int) ≤ (c : Int)) (f5 : min (n : Int) ((a : Int) + (lf : Int)) = (e : Int)) (f13 : (if (a : Int) + (lf : Int) < (n : Int) then (a : Int) + (lf : Int) else (n : Int)) = (e : Int)) (f7 : ¬ (m : Int) < 7) (f8 : (m : Int) ≤ (d : Int)) (f10 : (a : Int) ≤ 1000000) (f11 : (lf : Int) ≤ 64) (f12 : (1 : Int) ≤ (lf : Int)) (HL : Hid (leftN a = lf ∧ a ≤ 4611686018427387904))
    (hm : e - a = m) (hd : c - a = d) (hrl : m - 7 = rl) (h7d : d - 7 = d7) (hrd : (rl : Int) ≤ (d7 : Int)) (hsz0 : (sz : Int) ≤ 65535) (HSZ : Hid (n0.toNat + n1.toNat * 256 = sz)) (HSM : Hid (Crc.low [s0, s1, s2, s3] = sm)) (hd7 : ¬ d = 7) (hd8 : (7 : Int) ≤ (d : Int)) (g4 : (4 : Int) ≤ (d : Int)) (g6 : (6 : Int) ≤ (d : Int)) (gn : ¬ d = 4) (g6m : (6 : Int) < (m : Int)) (g7m : (7 : Int) ≤ (m : Int)) (hA : (sz : Int) ≤ (rl : Int)) (HA7 : Hid ((sz : Int) ≤ (d7 : Int))) (HK : Hid (¬ (k.toNat : Int) < 1)) (HK4 : Hid (¬ (4 : Int) < (k.toNat : Int))) (HSO : Hid (Calls Tryd.prog 34 #[.int .u8 (k.toNat : Int), .slice (some ⟨b, off + a + 7, none⟩) sz d7] w.drew fun e w' => e = .returned (.int .u32 (sm : Int)) ∧ Below w.heap.size w.drew w')) :
    Calls Tryd.prog 31 #[.slice (some ⟨b, off, none⟩) n c, .int .i64 (a : Int)] w fun x w' => x = .returned (.tuple #[.int .u8 (k.toNat : Int), .slice (some ⟨b, off + a + 7, none⟩) sz d7, .bool true]) ∧ Below w.heap.size w w' := by
  have hleft := left_any w a HL.out.2
  rw [HL.out.1] at hleft
  have ha0 : (0 : Int) ≤ (a : Int) := Int.natCast_nonneg a
  have c6 := H7.out.c6
  have l4 := rlow_any w.drew _ s0 s1 s2 s3 H7.out.r4.drew
  rw [HSM.out] at l4
  have l2 := rlow2_any w.drew _ n0 n1 H7.out.r2.drew
  rw [HSZ.out] at l2
  go_enter Tryd.func31, Tryd.ntmps31
  go_wp2_with fail
  refine hleft.mono ?_
  rintro e' w1 ⟨rfl, rfl⟩
  clear hleft
  go_wp2_with fail
  go_region_held3 (fun w' => w'.cell? ⟨b, off + a + 6, none⟩ = some (.int .u8 (k.toNat : Int))) (exact c6)
    (first
      | (go_at_call 36; refine l4.mono ?_; rintro e' wx ⟨rfl, hwx⟩; subst hwx; clear l4)
      | (go_at_call 36; refine l2.mono ?_; rintro e' wx ⟨rfl, hwx⟩; subst hwx; clear l2; have hA7 := HA7.out; have hk4 := HK4.out; have hk := HK.out)
      | fail)
  all_goals
    go_wp2_with fail
    refine HSO.out.mono ?_
    rintro e' w2 ⟨rfl, hb2⟩
    have HB2 : Hid (Below w1.heap.size w1 w2) := Below.mk hb2.os hb2.tape hb2.output hb2.size hb2.block
    clear hb2
    go_wp2
    go_region
    all_goals
      go_wp2
      go_ret3
      exact ⟨rfl, HB2.out.drew⟩

end Go.Proofs.YtppoimmoohfbnaaDoor
