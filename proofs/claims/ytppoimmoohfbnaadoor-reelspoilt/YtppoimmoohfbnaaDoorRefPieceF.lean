/- bartizanref06.Piece, where there is one. -/
import Derived.Test.YtppoimmoohfbnaaDoorRefPiece
namespace Go.Proofs.YtppoimmoohfbnaaDoor
open Go.RowKit
set_option linter.unusedVariables false

set_option maxRecDepth 100000 in
set_option maxHeartbeats 1200000 in
theorem rpieceF (w : World) (a b off c L x n0 n1 k sz : Nat) (h1 : (a : Int) ≤ (L : Int) - 7) (h3 : (L : Int) ≤ 1000000) (hm : (a : Int).tmod 64 = (x : Int)) (h4 : (x : Int) ≤ 57) (hLc : (L : Int) ≤ (c : Int))
    (c4 : w.cell? ⟨b, off + (a + 4), none⟩ = some (.int .u8 (n0 : Int))) (c5 : w.cell? ⟨b, off + (a + 5), none⟩ = some (.int .u8 (n1 : Int))) (c6 : w.cell? ⟨b, off + (a + 6), none⟩ = some (.int .u8 (k : Int)))
    (hn0 : (n0 : Int) ≤ 255) (hn1 : (n1 : Int) ≤ 255) (hk255 : (k : Int) ≤ 255) (hs : (n0 : Int) + 256 * (n1 : Int) = (sz : Int)) (hA : (x : Int) + 7 + (sz : Int) ≤ 64) (hB : (a : Int) + 7 + (sz : Int) ≤ (L : Int)) (hC : ¬ (k : Int) < 1) (hD : ¬ (4 : Int) < (k : Int))
    (kU : UInt8) (t q4 : List UInt8) (m : Nat) (R1 : Hid (Rd w (.slice (some ⟨b, off + (a + 6), none⟩) (a + 7 + sz - (a + 6)) (c - (a + 6))) (kU :: t))) (R2 : Hid (Rd w (.slice (some ⟨b, off + a, none⟩) (a + 4 - a) (c - a)) q4)) (HTL : Hid (t.length = sz)) (HSM : Hid (sumK kU t = m)) (HQ : Hid ((q4 == Crc.four m) = true)) (hb : b < w.heap.size) (off7 : Nat) (HO7 : Hid (Rd w (.slice (some ⟨b, off7, none⟩) sz (c - (a + 7))) t)) (f7 : (¬ c = a + 7 ∧ off7 = off + (a + 7)) ∨ (c = a + 7 ∧ off7 = off)) :
    Calls Tryd.prog 19 #[.slice (some ⟨b, off, none⟩) L c, .int .i64 (a : Int)] w fun x w' => (∃ y, x = .returned (.tuple #[.int .u8 (k : Int), y, .int .i64 ((a + 7 + sz : Nat) : Int), .bool true]) ∧ OwnN w.heap.size w' y t) ∧ Below w.heap.size w w' := by
  have h0 : ¬ (a : Int) < 0 := by omega
  have hx0 : (0 : Int) ≤ (x : Int) := by omega
  have hsz0 : (0 : Int) ≤ (sz : Int) := by omega
  have hk0 : (0 : Int) ≤ (k : Int) := by omega
  have hca6 : ¬ c = a + 6 := by omega
  have hca : ¬ c = a := by omega
  obtain ⟨s, m', hs1, hmm, hsl, hml⟩ := mask_facts kU t
  have hm' : m' = m := by rw [← HSM.out]; unfold sumK; rw [hs1, hmm]
  subst hm'
  have HRS : Hid (∀ n, Calls Tryd.prog 28 #[.slice (some ⟨b, off + (a + 6), none⟩) (a + 7 + sz - (a + 6)) (c - (a + 6))] (w.drewN n) fun e w' => e = .returned (.int .u32 (s : Int)) ∧ Below (w.drewN n).heap.size (w.drewN n) w') := fun n => by
    have := refsum_any (w.drewN n) _ (kU :: t) R1.out (by rw [List.length_cons, HTL.out]; omega)
    rw [hs1] at this
    exact this
  obtain ⟨mI, hmI⟩ : ∃ mI : Int, (m' : Int) = mI := ⟨_, rfl⟩
  have hmI0 : 0 ≤ mI := by omega
  have hmI1 : mI < 4294967296 := by omega
  have HML : Hid (m' < 4294967296 ∧ (m' : Int) = mI) := ⟨hml, hmI⟩
  have HRM : Hid (∀ w3, Calls Tryd.prog 27 #[.int .u32 (s : Int)] w3 fun e w' => e = .returned (.int .u32 mI) ∧ w' = w3) := fun w3 => by
    have := refmask_any s hsl w3
    rw [hmm, hmI] at this
    exact this
  have HSZ : Hid (sz ≤ 1000) := by show _ ≤ _; omega
  clear hs1 hmm hsl hml hmI HSM
  go_enter Tryd.func19, Tryd.ntmps19
  go_wp2_with fail
  go_quiet (fail)
  go_wp2_with fail
  refine Calls.mono (HRS.out _) ?_
  rintro e w3 ⟨rfl, hb3⟩
  have HB3 : Hid (Below w.heap.size w w3) := (below_drewN' (Below.refl _ _) _).trans hb3
  clear hb3
  go_wp2_with fail
  refine (HRM.out _).mono ?_
  rintro e w4 ⟨rfl, rfl⟩
  have hsm : Calls Tryd.prog 15 #[.slice (some ⟨b, off + a, none⟩) (a + 4 - a) (c - a), .slice (some ⟨w4.heap.size, 0, none⟩) 4 4] (w4.alloc (.cells #[.int .u8 (mI % 256), .int .u8 (mI / 256 % 256), .int .u8 (mI / 65536 % 256), .int .u8 (mI / 16777216)] 5)) fun e w' => e = .returned (.bool true) ∧ w' = w4.alloc (.cells #[.int .u8 (mI % 256), .int .u8 (mI / 256 % 256), .int .u8 (mI / 65536 % 256), .int .u8 (mI / 16777216)] 5) := by
    obtain ⟨hml, rfl⟩ := HML.out
    refine same_b _ _ _ q4 (Crc.four m') true ((R2.out.below HB3.out (Nat.le_refl _)).below ((Below.refl _ _).alloc (Nat.le_refl _) _) (Nat.le_refl _)) ?_ HQ.out
    obtain ⟨p0, p1, p2, p3⟩ := bytes4 m' hml
    rw [p0, p1, p2, p3]
    exact (Own.of_row (lit_row4 w4 w4.heap.size (Nat.le_refl _) _ _ _ _) (by simp)).rd
  rw [show a + 4 - a = 4 by omega] at hsm
  have HB4 : Hid (Below w.heap.size w (w4.alloc (.cells #[.int .u8 (mI % 256), .int .u8 (mI / 256 % 256), .int .u8 (mI / 65536 % 256), .int .u8 (mI / 16777216)] 5))) := HB3.out.alloc HB3.out.size _
  go_wp2_with fail
  refine hsm.mono ?_
  rintro e w5 ⟨rfl, rfl⟩
  clear hsm
  obtain ⟨w6, hw6⟩ : ∃ w6, w4.alloc (.cells #[.int .u8 (mI % 256), .int .u8 (mI / 256 % 256), .int .u8 (mI / 65536 % 256), .int .u8 (mI / 16777216)] 5) = w6 := ⟨_, rfl⟩
  rw [hw6] at HB4 ⊢
  have c66 : w6.cell? ⟨b, off + (a + 6), none⟩ = some (.int .u8 (k : Int)) := by rw [HB4.out.cell (p := ⟨b, off + (a + 6), none⟩) hb]; exact c6
  have hcp := copy_any w6.drew _ t ((HO7.out.below HB4.out (Nat.le_refl _)).drew).arg (by rw [HTL.out]; have := HSZ.out; omega)
  have HBK : Hid (b < w6.heap.size) := Nat.lt_of_lt_of_le hb HB4.out.size
  obtain ⟨a6, ha6⟩ : ∃ a6, a + 6 = a6 := ⟨_, rfl⟩
  obtain ⟨a7, ha7⟩ : ∃ a7, a + 7 = a7 := ⟨_, rfl⟩
  obtain ⟨e7, he7⟩ : ∃ e7, a + 7 + sz = e7 := ⟨_, rfl⟩
  have HE7 : Hid (e7 = a + 7 + sz) := he7.symm
  obtain ⟨i1, i2, i3, i4, i5, i6, i7, i8⟩ : (a : Int) + 6 = (a6 : Int) ∧ (a : Int) + 7 = (a7 : Int) ∧ (a7 : Int) + (sz : Int) = (e7 : Int) ∧ (a6 : Int) < (L : Int) ∧ (a7 : Int) ≤ (e7 : Int) ∧ (e7 : Int) ≤ (c : Int) ∧ e7 - a7 = sz ∧ (e7 : Int) ≤ 1000000 := by omega
  rw [ha6] at c66
  rw [ha7] at f7 hcp
  have j0 : (0 : Int) ≤ (a6 : Int) := Int.natCast_nonneg _
  have j1 : (0 : Int) ≤ (a7 : Int) := Int.natCast_nonneg _
  have j2 : (a : Int) ≤ 1000000 := by omega
  have j3 : (sz : Int) ≤ 64 := by omega
  clear c4 c5 c6 h1 h3 hm h4 hLc hs hA hB hn0 hn1 hca6 hca ha6 ha7 he7 hw6 h0 hx0 hsz0 hk0 hk255 hC hD hmI0 hmI1 HML HRS HRM R1 R2 HQ HO7 HB3
  rcases f7 with ⟨f7, h7⟩ | ⟨f7, h7⟩
  · skip
    have h7' := h7.symm
    subst h7'
    have HW1 : Hid _ := wrap_sumM i1 j0 (by omega)
    have HW2 : Hid _ := wrap_sumM i2 j1 (by omega)
    have HW3 : Hid _ := wrap_sumM i3 (by omega) (by omega)
    have HI13 : Hid ((a : Int) + 6 = (a6 : Int) ∧ (a : Int) + 7 = (a7 : Int) ∧ (a7 : Int) + (sz : Int) = (e7 : Int)) := ⟨i1, i2, i3⟩
    clear i1 i2 i3
    go_wp2_with fail
    obtain ⟨i1, i2, i3⟩ := HI13.out
    obtain ⟨x1, x2, x3, x4⟩ := HW1.out
    obtain ⟨y1, y2, y3, y4⟩ := HW2.out
    obtain ⟨z1, z2, z3, z4⟩ := HW3.out
    clear HW1 HW2 HW3 j2 j3 i8
    go_region_held3 (fun w' => w'.cell? ⟨b, off + a6, none⟩ = some (.int .u8 (k : Int))) (first | exact c67 | exact c66)
      (first
        | (go_at_call 12; refine hcp.mono ?_; rintro e w7 ⟨y, rfl, oy, hb7⟩; obtain ⟨gy, ky, rfl⟩ := oy.shape; have c67 : w7.cell? ⟨b, off + a6, none⟩ = some (.int .u8 (k : Int)) := (hb7.cell (p := ⟨b, off + a6, none⟩) HBK.out).trans c66)
        | fail)
    all_goals
      clear x1 x2 x3 x4 y1 y2 y3 y4 z1 z2 z3 z4
      go_wp2
      refine bodyPost_ret (v := .tuple #[.int .u8 (k : Int), .slice (some ⟨gy, 0, none⟩) t.length ky, .int .i64 (e7 : Int), .bool true]) (by simp [results]) rfl ?_
      refine ⟨⟨_, ?_, .inr (oy.mono HB4.out.size)⟩, HB4.out.trans ((below_drewN' (Below.refl _ _) 1).trans hb7 |>.mono HB4.out.size)⟩
      rw [HE7.out]
  · skip
    have h7' := h7.symm
    subst h7'
    obtain rfl : sz = 0 := by omega
    obtain rfl : e7 = a7 := by omega
    subst f7
    rw [Nat.sub_self] at hcp
    rw [show ((0 : Nat) : Int) = 0 from rfl] at i3
    have HW1 : Hid _ := wrap_sumM i1 j0 (by omega)
    have HW2 : Hid _ := wrap_sumM i2 j1 (by omega)
    have HW3 : Hid _ := wrap_sumM i3 (by omega) (by omega)
    have HI13 : Hid ((a : Int) + 6 = (a6 : Int) ∧ (a : Int) + 7 = (c : Int) ∧ (c : Int) + 0 = (c : Int)) := ⟨i1, i2, i3⟩
    clear i1 i2 i3
    go_wp2_with fail
    have m1 : (c : Int) ≤ (c : Int) := Int.le_refl _
    have m2 : c - c = 0 := Nat.sub_self c
    obtain ⟨i1, i2, i3⟩ := HI13.out
    obtain ⟨x1, x2, x3, x4⟩ := HW1.out
    obtain ⟨y1, y2, y3, y4⟩ := HW2.out
    obtain ⟨z1, z2, z3, z4⟩ := HW3.out
    clear HW1 HW2 HW3 j2 j3 i8
    go_region_held3 (fun w' => w'.cell? ⟨b, off + a6, none⟩ = some (.int .u8 (k : Int))) (first | exact c67 | exact c66)
      (first
        | (go_at_call 12; refine hcp.mono ?_; rintro e w7 ⟨y, rfl, oy, hb7⟩; obtain ⟨gy, ky, rfl⟩ := oy.shape; have c67 : w7.cell? ⟨b, off + a6, none⟩ = some (.int .u8 (k : Int)) := (hb7.cell (p := ⟨b, off + a6, none⟩) HBK.out).trans c66)
        | fail)
    all_goals
      clear x1 x2 x3 x4 y1 y2 y3 y4 z1 z2 z3 z4
      go_wp2
      refine bodyPost_ret (v := .tuple #[.int .u8 (k : Int), .slice (some ⟨gy, 0, none⟩) t.length ky, .int .i64 (c : Int), .bool true]) (by simp [results]) rfl ?_
      refine ⟨⟨_, ?_, .inr (oy.mono HB4.out.size)⟩, HB4.out.trans ((below_drewN' (Below.refl _ _) 1).trans hb7 |>.mono HB4.out.size)⟩
      rw [HE7.out]

theorem win_get {p : List UInt8} {a m : Nat} {q : List UInt8} (hq : (p.drop a).take m = q) (j : Nat) (u : UInt8) (h : q[j]? = some u) : p[a + j]? = some u := by
  rw [← hq] at h
  rw [List.getElem?_take] at h
  split at h
  · rwa [List.getElem?_drop] at h
  · cases h

theorem cell_get {w : World} {b off : Nat} {p : List UInt8} (hcs : ∀ j u, (bv p)[j]? = some u → w.cell? ⟨b, off + j, none⟩ = some u) {j : Nat} {u : UInt8} (h : p[j]? = some u) : w.cell? ⟨b, off + j, none⟩ = some (.int .u8 (u.toNat : Int)) := hcs j _ (by simp [bv, h])

theorem low_beq (s0 s1 s2 s3 : UInt8) (m : Nat) (hm : m < 4294967296) : ([s0, s1, s2, s3] == Crc.four m) = decide (Crc.low [s0, s1, s2, s3] = m) := by
  rw [Bool.eq_iff_iff]
  simp only [beq_iff_eq, decide_eq_true_eq]
  constructor
  · intro h
    rw [h, Crc.low_four m hm]
  · intro h
    rw [← h, Crc.four_low]

set_option maxHeartbeats 2000000 in
theorem rpiece_at (w : World) (a b off c : Nat) (p : List UInt8) (hcs : ∀ j u, (bv p)[j]? = some u → w.cell? ⟨b, off + j, none⟩ = some u) (hb : b < w.heap.size) (ha : a ≤ 2000000) (hc : p.length ≤ c) (hM : c ≤ maxLen) (hp : p.length ≤ 1000000) :
    Calls Tryd.prog 19 #[.slice (some ⟨b, off, none⟩) p.length c, .int .i64 (a : Int)] w (PiecePost w a (pcAt p a)) := by
  have hrd : Rd w (.slice (some ⟨b, off, none⟩) p.length c) p := .inr ⟨b, off, c, rfl, hc, hM, hcs⟩
  have hno : ∀ {x : Ending} {w' : World}, (x = .returned (.tuple #[.int .u8 0, .slice none 0 0, .int .i64 0, .bool false]) ∧ ∃ n, w' = w.drewN n) → PiecePost w a none x w' := by
    rintro x w' ⟨rfl, n, rfl⟩
    exact ⟨below_drewN' (Below.refl _ _) _, rfl⟩
  have hlf : leftN a = 64 - a % 64 := rfl
  by_cases h1 : p.length < a + 7
  · rw [pcAt_short (by rw [List.length_take, List.length_drop]; omega)]
    refine (rpiece_short w a _ p hrd hp ha h1).mono ?_
    rintro x w' ⟨rfl, rfl⟩
    exact ⟨Below.refl _ _, rfl⟩
  · by_cases h2 : 57 < a % 64
    · rw [pcAt_short (by rw [List.length_take, List.length_drop]; omega)]
      refine (rpiece_late w a _ p hrd hp (by omega) h2).mono ?_
      rintro x w' ⟨rfl, rfl⟩
      exact ⟨Below.refl _ _, rfl⟩
    · obtain ⟨s0, s1, s2, s3, n0, n1, k, r, hq⟩ := seven (q := (p.drop a).take (leftN a)) (by rw [List.length_take, List.length_drop]; omega)
      have g := fun j u h => win_get hq j u h
      have d4 := cell_get hcs (g 4 n0 rfl)
      have d5 := cell_get hcs (g 5 n1 rfl)
      have d6 := cell_get hcs (g 6 k rfl)
      have hrl : r.length = min p.length (a + leftN a) - a - 7 := by
        have := congrArg List.length hq
        rw [List.length_take, List.length_drop] at this
        simp at this
        omega
      have hm := mod_64 a
      obtain ⟨x, hx⟩ : ∃ x, a % 64 = x := ⟨_, rfl⟩
      rw [hx] at hm h2 hlf
      obtain ⟨sz, hsz⟩ : ∃ sz, n0.toNat + n1.toNat * 256 = sz := ⟨_, rfl⟩
      have hn0 := n0.toNat_lt
      have hn1 := n1.toNat_lt
      have hkl := k.toNat_lt
      rw [pcAt_eq hq, hsz]
      by_cases hA : 64 < x + 7 + sz
      · rw [if_neg (by omega)]
        exact (rpieceA w a b off c p.length x n0.toNat n1.toNat k.toNat sz (by omega) (by omega) hm (by omega) (by omega) d4 d5 d6 (by omega) (by omega) (by omega) (by omega) (by omega)).mono fun _ _ h => hno h
      · by_cases hB : p.length < a + 7 + sz
        · rw [if_neg (by omega)]
          exact (rpieceB w a b off c p.length x n0.toNat n1.toNat k.toNat sz (by omega) (by omega) hm (by omega) (by omega) d4 d5 d6 (by omega) (by omega) (by omega) (by omega) (by omega) (by omega)).mono fun _ _ h => hno h
        · by_cases hC : k.toNat < 1
          · rw [if_neg (by omega)]
            exact (rpieceC w a b off c p.length x n0.toNat n1.toNat k.toNat sz (by omega) (by omega) hm (by omega) (by omega) d4 d5 d6 (by omega) (by omega) (by omega) (by omega) (by omega) (by omega) (by omega)).mono fun _ _ h => hno h
          · by_cases hD : 4 < k.toNat
            · rw [if_neg (by omega)]
              exact (rpieceD w a b off c p.length x n0.toNat n1.toNat k.toNat sz (by omega) (by omega) hm (by omega) (by omega) d4 d5 d6 (by omega) (by omega) (by omega) (by omega) (by omega) (by omega) (by omega) (by omega)).mono fun _ _ h => hno h
            · have htl : (r.take sz).length = sz := by rw [List.length_take]; omega
              have hwd : (p.drop a).take (7 + sz) = [s0, s1, s2, s3, n0, n1, k] ++ r.take sz := by
                have : (p.drop a).take (7 + sz) = ((p.drop a).take (leftN a)).take (7 + sz) := by rw [List.take_take, Nat.min_eq_left (by omega)]
                rw [this, hq, show 7 + sz = sz + 7 by omega]
                rfl
              have R1 : Rd w (.slice (some ⟨b, off + (a + 6), none⟩) (a + 7 + sz - (a + 6)) (c - (a + 6))) (k :: r.take sz) := by
                have h9 := rd_sub hcs (a + 6) (1 + sz) (c - (a + 6)) (by omega) (by omega) (by omega)
                have e9 : (p.drop (a + 6)).take (1 + sz) = k :: r.take sz := by
                  have e8 : (p.drop (a + 6)).take (1 + sz) = ((p.drop a).take (7 + sz)).drop 6 := by rw [List.drop_take, List.drop_drop, show 7 + sz - 6 = 1 + sz by omega]
                  rw [e8, hwd]
                  rfl
                rw [e9] at h9
                rw [show a + 7 + sz - (a + 6) = 1 + sz by omega]
                exact h9
              have R2 : Rd w (.slice (some ⟨b, off + a, none⟩) (a + 4 - a) (c - a)) [s0, s1, s2, s3] := by
                have h9 := rd_sub hcs a 4 (c - a) (by omega) (by omega) (by omega)
                have e9 : (p.drop a).take 4 = [s0, s1, s2, s3] := by
                  have e8 : (p.drop a).take 4 = ((p.drop a).take (7 + sz)).take 4 := by rw [List.take_take, Nat.min_eq_left (by omega)]
                  rw [e8, hwd]
                  rfl
                rw [e9] at h9
                rw [show a + 4 - a = 4 by omega]
                exact h9
              have hlb := low_beq s0 s1 s2 s3 (sumK k (r.take sz)) (Crc.mask_lt _)
              by_cases hE : Crc.low [s0, s1, s2, s3] = sumK k (r.take sz)
              · rw [if_pos ⟨by omega, hE⟩]
                rw [decide_eq_true hE] at hlb
                obtain ⟨off7, f1, f2, f3⟩ : ∃ off7, (¬ c = a + 7 → off7 = off + (a + 7)) ∧ (c = a + 7 → off7 = off) ∧ Rd w (.slice (some ⟨b, off7, none⟩) sz (c - (a + 7))) (r.take sz) := by
                  have e9 : (p.drop (a + 7)).take sz = r.take sz := by
                    have e8 : (p.drop (a + 7)).take sz = ((p.drop a).take (7 + sz)).drop 7 := by rw [List.drop_take, List.drop_drop, show 7 + sz - 7 = sz by omega]
                    rw [e8, hwd]
                    rfl
                  by_cases hca : c = a + 7
                  · refine ⟨off, fun h => absurd hca h, fun _ => rfl, ?_⟩
                    obtain rfl : sz = 0 := by omega
                    rw [List.take_zero]
                    exact rd_none b off _ (by omega)
                  · refine ⟨off + (a + 7), fun _ => rfl, fun h => absurd h hca, ?_⟩
                    rw [← e9]
                    exact rd_sub hcs (a + 7) sz (c - (a + 7)) (by omega) (by omega) (by omega)
                refine (rpieceF w a b off c p.length x n0.toNat n1.toNat k.toNat sz (by omega) (by omega) hm (by omega) (by omega) d4 d5 d6 (by omega) (by omega) (by omega) (by omega) (by omega) (by omega) (by omega) (by omega) k (r.take sz) [s0, s1, s2, s3] _ R1 R2 htl rfl hlb hb off7 f3 (Decidable.byCases (p := c = a + 7) (fun hca => .inr ⟨hca, f2 hca⟩) (fun hca => .inl ⟨hca, f1 hca⟩))).mono ?_
                rintro e w' ⟨⟨y, rfl, oy⟩, hb'⟩
                exact ⟨hb', y, by rw [htl], oy⟩
              · rw [if_neg (fun h => hE h.2)]
                rw [decide_eq_false hE] at hlb
                refine (rpieceE w a b off c p.length x n0.toNat n1.toNat k.toNat sz (by omega) (by omega) hm (by omega) (by omega) d4 d5 d6 (by omega) (by omega) (by omega) (by omega) (by omega) (by omega) (by omega) (by omega) k (r.take sz) [s0, s1, s2, s3] _ R1 R2 htl rfl hlb).mono ?_
                rintro e w' ⟨rfl, hb'⟩
                exact ⟨hb', rfl⟩

end Go.Proofs.YtppoimmoohfbnaaDoor
