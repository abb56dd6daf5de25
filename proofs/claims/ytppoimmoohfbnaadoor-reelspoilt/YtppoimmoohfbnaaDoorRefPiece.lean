/- bartizanref06.Piece. -/
import Derived.Test.YtppoimmoohfbnaaDoorReelCut
import Derived.BigQuiet
namespace Go.Proofs.YtppoimmoohfbnaaDoor
open Go.RowKit
set_option linter.unusedVariables false

theorem wrap_sumM {a lf a1 : Int} (h : a + lf = a1) (h0 : 0 ≤ a1) (h1 : a1 ≤ 2000000) : IntKind.i64.wrap (a + lf) = a1 ∧ wrap64 (a + lf) = a1 ∧ IntKind.i64.wrap a1 = a1 ∧ wrap64 a1 = a1 := by
  rw [h]
  refine ⟨?_, ?_, ?_, ?_⟩
  · rw [IntKind.wrap_i64]; omega
  · unfold wrap64; omega
  · rw [IntKind.wrap_i64]; omega
  · unfold wrap64; omega

set_option maxRecDepth 100000 in
set_option maxHeartbeats 2000000 in
theorem rpiece_short (w : World) (a : Nat) (v : Value) (p : List UInt8) (hv : Rd w v p) (hp : p.length ≤ 1000000) (ha : a ≤ 2000000) (h : p.length < a + 7) :
    Calls Tryd.prog 19 #[v, .int .i64 (a : Int)] w fun x w' => x = .returned (.tuple #[.int .u8 0, .slice none 0 0, .int .i64 0, .bool false]) ∧ w' = w := by
  obtain ⟨ao, cap, rfl⟩ := hv.len
  obtain ⟨L, hL⟩ : ∃ L, p.length = L := ⟨_, rfl⟩
  rw [hL] at hp h ⊢
  have h1 : ¬ (a : Int) < 0 := by omega
  have h2 : (L : Int) - 7 < (a : Int) := by omega
  have h3 : (L : Int) ≤ 1000000 := by omega
  clear hv hL h ha
  go_enter Tryd.func19, Tryd.ntmps19
  go_wp2
  refine bodyPost_ret (v := .tuple #[.int .u8 0, .slice none 0 0, .int .i64 0, .bool false]) (by simp [results]) rfl ?_
  exact ⟨rfl, rfl⟩

set_option maxRecDepth 100000 in
set_option maxHeartbeats 2000000 in
theorem rpiece_late (w : World) (a : Nat) (v : Value) (p : List UInt8) (hv : Rd w v p) (hp : p.length ≤ 1000000) (h : a + 7 ≤ p.length) (hx : 57 < a % 64) :
    Calls Tryd.prog 19 #[v, .int .i64 (a : Int)] w fun x w' => x = .returned (.tuple #[.int .u8 0, .slice none 0 0, .int .i64 0, .bool false]) ∧ w' = w := by
  obtain ⟨ao, cap, rfl⟩ := hv.len
  obtain ⟨L, hL⟩ : ∃ L, p.length = L := ⟨_, rfl⟩
  rw [hL] at hp h ⊢
  have h1 : ¬ (a : Int) < 0 := by omega
  have h2 : ¬ (L : Int) - 7 < (a : Int) := by omega
  have h3 : (L : Int) ≤ 1000000 := by omega
  have hm := mod_64 a
  obtain ⟨x, hxq⟩ : ∃ x, a % 64 = x := ⟨_, rfl⟩
  rw [hxq] at hm hx
  have h4 : (57 : Int) < (x : Int) := by omega
  clear hv hL h hx hxq
  go_enter Tryd.func19, Tryd.ntmps19
  go_wp2
  refine bodyPost_ret (v := .tuple #[.int .u8 0, .slice none 0 0, .int .i64 0, .bool false]) (by simp [results]) rfl ?_
  exact ⟨rfl, rfl⟩

set_option maxRecDepth 100000 in
set_option maxHeartbeats 2000000 in
theorem rpieceA (w : World) (a b off c L x n0 n1 k sz : Nat) (h1 : (a : Int) ≤ (L : Int) - 7) (h3 : (L : Int) ≤ 1000000) (hm : (a : Int).tmod 64 = (x : Int)) (h4 : (x : Int) ≤ 57) (hLc : (L : Int) ≤ (c : Int))
    (c4 : w.cell? ⟨b, off + (a + 4), none⟩ = some (.int .u8 (n0 : Int))) (c5 : w.cell? ⟨b, off + (a + 5), none⟩ = some (.int .u8 (n1 : Int))) (c6 : w.cell? ⟨b, off + (a + 6), none⟩ = some (.int .u8 (k : Int)))
    (hn0 : (n0 : Int) ≤ 255) (hn1 : (n1 : Int) ≤ 255) (hk255 : (k : Int) ≤ 255) (hs : (n0 : Int) + 256 * (n1 : Int) = (sz : Int)) (hA : (64 : Int) < (x : Int) + 7 + (sz : Int)) :
    Calls Tryd.prog 19 #[.slice (some ⟨b, off, none⟩) L c, .int .i64 (a : Int)] w fun x w' => x = .returned (.tuple #[.int .u8 0, .slice none 0 0, .int .i64 0, .bool false]) ∧ ∃ n, w' = w.drewN n := by
  have h0 : ¬ (a : Int) < 0 := by omega
  have hx0 : (0 : Int) ≤ (x : Int) := by omega
  have hsz0 : (0 : Int) ≤ (sz : Int) := by omega
  have hk0 : (0 : Int) ≤ (k : Int) := by omega
  go_enter Tryd.func19, Tryd.ntmps19
  go_wp2_with fail
  go_quiet (fail)
  go_wp2
  refine bodyPost_ret (v := .tuple #[.int .u8 0, .slice none 0 0, .int .i64 0, .bool false]) (by simp [results]) rfl ?_
  exact ⟨rfl, _, rfl⟩

set_option maxRecDepth 100000 in
set_option maxHeartbeats 2000000 in
theorem rpieceB (w : World) (a b off c L x n0 n1 k sz : Nat) (h1 : (a : Int) ≤ (L : Int) - 7) (h3 : (L : Int) ≤ 1000000) (hm : (a : Int).tmod 64 = (x : Int)) (h4 : (x : Int) ≤ 57) (hLc : (L : Int) ≤ (c : Int))
    (c4 : w.cell? ⟨b, off + (a + 4), none⟩ = some (.int .u8 (n0 : Int))) (c5 : w.cell? ⟨b, off + (a + 5), none⟩ = some (.int .u8 (n1 : Int))) (c6 : w.cell? ⟨b, off + (a + 6), none⟩ = some (.int .u8 (k : Int)))
    (hn0 : (n0 : Int) ≤ 255) (hn1 : (n1 : Int) ≤ 255) (hk255 : (k : Int) ≤ 255) (hs : (n0 : Int) + 256 * (n1 : Int) = (sz : Int)) (hA : (x : Int) + 7 + (sz : Int) ≤ 64) (hB : (L : Int) < (a : Int) + 7 + (sz : Int)) :
    Calls Tryd.prog 19 #[.slice (some ⟨b, off, none⟩) L c, .int .i64 (a : Int)] w fun x w' => x = .returned (.tuple #[.int .u8 0, .slice none 0 0, .int .i64 0, .bool false]) ∧ ∃ n, w' = w.drewN n := by
  have h0 : ¬ (a : Int) < 0 := by omega
  have hx0 : (0 : Int) ≤ (x : Int) := by omega
  have hsz0 : (0 : Int) ≤ (sz : Int) := by omega
  have hk0 : (0 : Int) ≤ (k : Int) := by omega
  go_enter Tryd.func19, Tryd.ntmps19
  go_wp2_with fail
  go_quiet (fail)
  go_wp2
  refine bodyPost_ret (v := .tuple #[.int .u8 0, .slice none 0 0, .int .i64 0, .bool false]) (by simp [results]) rfl ?_
  exact ⟨rfl, _, rfl⟩

set_option maxRecDepth 100000 in
set_option maxHeartbeats 2000000 in
theorem rpieceC (w : World) (a b off c L x n0 n1 k sz : Nat) (h1 : (a : Int) ≤ (L : Int) - 7) (h3 : (L : Int) ≤ 1000000) (hm : (a : Int).tmod 64 = (x : Int)) (h4 : (x : Int) ≤ 57) (hLc : (L : Int) ≤ (c : Int))
    (c4 : w.cell? ⟨b, off + (a + 4), none⟩ = some (.int .u8 (n0 : Int))) (c5 : w.cell? ⟨b, off + (a + 5), none⟩ = some (.int .u8 (n1 : Int))) (c6 : w.cell? ⟨b, off + (a + 6), none⟩ = some (.int .u8 (k : Int)))
    (hn0 : (n0 : Int) ≤ 255) (hn1 : (n1 : Int) ≤ 255) (hk255 : (k : Int) ≤ 255) (hs : (n0 : Int) + 256 * (n1 : Int) = (sz : Int)) (hA : (x : Int) + 7 + (sz : Int) ≤ 64) (hB : (a : Int) + 7 + (sz : Int) ≤ (L : Int)) (hC : (k : Int) < 1) :
    Calls Tryd.prog 19 #[.slice (some ⟨b, off, none⟩) L c, .int .i64 (a : Int)] w fun x w' => x = .returned (.tuple #[.int .u8 0, .slice none 0 0, .int .i64 0, .bool false]) ∧ ∃ n, w' = w.drewN n := by
  have h0 : ¬ (a : Int) < 0 := by omega
  have hx0 : (0 : Int) ≤ (x : Int) := by omega
  have hsz0 : (0 : Int) ≤ (sz : Int) := by omega
  have hk0 : (0 : Int) ≤ (k : Int) := by omega
  go_enter Tryd.func19, Tryd.ntmps19
  go_wp2_with fail
  go_quiet (fail)
  go_wp2
  refine bodyPost_ret (v := .tuple #[.int .u8 0, .slice none 0 0, .int .i64 0, .bool false]) (by simp [results]) rfl ?_
  exact ⟨rfl, _, rfl⟩

set_option maxRecDepth 100000 in
set_option maxHeartbeats 2000000 in
theorem rpieceD (w : World) (a b off c L x n0 n1 k sz : Nat) (h1 : (a : Int) ≤ (L : Int) - 7) (h3 : (L : Int) ≤ 1000000) (hm : (a : Int).tmod 64 = (x : Int)) (h4 : (x : Int) ≤ 57) (hLc : (L : Int) ≤ (c : Int))
    (c4 : w.cell? ⟨b, off + (a + 4), none⟩ = some (.int .u8 (n0 : Int))) (c5 : w.cell? ⟨b, off + (a + 5), none⟩ = some (.int .u8 (n1 : Int))) (c6 : w.cell? ⟨b, off + (a + 6), none⟩ = some (.int .u8 (k : Int)))
    (hn0 : (n0 : Int) ≤ 255) (hn1 : (n1 : Int) ≤ 255) (hk255 : (k : Int) ≤ 255) (hs : (n0 : Int) + 256 * (n1 : Int) = (sz : Int)) (hA : (x : Int) + 7 + (sz : Int) ≤ 64) (hB : (a : Int) + 7 + (sz : Int) ≤ (L : Int)) (hC : ¬ (k : Int) < 1) (hD : (4 : Int) < (k : Int)) :
    Calls Tryd.prog 19 #[.slice (some ⟨b, off, none⟩) L c, .int .i64 (a : Int)] w fun x w' => x = .returned (.tuple #[.int .u8 0, .slice none 0 0, .int .i64 0, .bool false]) ∧ ∃ n, w' = w.drewN n := by
  have h0 : ¬ (a : Int) < 0 := by omega
  have hx0 : (0 : Int) ≤ (x : Int) := by omega
  have hsz0 : (0 : Int) ≤ (sz : Int) := by omega
  have hk0 : (0 : Int) ≤ (k : Int) := by omega
  go_enter Tryd.func19, Tryd.ntmps19
  go_wp2_with fail
  go_quiet (fail)
  go_wp2
  refine bodyPost_ret (v := .tuple #[.int .u8 0, .slice none 0 0, .int .i64 0, .bool false]) (by simp [results]) rfl ?_
  exact ⟨rfl, _, rfl⟩


set_option maxRecDepth 100000 in
set_option maxHeartbeats 3000000 in
theorem rpieceE (w : World) (a b off c L x n0 n1 k sz : Nat) (h1 : (a : Int) ≤ (L : Int) - 7) (h3 : (L : Int) ≤ 1000000) (hm : (a : Int).tmod 64 = (x : Int)) (h4 : (x : Int) ≤ 57) (hLc : (L : Int) ≤ (c : Int))
    (c4 : w.cell? ⟨b, off + (a + 4), none⟩ = some (.int .u8 (n0 : Int))) (c5 : w.cell? ⟨b, off + (a + 5), none⟩ = some (.int .u8 (n1 : Int))) (c6 : w.cell? ⟨b, off + (a + 6), none⟩ = some (.int .u8 (k : Int)))
    (hn0 : (n0 : Int) ≤ 255) (hn1 : (n1 : Int) ≤ 255) (hk255 : (k : Int) ≤ 255) (hs : (n0 : Int) + 256 * (n1 : Int) = (sz : Int)) (hA : (x : Int) + 7 + (sz : Int) ≤ 64) (hB : (a : Int) + 7 + (sz : Int) ≤ (L : Int)) (hC : ¬ (k : Int) < 1) (hD : ¬ (4 : Int) < (k : Int))
    (kU : UInt8) (t q4 : List UInt8) (m : Nat) (R1 : Hid (Rd w (.slice (some ⟨b, off + (a + 6), none⟩) (a + 7 + sz - (a + 6)) (c - (a + 6))) (kU :: t))) (R2 : Hid (Rd w (.slice (some ⟨b, off + a, none⟩) (a + 4 - a) (c - a)) q4)) (HTL : Hid (t.length = sz)) (HSM : Hid (sumK kU t = m)) (HQ : Hid ((q4 == Crc.four m) = false)) :
    Calls Tryd.prog 19 #[.slice (some ⟨b, off, none⟩) L c, .int .i64 (a : Int)] w fun x w' => x = .returned (.tuple #[.int .u8 0, .slice none 0 0, .int .i64 0, .bool false]) ∧ Below w.heap.size w w' := by
  have h0 : ¬ (a : Int) < 0 := by omega
  have hx0 : (0 : Int) ≤ (x : Int) := by omega
  have hsz0 : (0 : Int) ≤ (sz : Int) := by omega
  have hk0 : (0 : Int) ≤ (k : Int) := by omega
  have hca6 : ¬ c = a + 6 := by omega
  have hca : ¬ c = a := by omega
  obtain ⟨s, m', hs1, hmm, hsl, hml⟩ := mask_facts kU t
  have hm' : m' = m := by rw [← HSM.out]; unfold sumK; rw [hs1, hmm]
  subst hm'
  have HRS : Hid (∀ n, Calls Tryd.prog 28 #[.slice (some ⟨b, off + (a + 6), none⟩) (a + 7 + sz - (a + 6)) (c - (a + 6))] (w.drewN n) fun e w' => e = .returned (.int .u32 (s : Int)) ∧ Below (w.drewN n).heap.size (w.drewN n) w') := fun n => by
    have := refsum_any (w.drewN n) _ (kU :: t) R1.out (by rw [List.length_cons, HTL.out]; omega)
    rw [hs1] at this
    exact this
  obtain ⟨mI, hmI⟩ : ∃ mI : Int, (m' : Int) = mI := ⟨_, rfl⟩
  have hmI0 : 0 ≤ mI := by omega
  have hmI1 : mI < 4294967296 := by omega
  have HML : Hid (m' < 4294967296 ∧ (m' : Int) = mI) := ⟨hml, hmI⟩
  have HRM : Hid (∀ w3, Calls Tryd.prog 27 #[.int .u32 (s : Int)] w3 fun e w' => e = .returned (.int .u32 mI) ∧ w' = w3) := fun w3 => by
    have := refmask_any s hsl w3
    rw [hmm, hmI] at this
    exact this
  have HSZ : Hid (sz ≤ 1000) := by show _ ≤ _; omega
  clear hs1 hmm hsl hml hmI HSM
  go_enter Tryd.func19, Tryd.ntmps19
  go_wp2_with fail
  go_quiet (fail)
  go_wp2_with fail
  refine Calls.mono (HRS.out _) ?_
  rintro e w3 ⟨rfl, hb3⟩
  have HB3 : Hid (Below w.heap.size w w3) := (below_drewN' (Below.refl _ _) _).trans hb3
  clear hb3
  go_wp2_with fail
  refine (HRM.out _).mono ?_
  rintro e w4 ⟨rfl, rfl⟩
  have hsm : Calls Tryd.prog 15 #[.slice (some ⟨b, off + a, none⟩) (a + 4 - a) (c - a), .slice (some ⟨w4.heap.size, 0, none⟩) 4 4] (w4.alloc (.cells #[.int .u8 (mI % 256), .int .u8 (mI / 256 % 256), .int .u8 (mI / 65536 % 256), .int .u8 (mI / 16777216)] 5)) fun e w' => e = .returned (.bool false) ∧ w' = w4.alloc (.cells #[.int .u8 (mI % 256), .int .u8 (mI / 256 % 256), .int .u8 (mI / 65536 % 256), .int .u8 (mI / 16777216)] 5) := by
    obtain ⟨hml, rfl⟩ := HML.out
    refine same_b _ _ _ q4 (Crc.four m') false ((R2.out.below HB3.out (Nat.le_refl _)).below ((Below.refl _ _).alloc (Nat.le_refl _) _) (Nat.le_refl _)) ?_ HQ.out
    obtain ⟨p0, p1, p2, p3⟩ := bytes4 m' hml
    rw [p0, p1, p2, p3]
    exact (Own.of_row (lit_row4 w4 w4.heap.size (Nat.le_refl _) _ _ _ _) (by simp)).rd
  rw [show a + 4 - a = 4 by omega] at hsm
  have HB4 : Hid (Below w.heap.size w (w4.alloc (.cells #[.int .u8 (mI % 256), .int .u8 (mI / 256 % 256), .int .u8 (mI / 65536 % 256), .int .u8 (mI / 16777216)] 5))) := HB3.out.alloc HB3.out.size _
  go_wp2_with fail
  refine hsm.mono ?_
  rintro e w5 ⟨rfl, rfl⟩
  clear hsm
  go_wp2
  refine bodyPost_ret (v := .tuple #[.int .u8 0, .slice none 0 0, .int .i64 0, .bool false]) (by simp [results]) rfl ?_
  exact ⟨rfl, HB4.out⟩

end Go.Proofs.YtppoimmoohfbnaaDoor
