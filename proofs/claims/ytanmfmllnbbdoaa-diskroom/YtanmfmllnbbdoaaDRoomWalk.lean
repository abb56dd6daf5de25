/- DiskRoom answers true. -/
import Derived.Test.YtanmfmllnbbdoaaDRoomPure
namespace Go.Proofs.Ytanmfmllnbbdoaa
open Go.RowKit
set_option linter.unusedVariables false

theorem room_facts (N z kz : Int) (k : Nat) (A B C : List UInt8) (hz : z = (triU A B C : Int)) (hk : kz = (k : Int)) (hfit : z + kz ≤ N) : ¬ N - (triU A B C : Int) < ((List.replicate k (0 : UInt8)).length : Int) := by
  rw [List.length_replicate]; omega

theorem room_facts2 (N z kz : Int) (k : Nat) (A B C : List UInt8) (hz : z = (triU A B C : Int)) (hk : kz = (k : Int)) (hfit : ¬ z + kz ≤ N) : N - (triU A B C : Int) < ((List.replicate k (0 : UInt8)).length : Int) := by
  rw [List.length_replicate]; omega

theorem room_facts3 {z kz N : Int} {k : Nat} {A B C A' B' C' : List UInt8} (hz : z = (triU A B C : Int)) (hk : kz = (k : Int)) (hu : triU A' B' C' = triU A B C + (List.replicate k (0 : UInt8)).length) (hz0 : 0 ≤ z) (hk0 : 0 ≤ kz) (hN : N ≤ 256) (hfit : z + kz ≤ N) : z + kz = (triU A' B' C' : Int) ∧ 0 ≤ z + kz ∧ z + kz ≤ 256 := by
  rw [List.length_replicate] at hu
  omega

theorem room_facts4 (j : Nat) (c : Int) (h : c ≤ 3 + (j : Int)) (hj : j ≤ 100) : c ≤ 1099511627776 ∧ c + 1 ≤ 3 + ((j + 1 : Nat) : Int) ∧ c ≤ 3 + ((j + 1 : Nat) : Int) ∧ c + 1 ≤ 1099511627776 := by omega

theorem zeros_small {k : Nat} (h : k ≤ 63) : ((List.replicate k (0 : UInt8)).length : Int) ≤ 1048576 ∧ 1 * k ≤ 281474976710656 ∧ k ≤ maxLen := by
  rw [List.length_replicate]; unfold maxLen; omega

theorem b_bd {z : Int} {A B C : List UInt8} (h : z = (triU A B C : Int)) (hz : z ≤ 256) : (B.length : Int) ≤ 256 := by unfold triU at h; omega

theorem le_100' {j : Nat} (h40 : ¬ (40 : Int) ≤ (j : Int)) : j ≤ 100 := by omega
theorem k_bd {kz : Int} {k : Nat} (h : kz = (k : Int)) (hk : k ≤ 63) : 0 ≤ kz ∧ kz ≤ 63 := by omega
theorem r_bd {r : Nat} (h : r < 3) : (0 : Int) ≤ (r : Int) ∧ (r : Int) < 3 ∧ ((nm r).length : Int) = 1 := by refine ⟨by omega, by omega, rfl⟩

set_option maxRecDepth 100000 in
set_option maxHeartbeats 8000000 in
theorem droom (w : World) (vs : Value) (l : List UInt8) (x N : Int) (hs : Arg w vs l) (hx0 : 0 ≤ x) (hx1 : x ≤ 255) (hN : 1 + x = N) (hN1 : 1 ≤ N) (hN2 : N ≤ 256) :
    Calls Try.prog 6 #[.int .u8 x, vs] w fun e w' => e = .returned (.bool true) ∧ Below w.heap.size w w' := by
  obtain ⟨i0, hi, hz0, hz1, hz2⟩ := info_parts info5
  obtain ⟨a, c0, rfl, hc1, hc2, hcell⟩ := hs.lit
  have HC : Hid (∀ j (hj : j < l.length), ∃ b off, a = some ⟨b, off, none⟩ ∧ w.cell? ⟨b, off + j, none⟩ = some (.int .u8 (l[j].toNat : Int))) := hcell
  obtain ⟨n, hn⟩ : ∃ n, l.length = n := ⟨_, rfl⟩
  rw [hn] at hc1
  rw [hn]
  have HN : Hid _ := hn
  have HNb : Hid (1 ≤ N ∧ N ≤ 1048576) := by show _ ∧ _; omega
  clear hcell hs hn
  go_enter Try.func6, Try.ntmps6
  go_wp2_with fail
  refine (dawake_any w).mono ?_
  rintro e w1 ⟨rfl, hb1⟩
  have HB1 : Hid (Below w.heap.size w w1) := hb1
  clear hb1
  go_wp2_with fail
  refine (new_k w1 w1 (Below.refl _ _) N HNb.out.1 HNb.out.2).mono ?_
  rintro e w2 ⟨d, rfl, h2⟩
  have D2 : Hid (Dn w1 w2.heap.size (w2.alloc (.cells #[.string (nmS 0), .string (nmS 1), .string (nmS 2)] 9)) d (crt 0 N)) := h2.names
  clear h2 hN hx0 hx1
  go_wp2_with fail
  obtain ⟨g, hg⟩ : ∃ g, w2.heap.size = g := ⟨_, rfl⟩
  rw [hg] at D2
  rw [hg]
  go_loopg [31] 3 (fun gk iv wr => ∃ j : Nat, gk + j = 3 ∧ iv = .int .i64 (j : Int) ∧ Hid (Dn w1 g wr d (crt j N)))
  case atStart => exact ⟨0, rfl, rfl, D2⟩
  case round =>
    obtain ⟨j, hj, rfl, DD⟩ := hrel
    by_cases hlt : j < 3
    · have hcl := DD.out.cell j hlt
      obtain ⟨hg1, hg2⟩ := gk_next hj hlt
      go_wp2_with fail
      refine (create_n DD.out (nmS j) (nm j) 0 (crt (j + 1) N) rfl (by unfold nm; simp) (by unfold crt; simp; omega) (crt_step j hlt N)).mono ?_
      rintro e w4 ⟨rfl, h4⟩
      have D4 : Hid (Dn w1 g w4 d (crt (j + 1) N)) := h4
      clear h4 hcl
      go_wp2_with fail
      go_roundg (gk - 1)
      case measure => exact hg1
      case rel => exact ⟨j + 1, hg2, by go_num, D4⟩
    · have e3 : j = 3 := by omega
      subst e3
      have DT : Hid (Dn w1 g wr d (tri 3 N [] [] [])) := DD
      clear hlt hj DD
      go_wp2_with fail
      go_loopg [8, 41] n (fun gk uv iv wr => ∃ (j : Nat) (c z : Int) (A B C : List UInt8), gk + j = n ∧ iv = .int .i64 (j : Int) ∧ uv = .int .i64 z ∧ 0 ≤ z ∧ z ≤ 256 ∧ j ≤ 40 ∧ Hid (z = (triU A B C : Int) ∧ c ≤ 3 + (j : Int)) ∧ Hid (Dn w1 g wr d (tri c N A B C)))
      case atStart => exact ⟨0, 3, 0, [], [], [], rfl, rfl, rfl, by decide, by decide, by decide, ⟨rfl, by decide⟩, DT⟩
      case round =>
        obtain ⟨j, c, z, A, B, C, hj, rfl, rfl, hz00, hz11, hj40, HZ, DD⟩ := hrel
        have HCH : Hid ((tri c N A B C).ch ≤ 1099511627776) := (room_facts4 j c HZ.out.2 (Nat.le_trans hj40 (by decide))).1
        obtain ⟨bn, HBN, hbn⟩ : ∃ bn : Nat, Hid (B.length = bn) ∧ (bn : Int) ≤ 256 := ⟨B.length, rfl, b_bd HZ.out.1 hz11⟩
        by_cases hlt : j < n
        · obtain ⟨b, off, rfl, hcl⟩ := HC.out j (by rw [HN.out]; exact hlt)
          have hcw := ((HB1.out.cell (p := ⟨b, off + j, none⟩) (World.block_lt_of_cell? w _ hcl)).trans hcl)
          have hcr : wr.cell? ⟨b, off + j, none⟩ = _ := ((DD.out.bel.cell (p := ⟨b, off + j, none⟩) (World.block_lt_of_cell? w1 _ hcw)).trans hcw)
          obtain ⟨y, hy⟩ : ∃ y, l[j]'(by rw [HN.out]; exact hlt) = y := ⟨_, rfl⟩
          rw [hy] at hcr
          clear hcl hcw hy
          obtain ⟨hg1, hg2⟩ := gk_next hj hlt
          by_cases h40 : (40 : Int) ≤ (j : Int)
          · go_wp2_with fail
            refine (read_n DD.out _ [98] 0 B rfl (by decide) (tri_read c N A B C)).mono ?_
            rintro e w21 ⟨a21, k21, rfl, h21⟩
            rw [HBN.out]
            go_wp2_with fail
            refine (del_n h21 _ [98] 0 _ rfl (by decide) HCH.out (tri_del c N A B C)).mono ?_
            rintro e w22 ⟨rfl, h22⟩
            clear h21
            go_wp2_with fail
            refine (used_n h22 (z - (bn : Int)) (by rw [← HBN.out]; exact duo_used (c + 1) N A B C z HZ.out.1)).mono ?_
            rintro e w23 ⟨rfl, h23⟩
            clear h22
            go_wp2_with fail
            refine (list_n h23).mono ?_
            rintro e w24 ⟨a24, k24, rfl, h24⟩
            have HB24 : Hid (Below w.heap.size w w24) := HB1.out.trans (h24.bel.mono HB1.out.size)
            clear h23 h24
            simp only [duo, List.length_cons, List.length_nil]
            go_wp2
            go_ret
            exact ⟨rfl, HB24.out⟩
          · obtain ⟨r, hr, hr3⟩ := mod3 j
            obtain ⟨k, hk, hk6⟩ := mod64 y
            obtain ⟨kz, hkz⟩ : ∃ kz : Int, kz = (k : Int) := ⟨_, rfl⟩
            rw [← hkz] at hk6
            obtain ⟨hkz0, hkz1⟩ := k_bd hkz hk
            obtain ⟨hr0, hr1, _⟩ := r_bd hr
            have hnl : Hid (j + 1 ≤ 40) := by show _ ≤ _; omega
            have hname := DD.out.cell r hr
            have HKZ : Hid (kz = (k : Int) ∧ k ≤ 63) := ⟨hkz, hk⟩
            have HR : Hid (r < 3) := hr
            have HZS := zeros_small hk
            have HZ1 : Hid _ := HZS
            have F4 : Hid _ := room_facts4 j c HZ.out.2 (Nat.le_trans hj40 (by decide))
            clear hkz hk HZS
            by_cases hfit : z + kz ≤ N
            · obtain ⟨A', B', C', hu, hq⟩ := tri_fits r HR.out c N A B C (List.replicate k 0) (room_facts N z kz k A B C HZ.out.1 HKZ.out.1 hfit)
              obtain ⟨f1, f2, f3⟩ := room_facts3 HZ.out.1 HKZ.out.1 hu hz00 hkz0 hN2 hfit
              have F1 : Hid _ := f1
              have HQ : Hid _ := hq
              clear f1 hq hu
              obtain ⟨wx, hmk, hox, hgx⟩ := run_make_full (P := Try.prog) wr.drew wr.heap.size 31 5 i0 (.int .u8 0) 1 Try.underlying31 hi hz0 hz1 .i64 .i64 k (by rw [hz2]; exact HZ1.out.2.1) HZ1.out.2.2 (Nat.le_refl _)
              rw [← HKZ.out.1] at hmk
              have OX : Hid (Own wr.heap.size wx (.slice (some ⟨wr.heap.size, 0, none⟩) k k) (List.replicate k 0)) := zeros_own hox
              have DX : Hid (Dn w1 g wx d (tri c N A B C)) := DD.out.below (((Below.refl wr.heap.size wr).drew).grown hgx (Nat.le_refl _) (fun k' e => by cases e))
              have hnameX := DX.out.cell r HR.out
              have hdz : wr.drew.heap.size = wr.heap.size := rfl
              rw [hdz] at hmk
              clear hox hgx hdz
              go_wp2_with fail
              go_region_held3 (fun w' => w'.cell? ⟨g, r, none⟩ = some (.string (nmS r))) (first | exact hname | exact hnameX | exact hnameY)
                (first
                  | (go_at_call 19; refine (append_n DX.out (nmS r) (nm r) (List.replicate k 0) _ 0 _ rfl (by unfold nm; simp) HCH.out OX.out.rd.arg HZ1.out.1 HQ.out).mono ?_; rintro e wy ⟨rfl, hy7⟩; have DY : Hid (Dn w1 g wy d (tri (c + 1) N A' B' C')) := hy7; clear hy7; have hnameY := DY.out.cell r HR.out)
                  | fail)
              all_goals
                clear hname hnameX hnameY hmk
                go_wp2_with fail
                refine (used_n DY.out (z + kz) (by rw [tri_used]; exact F1.out.symm)).mono ?_
                rintro e w9 ⟨rfl, h9⟩
                have D9 : Hid (Dn w1 g w9 d (tri (c + 1) N A' B' C')) := h9
                clear h9
                go_wp2_with fail
                go_roundg (gk - 1)
                case measure => exact hg1
                case rel => exact ⟨j + 1, c + 1, z + kz, A', B', C', hg2, by go_num, rfl, f2, f3, hnl.out, ⟨F1.out, F4.out.2.1⟩, D9⟩
            · have hq := tri_full r HR.out c N A B C (List.replicate k 0) (room_facts2 N z kz k A B C HZ.out.1 HKZ.out.1 hfit)
              have HQ : Hid _ := hq
              clear hq
              obtain ⟨wx, hmk, hox, hgx⟩ := run_make_full (P := Try.prog) wr.drew wr.heap.size 31 5 i0 (.int .u8 0) 1 Try.underlying31 hi hz0 hz1 .i64 .i64 k (by rw [hz2]; exact HZ1.out.2.1) HZ1.out.2.2 (Nat.le_refl _)
              rw [← HKZ.out.1] at hmk
              have OX : Hid (Own wr.heap.size wx (.slice (some ⟨wr.heap.size, 0, none⟩) k k) (List.replicate k 0)) := zeros_own hox
              have DX : Hid (Dn w1 g wx d (tri c N A B C)) := DD.out.below (((Below.refl wr.heap.size wr).drew).grown hgx (Nat.le_refl _) (fun k' e => by cases e))
              have hnameX := DX.out.cell r HR.out
              have hdz : wr.drew.heap.size = wr.heap.size := rfl
              rw [hdz] at hmk
              clear hox hgx hdz
              go_wp2_with fail
              go_region_held3 (fun w' => w'.cell? ⟨g, r, none⟩ = some (.string (nmS r))) (first | exact hname | exact hnameX | exact hnameY)
                (first
                  | (go_at_call 19; refine (append_n DX.out (nmS r) (nm r) (List.replicate k 0) _ 8 _ rfl (by unfold nm; simp) HCH.out OX.out.rd.arg HZ1.out.1 HQ.out).mono ?_; rintro e wy ⟨rfl, hy7⟩; have DY : Hid (Dn w1 g wy d (tri c N A B C)) := hy7; clear hy7; have hnameY := DY.out.cell r HR.out)
                  | fail)
              all_goals
                clear hname hnameX hnameY hmk
                go_wp2_with fail
                refine (used_n DY.out z (by rw [tri_used]; exact HZ.out.1.symm)).mono ?_
                rintro e w9 ⟨rfl, h9⟩
                have D9 : Hid (Dn w1 g w9 d (tri c N A B C)) := h9
                clear h9
                go_wp2_with fail
                go_roundg (gk - 1)
                case measure => exact hg1
                case rel => exact ⟨j + 1, c, z, A, B, C, hg2, by go_num, rfl, hz00, hz11, hnl.out, ⟨HZ.out.1, F4.out.2.2.1⟩, D9⟩
        · go_wp2_with fail
          refine (read_n DD.out _ [98] 0 B rfl (by decide) (tri_read c N A B C)).mono ?_
          rintro e w21 ⟨a21, k21, rfl, h21⟩
          rw [HBN.out]
          go_wp2_with fail
          refine (del_n h21 _ [98] 0 _ rfl (by decide) HCH.out (tri_del c N A B C)).mono ?_
          rintro e w22 ⟨rfl, h22⟩
          clear h21
          go_wp2_with fail
          refine (used_n h22 (z - (bn : Int)) (by rw [← HBN.out]; exact duo_used (c + 1) N A B C z HZ.out.1)).mono ?_
          rintro e w23 ⟨rfl, h23⟩
          clear h22
          go_wp2_with fail
          refine (list_n h23).mono ?_
          rintro e w24 ⟨a24, k24, rfl, h24⟩
          have HB24 : Hid (Below w.heap.size w w24) := HB1.out.trans (h24.bel.mono HB1.out.size)
          clear h23 h24
          simp only [duo, List.length_cons, List.length_nil]
          go_wp2
          go_ret
          exact ⟨rfl, HB24.out⟩

theorem diskRoom_walk (x : Int) (a1 : Option Addr) (len1 cap1 : Nat) (z1 : List Int) (w : World) (w0 : (Lit.int .u8 x).wf = true) (w1 : IsRow .u8 w a1 len1 cap1 z1) :
    Calls Try.prog 6 #[.int .u8 x, .slice a1 len1 cap1] w fun e w' => e = .returned (.bool true) ∧ Below w.heap.size w w' := by
  have hb := bounds_u8 w0
  exact droom w _ _ x (1 + x) (arg_of w1) (by omega) (by omega) rfl (by omega) (by omega)

end Go.Proofs.Ytanmfmllnbbdoaa
