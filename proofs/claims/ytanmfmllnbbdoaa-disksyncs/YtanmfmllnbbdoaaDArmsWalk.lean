/- DiskArms answers true. -/
import Derived.Test.YtanmfmllnbbdoaaDRenWalk
namespace Go.Proofs.Ytanmfmllnbbdoaa
open Go.RowKit
set_option linter.unusedVariables false

/-- the disk behind so many changes, the power going at number k -/
def armS (k did : Nat) (D : List UInt8) (s : Nat) : Dsk := ⟨decide (did = k), ((k - did : Nat) : Int), ((1 + did : Nat) : Int), 5000, [⟨[97], D, s⟩]⟩

def armC (k did : Nat) : Int := if did + 1 < k then 0 else 9

theorem arm_chg (k did : Nat) (D : List UInt8) (s : Nat) (h : did ≤ k) (hk : 1 ≤ k) : chg (armS k did D s) = (armC k did, armS k (min (did + 1) k) D s) := by
  unfold chg armS armC
  simp only
  by_cases h1 : did = k
  · rw [if_pos (decide_eq_true h1), if_neg (by omega)]
    subst h1
    rw [show min (did + 1) did = did by omega]
  · rw [if_neg (by rw [decide_eq_false h1]; decide), if_neg (by omega)]
    by_cases h2 : did + 1 < k
    · rw [if_pos (by omega), if_pos h2, show min (did + 1) k = did + 1 by omega, decide_eq_false (show ¬ did + 1 = k by omega), show ((k - did : Nat) : Int) - 1 = ((k - (did + 1) : Nat) : Int) by omega, show ((1 + did : Nat) : Int) + 1 = ((1 + (did + 1) : Nat) : Int) by omega]
    · rw [if_neg (by omega), if_neg h2, show min (did + 1) k = did + 1 by omega, decide_eq_true (show did + 1 = k by omega), show ((k - did : Nat) : Int) - 1 = ((k - (did + 1) : Nat) : Int) by omega, show ((1 + did : Nat) : Int) + 1 = ((1 + (did + 1) : Nat) : Int) by omega]

theorem arm_app (k did : Nat) (D : List UInt8) (s : Nat) (x : UInt8) (h : did ≤ k) (hk : 1 ≤ k) (hD : D.length ≤ 100) : ∃ D', D'.length ≤ D.length + 1 ∧ appD (armS k did D s) [97] [x] = (armC k did, armS k (min (did + 1) k) D' s) := by
  by_cases h1 : did = k
  · refine ⟨D, by omega, ?_⟩
    unfold appD
    have e : getBy FileA.name [97] (armS k did D s).fs = some ⟨[97], D, s⟩ := by simp [armS, getBy]
    rw [e]
    simp only
    rw [if_neg (by simp [armS, usedA]; omega), if_pos (by simp [armS, h1])]
    unfold armC
    rw [if_neg (by omega)]
    subst h1
    rw [show min (did + 1) did = did by omega]
  · refine ⟨D ++ [x], by simp, ?_⟩
    unfold appD
    have e : getBy FileA.name [97] (armS k did D s).fs = some ⟨[97], D, s⟩ := by simp [armS, getBy]
    rw [e]
    simp only
    rw [if_neg (by simp [armS, usedA]; omega), if_neg (by simp [armS, h1])]
    have e2 : ({ armS k did D s with fs := setBy FileA.name ⟨[97], D ++ [x], s⟩ (armS k did D s).fs } : Dsk) = armS k did (D ++ [x]) s := by simp [armS, setBy]
    rw [e2, arm_chg k did _ s h hk]

theorem arm_do (k did : Nat) (D : List UInt8) (s t : Nat) (h : did ≤ k) (hk : 1 ≤ k) : ∃ s', doD (armS k did D s) [⟨[97], D, t⟩] = (armC k did, armS k (min (did + 1) k) D s') := by
  unfold doD
  rw [arm_chg k did D s h hk]
  simp only
  split
  · rename_i e
    refine ⟨t, ?_⟩
    rw [e]
    rfl
  · exact ⟨s, rfl⟩

theorem arm_sync (k did : Nat) (D : List UInt8) (s : Nat) (h : did ≤ k) (hk : 1 ≤ k) : ∃ s', syncD (armS k did D s) [97] = (armC k did, armS k (min (did + 1) k) D s') := by
  unfold syncD
  have e : getBy FileA.name [97] (armS k did D s).fs = some ⟨[97], D, s⟩ := by simp [armS, getBy]
  rw [e]
  simp only
  have e2 : setBy FileA.name ⟨[97], D, D.length⟩ (armS k did D s).fs = [⟨[97], D, D.length⟩] := by simp [armS, setBy]
  rw [e2]
  exact arm_do k did D s D.length h hk

theorem arm_ren (k did : Nat) (D : List UInt8) (s : Nat) (h : did ≤ k) (hk : 1 ≤ k) : ∃ s', renD (armS k did D s) [97] [97] = (armC k did, armS k (min (did + 1) k) D s') := by
  unfold renD
  rw [if_neg (by decide)]
  have e : getBy FileA.name [97] (armS k did D s).fs = some ⟨[97], D, s⟩ := by simp [armS, getBy]
  rw [e]
  simp only
  have e2 : putBy FileA.name ⟨[97], D, s⟩ (delBy FileA.name [97] (armS k did D s).fs) = [⟨[97], D, s⟩] := by simp [armS, putBy, delBy, insBy]
  rw [e2]
  exact arm_do k did D s s h hk

theorem arm_create (k did : Nat) (D : List UInt8) (s : Nat) : createD (armS k did D s) [97] = (7, armS k did D s) := by
  unfold createD
  rw [if_neg (by decide), if_pos (by simp [armS, getBy])]

theorem arm_del (k did : Nat) (D : List UInt8) (s : Nat) : delD (armS k did D s) [98] = (6, armS k did D s) := by
  unfold delD
  have e : getBy FileA.name [98] (armS k did D s).fs = none := by simp [armS, getBy]
  rw [e]

/-- what came in, by places that are told -/
theorem Arg.lit {w : World} {v : Value} {l : List UInt8} (h : Arg w v l) : ∃ a c, v = .slice a l.length c ∧ l.length ≤ c ∧ c ≤ 9223372036854775807 ∧ ∀ j (hj : j < l.length), ∃ b off, a = some ⟨b, off, none⟩ ∧ w.cell? ⟨b, off + j, none⟩ = some (.int .u8 (l[j].toNat : Int)) := by
  rcases h with ⟨rfl, rfl⟩ | ⟨a, cap, rfl, h1, h2, h3⟩
  · exact ⟨none, 0, rfl, by simp, by omega, fun j hj => by simp at hj⟩
  · refine ⟨some a, cap, rfl, h1, by unfold maxLen at h2; omega, fun j hj => ?_⟩
    have hc := h3 j _ (bv_get l j hj)
    have hc0 := h3 0 _ (bv_get l 0 (by omega))
    have hs : a.spot = none := by simpa [Addr.add] using World.cell?_spot hc0
    obtain ⟨b, off, sp⟩ := a
    simp only at hs
    subst hs
    exact ⟨b, off, rfl, by rw [Addr.add_lit] at hc; exact hc⟩

theorem armA (k did : Nat) (z K : Int) (hz : z = (did : Int)) (hK : K = (k : Int)) (hA : did + 1 < k) (hk : k ≤ 15) : armC k did = 0 ∧ min (did + 1) k = did + 1 ∧ z < K ∧ z + 1 < K ∧ did + 1 ≤ k ∧ decide (did + 1 = k) = false ∧ ((1 + (did + 1) : Nat) : Int) = 1 + (z + 1) ∧ z + 1 = ((did + 1 : Nat) : Int) ∧ 0 ≤ z + 1 ∧ z + 1 ≤ 15 :=
  ⟨if_pos hA, by omega, by omega, by omega, by omega, decide_eq_false (by omega), by omega, by omega, by omega, by omega⟩

theorem armB (k did : Nat) (z K : Int) (hz : z = (did : Int)) (hK : K = (k : Int)) (hA : ¬ did + 1 < k) (hB : did < k) (hk : k ≤ 15) : armC k did = 9 ∧ min (did + 1) k = did + 1 ∧ z < K ∧ ¬ z + 1 < K ∧ did + 1 ≤ k ∧ decide (did + 1 = k) = true ∧ ((1 + (did + 1) : Nat) : Int) = 1 + (z + 1) ∧ z + 1 = ((did + 1 : Nat) : Int) ∧ 0 ≤ z + 1 ∧ z + 1 ≤ 15 :=
  ⟨if_neg (by omega), by omega, by omega, by omega, by omega, decide_eq_true (by omega), by omega, by omega, by omega, by omega⟩

theorem armC3 (k did : Nat) (z K : Int) (hz : z = (did : Int)) (hK : K = (k : Int)) (hd : did ≤ k) (hB : ¬ did < k) (hk : k ≤ 15) : armC k did = 9 ∧ min (did + 1) k = did ∧ ¬ z < K ∧ decide (did = k) = true ∧ ((1 + did : Nat) : Int) = 1 + z :=
  ⟨if_neg (by omega), by omega, by omega, decide_eq_true (by omega), by omega⟩

theorem K_big {K : Int} (h : K ≤ 15) : K ≤ 9223372036854775807 := by omega

theorem arm_first (k : Nat) (K : Int) (hK : K = (k : Int)) (hk : 1 ≤ k) : armD (one 1 5000 [97] [] 0) K = (0, armS k 0 [] 0) := by
  unfold armD
  rw [if_neg (by omega)]
  unfold armS one
  rw [decide_eq_false (show ¬ 0 = k by omega), hK]
  rfl

theorem gk_next {gk j n : Nat} (hj : gk + j = n) (hlt : j < n) : gk - 1 < gk ∧ gk - 1 + (j + 1) = n := by omega

theorem mod5 (y : UInt8) : (y.toNat : Int).tmod 5 = 0 ∨ (y.toNat : Int).tmod 5 = 1 ∨ (y.toNat : Int).tmod 5 = 2 ∨ (y.toNat : Int).tmod 5 = 3 ∨ (y.toNat : Int).tmod 5 = 4 := by
  rw [Int.tmod_eq_emod_of_nonneg (by omega)]
  omega

theorem arm_ch (k did : Nat) (D : List UInt8) (s : Nat) (h : did ≤ k) (hk : k ≤ 15) : (armS k did D s).ch ≤ 1099511627776 := by simp only [armS]; omega

theorem le_100 {n j : Nat} (h : n ≤ j) (h40 : ¬ (40 : Int) ≤ (j : Int)) : n ≤ 100 := by omega

set_option maxRecDepth 100000 in
set_option maxHeartbeats 8000000 in
theorem darms (w : World) (vs : Value) (l : List UInt8) (x r K : Int) (k : Nat) (hs : Arg w vs l) (hx : x.tmod 15 = r) (hr0 : 0 ≤ r) (hr1 : r ≤ 14) (hk : 1 + r = K) (HKk : Hid (K = (k : Int))) (hK1 : 1 ≤ K) (hK2 : K ≤ 15) :
    Calls Try.prog 7 #[.int .u8 x, vs] w fun e w' => e = .returned (.bool true) ∧ Below w.heap.size w w' := by
  obtain ⟨a, c, rfl, hc1, hc2, hcell⟩ := hs.lit
  have HC : Hid (∀ j (hj : j < l.length), ∃ b off, a = some ⟨b, off, none⟩ ∧ w.cell? ⟨b, off + j, none⟩ = some (.int .u8 (l[j].toNat : Int))) := hcell
  obtain ⟨n, hn⟩ : ∃ n, l.length = n := ⟨_, rfl⟩
  rw [hn] at hc1
  rw [hn]
  have HN : Hid _ := hn
  have HK : Hid (k ≤ 15 ∧ 1 ≤ k) := by have := HKk.out; show _ ∧ _; omega
  clear hcell hs hn
  go_enter Try.func7, Try.ntmps7
  go_wp2_with fail
  refine (dawake_any w).mono ?_
  rintro e w1 ⟨rfl, hb1⟩
  have HB1 : Hid (Below w.heap.size w w1) := hb1
  clear hb1
  go_wp2_with fail
  refine (new_k w1 w1 (Below.refl _ _) 5000 (by decide) (by decide)).mono ?_
  rintro e w2 ⟨d, rfl, h2⟩
  go_wp2_with fail
  refine (create_k h2 _ [97] 0 (one 1 5000 [97] [] 0) rfl (by decide) (by decide) (by kernel_rfl)).mono ?_
  rintro e w3 ⟨rfl, h3⟩
  clear h2
  go_wp2_with fail
  refine (arm_k h3 K 0 (armS k 0 [] 0) (K_big hK2) (arm_first k K HKk.out HK.out.2)).mono ?_
  rintro e w4 ⟨rfl, h4⟩
  clear h3
  go_wp2_with fail
  refine (changes_k h4).mono ?_
  rintro e w5 ⟨rfl, rfl⟩
  have hch0 : (armS k 0 [] 0).ch = 1 := rfl
  rw [hch0]
  have D0 : Hid (Dk w1 w5 d (armS k 0 [] 0)) := h4
  clear h4 hch0 hx hr0 hr1 hk
  go_wp2_with fail
  go_loopg [9, 32] n (fun gk dv iv wr => ∃ (j did : Nat) (D : List UInt8) (s : Nat) (z : Int), gk + j = n ∧ iv = .int .i64 (j : Int) ∧ dv = .int .i64 z ∧ 0 ≤ z ∧ z ≤ 15 ∧ Hid (z = (did : Int) ∧ did ≤ k ∧ D.length ≤ j) ∧ Hid (Dk w1 wr d (armS k did D s)))
  case atStart => exact ⟨0, 0, [], 0, 0, rfl, rfl, rfl, by decide, by decide, ⟨rfl, Nat.zero_le _, by simp⟩, D0⟩
  case round =>
    obtain ⟨j, did, D, s, z, hj, rfl, rfl, hz0, hz1, HZ, DD⟩ := hrel
    by_cases hlt : j < n
    · obtain ⟨b, off, rfl, hcl⟩ := HC.out j (by rw [HN.out]; exact hlt)
      have hcw := ((HB1.out.cell (p := ⟨b, off + j, none⟩) (World.block_lt_of_cell? w _ hcl)).trans hcl)
      have hcr : wr.cell? ⟨b, off + j, none⟩ = _ := ((DD.out.bel.cell (p := ⟨b, off + j, none⟩) (World.block_lt_of_cell? w1 _ hcw)).trans hcw)
      obtain ⟨y, hy⟩ : ∃ y, l[j]'(by rw [HN.out]; exact hlt) = y := ⟨_, rfl⟩
      rw [hy] at hcr
      clear hcl hcw hy
      obtain ⟨hg1, hg2⟩ := gk_next hj hlt
      by_cases h40 : (40 : Int) ≤ (j : Int)
      · go_wp2
        go_ret
        exact ⟨rfl, HB1.out.trans (DD.out.bel.mono HB1.out.size)⟩
      · have HD100 : Hid (D.length ≤ 100) := le_100 HZ.out.2.2 h40
        have h5 := mod5 y
        have hchS := arm_ch k did D s HZ.out.2.1 HK.out.1
        have HS : Hid _ := hchS
        clear hchS
        rcases h5 with h5 | h5 | h5 | h5 | h5
        · obtain ⟨D', hD', hq⟩ := arm_app k did D s y HZ.out.2.1 HK.out.2 HD100.out
          have HDL : Hid (D'.length ≤ j + 1) := Nat.le_trans hD' (Nat.succ_le_succ HZ.out.2.2)
          clear hD'
          have HQ : Hid _ := hq
          clear hq
          by_cases hA : did + 1 < k
          · obtain ⟨e1, e2, c1, c2, hle, eo, eh, hzz, hz2, hz3⟩ := armA k did z K HZ.out.1 HKk.out hA HK.out.1
            have HLE : Hid (z + 1 = ((did + 1 : Nat) : Int) ∧ did + 1 ≤ k) := ⟨hzz, hle⟩
            clear hle hzz hA
            have E1 : Hid _ := e1
            have E2 : Hid _ := e2
            have EO : Hid _ := eo
            have EH : Hid _ := eh
            clear e1 e2 eo eh
            go_wp2_with fail
            have rr : Arg (wr.alloc (.cells #[.int .u8 (y.toNat : Int)] 5)) (.slice (some ⟨wr.heap.size, 0, none⟩) 1 1) [y] := (rd_lit wr [y] (by simp [maxLen]) _ rfl).arg
            refine (append_k (DD.out.alloc _) _ [97] [y] _ _ _ rfl (by decide) HS.out rr (by simp) HQ.out).mono ?_
            rintro e w7 ⟨rfl, h7⟩
            clear rr
            rw [E1.out]
            rw [E2.out] at h7
            have DQ : Hid (Dk w1 w7 d (armS k (did + 1) D' s)) := h7
            clear h7
            have ho := on_k DQ.out
            have hch := changes_k DQ.out
            simp only [armS] at ho hch
            rw [EO.out] at ho
            rw [EH.out] at hch
            go_wp2_with fail
            refine ho.mono ?_
            rintro e w8 ⟨rfl, rfl⟩
            go_wp2_with fail
            refine hch.mono ?_
            rintro e w9 ⟨rfl, rfl⟩
            clear ho hch
            go_wp2_with fail
            go_roundg (gk - 1)
            case measure => exact hg1
            case rel => exact ⟨j + 1, (did + 1), _, _, z + 1, hg2, by go_num, rfl, hz2, hz3, ⟨HLE.out.1, HLE.out.2, HDL.out⟩, DQ⟩
          · by_cases hB : did < k
            · obtain ⟨e1, e2, c1, c2, hle, eo, eh, hzz, hz2, hz3⟩ := armB k did z K HZ.out.1 HKk.out hA hB HK.out.1
              have HLE : Hid (z + 1 = ((did + 1 : Nat) : Int) ∧ did + 1 ≤ k) := ⟨hzz, hle⟩
              clear hle hzz hA hB
              have E1 : Hid _ := e1
              have E2 : Hid _ := e2
              have EO : Hid _ := eo
              have EH : Hid _ := eh
              clear e1 e2 eo eh
              go_wp2_with fail
              have rr : Arg (wr.alloc (.cells #[.int .u8 (y.toNat : Int)] 5)) (.slice (some ⟨wr.heap.size, 0, none⟩) 1 1) [y] := (rd_lit wr [y] (by simp [maxLen]) _ rfl).arg
              refine (append_k (DD.out.alloc _) _ [97] [y] _ _ _ rfl (by decide) HS.out rr (by simp) HQ.out).mono ?_
              rintro e w7 ⟨rfl, h7⟩
              clear rr
              rw [E1.out]
              rw [E2.out] at h7
              have DQ : Hid (Dk w1 w7 d (armS k (did + 1) D' s)) := h7
              clear h7
              have ho := on_k DQ.out
              have hch := changes_k DQ.out
              simp only [armS] at ho hch
              rw [EO.out] at ho
              rw [EH.out] at hch
              go_wp2_with fail
              refine ho.mono ?_
              rintro e w8 ⟨rfl, rfl⟩
              go_wp2_with fail
              refine hch.mono ?_
              rintro e w9 ⟨rfl, rfl⟩
              clear ho hch
              go_wp2_with fail
              go_roundg (gk - 1)
              case measure => exact hg1
              case rel => exact ⟨j + 1, (did + 1), _, _, z + 1, hg2, by go_num, rfl, hz2, hz3, ⟨HLE.out.1, HLE.out.2, HDL.out⟩, DQ⟩
            · obtain ⟨e1, e2, c1, eo, eh⟩ := armC3 k did z K HZ.out.1 HKk.out HZ.out.2.1 hB HK.out.1
              have HLE : Hid (z = (did : Int) ∧ did ≤ k) := ⟨HZ.out.1, HZ.out.2.1⟩
              clear hA hB
              have E1 : Hid _ := e1
              have E2 : Hid _ := e2
              have EO : Hid _ := eo
              have EH : Hid _ := eh
              clear e1 e2 eo eh
              go_wp2_with fail
              have rr : Arg (wr.alloc (.cells #[.int .u8 (y.toNat : Int)] 5)) (.slice (some ⟨wr.heap.size, 0, none⟩) 1 1) [y] := (rd_lit wr [y] (by simp [maxLen]) _ rfl).arg
              refine (append_k (DD.out.alloc _) _ [97] [y] _ _ _ rfl (by decide) HS.out rr (by simp) HQ.out).mono ?_
              rintro e w7 ⟨rfl, h7⟩
              clear rr
              rw [E1.out]
              rw [E2.out] at h7
              have DQ : Hid (Dk w1 w7 d (armS k did D' s)) := h7
              clear h7
              have ho := on_k DQ.out
              have hch := changes_k DQ.out
              simp only [armS] at ho hch
              rw [EO.out] at ho
              rw [EH.out] at hch
              go_wp2_with fail
              refine ho.mono ?_
              rintro e w8 ⟨rfl, rfl⟩
              go_wp2_with fail
              refine hch.mono ?_
              rintro e w9 ⟨rfl, rfl⟩
              clear ho hch
              go_wp2_with fail
              go_roundg (gk - 1)
              case measure => exact hg1
              case rel => exact ⟨j + 1, did, _, _, z, hg2, by go_num, rfl, hz0, hz1, ⟨HLE.out.1, HLE.out.2, HDL.out⟩, DQ⟩
        · obtain ⟨s', hq⟩ := arm_sync k did D s HZ.out.2.1 HK.out.2
          have HDL : Hid (D.length ≤ j + 1) := Nat.le_succ_of_le HZ.out.2.2
          have HQ : Hid _ := hq
          clear hq
          by_cases hA : did + 1 < k
          · obtain ⟨e1, e2, c1, c2, hle, eo, eh, hzz, hz2, hz3⟩ := armA k did z K HZ.out.1 HKk.out hA HK.out.1
            have HLE : Hid (z + 1 = ((did + 1 : Nat) : Int) ∧ did + 1 ≤ k) := ⟨hzz, hle⟩
            clear hle hzz hA
            have E1 : Hid _ := e1
            have E2 : Hid _ := e2
            have EO : Hid _ := eo
            have EH : Hid _ := eh
            clear e1 e2 eo eh
            go_wp2_with fail
            refine (sync_k DD.out _ [97] _ _ rfl (by decide) HS.out HQ.out).mono ?_
            rintro e w7 ⟨rfl, h7⟩
            rw [E1.out]
            rw [E2.out] at h7
            have DQ : Hid (Dk w1 w7 d (armS k (did + 1) D s')) := h7
            clear h7
            have ho := on_k DQ.out
            have hch := changes_k DQ.out
            simp only [armS] at ho hch
            rw [EO.out] at ho
            rw [EH.out] at hch
            go_wp2_with fail
            refine ho.mono ?_
            rintro e w8 ⟨rfl, rfl⟩
            go_wp2_with fail
            refine hch.mono ?_
            rintro e w9 ⟨rfl, rfl⟩
            clear ho hch
            go_wp2_with fail
            go_roundg (gk - 1)
            case measure => exact hg1
            case rel => exact ⟨j + 1, (did + 1), _, _, z + 1, hg2, by go_num, rfl, hz2, hz3, ⟨HLE.out.1, HLE.out.2, HDL.out⟩, DQ⟩
          · by_cases hB : did < k
            · obtain ⟨e1, e2, c1, c2, hle, eo, eh, hzz, hz2, hz3⟩ := armB k did z K HZ.out.1 HKk.out hA hB HK.out.1
              have HLE : Hid (z + 1 = ((did + 1 : Nat) : Int) ∧ did + 1 ≤ k) := ⟨hzz, hle⟩
              clear hle hzz hA hB
              have E1 : Hid _ := e1
              have E2 : Hid _ := e2
              have EO : Hid _ := eo
              have EH : Hid _ := eh
              clear e1 e2 eo eh
              go_wp2_with fail
              refine (sync_k DD.out _ [97] _ _ rfl (by decide) HS.out HQ.out).mono ?_
              rintro e w7 ⟨rfl, h7⟩
              rw [E1.out]
              rw [E2.out] at h7
              have DQ : Hid (Dk w1 w7 d (armS k (did + 1) D s')) := h7
              clear h7
              have ho := on_k DQ.out
              have hch := changes_k DQ.out
              simp only [armS] at ho hch
              rw [EO.out] at ho
              rw [EH.out] at hch
              go_wp2_with fail
              refine ho.mono ?_
              rintro e w8 ⟨rfl, rfl⟩
              go_wp2_with fail
              refine hch.mono ?_
              rintro e w9 ⟨rfl, rfl⟩
              clear ho hch
              go_wp2_with fail
              go_roundg (gk - 1)
              case measure => exact hg1
              case rel => exact ⟨j + 1, (did + 1), _, _, z + 1, hg2, by go_num, rfl, hz2, hz3, ⟨HLE.out.1, HLE.out.2, HDL.out⟩, DQ⟩
            · obtain ⟨e1, e2, c1, eo, eh⟩ := armC3 k did z K HZ.out.1 HKk.out HZ.out.2.1 hB HK.out.1
              have HLE : Hid (z = (did : Int) ∧ did ≤ k) := ⟨HZ.out.1, HZ.out.2.1⟩
              clear hA hB
              have E1 : Hid _ := e1
              have E2 : Hid _ := e2
              have EO : Hid _ := eo
              have EH : Hid _ := eh
              clear e1 e2 eo eh
              go_wp2_with fail
              refine (sync_k DD.out _ [97] _ _ rfl (by decide) HS.out HQ.out).mono ?_
              rintro e w7 ⟨rfl, h7⟩
              rw [E1.out]
              rw [E2.out] at h7
              have DQ : Hid (Dk w1 w7 d (armS k did D s')) := h7
              clear h7
              have ho := on_k DQ.out
              have hch := changes_k DQ.out
              simp only [armS] at ho hch
              rw [EO.out] at ho
              rw [EH.out] at hch
              go_wp2_with fail
              refine ho.mono ?_
              rintro e w8 ⟨rfl, rfl⟩
              go_wp2_with fail
              refine hch.mono ?_
              rintro e w9 ⟨rfl, rfl⟩
              clear ho hch
              go_wp2_with fail
              go_roundg (gk - 1)
              case measure => exact hg1
              case rel => exact ⟨j + 1, did, _, _, z, hg2, by go_num, rfl, hz0, hz1, ⟨HLE.out.1, HLE.out.2, HDL.out⟩, DQ⟩
        · obtain ⟨s', hq⟩ := arm_ren k did D s HZ.out.2.1 HK.out.2
          have HDL : Hid (D.length ≤ j + 1) := Nat.le_succ_of_le HZ.out.2.2
          have HQ : Hid _ := hq
          clear hq
          by_cases hA : did + 1 < k
          · obtain ⟨e1, e2, c1, c2, hle, eo, eh, hzz, hz2, hz3⟩ := armA k did z K HZ.out.1 HKk.out hA HK.out.1
            have HLE : Hid (z + 1 = ((did + 1 : Nat) : Int) ∧ did + 1 ≤ k) := ⟨hzz, hle⟩
            clear hle hzz hA
            have E1 : Hid _ := e1
            have E2 : Hid _ := e2
            have EO : Hid _ := eo
            have EH : Hid _ := eh
            clear e1 e2 eo eh
            go_wp2_with fail
            refine (ren_k DD.out _ _ [97] [97] _ _ rfl (by decide) rfl (by decide) HS.out HQ.out).mono ?_
            rintro e w7 ⟨rfl, h7⟩
            rw [E1.out]
            rw [E2.out] at h7
            have DQ : Hid (Dk w1 w7 d (armS k (did + 1) D s')) := h7
            clear h7
            have ho := on_k DQ.out
            have hch := changes_k DQ.out
            simp only [armS] at ho hch
            rw [EO.out] at ho
            rw [EH.out] at hch
            go_wp2_with fail
            refine ho.mono ?_
            rintro e w8 ⟨rfl, rfl⟩
            go_wp2_with fail
            refine hch.mono ?_
            rintro e w9 ⟨rfl, rfl⟩
            clear ho hch
            go_wp2_with fail
            go_roundg (gk - 1)
            case measure => exact hg1
            case rel => exact ⟨j + 1, (did + 1), _, _, z + 1, hg2, by go_num, rfl, hz2, hz3, ⟨HLE.out.1, HLE.out.2, HDL.out⟩, DQ⟩
          · by_cases hB : did < k
            · obtain ⟨e1, e2, c1, c2, hle, eo, eh, hzz, hz2, hz3⟩ := armB k did z K HZ.out.1 HKk.out hA hB HK.out.1
              have HLE : Hid (z + 1 = ((did + 1 : Nat) : Int) ∧ did + 1 ≤ k) := ⟨hzz, hle⟩
              clear hle hzz hA hB
              have E1 : Hid _ := e1
              have E2 : Hid _ := e2
              have EO : Hid _ := eo
              have EH : Hid _ := eh
              clear e1 e2 eo eh
              go_wp2_with fail
              refine (ren_k DD.out _ _ [97] [97] _ _ rfl (by decide) rfl (by decide) HS.out HQ.out).mono ?_
              rintro e w7 ⟨rfl, h7⟩
              rw [E1.out]
              rw [E2.out] at h7
              have DQ : Hid (Dk w1 w7 d (armS k (did + 1) D s')) := h7
              clear h7
              have ho := on_k DQ.out
              have hch := changes_k DQ.out
              simp only [armS] at ho hch
              rw [EO.out] at ho
              rw [EH.out] at hch
              go_wp2_with fail
              refine ho.mono ?_
              rintro e w8 ⟨rfl, rfl⟩
              go_wp2_with fail
              refine hch.mono ?_
              rintro e w9 ⟨rfl, rfl⟩
              clear ho hch
              go_wp2_with fail
              go_roundg (gk - 1)
              case measure => exact hg1
              case rel => exact ⟨j + 1, (did + 1), _, _, z + 1, hg2, by go_num, rfl, hz2, hz3, ⟨HLE.out.1, HLE.out.2, HDL.out⟩, DQ⟩
            · obtain ⟨e1, e2, c1, eo, eh⟩ := armC3 k did z K HZ.out.1 HKk.out HZ.out.2.1 hB HK.out.1
              have HLE : Hid (z = (did : Int) ∧ did ≤ k) := ⟨HZ.out.1, HZ.out.2.1⟩
              clear hA hB
              have E1 : Hid _ := e1
              have E2 : Hid _ := e2
              have EO : Hid _ := eo
              have EH : Hid _ := eh
              clear e1 e2 eo eh
              go_wp2_with fail
              refine (ren_k DD.out _ _ [97] [97] _ _ rfl (by decide) rfl (by decide) HS.out HQ.out).mono ?_
              rintro e w7 ⟨rfl, h7⟩
              rw [E1.out]
              rw [E2.out] at h7
              have DQ : Hid (Dk w1 w7 d (armS k did D s')) := h7
              clear h7
              have ho := on_k DQ.out
              have hch := changes_k DQ.out
              simp only [armS] at ho hch
              rw [EO.out] at ho
              rw [EH.out] at hch
              go_wp2_with fail
              refine ho.mono ?_
              rintro e w8 ⟨rfl, rfl⟩
              go_wp2_with fail
              refine hch.mono ?_
              rintro e w9 ⟨rfl, rfl⟩
              clear ho hch
              go_wp2_with fail
              go_roundg (gk - 1)
              case measure => exact hg1
              case rel => exact ⟨j + 1, did, _, _, z, hg2, by go_num, rfl, hz0, hz1, ⟨HLE.out.1, HLE.out.2, HDL.out⟩, DQ⟩
        · go_wp2_with fail
          refine (create_k DD.out _ [97] 7 _ rfl (by decide) HS.out (arm_create k did D s)).mono ?_
          rintro e w7 ⟨rfl, h7⟩
          go_wp2_with fail
          refine (del_k h7 _ [98] 6 _ rfl (by decide) HS.out (arm_del k did D s)).mono ?_
          rintro e w8 ⟨rfl, h8⟩
          have DQ : Hid (Dk w1 w8 d (armS k did D s)) := h8
          clear h7 h8
          go_wp2_with fail
          go_roundg (gk - 1)
          case measure => exact hg1
          case rel => exact ⟨j + 1, did, D, s, z, hg2, by go_num, rfl, hz0, hz1, ⟨HZ.out.1, HZ.out.2.1, Nat.le_succ_of_le HZ.out.2.2⟩, DQ⟩
        · go_wp2_with fail
          refine (list_k DD.out).mono ?_
          rintro e w7 ⟨a7, k7, rfl, _, h7⟩
          go_wp2_with fail
          refine (used_k h7 _ rfl).mono ?_
          rintro e w8 ⟨rfl, h8⟩
          have DQ : Hid (Dk w1 w8 d (armS k did D s)) := h8
          clear h7 h8
          go_wp2_with fail
          go_roundg (gk - 1)
          case measure => exact hg1
          case rel => exact ⟨j + 1, did, D, s, z, hg2, by go_num, rfl, hz0, hz1, ⟨HZ.out.1, HZ.out.2.1, Nat.le_succ_of_le HZ.out.2.2⟩, DQ⟩
    · go_wp2
      go_ret
      exact ⟨rfl, HB1.out.trans (DD.out.bel.mono HB1.out.size)⟩

theorem diskArms_walk (x : Int) (a1 : Option Addr) (len1 cap1 : Nat) (z1 : List Int) (w : World) (w0 : (Lit.int .u8 x).wf = true) (w1 : IsRow .u8 w a1 len1 cap1 z1) :
    Calls Try.prog 7 #[.int .u8 x, .slice a1 len1 cap1] w fun e w' => e = .returned (.bool true) ∧ Below w.heap.size w w' := by
  have hb := bounds_u8 w0
  have hm : x.tmod 15 = x % 15 := Int.tmod_eq_emod_of_nonneg (by omega)
  exact darms w _ _ x (x.tmod 15) (1 + x.tmod 15) (1 + x.tmod 15).toNat (arg_of w1) rfl (by omega) (by omega) rfl (by show _ = _; omega) (by omega) (by omega)

end Go.Proofs.Ytanmfmllnbbdoaa
