/- bartizanref11.probe, bartizanref11.Has. -/
import Derived.Test.YtlonomjepipjlaaDoorBlHas
import Derived.Test.YtlonomjepipjlaaDoorRefSum
import Derived.Deep.LoopGhost
namespace Go.Proofs.YtlonomjepipjlaaDoor
open Go.RowKit
set_option linter.unusedVariables false

theorem odd_or (s : Nat) : s ||| 1 = if s % 2 = 0 then s + 1 else s := by
  have h1 : (s ||| 1) / 2 = s / 2 := by rw [Nat.or_div_two]; simp
  have h2 : (s ||| 1) % 2 = 1 := Nat.or_mod_two_eq_one.2 (.inr rfl)
  have h : s ||| 1 = 2 * (s / 2) + 1 := by omega
  rw [h]
  split <;> omega

set_option maxHeartbeats 4000000 in
set_option maxRecDepth 100000 in
theorem rprobe_any (w : World) (va : Option Addr) (vc : Nat) (key : List UInt8) (i B : Nat) (hi : i ≤ 255) (hB0 : 0 < B) (hB : B ≤ 8000000) (hl : key.length ≤ 1000000) (hv : Rd w (.slice va key.length vc) key) :
    Calls Tryd.prog 22 #[.slice va key.length vc, .int .i64 (i : Int), .int .i64 (B : Int)] w fun e w' => e = .returned (.int .i64 ((atN key i % B : Nat) : Int)) ∧ Below w.heap.size w w' := by
  have hrs := refsum_any w _ key hv hl
  obtain ⟨a, ha⟩ : ∃ a, atN key i = a := ⟨_, rfl⟩
  have HAT : Hid (a = (hashN key + i * stepN key) % 4294967296) := by show _ = _; rw [← ha]; rfl
  have hal : a < 4294967296 := by rw [← ha]; exact atN_lt key i
  have hmod : ((a : Nat) : Int).tmod (B : Int) = ((a % B : Nat) : Int) := by rw [Int.tmod_eq_emod_of_nonneg (by omega)]; push_cast; rfl
  have hmB : a % B < 8000000 := Nat.lt_of_lt_of_le (Nat.mod_lt _ hB0) hB
  rw [ha]
  obtain ⟨z, hz⟩ : ∃ z, a % B = z := ⟨_, rfl⟩
  rw [hz] at hmod hmB ⊢
  clear ha hz
  have hcell : ∀ j (h : j < key.length), ∃ b off, va = some ⟨b, off, none⟩ ∧ w.cell? ⟨b, off + j, none⟩ = some (.int .u8 ((key[j]).toNat : Int)) := fun j h => by
    rcases hv with ⟨_, rfl⟩ | ⟨b, off, cap', e, h1, h2, h3⟩
    · simp at h
    · simp only [Value.slice.injEq] at e
      exact ⟨b, off, e.1, h3 j _ (bv_get key j h)⟩
  have hil : (i : Int) ≤ 255 := by omega
  have hcap : key.length ≤ vc := by
    rcases hv with ⟨e, rfl⟩ | ⟨b, off, cap', e, h1, h2, h3⟩
    · simp
    · simp only [Value.slice.injEq] at e
      omega
  clear hv
  go_enter Tryd.func22, Tryd.ntmps22
  go_wp2_with fail
  go_loop [7, 13] (fun sv iv => ∃ k : Nat, k ≤ key.length ∧ iv = .int .i64 (k : Int) ∧ sv = .int .u64 (hashN (key.take k) : Int)) (fun _ iv => key.length - (intOf iv).toNat)
  case atStart => exact ⟨0, Nat.zero_le _, rfl, rfl⟩
  case round =>
    obtain ⟨k, hk, rfl, rfl⟩ := hrel
    by_cases hlt : k < key.length
    · obtain ⟨b, off, rfl, hc⟩ := hcell k hlt
      have hq := hashN_lt (key.take k)
      have hb := (key[k]).toNat_lt
      have HS : Hid (hashN (key.take (k + 1)) = hstep (hashN (key.take k)) (key[k]).toNat) := hashN_take key k hlt
      obtain ⟨q, hq0⟩ : ∃ q, hashN (key.take k) = q := ⟨_, rfl⟩
      obtain ⟨y, hy0⟩ : ∃ y, (key[k]).toNat = y := ⟨_, rfl⟩
      rw [hq0, hy0] at HS
      rw [hq0] at hq
      rw [hy0] at hc hb
      rw [hq0]
      clear hcell hq0 hy0 hrs
      have hxl : q ^^^ y < 4294967296 := Crc.xor_lt hq (by omega)
      have r1 := u64_xor_nat q y (by omega) (by omega)
      have HB : Hid (hstep q y = (q ^^^ y) * 16777619 % 4294967296) := rfl
      obtain ⟨x, hx⟩ : ∃ x, q ^^^ y = x := ⟨_, rfl⟩
      rw [hx] at hxl r1 HB
      have hxI : (x : Int) < 4294967296 := by omega
      clear hx
      go_wp2
      go_round
      case rel => exact ⟨k + 1, by omega, by go_num, by rw [HS.out, HB.out]; congr 1⟩
      case measure => simp [intOf]; omega
    · have hkk : k = key.length := by omega
      subst hkk
      rw [List.take_length]
      have hh := hashN_lt key
      have hsl := Crc.sum_lt key
      have HST : Hid (stepN key = if Crc.sum key % 2 = 0 then Crc.sum key + 1 else Crc.sum key) := odd_or (Crc.sum key)
      have hstl := stepN_lt key
      obtain ⟨h0, hh0⟩ : ∃ h0, hashN key = h0 := ⟨_, rfl⟩
      obtain ⟨s0, hs0⟩ : ∃ s0, Crc.sum key = s0 := ⟨_, rfl⟩
      obtain ⟨st, hst⟩ : ∃ st, stepN key = st := ⟨_, rfl⟩
      rw [hh0, hst] at HAT
      rw [hs0, hst] at HST
      rw [hs0] at hsl hrs
      rw [hh0] at hh ⊢
      rw [hst] at hstl
      have hmul : IntKind.u64.wrap ((i : Int) * (st : Int)) = ((i * st : Nat) : Int) := by
        have h9 : i * st ≤ 255 * 4294967296 := Nat.mul_le_mul hi (by omega)
        rw [IntKind.wrap_u64]
        have : ((i : Int) * (st : Int)) = ((i * st : Nat) : Int) := by push_cast; rfl
        rw [this]
        omega
      have hml : i * st ≤ 255 * 4294967296 := Nat.mul_le_mul hi (by omega)
      obtain ⟨m, hm⟩ : ∃ m, i * st = m := ⟨_, rfl⟩
      rw [hm] at hmul hml HAT
      have hsum : ((h0 : Int) + (m : Int)) % 4294967296 = (a : Int) := by rw [HAT.out]; omega
      have hBI : (0 : Int) < (B : Int) := by omega
      have hBI2 : (B : Int) ≤ 8000000 := by omega
      clear hcell hh0 hs0 hst hm
      go_wp2_with fail
      refine hrs.mono ?_
      rintro e w1 ⟨rfl, hb1⟩
      clear hrs
      by_cases he : s0 % 2 = 0
      · have he2 : (s0 : Int) % 2 = 0 := by omega
        have hst2 : (s0 : Int) + 1 = (st : Int) := by have := HST.out; rw [if_pos he] at this; omega
        go_wp2
        go_ret
        exact ⟨rfl, hb1⟩
      · have he2 : (s0 : Int) % 2 = 1 := by omega
        have hst2 : s0 = st := by have := HST.out; rw [if_neg he] at this; omega
        subst hst2
        go_wp2
        go_ret
        exact ⟨rfl, hb1⟩

theorem all_next {P : Nat → Bool} {j : Nat} (h : ∀ i < j, P i = true) (hj : P j = true) : ∀ i < j + 1, P i = true := by
  intro i hi
  by_cases h' : i < j
  · exact h i h'
  · have : i = j := by omega
    rw [this]
    exact hj

theorem shr_bit (y r : Nat) : (((y : Int) / 2 ^ r).tmod 2 == 0) = !(y / 2 ^ r % 2 == 1) := by
  have e : (y : Int) / 2 ^ r = ((y / 2 ^ r : Nat) : Int) := by push_cast; rfl
  rw [e]
  generalize y / 2 ^ r = p
  rw [Int.tmod_eq_emod_of_nonneg (by omega)]
  rw [Bool.eq_iff_iff]
  simp
  omega

set_option maxHeartbeats 4000000 in
set_option maxRecDepth 100000 in
theorem rhas_any (w : World) (fa : Option Addr) (fc : Nat) (ka : Option Addr) (kc : Nat) (f key : List UInt8) (hfb : f.length ≤ 1000000) (hkl : key.length ≤ 1000000) (hf : Rd w (.slice fa f.length fc) f) (hk : Rd w (.slice ka key.length kc) key) :
    Calls Tryd.prog 17 #[.slice fa f.length fc, .slice ka key.length kc] w fun e w' => e = .returned (.bool (hasB f key)) ∧ Below w.heap.size w w' := by
  by_cases h9 : 9 ≤ f.length
  · obtain ⟨sz, hsz⟩ : ∃ sz, f.length = sz + 1 := ⟨f.length - 1, by omega⟩
    obtain ⟨bb, off, rfl⟩ : ∃ bb off, fa = some ⟨bb, off, none⟩ := by
      rcases hf with ⟨e, rfl⟩ | ⟨bb, off, cap, e, _⟩
      · simp at hsz
      · simp only [Value.slice.injEq] at e
        exact ⟨bb, off, e.1⟩
    have hgd : f.getD (f.length - 1) 0 = f[sz]'(by omega) := by
      rw [List.getD_eq_getElem?_getD, List.getElem?_eq_getElem (by omega)]
      simp [hsz]
    have HCN : Hid (cntF f = (f[sz]'(by omega)).toNat) := by show _ = _; unfold cntF; rw [hgd]
    have HIS : Hid (isF f = (decide (1 ≤ cntF f) && decide (cntF f ≤ 30))) := by show _ = _; unfold isF cntF; rw [decide_eq_true h9, Bool.true_and]
    have hcz := (rd_cells hf).2 sz _ (bv_get f sz (by omega))
    rw [Addr.add_lit] at hcz
    rw [← HCN.out] at hcz
    have hcl : cntF f < 256 := by rw [HCN.out]; exact (f[sz]'(by omega)).toNat_lt
    have HHAS : Hid (hasB f key = (!isF f || (List.range (cntF f)).all fun i => bitB f (atN key i % (8 * sz)))) := by show _ = _; unfold hasB; rw [show f.length - 1 = sz by omega]
    have HSZ : Hid (f.length = sz + 1) := hsz
    obtain ⟨c, hc⟩ : ∃ c, cntF f = c := ⟨_, rfl⟩
    rw [hc] at hcz hcl HHAS HIS
    have HF : Hid (Rd w (.slice (some ⟨bb, off, none⟩) f.length fc) f) := hf
    have HKY : Hid (Rd w (.slice ka key.length kc) key) := hk
    obtain ⟨H, hH⟩ : ∃ H, hasB f key = H := ⟨_, rfl⟩
    rw [hH] at HHAS ⊢
    have hsI : (8 : Int) ≤ (sz : Int) := by omega
    have hsI2 : (sz : Int) ≤ 1000000 := by omega
    clear hgd HCN hc hf hk hH
    by_cases hcz0 : c = 0
    · have hcI : (c : Int) = 0 := by omega
      have hfin : Hid (H = true) := by show _ = _; rw [HHAS.out, HIS.out, hcz0]; rfl
      go_enter Tryd.func17, Tryd.ntmps17
      go_wp2
      go_ret
      exact ⟨ret_bo (by rw [hfin.out]), Below.refl _ _⟩
    · have hcI : ¬ (c : Int) = 0 := by omega
      have hcb : ((c : Int) == 0) = false := by simpa using hcI
      by_cases hc30 : 30 < c
      · have hcI2 : (30 : Int) < (c : Int) := by omega
        have hfin : Hid (H = true) := by show _ = _; rw [HHAS.out, HIS.out, decide_eq_false (p := c ≤ 30) (by omega), Bool.and_false]; rfl
        go_enter Tryd.func17, Tryd.ntmps17
        go_wp2
        go_ret
        exact ⟨ret_bo (by rw [hfin.out]), Below.refl _ _⟩
      · have hcI2 : ¬ (30 : Int) < (c : Int) := by omega
        have HFI : Hid (H = (List.range c).all fun i => bitB f (atN key i % (8 * sz))) := by show _ = _; rw [HHAS.out, HIS.out, decide_eq_true (p := 1 ≤ c) (by omega), decide_eq_true (p := c ≤ 30) (by omega)]; rfl
        clear HHAS HIS
        go_enter Tryd.func17, Tryd.ntmps17
        go_wp2_with fail
        go_loopg [32] c (fun gk iv wr => ∃ j : Nat, gk + j = c ∧ iv = .int .i64 (j : Int) ∧ (∀ i < j, bitB f (atN key i % (8 * sz)) = true) ∧ Below w.heap.size w wr)
        case atStart => exact ⟨0, rfl, rfl, fun i hi => absurd hi (Nat.not_lt_zero _), Below.refl _ _⟩
        case round =>
          obtain ⟨j, hj, rfl, hall, hB⟩ := hrel
          have HALL : Hid (∀ i < j, bitB f (atN key i % (8 * sz)) = true) := hall
          clear hall
          by_cases hlt : j < c
          · obtain ⟨g, rfl⟩ : ∃ g, gk = g + 1 := ⟨gk - 1, by omega⟩
            have hjI : (j : Int) < (c : Int) := by omega
            have hpr := rprobe_any wr ka kc key j (8 * sz) (by omega) (by omega) (by have := HSZ.out; omega) hkl (HKY.out.below hB (Nat.le_refl _))
            have e8 : ((8 * sz : Nat) : Int) = 8 * (sz : Int) := by omega
            rw [e8] at hpr
            have hkb : atN key j % (8 * sz) < 8 * sz := Nat.mod_lt _ (by omega)
            obtain ⟨k, hk⟩ : ∃ k, atN key j % (8 * sz) = k := ⟨_, rfl⟩
            have HK : Hid (atN key j % (8 * sz) = k) := hk
            rw [hk] at hpr hkb
            clear e8 hk
            go_wp2_with fail
            refine hpr.mono ?_
            rintro e w2 ⟨rfl, hb2⟩
            have hB2 := hB.trans (hb2.mono hB.size)
            have HB2 : Hid (Below w.heap.size w w2) := hB2
            have hszl := HSZ.out
            have hqf : k / 8 < f.length := by omega
            have hcb2 := (rd_cells (HF.out.below hB2 (Nat.le_refl _))).2 (k / 8) _ (bv_get f (k / 8) hqf)
            rw [Addr.add_lit] at hcb2
            have hbl := (f[k / 8]).toNat_lt
            have HBIT : Hid (bitB f k = ((f[k / 8]).toNat / 2 ^ (k % 8) % 2 == 1)) := by
              show _ = _
              unfold bitB
              rw [List.getD_eq_getElem?_getD, List.getElem?_eq_getElem hqf]
              rfl
            obtain ⟨y, hy⟩ : ∃ y, (f[k / 8]).toNat = y := ⟨_, rfl⟩
            rw [hy] at hcb2 hbl HBIT
            have hq1 : (k : Int) / 8 = ((k / 8 : Nat) : Int) := by omega
            have hr1 : (k : Int) % 8 = ((k % 8 : Nat) : Int) := by omega
            have hr8 : k % 8 < 8 := by omega
            obtain ⟨q, hq⟩ : ∃ q, k / 8 = q := ⟨_, rfl⟩
            obtain ⟨r, hr⟩ : ∃ r, k % 8 = r := ⟨_, rfl⟩
            rw [hq] at hcb2 hq1 hqf
            rw [hr] at hr1 hr8 HBIT
            have hqI : (q : Int) < (f.length : Int) := by omega
            clear hszl hy hq hr hpr hb2 hB hB2
            have HSB : Hid ((((y : Int) / 2 ^ r).tmod 2 == 0) = !(y / 2 ^ r % 2 == 1)) := shr_bit y r
            go_wp2_with fail
            · rename_i hbit
              rw [HSB.out] at hbit
              have hbt : bitB f k = false := by rw [HBIT.out]; simpa using hbit
              have hfin : Hid (H = false) := by
                show _ = _
                rw [HFI.out, List.all_eq_false]
                exact ⟨j, List.mem_range.2 hlt, by rw [HK.out, hbt]; simp⟩
              go_ret
              exact ⟨ret_bo (by rw [hfin.out]), HB2.out⟩
            · rename_i hbit
              rw [HSB.out] at hbit
              have hbt : bitB f k = true := by rw [HBIT.out]; simpa using hbit
              go_roundg g
              case measure => omega
              case rel => exact ⟨j + 1, by omega, by go_num, all_next (P := fun i => bitB f (atN key i % (8 * sz))) HALL.out (by show bitB f _ = true; rw [HK.out]; exact hbt), HB2.out⟩
          · have hjI : ¬ (j : Int) < (c : Int) := by omega
            have hjc : j = c := by omega
            have hfin : Hid (H = true) := by show _ = _; rw [HFI.out, List.all_eq_true]; intro i hi; exact HALL.out i (by have := List.mem_range.1 hi; omega)
            go_wp2
            go_ret
            exact ⟨ret_bo (by rw [hfin.out]), hB⟩
  · have hfin : Hid (hasB f key = true) := by show _ = _; unfold hasB isF; rw [decide_eq_false h9, Bool.false_and]; rfl
    obtain ⟨m, hm⟩ : ∃ m, f.length = m := ⟨_, rfl⟩
    rw [hm] at h9 ⊢
    have hmI : (m : Int) < 9 := by omega
    clear hf hk
    go_enter Tryd.func17, Tryd.ntmps17
    go_wp2
    go_ret
    exact ⟨ret_bo (by rw [hfin.out]), Below.refl _ _⟩

end Go.Proofs.YtlonomjepipjlaaDoor
