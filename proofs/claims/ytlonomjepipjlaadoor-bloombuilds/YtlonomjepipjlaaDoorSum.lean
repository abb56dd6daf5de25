/- seal.Sum, Mask, Unmask. -/
import Derived.Test.YtlonomjepipjlaaDoorSumOn
namespace Go.Proofs.YtlonomjepipjlaaDoor
open Go.RowKit

theorem on_pre (s : Nat) (ls : List (List UInt8)) (k : Nat) (h : k < ls.length) : Crc.on s (ls.take (k + 1)).flatten = Crc.on (Crc.on s (ls.take k).flatten) ls[k] := by
  rw [List.take_succ_eq_append_getElem h, List.flatten_append, Crc.on_append]
  simp only [List.flatten_cons, List.flatten_nil, List.append_nil]

theorem compl (q : Nat) (h : q < 4294967296) : bits BinOp.xor IntKind.u32 IntKind.u32.max (q : Int) = ((4294967295 - q : Nat) : Int) := by
  have e : IntKind.u32.max = ((4294967295 : Nat) : Int) := by decide
  rw [e, u32_xor_nat _ _ (by omega) h]
  congr 1
  have h1 : (BitVec.allOnes 32 ^^^ BitVec.ofNat 32 q).toNat = 4294967295 ^^^ q := by
    rw [BitVec.toNat_xor, BitVec.toNat_ofNat, BitVec.toNat_allOnes, Nat.mod_eq_of_lt (by omega)]
  rw [← h1, BitVec.allOnes_xor, BitVec.toNat_not, BitVec.toNat_ofNat, Nat.mod_eq_of_lt (by omega)]

theorem sum_any (w : World) (v : Value) (ls : List (List UInt8)) (hv : RdL w v ls) (ht : Tab w) :
    Calls Tryd.prog 26 #[v] w fun e w' => e = .returned (.int .u32 (Crc.sum ls.flatten : Int)) ∧ w' = w := by
  rcases hv with ⟨rfl, rfl⟩ | ⟨b, off, cap, rfl, h1, h2, h3⟩
  · go_enter Tryd.func26, Tryd.ntmps26
    go_wp2
    refine wp_loop_rounds 1 ?_
    rw [rounds_succ]
    go_wp2
    go_ret
    exact ⟨by rfl, rfl⟩
  · unfold maxLen at h2
    have h4 := Crc.on_lt 4294967295 ls.flatten (by omega)
    have HS : Hid (Crc.sum ls.flatten = 4294967295 - Crc.on 4294967295 ls.flatten) := rfl
    go_enter Tryd.func26, Tryd.ntmps26
    go_wp2
    go_loop [3, 8] (fun sv iv => ∃ k : Nat, k ≤ ls.length ∧ iv = .int .i64 (k : Int) ∧ sv = .int .u32 (Crc.on 4294967295 (ls.take k).flatten : Int)) (fun _ iv => ls.length - (intOf iv).toNat)
    case atStart => exact ⟨0, Nat.zero_le _, rfl, rfl⟩
    case round =>
      obtain ⟨k, hk, rfl, rfl⟩ := hrel
      by_cases hlt : k < ls.length
      · obtain ⟨u, hc, hr⟩ := h3 k hlt
        have hq := Crc.on_lt 4294967295 (ls.take k).flatten (by omega)
        have HP := on_pre 4294967295 ls k hlt
        obtain ⟨q, hq0⟩ : ∃ q, Crc.on 4294967295 (ls.take k).flatten = q := ⟨_, rfl⟩
        rw [hq0] at hq HP
        rw [hq0]
        have HPH : Hid _ := HP
        clear h3 hq0 HP
        go_wp2_with (go_at_call 28; refine (sumOn_any _ q hq _ _ hr ht).mono ?_; rintro e w' ⟨rfl, rfl⟩)
        go_round
        case rel => exact ⟨k + 1, by omega, by go_num, by rw [HPH.out]⟩
        case measure => simp [intOf]; omega
      · have hke : k = ls.length := by omega
        subst hke
        rw [List.take_length]
        obtain ⟨q, hq0⟩ : ∃ q, Crc.on 4294967295 ls.flatten = q := ⟨_, rfl⟩
        rw [hq0] at h4 HS
        rw [hq0]
        clear hq0
        go_wp2
        go_ret
        exact ⟨ret_int (by rw [HS.out]; exact compl q h4), rfl⟩

end Go.Proofs.YtlonomjepipjlaaDoor
