/- bartizanref11.Build. -/
import Derived.Test.YtlonomjepipjlaaDoorBlPure
import Derived.Test.YtlonomjepipjlaaDoorBlRef
import Derived.Test.YtlonomjepipjlaaDoorReelFew
import Derived.Test.YtlonomjepipjlaaDoorReelSmall
import Derived.Deep.DeepCutAuto
import Derived.Deep.CutRange
import Derived.Deep.AppendLies
import Derived.Deep.LoopGhost
namespace Go.Proofs.YtlonomjepipjlaaDoor
open Go.RowKit
set_option linter.unusedVariables false

theorem infoBool : (Tryd.prog.info? 4).map (fun i => (i.zero, i.size, i.bytes)) = some (some (.bool false), 1, 1) := by kernel_rfl

theorem rtake11_any (w : World) (b : Int) : Calls Tryd.prog 21 #[.int .i64 b] w fun e w' => e = .returned (.int .i64 (takN b : Int)) ∧ w' = w := by
  by_cases h1 : b < 1
  · have HT : Hid (takN b = 1) := by show _ = _; unfold takN; rw [if_pos h1]
    go_enter Tryd.func21, Tryd.ntmps21
    go_wp2
    go_ret
    exact ⟨ret_int' (by rw [HT.out]; omega), rfl⟩
  · by_cases h2 : 100 < b
    · have HT : Hid (takN b = 100) := by show _ = _; unfold takN; rw [if_neg h1, if_pos h2]
      go_enter Tryd.func21, Tryd.ntmps21
      go_wp2
      go_ret
      exact ⟨ret_int' (by rw [HT.out]; omega), rfl⟩
    · have HT : Hid (takN b = b.toNat) := by show _ = _; unfold takN; rw [if_neg h1, if_neg h2]
      go_enter Tryd.func21, Tryd.ntmps21
      go_wp2
      go_ret
      exact ⟨ret_int' (by rw [HT.out]; omega), rfl⟩

theorem rprb_any (w : World) (b : Int) : Calls Tryd.prog 13 #[.int .i64 b] w fun e w' => e = .returned (.int .i64 (prbN b : Int)) ∧ w' = w := by
  have ht := rtake11_any w b
  have hbd := takN_bd b
  have HP : Hid (prbN b = if takN b * 69 / 100 < 1 then 1 else if 30 < takN b * 69 / 100 then 30 else takN b * 69 / 100) := rfl
  obtain ⟨p, hp⟩ : ∃ p, prbN b = p := ⟨_, rfl⟩
  obtain ⟨t, htt⟩ : ∃ t, takN b = t := ⟨_, rfl⟩
  rw [htt] at ht hbd HP
  rw [hp] at HP ⊢
  have htI : (1 : Int) ≤ (t : Int) := by omega
  have htI2 : (t : Int) ≤ 100 := by omega
  clear hp htt
  by_cases h1 : (t : Int) * 69 / 100 < 1
  · have hfin : Hid (p = 1) := by show _ = _; rw [HP.out, if_pos (by omega)]
    go_enter Tryd.func13, Tryd.ntmps13
    go_wp2_with fail
    refine ht.mono ?_
    rintro e w1 ⟨rfl, hw⟩
    subst w1
    go_wp2
    go_ret
    exact ⟨ret_int' (by rw [hfin.out]; omega), rfl⟩
  · by_cases h2 : 30 < (t : Int) * 69 / 100
    · have hfin : Hid (p = 30) := by show _ = _; rw [HP.out, if_neg (by omega), if_pos (by omega)]
      go_enter Tryd.func13, Tryd.ntmps13
      go_wp2_with fail
      refine ht.mono ?_
      rintro e w1 ⟨rfl, hw⟩
      subst w1
      go_wp2
      go_ret
      exact ⟨ret_int' (by rw [hfin.out]; omega), rfl⟩
    · have hfin : Hid (p = t * 69 / 100) := by show _ = _; rw [HP.out, if_neg (by omega), if_neg (by omega)]
      go_enter Tryd.func13, Tryd.ntmps13
      go_wp2_with fail
      refine ht.mono ?_
      rintro e w1 ⟨rfl, hw⟩
      subst w1
      go_wp2
      go_ret
      exact ⟨ret_int' (by rw [hfin.out]; omega), rfl⟩

/-- a row of bools -/
def tabB (M : Nat) (f : Nat → Bool) : List Value := (List.range M).map fun k => .bool (f k)

theorem tabB_len (M : Nat) (f : Nat → Bool) : (tabB M f).length = M := by simp [tabB]

theorem tabB_get (M : Nat) (f : Nat → Bool) (k : Nat) (h : k < M) : (tabB M f)[k]? = some (.bool (f k)) := by
  unfold tabB
  rw [List.getElem?_map, List.getElem?_range h]
  rfl

theorem tabB_set (M : Nat) (f g : Nat → Bool) (p : Nat) (h : ∀ k, g k = (f k || k == p)) : (tabB M f).set p (.bool true) = tabB M g := by
  apply List.ext_getElem?
  intro k
  by_cases hk : k < M
  · rw [tabB_get M g k hk, h k]
    by_cases hp : p = k
    · subst hp
      rw [List.getElem?_set_self (by rw [tabB_len]; exact hk)]
      simp
    · rw [List.getElem?_set_ne hp, tabB_get M f k hk]
      have : (k == p) = false := by rw [beq_eq_false_iff_ne]; exact fun e => hp e.symm
      rw [this, Bool.or_false]
  · rw [List.getElem?_eq_none (by simp [tabB_len]; omega), List.getElem?_eq_none (by simp [tabB_len]; omega)]

theorem tabB_no (M : Nat) : (madeCells (Value.bool false).cells (M * 1)).toList = tabB M (fun _ => false) := by
  rw [Nat.mul_one]
  show (madeCells #[Value.bool false] M).toList = _
  rw [toList_madeCells_one]
  unfold tabB
  rw [List.map_const', List.length_range]

/-- which bits keys set -/
def setN (c M : Nat) (keys : List (List UInt8)) (k : Nat) : Bool := keys.any fun key => (List.range c).any fun i => k == atN key i % M

def setI (c M : Nat) (keys : List (List UInt8)) (key : List UInt8) (n k : Nat) : Bool := setN c M keys k || (List.range n).any fun i => k == atN key i % M

theorem setI_zero (c M : Nat) (keys : List (List UInt8)) (key : List UInt8) : setI c M keys key 0 = setN c M keys := by
  funext k
  simp [setI]

theorem setI_succ (c M : Nat) (keys : List (List UInt8)) (key : List UInt8) (n k : Nat) : setI c M keys key (n + 1) k = (setI c M keys key n k || k == atN key n % M) := by
  unfold setI
  rw [List.range_succ, List.any_append, Bool.or_assoc]
  simp

theorem setI_all (c M : Nat) (keys : List (List UInt8)) (key : List UInt8) : setI c M keys key c = setN c M (keys ++ [key]) := by
  funext k
  unfold setI setN
  rw [List.any_append]
  simp

theorem bitB_setN (b : Int) (keys : List (List UInt8)) (k : Nat) (hk : k < 8 * sizN b keys.length) : bitB (buildF b keys) k = setN (prbN b) (8 * sizN b keys.length) keys k := by
  rw [bitB_build b keys k hk]
  unfold setN probesN
  congr 1
  funext key
  rw [List.any_map]
  rfl

def bitI (s : Bool) : Nat := if s then 1 else 0

/-- a byte, of its bits, the greatest first -/
def by8 (f : Nat → Bool) : Nat → Nat
  | 0 => 0
  | n + 1 => by8 f n * 2 + bitI (f (7 - n))

theorem bitI_le (s : Bool) : bitI s ≤ 1 := by unfold bitI; split <;> omega

theorem by8_lt (f : Nat → Bool) : ∀ n, by8 f n < 2 ^ n
  | 0 => by simp [by8]
  | n + 1 => by
    have h := by8_lt f n
    have h1 := bitI_le (f (7 - n))
    rw [by8, Nat.pow_succ]
    omega

theorem eight_bits : ∀ y < 256, (((((((y / 2 ^ 7 % 2) * 2 + y / 2 ^ 6 % 2) * 2 + y / 2 ^ 5 % 2) * 2 + y / 2 ^ 4 % 2) * 2 + y / 2 ^ 3 % 2) * 2 + y / 2 ^ 2 % 2) * 2 + y / 2 ^ 1 % 2) * 2 + y / 2 ^ 0 % 2 = y := by decide +kernel

theorem by8_eq (f : Nat → Bool) (y : Nat) (hy : y < 256) (h : ∀ r < 8, f r = (y / 2 ^ r % 2 == 1)) : by8 f 8 = y := by
  have hb : ∀ r < 8, bitI (f r) = y / 2 ^ r % 2 := by
    intro r hr
    rw [h r hr]
    unfold bitI
    split
    · rename_i h1
      have := eq_of_beq h1
      omega
    · rename_i h1
      have : ¬ y / 2 ^ r % 2 = 1 := fun e => h1 (by rw [e]; rfl)
      omega
  have h0 := hb 0 (by omega)
  have h1 := hb 1 (by omega)
  have h2 := hb 2 (by omega)
  have h3 := hb 3 (by omega)
  have h4 := hb 4 (by omega)
  have h5 := hb 5 (by omega)
  have h6 := hb 6 (by omega)
  have h7 := hb 7 (by omega)
  have e : by8 f 8 = (((((((bitI (f 7)) * 2 + bitI (f 6)) * 2 + bitI (f 5)) * 2 + bitI (f 4)) * 2 + bitI (f 3)) * 2 + bitI (f 2)) * 2 + bitI (f 1)) * 2 + bitI (f 0) := by
    show (((((((((0 : Nat) * 2 + bitI (f 7)) * 2 + bitI (f 6)) * 2 + bitI (f 5)) * 2 + bitI (f 4)) * 2 + bitI (f 3)) * 2 + bitI (f 2)) * 2 + bitI (f 1)) * 2 + bitI (f 0)) = _
    rw [Nat.zero_mul, Nat.zero_add]
  rw [e, h0, h1, h2, h3, h4, h5, h6, h7]
  exact eight_bits y hy

theorem build_last (b : Int) (keys : List (List UInt8)) : buildF b keys = (buildF b keys).take (sizN b keys.length) ++ [UInt8.ofNat (prbN b)] := by
  have hl := buildF_len b keys
  have hc : (buildF b keys).getD (sizN b keys.length) 0 = UInt8.ofNat (prbN b) := by
    unfold buildF
    rw [keys_last _ _ _ _ _ (by simp)]
    simp
  rw [List.getD_eq_getElem?_getD, List.getElem?_eq_getElem (by omega)] at hc
  simp only [Option.getD_some] at hc
  have h := List.take_succ_eq_append_getElem (l := buildF b keys) (i := sizN b keys.length) (by omega)
  rw [List.take_of_length_le (by omega), hc] at h
  exact h

end Go.Proofs.YtlonomjepipjlaaDoor
