/- bloom.taken, bloom.Probes, bloom.Build. -/
import Derived.Test.YtlonomjepipjlaaDoorBlHas
import Derived.Deep.AppendLies
import Derived.Maps.AppendAt
import Derived.Laws.OwnMore
namespace Go.Proofs.YtlonomjepipjlaaDoor
open Go.RowKit Go.Shelf
set_option linter.unusedVariables false

attribute [local go_sem] Oper.semAt_some

/-- as how many bits for each key a number is taken -/
def takN (b : Int) : Nat := if b < 1 then 1 else if 100 < b then 100 else b.toNat

theorem takN_bd (b : Int) : 1 ≤ takN b ∧ takN b ≤ 100 := by
  unfold takN
  split
  · omega
  · split <;> omega

/-- how many probes -/
def prbN (b : Int) : Nat := if takN b * 69 / 100 < 1 then 1 else if 30 < takN b * 69 / 100 then 30 else takN b * 69 / 100

theorem prbN_bd (b : Int) : 1 ≤ prbN b ∧ prbN b ≤ 30 := by
  unfold prbN
  split
  · omega
  · split <;> omega

theorem ret_int' {a b : Int} {k : IntKind} (h : a = b) : Ending.returned (.int k a) = .returned (.int k b) := by rw [h]

theorem taken_any (w : World) (b : Int) : Calls Tryd.prog 19 #[.int .i64 b] w fun e w' => e = .returned (.int .i64 (takN b : Int)) ∧ w' = w := by
  by_cases h1 : b < 1
  · have HT : Hid (takN b = 1) := by show _ = _; unfold takN; rw [if_pos h1]
    go_enter Tryd.func19, Tryd.ntmps19
    go_wp2
    go_ret
    exact ⟨ret_int' (by rw [HT.out]; omega), rfl⟩
  · by_cases h2 : 100 < b
    · have HT : Hid (takN b = 100) := by show _ = _; unfold takN; rw [if_neg h1, if_pos h2]
      go_enter Tryd.func19, Tryd.ntmps19
      go_wp2
      go_ret
      exact ⟨ret_int' (by rw [HT.out]; omega), rfl⟩
    · have HT : Hid (takN b = b.toNat) := by show _ = _; unfold takN; rw [if_neg h1, if_neg h2]
      go_enter Tryd.func19, Tryd.ntmps19
      go_wp2
      go_ret
      exact ⟨ret_int' (by rw [HT.out]; omega), rfl⟩

theorem prb_any (w : World) (b : Int) : Calls Tryd.prog 12 #[.int .i64 b] w fun e w' => e = .returned (.int .i64 (prbN b : Int)) ∧ w' = w := by
  have ht := taken_any w b
  have hbd := takN_bd b
  have HP : Hid (prbN b = if takN b * 69 / 100 < 1 then 1 else if 30 < takN b * 69 / 100 then 30 else takN b * 69 / 100) := rfl
  obtain ⟨p, hp⟩ : ∃ p, prbN b = p := ⟨_, rfl⟩
  obtain ⟨t, htt⟩ : ∃ t, takN b = t := ⟨_, rfl⟩
  rw [htt] at ht hbd HP
  rw [hp] at HP ⊢
  have htI : (1 : Int) ≤ (t : Int) := by omega
  have htI2 : (t : Int) ≤ 100 := by omega
  clear hp htt
  by_cases h1 : (t : Int) * 69 / 100 < 1
  · have hfin : Hid (p = 1) := by show _ = _; rw [HP.out, if_pos (by omega)]
    go_enter Tryd.func12, Tryd.ntmps12
    go_wp2_with fail
    refine ht.mono ?_
    rintro e w1 ⟨rfl, hw⟩
    subst w1
    go_wp2
    go_ret
    exact ⟨ret_int' (by rw [hfin.out]; omega), rfl⟩
  · by_cases h2 : 30 < (t : Int) * 69 / 100
    · have hfin : Hid (p = 30) := by show _ = _; rw [HP.out, if_neg (by omega), if_pos (by omega)]
      go_enter Tryd.func12, Tryd.ntmps12
      go_wp2_with fail
      refine ht.mono ?_
      rintro e w1 ⟨rfl, hw⟩
      subst w1
      go_wp2
      go_ret
      exact ⟨ret_int' (by rw [hfin.out]; omega), rfl⟩
    · have hfin : Hid (p = t * 69 / 100) := by show _ = _; rw [HP.out, if_neg (by omega), if_neg (by omega)]
      go_enter Tryd.func12, Tryd.ntmps12
      go_wp2_with fail
      refine ht.mono ?_
      rintro e w1 ⟨rfl, hw⟩
      subst w1
      go_wp2
      go_ret
      exact ⟨ret_int' (by rw [hfin.out]; omega), rfl⟩

end Go.Proofs.YtlonomjepipjlaaDoor
