/- entry.right: may an entry of its kind have that number, that name and those ops. -/
import Derived.Test.YtmgofohaoppajaaDoorHeld
import Derived.Test.YtmgofohaoppajaaDoorOpBytes
namespace Go.Proofs.YtmgofohaoppajaaDoor
open Go.RowKit
set_option linter.unusedVariables false

/-- an entry's cells -/
abbrev noteV (k s : Int) (na : Option Addr) (nl nc : Nat) (oa : Option Addr) (ol oc : Nat) : Value := .agg #[.int .u8 k, .int .u64 s, .slice na nl nc, .slice oa ol oc]

def numbB (s : Int) : Bool := decide (1 ≤ s ∧ s ≤ 72057594037927935)
def namedB (nl : Nat) : Bool := decide (1 ≤ nl ∧ nl ≤ 32)

/-- may it be so -/
def rightB (k s : Int) (nl ol : Nat) : Bool :=
  if k = 1 then numbB s && decide (nl = 0)
  else if k = 2 then decide (s = 0) && namedB nl
  else if k = 3 then numbB s && namedB nl && decide (ol = 0)
  else if k = 4 then decide (s = 0) && namedB nl && decide (ol = 0)
  else false

theorem retBo {a b : Bool} (h : a = b) : Ending.returned (.bool a) = .returned (.bool b) := by rw [h]

set_option maxRecDepth 20000 in
theorem numbered_any (w : World) (k s : Int) (na : Option Addr) (nl nc : Nat) (oa : Option Addr) (ol oc : Nat) (hs0 : 0 ≤ s) :
    Calls Tryd.prog 53 #[noteV k s na nl nc oa ol oc] w fun e w' => e = .returned (.bool (numbB s)) ∧ Below w.heap.size w w' := by
  have hb := below_box4 w (.cells #[.int .u8 k, .int .u64 s, .slice na nl nc, .slice oa ol oc] 54)
  by_cases h1 : 1 ≤ s
  · by_cases h2 : s ≤ 72057594037927935
    · have hr : Hid (numbB s = true) := by show _ = _; unfold numbB; exact decide_eq_true ⟨h1, h2⟩
      go_enter Tryd.func53, Tryd.ntmps53
      go_wp2
      go_ret
      exact ⟨retBo (by rw [hr.out]), hb⟩
    · have hr : Hid (numbB s = false) := by show _ = _; unfold numbB; exact decide_eq_false (fun h => h2 h.2)
      go_enter Tryd.func53, Tryd.ntmps53
      go_wp2
      go_ret
      exact ⟨retBo (by rw [hr.out]), hb⟩
  · have hr : Hid (numbB s = false) := by show _ = _; unfold numbB; exact decide_eq_false (fun h => h1 h.1)
    go_enter Tryd.func53, Tryd.ntmps53
    go_wp2
    go_ret
    exact ⟨retBo (by rw [hr.out]), hb⟩

set_option maxRecDepth 20000 in
theorem named_any (w : World) (k s : Int) (na : Option Addr) (nl nc : Nat) (oa : Option Addr) (ol oc : Nat) :
    Calls Tryd.prog 54 #[noteV k s na nl nc oa ol oc] w fun e w' => e = .returned (.bool (namedB nl)) ∧ Below w.heap.size w w' := by
  have hb := below_box4 w (.cells #[.int .u8 k, .int .u64 s, .slice na nl nc, .slice oa ol oc] 54)
  by_cases h1 : (1 : Int) ≤ (nl : Int)
  · by_cases h2 : (nl : Int) ≤ 32
    · have hr : Hid (namedB nl = true) := by show _ = _; unfold namedB; exact decide_eq_true (by omega)
      go_enter Tryd.func54, Tryd.ntmps54
      go_wp2
      go_ret
      exact ⟨retBo (by rw [hr.out]), hb⟩
    · have hr : Hid (namedB nl = false) := by show _ = _; unfold namedB; exact decide_eq_false (by omega)
      go_enter Tryd.func54, Tryd.ntmps54
      go_wp2
      go_ret
      exact ⟨retBo (by rw [hr.out]), hb⟩
  · have hr : Hid (namedB nl = false) := by show _ = _; unfold namedB; exact decide_eq_false (by omega)
    go_enter Tryd.func54, Tryd.ntmps54
    go_wp2
    go_ret
    exact ⟨retBo (by rw [hr.out]), hb⟩

theorem rightB_is (k s : Int) (nl ol : Nat) : (k = 1 ∧ rightB k s nl ol = (numbB s && decide (nl = 0))) ∨ (k = 2 ∧ rightB k s nl ol = (decide (s = 0) && namedB nl)) ∨ (k = 3 ∧ rightB k s nl ol = (numbB s && namedB nl && decide (ol = 0))) ∨ (k = 4 ∧ rightB k s nl ol = (decide (s = 0) && namedB nl && decide (ol = 0))) ∨ (¬ k = 1 ∧ ¬ k = 2 ∧ ¬ k = 3 ∧ ¬ k = 4 ∧ rightB k s nl ol = false) := by
  unfold rightB
  by_cases h1 : k = 1
  · exact .inl ⟨h1, by rw [if_pos h1]⟩
  · by_cases h2 : k = 2
    · exact .inr (.inl ⟨h2, by rw [if_neg h1, if_pos h2]⟩)
    · by_cases h3 : k = 3
      · exact .inr (.inr (.inl ⟨h3, by rw [if_neg h1, if_neg h2, if_pos h3]⟩))
      · by_cases h4 : k = 4
        · exact .inr (.inr (.inr (.inl ⟨h4, by rw [if_neg h1, if_neg h2, if_neg h3, if_pos h4]⟩)))
        · exact .inr (.inr (.inr (.inr ⟨h1, h2, h3, h4, by rw [if_neg h1, if_neg h2, if_neg h3, if_neg h4]⟩)))

set_option maxRecDepth 20000 in
set_option maxHeartbeats 2000000 in
theorem right_any (w : World) (k s : Int) (na : Option Addr) (nl nc : Nat) (oa : Option Addr) (ol oc : Nat) (hs0 : 0 ≤ s) :
    Calls Tryd.prog 33 #[noteV k s na nl nc oa ol oc] w fun e w' => e = .returned (.bool (rightB k s nl ol)) ∧ Below w.heap.size w w' := by
  obtain ⟨B0, hB0⟩ : ∃ B0, w.heap.size = B0 := ⟨_, rfl⟩
  have hb := below_box4 w (.cells #[.int .u8 k, .int .u64 s, .slice na nl nc, .slice oa ol oc] 54)
  have bx := box4_new w (.int .u8 k) (.int .u64 s) (.slice na nl nc) (.slice oa ol oc) 54
  have HB : Hid _ := hb
  have HX : Hid _ := bx
  have HNB : Hid (∀ w', Calls Tryd.prog 53 #[noteV k s na nl nc oa ol oc] w' fun e w'' => e = .returned (.bool (numbB s)) ∧ Below w'.heap.size w' w'') := fun w' => numbered_any w' k s na nl nc oa ol oc hs0
  have HND : Hid (∀ w', Calls Tryd.prog 54 #[noteV k s na nl nc oa ol oc] w' fun e w'' => e = .returned (.bool (namedB nl)) ∧ Below w'.heap.size w' w'') := fun w' => named_any w' k s na nl nc oa ol oc
  obtain ⟨rb, hrb⟩ : ∃ rb, rightB k s nl ol = rb := ⟨_, rfl⟩
  have hcs := rightB_is k s nl ol
  rw [hrb] at hcs ⊢
  obtain ⟨qn, hqn⟩ : ∃ qn, numbB s = qn := ⟨_, rfl⟩
  obtain ⟨qd, hqd⟩ : ∃ qd, namedB nl = qd := ⟨_, rfl⟩
  rw [hqn] at HNB hcs
  rw [hqd] at HND hcs
  clear hrb hqn hqd hb bx hB0
  rcases hcs with ⟨rfl, hr⟩ | ⟨rfl, hr⟩ | ⟨rfl, hr⟩ | ⟨rfl, hr⟩ | ⟨h1, h2, h3, h4, hr⟩
  all_goals have HR : Hid _ := hr
  all_goals clear hr
  · skip
    cases qn
    · go_enter Tryd.func33, Tryd.ntmps33
      go_wp2_with fail
      refine (HNB.out _).mono ?_
      rintro e w1 ⟨rfl, hb1⟩
      have hB1 := HB.out.trans (hb1.mono HB.out.size)
      have X1 := HX.out.below hb1 (Nat.le_refl _)
      have c01 := X1.c0; have c11 := X1.c1; have c21 := X1.c2; have c31 := X1.c3
      go_wp2
      go_ret
      exact ⟨retBo (by first | (rw [HR.out]; done) | (rw [HR.out]; first | rfl | (simp; done) | (simp; omega) | (simp [hn]; done))), hB1⟩
    · by_cases hn : (nl : Int) = 0
      · go_enter Tryd.func33, Tryd.ntmps33
        go_wp2_with fail
        refine (HNB.out _).mono ?_
        rintro e w1 ⟨rfl, hb1⟩
        have hB1 := HB.out.trans (hb1.mono HB.out.size)
        have X1 := HX.out.below hb1 (Nat.le_refl _)
        have c01 := X1.c0; have c11 := X1.c1; have c21 := X1.c2; have c31 := X1.c3
        go_wp2
        go_ret
        exact ⟨retBo (by first | (rw [HR.out]; done) | (rw [HR.out]; first | rfl | (simp; done) | (simp; omega) | (simp [hn]; done))), hB1⟩
      · have hbq : ((nl : Int) == 0) = false := by simpa using hn
        go_enter Tryd.func33, Tryd.ntmps33
        go_wp2_with fail
        refine (HNB.out _).mono ?_
        rintro e w1 ⟨rfl, hb1⟩
        have hB1 := HB.out.trans (hb1.mono HB.out.size)
        have X1 := HX.out.below hb1 (Nat.le_refl _)
        have c01 := X1.c0; have c11 := X1.c1; have c21 := X1.c2; have c31 := X1.c3
        go_wp2
        go_ret
        exact ⟨retBo (by first | (rw [HR.out]; done) | (rw [HR.out]; first | rfl | (simp; done) | (simp; omega) | (simp [hn]; done))), hB1⟩
  · skip
    by_cases hn : s = 0
    · subst hn
      cases qd
      all_goals
        go_enter Tryd.func33, Tryd.ntmps33
        go_wp2_with fail
        refine (HND.out _).mono ?_
        rintro e w1 ⟨rfl, hb1⟩
        have hB1 := HB.out.trans (hb1.mono HB.out.size)
        have X1 := HX.out.below hb1 (Nat.le_refl _)
        have c01 := X1.c0; have c11 := X1.c1; have c21 := X1.c2; have c31 := X1.c3
        go_wp2
        go_ret
        exact ⟨retBo (by first | (rw [HR.out]; done) | (rw [HR.out]; first | rfl | (simp; done) | (simp; omega) | (simp [hn]; done))), hB1⟩
    · have hbq : (s == 0) = false := by simpa using hn
      go_enter Tryd.func33, Tryd.ntmps33
      go_wp2
      go_ret
      exact ⟨retBo (by first | (rw [HR.out]; done) | (rw [HR.out]; first | rfl | (simp; done) | (simp; omega) | (simp [hn]; done))), HB.out⟩
  · skip
    cases qn
    · go_enter Tryd.func33, Tryd.ntmps33
      go_wp2_with fail
      refine (HNB.out _).mono ?_
      rintro e w1 ⟨rfl, hb1⟩
      have hB1 := HB.out.trans (hb1.mono HB.out.size)
      have X1 := HX.out.below hb1 (Nat.le_refl _)
      have c01 := X1.c0; have c11 := X1.c1; have c21 := X1.c2; have c31 := X1.c3
      go_wp2
      go_ret
      exact ⟨retBo (by first | (rw [HR.out]; done) | (rw [HR.out]; first | rfl | (simp; done) | (simp; omega) | (simp [hn]; done))), hB1⟩
    · cases qd
      · go_enter Tryd.func33, Tryd.ntmps33
        go_wp2_with fail
        refine (HNB.out _).mono ?_
        rintro e w1 ⟨rfl, hb1⟩
        have hB1 := HB.out.trans (hb1.mono HB.out.size)
        have X1 := HX.out.below hb1 (Nat.le_refl _)
        have c01 := X1.c0; have c11 := X1.c1; have c21 := X1.c2; have c31 := X1.c3
        go_wp2_with fail
        refine (HND.out _).mono ?_
        rintro e w2 ⟨rfl, hb2⟩
        have hB2 := hB1.trans (hb2.mono hB1.size)
        have X2 := X1.below hb2 (Nat.le_refl _)
        have c02 := X2.c0; have c12 := X2.c1; have c22 := X2.c2; have c32 := X2.c3
        go_wp2
        go_ret
        exact ⟨retBo (by first | (rw [HR.out]; done) | (rw [HR.out]; first | rfl | (simp; done) | (simp; omega) | (simp [hn]; done))), hB2⟩
      · by_cases hn : (ol : Int) = 0
        · go_enter Tryd.func33, Tryd.ntmps33
          go_wp2_with fail
          refine (HNB.out _).mono ?_
          rintro e w1 ⟨rfl, hb1⟩
          have hB1 := HB.out.trans (hb1.mono HB.out.size)
          have X1 := HX.out.below hb1 (Nat.le_refl _)
          have c01 := X1.c0; have c11 := X1.c1; have c21 := X1.c2; have c31 := X1.c3
          go_wp2_with fail
          refine (HND.out _).mono ?_
          rintro e w2 ⟨rfl, hb2⟩
          have hB2 := hB1.trans (hb2.mono hB1.size)
          have X2 := X1.below hb2 (Nat.le_refl _)
          have c02 := X2.c0; have c12 := X2.c1; have c22 := X2.c2; have c32 := X2.c3
          go_wp2
          go_ret
          exact ⟨retBo (by first | (rw [HR.out]; done) | (rw [HR.out]; first | rfl | (simp; done) | (simp; omega) | (simp [hn]; done))), hB2⟩
        · have hbq : ((ol : Int) == 0) = false := by simpa using hn
          go_enter Tryd.func33, Tryd.ntmps33
          go_wp2_with fail
          refine (HNB.out _).mono ?_
          rintro e w1 ⟨rfl, hb1⟩
          have hB1 := HB.out.trans (hb1.mono HB.out.size)
          have X1 := HX.out.below hb1 (Nat.le_refl _)
          have c01 := X1.c0; have c11 := X1.c1; have c21 := X1.c2; have c31 := X1.c3
          go_wp2_with fail
          refine (HND.out _).mono ?_
          rintro e w2 ⟨rfl, hb2⟩
          have hB2 := hB1.trans (hb2.mono hB1.size)
          have X2 := X1.below hb2 (Nat.le_refl _)
          have c02 := X2.c0; have c12 := X2.c1; have c22 := X2.c2; have c32 := X2.c3
          go_wp2
          go_ret
          exact ⟨retBo (by first | (rw [HR.out]; done) | (rw [HR.out]; first | rfl | (simp; done) | (simp; omega) | (simp [hn]; done))), hB2⟩
  · skip
    by_cases hs : s = 0
    · subst hs
      cases qd
      · go_enter Tryd.func33, Tryd.ntmps33
        go_wp2_with fail
        refine (HND.out _).mono ?_
        rintro e w1 ⟨rfl, hb1⟩
        have hB1 := HB.out.trans (hb1.mono HB.out.size)
        have X1 := HX.out.below hb1 (Nat.le_refl _)
        have c01 := X1.c0; have c11 := X1.c1; have c21 := X1.c2; have c31 := X1.c3
        go_wp2
        go_ret
        exact ⟨retBo (by first | (rw [HR.out]; done) | (rw [HR.out]; first | rfl | (simp; done) | (simp; omega) | (simp [hn]; done))), hB1⟩
      · by_cases hn : (ol : Int) = 0
        · go_enter Tryd.func33, Tryd.ntmps33
          go_wp2_with fail
          refine (HND.out _).mono ?_
          rintro e w1 ⟨rfl, hb1⟩
          have hB1 := HB.out.trans (hb1.mono HB.out.size)
          have X1 := HX.out.below hb1 (Nat.le_refl _)
          have c01 := X1.c0; have c11 := X1.c1; have c21 := X1.c2; have c31 := X1.c3
          go_wp2
          go_ret
          exact ⟨retBo (by first | (rw [HR.out]; done) | (rw [HR.out]; first | rfl | (simp; done) | (simp; omega) | (simp [hn]; done))), hB1⟩
        · have hbq : ((ol : Int) == 0) = false := by simpa using hn
          go_enter Tryd.func33, Tryd.ntmps33
          go_wp2_with fail
          refine (HND.out _).mono ?_
          rintro e w1 ⟨rfl, hb1⟩
          have hB1 := HB.out.trans (hb1.mono HB.out.size)
          have X1 := HX.out.below hb1 (Nat.le_refl _)
          have c01 := X1.c0; have c11 := X1.c1; have c21 := X1.c2; have c31 := X1.c3
          go_wp2
          go_ret
          exact ⟨retBo (by first | (rw [HR.out]; done) | (rw [HR.out]; first | rfl | (simp; done) | (simp; omega) | (simp [hn]; done))), hB1⟩
    · have hn := hs
      have hbq : (s == 0) = false := by simpa using hn
      go_enter Tryd.func33, Tryd.ntmps33
      go_wp2
      go_ret
      exact ⟨retBo (by first | (rw [HR.out]; done) | (rw [HR.out]; first | rfl | (simp; done) | (simp; omega) | (simp [hn]; done))), HB.out⟩
  · skip
    have g1 : (k == 1) = false := by simpa using h1
    have g2 : (k == 2) = false := by simpa using h2
    have g3 : (k == 3) = false := by simpa using h3
    have g4 : (k == 4) = false := by simpa using h4
    go_enter Tryd.func33, Tryd.ntmps33
    go_wp2
    go_ret
    exact ⟨retBo (by first | (rw [HR.out]; done) | (rw [HR.out]; first | rfl | (simp; done) | (simp; omega) | (simp [hn]; done))), HB.out⟩

end Go.Proofs.YtmgofohaoppajaaDoor
