/- AtomRises answers true: of two numbers the lesser one's bytes are less, whatever stands behind. -/
import Derived.Test.YtecmijocgkhnpaaPairsWalk
import Derived.Test.YtecmijocgkhnpaaCut
namespace Go.Proofs.Ytecmijocgkhnpaa
open Go.RowKit

theorem cut_flat_le (a : Nat) (l : List UInt8) (h : l.length ≤ 20) : ([Mth.numB a, l].flatten).length ≤ 1099511627776 := by
  have h1 := Mth.numL_bd a
  simp only [List.flatten_cons, List.flatten_nil, List.append_nil, List.length_append, Mth.numB_length]
  omega

theorem Own.shape {B : Nat} {w : World} {v : Value} {l : List UInt8} (h : Own B w v l) : ∃ g k, v = .slice (some ⟨g, 0, none⟩) l.length k := by
  obtain ⟨g, k, c, e, _⟩ := h; exact ⟨g, k, e⟩

theorem rises_same (a : Nat) (w : World) (vx vy : Value) (ha : a < 18446744073709551616) :
    Calls Try.prog 5 #[.int .u64 (a : Int), .int .u64 (a : Int), vx, vy] w fun e w' => e = .returned (.bool true) ∧ Below w.heap.size w w' := by
  go_enter Try.func5, Try.ntmps5
  go_wp2_with fail
  refine (awake_any _).mono ?_
  rintro e w1 ⟨rfl, hb1⟩
  go_wp2_with fail
  refine (num_any a _ ha).mono ?_
  rintro e w2 ⟨va, rfl, oa, hb2⟩
  go_wp2_with fail
  refine (num_any a _ ha).mono ?_
  rintro e w3 ⟨vb, rfl, ob, hb3⟩
  have ra := oa.rd.below hb3 (Nat.le_refl _)
  have rb := ob.rd
  have hB3 := (hb1.trans (hb2.mono hb1.size)).trans (hb3.mono (Nat.le_trans hb1.size hb2.size))
  clear hb1 hb2 hb3 oa ob
  go_wp2_with fail
  refine (same_b _ _ _ _ _ true ra rb (by simp)).mono ?_
  rintro e w4 ⟨rfl, rfl⟩
  go_wp2
  go_ret
  exact ⟨rfl, hB3⟩

set_option maxHeartbeats 1000000 in
theorem rises_apart (a b : Nat) (w : World) (vx vy : Value) (x y cx cy : List UInt8) (CX : Hid (x.take 20 = cx)) (CY : Hid (y.take 20 = cy)) (hcx : cx.length ≤ 20) (hcy : cy.length ≤ 20) (hx : Arg w vx x) (hy : Arg w vy y) (ha : a < 18446744073709551616) (hb : b < 18446744073709551616) (hne : a < b ∨ b < a) (x1 x2 : Bool)
    (e1 : decide (Lib.compareBytes ([Mth.numB a, cx].flatten) ([Mth.numB b, cy].flatten) < 0) = x1) (e2 : decide (Lib.compareBytes ([Mth.numB b, cy].flatten) ([Mth.numB a, cx].flatten) < 0) = x2)
    (r1 : (a < b ∧ x1 = true ∧ x2 = false) ∨ (b < a ∧ x1 = false ∧ x2 = true)) :
    Calls Try.prog 5 #[.int .u64 (a : Int), .int .u64 (b : Int), vx, vy] w fun e w' => e = .returned (.bool true) ∧ Below w.heap.size w w' := by
  have E1 : Hid _ := e1
  have E2 : Hid _ := e2
  have R1 : Hid _ := r1
  clear e1 e2 r1
  have hab : ((a : Int) == (b : Int)) = false := by simp; omega
  obtain ⟨fa, hfa⟩ : ∃ fa, [Mth.numB a, cx].flatten = fa := ⟨_, rfl⟩
  obtain ⟨fb, hfb⟩ : ∃ fb, [Mth.numB b, cy].flatten = fb := ⟨_, rfl⟩
  have FA : Hid _ := hfa
  have FB : Hid _ := hfb
  rw [hfa, hfb] at E1 E2
  clear hfa hfb
  go_enter Try.func5, Try.ntmps5
  go_wp2_with fail
  refine (awake_any _).mono ?_
  rintro e w1 ⟨rfl, hb1⟩
  have hx1 := hx.below hb1 (Nat.le_refl _)
  have hy1 := hy.below hb1 (Nat.le_refl _)
  clear hx hy
  go_wp2_with fail
  refine (num_any a _ ha).mono ?_
  rintro e w2 ⟨va, rfl, oa, hb2⟩
  have hx2 := hx1.below hb2 (Nat.le_refl _)
  have hy2 := hy1.below hb2 (Nat.le_refl _)
  clear hx1 hy1
  obtain ⟨ga, ka, hva⟩ := oa.shape
  subst hva
  go_wp2_with fail
  refine (cut_any _ _ x 20 hx2 (by omega)).mono ?_
  rintro e w3 ⟨vc, rfl, oc, hb3⟩
  rw [CX.out] at oc
  have hy3 := hy2.below hb3 (Nat.le_refl _)
  have ra := oa.rd.below hb3 (Nat.le_refl _)
  have rc := oc.rd
  have hB3 := (hb1.trans (hb2.mono hb1.size)).trans (hb3.mono (Nat.le_trans hb1.size hb2.size))
  obtain ⟨gc, kc, hvc⟩ := oc.shape
  subst hvc
  clear hb1 hb2 hb3 oa oc hx2 hy2
  go_wp2_with fail
  refine (join_any _ _ [Mth.numB a, cx] (rdl_two _ _ _ _ _ ra rc) (cut_flat_le a cx hcx)).mono ?_
  rintro e w4 ⟨p, rfl, op, hb4⟩
  rw [FA.out] at op
  have hy4 := (hy3.below ((Below.refl _ _).alloc (Nat.le_refl _) _) (Nat.le_refl _)).below hb4 (Nat.le_refl _)
  have hB4 := (hB3.alloc hB3.size _).trans (hb4.mono (Nat.le_trans hB3.size (by simp)))
  clear ra rc hB3 hb4 hy3
  obtain ⟨gp, kp, hvp⟩ := op.shape
  subst hvp
  go_wp2_with fail
  refine (num_any b _ hb).mono ?_
  rintro e w5 ⟨vb, rfl, ob, hb5⟩
  have hy5 := hy4.below hb5 (Nat.le_refl _)
  clear hy4
  obtain ⟨gb, kb, hvb⟩ := ob.shape
  subst hvb
  go_wp2_with fail
  refine (cut_any _ _ y 20 hy5 (by omega)).mono ?_
  rintro e w6 ⟨vd, rfl, od, hb6⟩
  rw [CY.out] at od
  have rb := ob.rd.below hb6 (Nat.le_refl _)
  have rd := od.rd
  have rp := (op.rd.below hb5 (Nat.le_refl _)).below hb6 (Nat.le_refl _)
  have hB6 := (hB4.trans (hb5.mono hB4.size)).trans (hb6.mono (Nat.le_trans hB4.size hb5.size))
  obtain ⟨gd, kd, hvd⟩ := od.shape
  subst hvd
  clear hb5 hb6 hB4 op ob od hy5
  go_wp2_with fail
  refine (join_any _ _ [Mth.numB b, cy] (rdl_two _ _ _ _ _ rb rd) (cut_flat_le b cy hcy)).mono ?_
  rintro e w7 ⟨q, rfl, oq, hb7⟩
  rw [FB.out] at oq
  have rp7 := (rp.below ((Below.refl _ _).alloc (Nat.le_refl _) _) (Nat.le_refl _)).below hb7 (Nat.le_refl _)
  have hB7 := (hB6.alloc hB6.size _).trans (hb7.mono (Nat.le_trans hB6.size (by simp)))
  have rq := oq.rd
  clear rb rd hB6 hb7 rp oq
  go_wp2_with fail
  refine (less_b _ _ _ _ _ x1 rp7 rq E1.out).mono ?_
  rintro e w8 ⟨rfl, hw⟩
  subst hw
  have r1 := R1.out
  clear R1 hne
  rcases r1 with ⟨h, rfl, rfl⟩ | ⟨h, rfl, rfl⟩
  all_goals
    go_wp2_with fail
    refine (less_b _ _ _ _ _ _ rq rp7 E2.out).mono ?_
    rintro e w9 ⟨rfl, hw⟩
    subst hw
    go_wp2
    go_ret
    refine ⟨?_, hB7⟩
    first | rfl | (show Ending.returned (Value.bool _) = _; congr 2; simp; done) | (show Ending.returned (Value.bool _) = _; congr 2; simp; omega)

theorem atomRises_walk (a0 a1 : Int) (a2 : Option Addr) (len2 cap2 : Nat) (z2 : List Int) (a3 : Option Addr) (len3 cap3 : Nat) (z3 : List Int) (w : World) (w0 : (Lit.int .u64 a0).wf = true) (w1 : (Lit.int .u64 a1).wf = true)
    (w2 : IsRow .u8 w a2 len2 cap2 z2) (w3 : IsRow .u8 w a3 len3 cap3 z3) :
    Calls Try.prog 5 #[.int .u64 a0, .int .u64 a1, .slice a2 len2 cap2, .slice a3 len3 cap3] w fun e w' => e = .returned (.bool true) ∧ Below w.heap.size w w' := by
  obtain ⟨a, rfl, ha⟩ := u64_nat w0
  obtain ⟨b, rfl, hb⟩ := u64_nat w1
  have hx := arg_of w2
  have hy := arg_of w3
  rcases Nat.lt_trichotomy a b with h | h | h
  · have hk := ((Mth.numB_ahead a b h hb).append ((argB len2 z2).take 20) ((argB len3 z3).take 20)).cmp
    refine rises_apart a b w _ _ _ _ _ _ rfl rfl (List.length_take_le _ _) (List.length_take_le _ _) hx hy ha hb (.inl h) _ _ rfl rfl (.inl ⟨h, ?_, ?_⟩)
    · simp only [List.flatten_cons, List.flatten_nil, List.append_nil]; rw [hk.1]; rfl
    · simp only [List.flatten_cons, List.flatten_nil, List.append_nil]; rw [hk.2]; rfl
  · subst h
    exact rises_same a w _ _ ha
  · have hk := ((Mth.numB_ahead b a h ha).append ((argB len3 z3).take 20) ((argB len2 z2).take 20)).cmp
    refine rises_apart a b w _ _ _ _ _ _ rfl rfl (List.length_take_le _ _) (List.length_take_le _ _) hx hy ha hb (.inr h) _ _ rfl rfl (.inr ⟨h, ?_, ?_⟩)
    · simp only [List.flatten_cons, List.flatten_nil, List.append_nil]; rw [hk.2]; rfl
    · simp only [List.flatten_cons, List.flatten_nil, List.append_nil]; rw [hk.1]; rfl

end Go.Proofs.Ytecmijocgkhnpaa
