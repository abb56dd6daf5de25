/- AtomPairs answers true: joined pairs of numbers are in order as the pairs are. -/
import Derived.Test.YtecmijocgkhnpaaAwake
import Derived.Test.YtecmijocgkhnpaaJoin
import Derived.Test.YtecmijocgkhnpaaLess
import Derived.Test.YtecmijocgkhnpaaOrder
namespace Go.Proofs.Ytecmijocgkhnpaa
open Go.RowKit

theorem less_b (w : World) (a b : Value) (l m : List UInt8) (x : Bool) (ha : Rd w a l) (hb : Rd w b m) (hx : decide (Lib.compareBytes l m < 0) = x) :
    Calls Try.prog 21 #[a, b] w fun e w' => e = .returned (.bool x) ∧ w' = w := by
  subst hx
  exact less_any w a b l m ha hb
theorem same_b (w : World) (a b : Value) (l m : List UInt8) (x : Bool) (ha : Rd w a l) (hb : Rd w b m) (hx : (l == m) = x) :
    Calls Try.prog 11 #[a, b] w fun e w' => e = .returned (.bool x) ∧ w' = w := by
  subst hx
  exact same_any w a b l m ha hb

theorem rdl_two (w : World) (v1 v2 : Value) (l1 l2 : List UInt8) (h1 : Rd w v1 l1) (h2 : Rd w v2 l2) :
    RdL (w.alloc (.cells #[v1, v2] 23)) (.slice (some ⟨w.heap.size, 0, none⟩) 2 2) [l1, l2] := by
  have hb : Below w.heap.size w (w.alloc (.cells #[v1, v2] 23)) := (Below.refl _ _).alloc (Nat.le_refl _) _
  refine .inr ⟨w.heap.size, 0, 2, rfl, by simp, by simp [maxLen], fun j hj => ?_⟩
  have : j = 0 ∨ j = 1 := by simp at hj; omega
  rcases this with rfl | rfl
  · exact ⟨v1, by simp, h1.below hb (Nat.le_refl _)⟩
  · exact ⟨v2, by simp, h2.below hb (Nat.le_refl _)⟩

/-- two numbers joined -/
def two (a b : Nat) : List UInt8 := Mth.numB a ++ Mth.numB b
theorem two_flat (a b : Nat) : [Mth.numB a, Mth.numB b].flatten = two a b := by simp [two]
theorem two_le (a b : Nat) : ([Mth.numB a, Mth.numB b].flatten).length ≤ 1099511627776 := by
  have h1 := Mth.numL_bd a
  have h2 := Mth.numL_bd b
  simp only [List.flatten_cons, List.flatten_nil, List.append_nil, List.length_append, Mth.numB_length]
  omega

theorem u64_nat {a : Int} (h : (Lit.int .u64 a).wf = true) : ∃ n : Nat, a = (n : Int) ∧ n < 18446744073709551616 := by
  have hb := bounds_u64 h
  exact ⟨a.toNat, by omega, by omega⟩

set_option maxHeartbeats 4000000 in
theorem pairs_walk (a b c d : Nat) (w : World) (ha : a < 18446744073709551616) (hb : b < 18446744073709551616) (hc : c < 18446744073709551616) (hd : d < 18446744073709551616) (x1 x2 : Bool)
    (e1 : decide (Lib.compareBytes (two a b) (two c d) < 0) = x1) (e2 : (two a b == two c d) = x2)
    (r1 : (a < c ∧ x1 = true ∧ x2 = false) ∨ (c < a ∧ x1 = false ∧ x2 = false) ∨ (c = a ∧ b < d ∧ x1 = true ∧ x2 = false) ∨ (c = a ∧ d < b ∧ x1 = false ∧ x2 = false) ∨ (c = a ∧ d = b ∧ x1 = false ∧ x2 = true)) :
    Calls Try.prog 9 #[.int .u64 (a : Int), .int .u64 (b : Int), .int .u64 (c : Int), .int .u64 (d : Int)] w fun e w' => e = .returned (.bool true) ∧ Below w.heap.size w w' := by
  have E1 : Hid (decide (Lib.compareBytes (two a b) (two c d) < 0) = x1) := e1
  have E2 : Hid ((two a b == two c d) = x2) := e2
  have R1 : Hid _ := r1
  clear e1 e2 r1
  go_enter Try.func9, Try.ntmps9
  go_wp2_with fail
  refine (awake_any _).mono ?_
  rintro e w1 ⟨rfl, hb1⟩
  go_wp2_with fail
  refine (num_any a _ ha).mono ?_
  rintro e w2 ⟨va, rfl, oa, hb2⟩
  go_wp2_with fail
  refine (num_any b _ hb).mono ?_
  rintro e w3 ⟨vb, rfl, ob, hb3⟩
  have ra := oa.rd.below hb3 (Nat.le_refl _)
  have rb := ob.rd
  have hB3 := (hb1.trans (hb2.mono hb1.size)).trans (hb3.mono (Nat.le_trans hb1.size hb2.size))
  obtain ⟨ga, ka, ca, rfl, _⟩ := oa
  obtain ⟨gb, kb, cb, rfl, _⟩ := ob
  clear hb1 hb2 hb3
  go_wp2_with fail
  refine (join_any _ _ [Mth.numB a, Mth.numB b] (rdl_two _ _ _ _ _ ra rb) (two_le a b)).mono ?_
  rintro e w4 ⟨p, rfl, op, hb4⟩
  rw [two_flat] at op
  have hB4 := (hB3.alloc hB3.size _).trans (hb4.mono (Nat.le_trans hB3.size (by simp)))
  clear ra rb hB3 hb4
  obtain ⟨gp, kp, cp, hvp⟩ : ∃ g k, ∃ c : Array Value, p = .slice (some ⟨g, 0, none⟩) (two a b).length k := by obtain ⟨g, k, c, e, _⟩ := op; exact ⟨g, k, c, e⟩
  subst hvp
  clear cp
  go_wp2_with fail
  refine (num_any c _ hc).mono ?_
  rintro e w5 ⟨vc, rfl, oc, hb5⟩
  go_wp2_with fail
  refine (num_any d _ hd).mono ?_
  rintro e w6 ⟨vd, rfl, od, hb6⟩
  have rc := oc.rd.below hb6 (Nat.le_refl _)
  have rd := od.rd
  have rp := (op.rd.below hb5 (Nat.le_refl _)).below hb6 (Nat.le_refl _)
  have hB6 := (hB4.trans (hb5.mono hB4.size)).trans (hb6.mono (Nat.le_trans hB4.size hb5.size))
  obtain ⟨gc, kc, cc, rfl, _⟩ := oc
  obtain ⟨gd, kd, cd, rfl, _⟩ := od
  clear hb5 hb6 hB4 op
  go_wp2_with fail
  refine (join_any _ _ [Mth.numB c, Mth.numB d] (rdl_two _ _ _ _ _ rc rd) (two_le c d)).mono ?_
  rintro e w7 ⟨q, rfl, oq, hb7⟩
  rw [two_flat] at oq
  have rp7 := (rp.below ((Below.refl _ _).alloc (Nat.le_refl _) _) (Nat.le_refl _)).below hb7 (Nat.le_refl _)
  have hB7 := (hB6.alloc hB6.size _).trans (hb7.mono (Nat.le_trans hB6.size (by simp)))
  have rq := oq.rd
  clear rc rd hB6 hb7 rp oq
  go_wp2_with fail
  refine (less_b _ _ _ _ _ x1 rp7 rq E1.out).mono ?_
  rintro e w8 ⟨rfl, hw⟩
  subst hw
  have r1 := R1.out
  clear R1
  rcases r1 with ⟨h, rfl, rfl⟩ | ⟨h, rfl, rfl⟩ | ⟨rfl, h, rfl, rfl⟩ | ⟨rfl, h, rfl, rfl⟩ | ⟨rfl, rfl, rfl, rfl⟩
  all_goals
    go_wp2_with (go_at_call 11; refine (same_b _ _ _ _ _ _ rp7 rq E2.out).mono ?_; rintro e w9 ⟨rfl, rfl⟩)
    go_ret
    refine ⟨?_, hB7⟩
    first | rfl | (show Ending.returned (Value.bool _) = _; congr 2; simp; done) | (show Ending.returned (Value.bool _) = _; congr 2; simp; omega)

theorem two_cmp (a b c d : Nat) (ha : a < 18446744073709551616) (hb : b < 18446744073709551616) (hc : c < 18446744073709551616) (hd : d < 18446744073709551616) (x1 x2 : Bool)
    (e1 : decide (Lib.compareBytes (two a b) (two c d) < 0) = x1) (e2 : (two a b == two c d) = x2) :
    (a < c ∧ x1 = true ∧ x2 = false) ∨ (c < a ∧ x1 = false ∧ x2 = false) ∨ (c = a ∧ b < d ∧ x1 = true ∧ x2 = false) ∨ (c = a ∧ d < b ∧ x1 = false ∧ x2 = false) ∨ (c = a ∧ d = b ∧ x1 = false ∧ x2 = true) := by
  subst e1 e2
  have key : ∀ l m : List UInt8, Lib.compareBytes l m ≠ 0 → (l == m) = false := fun l m h => by
    rw [beq_eq_false_iff_ne]
    intro e
    rw [e, Mth.cmp_self] at h
    exact h rfl
  rcases Nat.lt_trichotomy a c with h | h | h
  · have hk : Lib.compareBytes (two a b) (two c d) = -1 := ((Mth.numB_ahead a c h hc).append (Mth.numB b) (Mth.numB d)).cmp.1
    exact .inl ⟨h, by rw [hk]; rfl, key _ _ (by rw [hk]; decide)⟩
  · subst h
    rcases Nat.lt_trichotomy b d with g | g | g
    · have hk : Lib.compareBytes (two a b) (two a d) = -1 := ((Mth.numB_ahead b d g hd).pre (Mth.numB a)).cmp.1
      exact .inr (.inr (.inl ⟨rfl, g, by rw [hk]; rfl, key _ _ (by rw [hk]; decide)⟩))
    · subst g
      have hk : Lib.compareBytes (two a b) (two a b) = 0 := Mth.cmp_self _
      exact .inr (.inr (.inr (.inr ⟨rfl, rfl, by rw [hk]; rfl, by simp⟩)))
    · have hk : Lib.compareBytes (two a b) (two a d) = 1 := ((Mth.numB_ahead d b g hb).pre (Mth.numB a)).cmp.2
      exact .inr (.inr (.inr (.inl ⟨rfl, g, by rw [hk]; rfl, key _ _ (by rw [hk]; decide)⟩)))
  · have hk : Lib.compareBytes (two a b) (two c d) = 1 := ((Mth.numB_ahead c a h ha).append (Mth.numB d) (Mth.numB b)).cmp.2
    exact .inr (.inl ⟨h, by rw [hk]; rfl, key _ _ (by rw [hk]; decide)⟩)

theorem atomPairs_walk (a0 a1 a2 a3 : Int) (w : World) (w0 : (Lit.int .u64 a0).wf = true) (w1 : (Lit.int .u64 a1).wf = true) (w2 : (Lit.int .u64 a2).wf = true) (w3 : (Lit.int .u64 a3).wf = true) :
    Calls Try.prog 9 #[.int .u64 a0, .int .u64 a1, .int .u64 a2, .int .u64 a3] w fun e w' => e = .returned (.bool true) ∧ Below w.heap.size w w' := by
  obtain ⟨a, rfl, ha⟩ := u64_nat w0
  obtain ⟨b, rfl, hb⟩ := u64_nat w1
  obtain ⟨c, rfl, hc⟩ := u64_nat w2
  obtain ⟨d, rfl, hd⟩ := u64_nat w3
  exact pairs_walk a b c d w ha hb hc hd _ _ rfl rfl (two_cmp a b c d ha hb hc hd _ _ rfl rfl)

end Go.Proofs.Ytecmijocgkhnpaa
