/- KeyAfter answers true: nothing lies between a key and the next one. -/
import Derived.Test.YtkcdfmbjmacafaaKeyAwake
import Derived.Test.YtkcdfmbjmacafaaKeyArg
namespace Go.Proofs.Ytkcdfmbjmacafaa
open Go.RowKit

theorem after_any (w : World) (v : Value) (l : List UInt8) (hv : Rd w v l) (hl : l.length ≤ 1000000) :
    Calls Try.prog 26 #[v] w fun e w' => ∃ x, e = .returned x ∧ Own w.heap.size w' x (l ++ [0]) ∧ Below w.heap.size w w' := by
  obtain ⟨ao, cap, rfl⟩ := hv.len
  have hlit := rd_lit w [0] (by simp [maxLen]) #[.int .u8 0] rfl
  have hba := (Below.refl w.heap.size w).alloc (Nat.le_refl _) (.cells #[.int .u8 0] 5)
  have hv1 := hv.below hba (Nat.le_refl _)
  have HF : Hid ([l, [(0 : UInt8)]].flatten = l ++ [0]) := by show _ = _; simp
  have HL : Hid ([l, [(0 : UInt8)]].flatten.length ≤ 1099511627776) := by show _ ≤ _; simp; omega
  have hl2 := rdl_two _ _ _ _ _ hv1 hlit
  rw [show (w.alloc (.cells #[.int .u8 0] 5)).heap.size = w.heap.size + 1 by simp] at hl2
  clear hv hv1 hlit
  go_enter Try.func26, Try.ntmps26
  go_wp2_with fail
  refine (join_any _ _ [l, [0]] hl2 HL.out).mono ?_
  rintro e w1 ⟨x, rfl, ox, hb⟩
  rw [HF.out] at ox
  go_wp2
  go_ret
  exact ⟨_, rfl, ox.mono (by simp; omega), (hba.alloc (by simp) _).trans (hb.mono (by simp; omega))⟩

theorem cmp_next (a : List UInt8) : Lib.compareBytes a (a ++ [0]) < 0 := by
  induction a with
  | nil => simp [Lib.compareBytes]
  | cons x a ih => simp [Lib.compareBytes, UInt8.lt_irrefl, ih]

theorem cmp_between (a b : List UInt8) (h1 : Lib.compareBytes a b < 0) : ¬ Lib.compareBytes b (a ++ [0]) < 0 := by
  induction a generalizing b with
  | nil =>
    cases b with
    | nil => simp [Lib.compareBytes] at h1
    | cons y b =>
      simp only [List.nil_append, Lib.compareBytes]
      have h0 : ¬ y < 0 := by simp [UInt8.lt_iff_toNat_lt]
      rw [if_neg h0]
      split
      · omega
      · cases b <;> simp [Lib.compareBytes]
  | cons x a ih =>
    cases b with
    | nil => simp [Lib.compareBytes] at h1
    | cons y b =>
      simp only [List.cons_append, Lib.compareBytes] at h1 ⊢
      have e : ∀ a b : UInt8, a < b ↔ a.toNat < b.toNat := fun a b => UInt8.lt_iff_toNat_lt
      simp only [e] at h1 ⊢
      by_cases c1 : x.toNat < y.toNat
      · rw [if_neg (by omega), if_pos c1]; omega
      · rw [if_neg c1] at h1
        by_cases c2 : y.toNat < x.toNat
        · rw [if_pos c2] at h1; omega
        · rw [if_neg c2] at h1
          rw [if_neg c2, if_neg c1]
          exact ih b h1

set_option maxHeartbeats 1000000 in
theorem after_walk (w : World) (va vb : Value) (la lb ca cb : List UInt8) (CA : Hid (la.take 80 = ca)) (CB : Hid (lb.take 80 = cb)) (hca : ca.length ≤ 80) (ha : Arg w va la) (hb : Arg w vb lb) :
    Calls Try.prog 7 #[va, vb] w fun e w' => e = .returned (.bool true) ∧ Below w.heap.size w w' := by
  obtain ⟨na, hna⟩ : ∃ na, ca ++ [0] = na := ⟨_, rfl⟩
  have h1 : decide (Lib.compareBytes ca na < 0) = true := by rw [← hna]; exact decide_eq_true (cmp_next ca)
  have h2 : Lib.compareBytes ca cb < 0 → ¬ Lib.compareBytes cb na < 0 := by rw [← hna]; exact cmp_between ca cb
  have hnl : na.length = ca.length + 1 := by rw [← hna]; simp
  have H1 : Hid _ := h1
  have H2 : Hid _ := h2
  have HN : Hid _ := hna
  have HL : Hid _ := hnl
  clear h1 h2 hna hnl
  go_enter Try.func7, Try.ntmps7
  go_wp2_with fail
  refine (kawake_any _).mono ?_
  rintro e w1 ⟨rfl, hb1⟩
  have ha1 := ha.below hb1 (Nat.le_refl _)
  have hb1' := hb.below hb1 (Nat.le_refl _)
  clear ha hb
  go_wp2_with fail
  refine (cut_any _ _ la 80 ha1 (by omega)).mono ?_
  rintro e w2 ⟨xa, rfl, oa, hb2⟩
  rw [CA.out] at oa
  obtain ⟨ga, ka, hxa⟩ := oa.shape
  subst hxa
  have hb2' := hb1'.below hb2 (Nat.le_refl _)
  have hB2 := hb1.trans (hb2.mono hb1.size)
  clear ha1 hb1' hb1 hb2
  go_wp2_with fail
  refine (cut_any _ _ lb 80 hb2' (by omega)).mono ?_
  rintro e w3 ⟨xb, rfl, ob, hb3⟩
  rw [CB.out] at ob
  obtain ⟨gb, kb, hxb⟩ := ob.shape
  subst hxb
  have ra := oa.rd.below hb3 (Nat.le_refl _)
  have rb := ob.rd
  have hB3 := hB2.trans (hb3.mono hB2.size)
  clear oa ob hb3 hB2 hb2'
  go_wp2_with fail
  refine (after_any _ _ ca ra (by omega)).mono ?_
  rintro e w4 ⟨xn, rfl, on, hb4⟩
  rw [HN.out] at on
  obtain ⟨gn, kn, hxn⟩ := on.shape
  subst hxn
  rw [HL.out]
  have rn := on.rd
  rw [HL.out] at rn
  have ra4 := ra.below hb4 (Nat.le_refl _)
  have rb4 := rb.below hb4 (Nat.le_refl _)
  have hB4 := hB3.trans (hb4.mono hB3.size)
  clear ra rb hb4 hB3 on
  go_wp2_with fail
  refine (refless_any _ _ _ ca na true ra4 rn H1.out).mono ?_
  rintro e w5 ⟨rfl, hw⟩
  subst hw
  go_wp2_with fail
  by_cases h : Lib.compareBytes ca cb < 0
  · have h2 : Hid (decide (Lib.compareBytes cb na < 0) = false) := decide_eq_false (by have := H2.out h; omega)
    have h1 : Hid (decide (Lib.compareBytes ca cb < 0) = true) := decide_eq_true h
    clear h H2 H1
    refine (refless_any _ _ _ ca cb true ra4 rb4 h1.out).mono ?_
    rintro e w6 ⟨rfl, hw⟩
    subst hw
    go_wp2_with fail
    refine (refless_any _ _ _ cb na false rb4 rn h2.out).mono ?_
    rintro e w6 ⟨rfl, hw⟩
    subst hw
    go_wp2
    go_ret
    exact ⟨ret_bool (by simp), hB4⟩
  · have h1 : Hid (decide (Lib.compareBytes ca cb < 0) = false) := decide_eq_false h
    clear h H2 H1
    refine (refless_any _ _ _ ca cb false ra4 rb4 h1.out).mono ?_
    rintro e w6 ⟨rfl, hw⟩
    subst hw
    go_wp2
    go_ret
    exact ⟨ret_bool (by simp), hB4⟩

theorem keyAfter_walk (a0 : Option Addr) (len0 cap0 : Nat) (z0 : List Int) (a1 : Option Addr) (len1 cap1 : Nat) (z1 : List Int) (w : World) (w0 : IsRow .u8 w a0 len0 cap0 z0) (w1 : IsRow .u8 w a1 len1 cap1 z1) :
    Calls Try.prog 7 #[.slice a0 len0 cap0, .slice a1 len1 cap1] w fun e w' => e = .returned (.bool true) ∧ Below w.heap.size w w' :=
  after_walk w _ _ _ _ _ _ rfl rfl (List.length_take_le _ _) (arg_of w0) (arg_of w1)

end Go.Proofs.Ytkcdfmbjmacafaa
