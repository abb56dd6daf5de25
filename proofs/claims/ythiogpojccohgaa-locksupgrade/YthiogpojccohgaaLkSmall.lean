/- locks: isBelow, isPast, covers, overlap, together, clash, isRight, apart. -/
import Derived.Test.YthiogpojccohgaaLkPure
import Derived.Test.YthiogpojccohgaaClone
import Derived.Deep.RegionHeld3
namespace Go.Proofs.Ythiogpojccohgaa
set_option maxRecDepth 20000
open Go.RowKit
set_option linter.unusedVariables false
set_option linter.unusedSimpArgs false

theorem bel_any (w : World) (a b : Value) (l m : List UInt8) (r : Bool) (ha : Rd w a l) (hb : Rd w b m) (hr : belB l m = r) :
    Calls Try.prog 35 #[a, b] w fun e w' => e = .returned (.bool r) ∧ w' = w := by
  obtain ⟨a1, a2, rfl⟩ := ha.len
  obtain ⟨b1, b2, rfl⟩ := hb.len
  obtain ⟨q, hq⟩ : ∃ q, decide (Lib.compareBytes l m < 0) = q := ⟨_, rfl⟩
  have hl := less_b w _ _ l m q ha hb hq
  have HR : Hid (r = if m.length = 0 then true else q) := by show _ = _; rw [← hr, ← hq]; rfl
  obtain ⟨n, hn⟩ : ∃ n, m.length = n := ⟨_, rfl⟩
  rw [hn] at hl HR ⊢
  clear ha hb hr hq hn
  by_cases h0 : n = 0
  · subst h0
    go_enter Try.func35, Try.ntmps35
    go_wp2
    go_ret
    exact ⟨by rw [HR.out]; rfl, rfl⟩
  · have HR2 : Hid (r = q) := by show _ = _; rw [HR.out, if_neg h0]
    have hnb : ((n : Int) == 0) = false := by simpa using h0
    go_enter Try.func35, Try.ntmps35
    go_wp2_with fail
    refine hl.mono ?_
    rintro e w1 ⟨rfl, rfl⟩
    go_wp2
    go_ret
    exact ⟨by rw [HR2.out]; first | rfl | (show Ending.returned (Value.bool (((n : Int) == 0) || q)) = _; rw [hnb]; rfl), rfl⟩

theorem past_any (w : World) (a b : Value) (l m : List UInt8) (r : Bool) (ha : Rd w a l) (hb : Rd w b m) (hr : pastB l m = r) :
    Calls Try.prog 54 #[a, b] w fun e w' => e = .returned (.bool r) ∧ w' = w := by
  obtain ⟨a1, a2, rfl⟩ := ha.len
  obtain ⟨b1, b2, rfl⟩ := hb.len
  obtain ⟨q, hq⟩ : ∃ q, decide (Lib.compareBytes m l < 0) = q := ⟨_, rfl⟩
  have hl := less_b w _ _ m l q hb ha hq
  have HR : Hid (r = if m.length = 0 then false else if l.length = 0 then true else q) := by show _ = _; rw [← hr, ← hq]; rfl
  obtain ⟨n, hn⟩ : ∃ n, m.length = n := ⟨_, rfl⟩
  obtain ⟨k, hk⟩ : ∃ k, l.length = k := ⟨_, rfl⟩
  rw [hn, hk] at hl HR ⊢
  clear ha hb hr hq hn hk
  by_cases h0 : n = 0
  · subst h0
    go_enter Try.func54, Try.ntmps54
    go_wp2
    go_ret
    exact ⟨by rw [HR.out]; rfl, rfl⟩
  · have h0I : (0 : Int) < (n : Int) := by omega
    by_cases h1 : k = 0
    · subst h1
      have HR2 : Hid (r = true) := by show _ = _; rw [HR.out, if_neg h0]; rfl
      go_enter Try.func54, Try.ntmps54
      go_wp2
      go_ret
      exact ⟨by rw [HR2.out]; rfl, rfl⟩
    · have HR2 : Hid (r = q) := by show _ = _; rw [HR.out, if_neg h0, if_neg h1]
      have hkb : ((k : Int) == 0) = false := by simpa using h1
      go_enter Try.func54, Try.ntmps54
      go_wp2_with fail
      refine hl.mono ?_
      rintro e w1 ⟨rfl, rfl⟩
      go_wp2
      go_ret
      exact ⟨by rw [HR2.out]; first | rfl | (show Ending.returned (Value.bool (((k : Int) == 0) || q)) = _; rw [hkb]; rfl), rfl⟩

/-- a lock's value -/
def lkV (n : Int) (x y : Value) (m : Int) : Value := .agg #[.int .u64 n, x, y, .int .u8 m]

theorem below_two (w : World) (o p : Obj) : Below w.heap.size w ((w.alloc o).alloc p) := bsplit (below_box4 w o) (below_box4 _ p)

theorem over_any (w : World) (xa ya xb yb : Value) (fa ta fb tb : List UInt8) (na ma nb mb : Int) (r : Bool) (h1 : Rd w xa fa) (h2 : Rd w ya ta) (h3 : Rd w xb fb) (h4 : Rd w yb tb) (hr : (belB fa tb && belB fb ta) = r) :
    Calls Try.prog 55 #[lkV na xa ya ma, lkV nb xb yb mb] w fun e w' => e = .returned (.bool r) ∧ Below w.heap.size w w' := by
  obtain ⟨a1, a2, ea⟩ := h1.len
  obtain ⟨a3, a4, eb⟩ := h2.len
  obtain ⟨a5, a6, ec⟩ := h3.len
  obtain ⟨a7, a8, ed⟩ := h4.len
  subst ea eb ec ed
  have HB : Hid (Below w.heap.size w ((w.alloc (.cells #[.int .u64 na, .slice a1 fa.length a2, .slice a3 ta.length a4, .int .u8 ma] 32)).alloc (.cells #[.int .u64 nb, .slice a5 fb.length a6, .slice a7 tb.length a8, .int .u8 mb] 32))) := below_two w _ _
  obtain ⟨q, hq⟩ : ∃ q, belB fa tb = q := ⟨_, rfl⟩
  obtain ⟨p, hp⟩ : ∃ p, belB fb ta = p := ⟨_, rfl⟩
  have hb1 := bel_any _ _ _ fa tb q (h1.below HB.out (Nat.le_refl _)) (h4.below HB.out (Nat.le_refl _)) hq
  have hb2 := bel_any _ _ _ fb ta p (h3.below HB.out (Nat.le_refl _)) (h2.below HB.out (Nat.le_refl _)) hp
  have HR : Hid (r = (q && p)) := by show _ = _; rw [← hr, hq, hp]
  have hba := below_box4 (w.alloc (.cells #[.int .u64 na, .slice a1 fa.length a2, .slice a3 ta.length a4, .int .u8 ma] 32)) (.cells #[.int .u64 nb, .slice a5 fb.length a6, .slice a7 tb.length a8, .int .u8 mb] 32)
  obtain ⟨c0, c1, c2, c3⟩ := (box4_new w (.int .u64 na) (.slice a1 fa.length a2) (.slice a3 ta.length a4) (.int .u8 ma) 32).below hba (Nat.le_refl _)
  obtain ⟨d0, d1, d2, d3⟩ := box4_new (w.alloc (.cells #[.int .u64 na, .slice a1 fa.length a2, .slice a3 ta.length a4, .int .u8 ma] 32)) (.int .u64 nb) (.slice a5 fb.length a6) (.slice a7 tb.length a8) (.int .u8 mb) 32
  rw [show (w.alloc (.cells #[.int .u64 na, .slice a1 fa.length a2, .slice a3 ta.length a4, .int .u8 ma] 32)).heap.size = w.heap.size + 1 by simp] at d0 d1 d2 d3
  clear h1 h2 h3 h4 hr hq hp hba
  unfold lkV
  cases q
  · go_enter Try.func55, Try.ntmps55
    go_wp2_with fail
    refine hb1.mono ?_
    rintro e w1 ⟨rfl, rfl⟩
    go_wp2
    go_ret
    exact ⟨by rw [HR.out]; rfl, HB.out⟩
  · go_enter Try.func55, Try.ntmps55
    go_wp2_with fail
    refine hb1.mono ?_
    rintro e w1 ⟨rfl, rfl⟩
    clear hb1
    go_wp2_with fail
    refine hb2.mono ?_
    rintro e w1 ⟨rfl, rfl⟩
    go_wp2
    go_ret
    exact ⟨by rw [HR.out]; rfl, HB.out⟩

theorem cov_any (w : World) (xa ya xb yb : Value) (fa ta fb tb : List UInt8) (na ma nb mb : Int) (r : Bool) (h1 : Rd w xa fa) (h2 : Rd w ya ta) (h3 : Rd w xb fb) (h4 : Rd w yb tb) (hr : (!ltB fb fa && !pastB tb ta) = r) :
    Calls Try.prog 41 #[lkV na xa ya ma, lkV nb xb yb mb] w fun e w' => e = .returned (.bool r) ∧ Below w.heap.size w w' := by
  obtain ⟨a1, a2, ea⟩ := h1.len
  obtain ⟨a3, a4, eb⟩ := h2.len
  obtain ⟨a5, a6, ec⟩ := h3.len
  obtain ⟨a7, a8, ed⟩ := h4.len
  subst ea eb ec ed
  have HB : Hid (Below w.heap.size w ((w.alloc (.cells #[.int .u64 na, .slice a1 fa.length a2, .slice a3 ta.length a4, .int .u8 ma] 32)).alloc (.cells #[.int .u64 nb, .slice a5 fb.length a6, .slice a7 tb.length a8, .int .u8 mb] 32))) := below_two w _ _
  obtain ⟨q, hq⟩ : ∃ q, ltB fb fa = q := ⟨_, rfl⟩
  obtain ⟨p, hp⟩ : ∃ p, pastB tb ta = p := ⟨_, rfl⟩
  have hb1 := less_b _ _ _ fb fa q (h3.below HB.out (Nat.le_refl _)) (h1.below HB.out (Nat.le_refl _)) hq
  have hb2 := past_any _ _ _ tb ta p (h4.below HB.out (Nat.le_refl _)) (h2.below HB.out (Nat.le_refl _)) hp
  have HR : Hid (r = (!q && !p)) := by show _ = _; rw [← hr, hq, hp]
  have hba := below_box4 (w.alloc (.cells #[.int .u64 na, .slice a1 fa.length a2, .slice a3 ta.length a4, .int .u8 ma] 32)) (.cells #[.int .u64 nb, .slice a5 fb.length a6, .slice a7 tb.length a8, .int .u8 mb] 32)
  obtain ⟨c0, c1, c2, c3⟩ := (box4_new w (.int .u64 na) (.slice a1 fa.length a2) (.slice a3 ta.length a4) (.int .u8 ma) 32).below hba (Nat.le_refl _)
  obtain ⟨d0, d1, d2, d3⟩ := box4_new (w.alloc (.cells #[.int .u64 na, .slice a1 fa.length a2, .slice a3 ta.length a4, .int .u8 ma] 32)) (.int .u64 nb) (.slice a5 fb.length a6) (.slice a7 tb.length a8) (.int .u8 mb) 32
  rw [show (w.alloc (.cells #[.int .u64 na, .slice a1 fa.length a2, .slice a3 ta.length a4, .int .u8 ma] 32)).heap.size = w.heap.size + 1 by simp] at d0 d1 d2 d3
  clear h1 h2 h3 h4 hr hq hp hba
  unfold lkV
  cases q
  · go_enter Try.func41, Try.ntmps41
    go_wp2_with fail
    refine hb1.mono ?_
    rintro e w1 ⟨rfl, rfl⟩
    clear hb1
    go_wp2_with fail
    refine hb2.mono ?_
    rintro e w1 ⟨rfl, rfl⟩
    go_wp2
    go_ret
    exact ⟨by rw [HR.out]; rfl, HB.out⟩
  · go_enter Try.func41, Try.ntmps41
    go_wp2_with fail
    refine hb1.mono ?_
    rintro e w1 ⟨rfl, rfl⟩
    go_wp2
    go_ret
    exact ⟨by rw [HR.out]; rfl, HB.out⟩

def togI (na ma nb mb : Int) : Bool := if na = nb then true else if ma = 1 then decide (mb ≠ 3) else if mb = 1 then decide (ma ≠ 3) else false

theorem togB_is (a b : Lk) : togB a b = togI a.n a.m.toNat b.n b.m.toNat := by
  unfold togB togI
  have e1 : ((a.n : Int) = (b.n : Int)) = (a.n = b.n) := propext (by omega)
  have e2 : ((a.m.toNat : Int) = 1) = (a.m.toNat = 1) := propext (by omega)
  have e3 : ((b.m.toNat : Int) = 1) = (b.m.toNat = 1) := propext (by omega)
  have e4 : ((a.m.toNat : Int) ≠ 3) = (a.m.toNat ≠ 3) := propext (by omega)
  have e5 : ((b.m.toNat : Int) ≠ 3) = (b.m.toNat ≠ 3) := propext (by omega)
  simp only [e1, e2, e3, e4, e5]

theorem tog_any (w : World) (xa ya xb yb : Value) (na ma nb mb : Int) (r : Bool) (a1 a2 a3 a4 : Option Addr) (l1 k1 l2 k2 l3 k3 l4 k4 : Nat) (e1 : xa = .slice a1 l1 k1) (e2 : ya = .slice a2 l2 k2) (e3 : xb = .slice a3 l3 k3) (e4 : yb = .slice a4 l4 k4) (hr : togI na ma nb mb = r) :
    Calls Try.prog 56 #[lkV na xa ya ma, lkV nb xb yb mb] w fun e w' => e = .returned (.bool r) ∧ Below w.heap.size w w' := by
  subst e1 e2 e3 e4
  have HB : Hid (Below w.heap.size w ((w.alloc (.cells #[.int .u64 na, .slice a1 l1 k1, .slice a2 l2 k2, .int .u8 ma] 32)).alloc (.cells #[.int .u64 nb, .slice a3 l3 k3, .slice a4 l4 k4, .int .u8 mb] 32))) := below_two w _ _
  have HR : Hid (togI na ma nb mb = r) := hr
  unfold lkV
  clear hr
  by_cases h1 : na = nb
  · subst h1
    have HR2 : Hid (r = true) := by show _ = _; rw [← HR.out]; unfold togI; rw [if_pos rfl]
    go_enter Try.func56, Try.ntmps56
    go_wp2
    go_ret
    exact ⟨by rw [HR2.out]; rfl, HB.out⟩
  · by_cases h2 : ma = 1
    · subst h2
      have HR2 : Hid (r = decide (mb ≠ 3)) := by show _ = _; rw [← HR.out]; unfold togI; rw [if_neg h1, if_pos rfl]
      by_cases h3 : mb = 3
      · subst h3
        go_enter Try.func56, Try.ntmps56
        go_wp2
        go_ret
        exact ⟨by rw [HR2.out]; rfl, HB.out⟩
      · go_enter Try.func56, Try.ntmps56
        go_wp2
        go_ret
        exact ⟨by rw [HR2.out]; simp [h3], HB.out⟩
    · by_cases h3 : mb = 1
      · subst h3
        have HR2 : Hid (r = decide (ma ≠ 3)) := by show _ = _; rw [← HR.out]; unfold togI; rw [if_neg h1, if_neg h2, if_pos rfl]
        by_cases h4 : ma = 3
        · subst h4
          go_enter Try.func56, Try.ntmps56
          go_wp2
          go_ret
          exact ⟨by rw [HR2.out]; rfl, HB.out⟩
        · go_enter Try.func56, Try.ntmps56
          go_wp2
          go_ret
          exact ⟨by rw [HR2.out]; simp [h4], HB.out⟩
      · have HR2 : Hid (r = false) := by show _ = _; rw [← HR.out]; unfold togI; rw [if_neg h1, if_neg h2, if_neg h3]
        go_enter Try.func56, Try.ntmps56
        go_wp2
        go_ret
        exact ⟨by rw [HR2.out]; rfl, HB.out⟩

theorem clash_any (w : World) (xa ya xb yb : Value) (fa ta fb tb : List UInt8) (na ma nb mb : Int) (r : Bool) (h1 : Rd w xa fa) (h2 : Rd w ya ta) (h3 : Rd w xb fb) (h4 : Rd w yb tb) (hr : ((belB fa tb && belB fb ta) && !togI na ma nb mb) = r) :
    Calls Try.prog 44 #[lkV na xa ya ma, lkV nb xb yb mb] w fun e w' => e = .returned (.bool r) ∧ Below w.heap.size w w' := by
  obtain ⟨a1, a2, ea⟩ := h1.len
  obtain ⟨a3, a4, eb⟩ := h2.len
  obtain ⟨a5, a6, ec⟩ := h3.len
  obtain ⟨a7, a8, ed⟩ := h4.len
  subst ea eb ec ed
  have HB : Hid (Below w.heap.size w ((w.alloc (.cells #[.int .u64 na, .slice a1 fa.length a2, .slice a3 ta.length a4, .int .u8 ma] 32)).alloc (.cells #[.int .u64 nb, .slice a5 fb.length a6, .slice a7 tb.length a8, .int .u8 mb] 32))) := below_two w _ _
  obtain ⟨q, hq⟩ : ∃ q, (belB fa tb && belB fb ta) = q := ⟨_, rfl⟩
  obtain ⟨p, hp⟩ : ∃ p, togI na ma nb mb = p := ⟨_, rfl⟩
  have hb1 := over_any _ _ _ _ _ fa ta fb tb na ma nb mb q (h1.below HB.out (Nat.le_refl _)) (h2.below HB.out (Nat.le_refl _)) (h3.below HB.out (Nat.le_refl _)) (h4.below HB.out (Nat.le_refl _)) hq
  have HT : Hid (∀ W : World, Calls Try.prog 56 #[lkV na (.slice a1 fa.length a2) (.slice a3 ta.length a4) ma, lkV nb (.slice a5 fb.length a6) (.slice a7 tb.length a8) mb] W fun e w' => e = .returned (.bool p) ∧ Below W.heap.size W w') := fun W => tog_any W _ _ _ _ na ma nb mb p _ _ _ _ _ _ _ _ _ _ _ _ rfl rfl rfl rfl hp
  have HR : Hid (r = (q && !p)) := by show _ = _; rw [← hr, hq, hp]
  have hba := below_box4 (w.alloc (.cells #[.int .u64 na, .slice a1 fa.length a2, .slice a3 ta.length a4, .int .u8 ma] 32)) (.cells #[.int .u64 nb, .slice a5 fb.length a6, .slice a7 tb.length a8, .int .u8 mb] 32)
  have B1 := (box4_new w (.int .u64 na) (.slice a1 fa.length a2) (.slice a3 ta.length a4) (.int .u8 ma) 32).below hba (Nat.le_refl _)
  have B2 := box4_new (w.alloc (.cells #[.int .u64 na, .slice a1 fa.length a2, .slice a3 ta.length a4, .int .u8 ma] 32)) (.int .u64 nb) (.slice a5 fb.length a6) (.slice a7 tb.length a8) (.int .u8 mb) 32
  rw [show (w.alloc (.cells #[.int .u64 na, .slice a1 fa.length a2, .slice a3 ta.length a4, .int .u8 ma] 32)).heap.size = w.heap.size + 1 by simp] at B2
  have B1' := B1
  have B2' := B2
  obtain ⟨c0, c1, c2, c3⟩ := B1'
  obtain ⟨d0, d1, d2, d3⟩ := B2'
  clear h1 h2 h3 h4 hr hq hp hba
  unfold lkV at hb1 HT ⊢
  go_enter Try.func44, Try.ntmps44
  go_wp2_with fail
  refine hb1.mono ?_
  rintro e w1 ⟨rfl, hbw⟩
  have HB1 : Hid (Below w.heap.size w w1) := bsplit HB.out hbw
  have B11 := B1.below hbw (Nat.le_refl _)
  have B22 := B2.below hbw (Nat.le_refl _)
  clear hb1 c0 c1 c2 c3 d0 d1 d2 d3 B1 B2
  obtain ⟨c0, c1, c2, c3⟩ := B11
  obtain ⟨d0, d1, d2, d3⟩ := B22
  have ht := HT.out w1
  clear hbw
  cases q
  · go_wp2
    go_ret
    exact ⟨by rw [HR.out]; rfl, HB1.out⟩
  · go_wp2_with fail
    refine ht.mono ?_
    rintro e w2 ⟨rfl, hb2⟩
    have HB2 : Hid (Below w.heap.size w w2) := bsplit HB1.out hb2
    go_wp2
    go_ret
    exact ⟨by rw [HR.out]; rfl, HB2.out⟩

end Go.Proofs.Ythiogpojccohgaa
