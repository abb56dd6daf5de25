/- batch.takeOp. -/
import Derived.Test.YtjgpkmdmicjdhaaBatMath
import Derived.Deep.RegionHeld3
namespace Go.Proofs.Ytjgpkmdmicjdhaa
open Go.RowKit

theorem Rd.stored3f {w : World} {v : Value} {l : List UInt8} {b : Nat} (h : Rd w v l) (hf : From (b + 1) v) (u0 u1 u2 : Value) : Rd (((w.setCell ⟨b, 0, none⟩ u0).setCell ⟨b, 1, none⟩ u1).setCell ⟨b, 2, none⟩ u2) v l := by
  rcases h with h | ⟨g, off, cap, rfl, h1, h2, h3⟩
  · exact .inl h
  · have hg : b + 1 ≤ g := hf _ _ _ rfl
    have : Rd w (.slice (some ⟨g, off, none⟩) l.length cap) l := .inr ⟨g, off, cap, rfl, h1, h2, h3⟩
    exact this.store3 (by omega) u0 u1 u2

theorem From.mono {B C : Nat} {v : Value} (h : From B v) (hC : C ≤ B) : From C v := fun a n c e => Nat.le_trans hC (h a n c e)

/-- what takeOp says -/
def TakeOpPost (l : List UInt8) (w w' : World) (e : Ending) : Prop :=
  ∃ x y z, e = .returned (.tuple #[.agg #[.int .u8 ((takeS l).1.1.toNat : Int), x, y], z, .bool (takeS l).2.2]) ∧ Rd w' x (takeS l).1.2.1 ∧ Rd w' y (takeS l).1.2.2 ∧ Rd w' z (takeS l).2.1 ∧ From w.heap.size x ∧ From w.heap.size y ∧ From w.heap.size z ∧ Below w.heap.size w w'

theorem takeop_zero {l : List UInt8} {w w' : World} {e : Ending} (h : takeS l = ((0, [], []), [], false)) (he : e = .returned (.tuple #[.agg #[.int .u8 0, .slice none 0 0, .slice none 0 0], .slice none 0 0, .bool false])) (hb : Below w.heap.size w w') : TakeOpPost l w w' e := by
  subst he
  unfold TakeOpPost
  rw [h]
  exact ⟨_, _, _, rfl, .inl ⟨rfl, rfl⟩, .inl ⟨rfl, rfl⟩, .inl ⟨rfl, rfl⟩, from_nil _, from_nil _, from_nil _, hb⟩

set_option maxHeartbeats 4000000 in
theorem takeop_any (w : World) (v : Value) (l : List UInt8) (hv : Rd w v l) (hlen : l.length ≤ 1000000) :
    Calls Try.prog 40 #[v] w fun e w' => TakeOpPost l w w' e := by
  obtain ⟨⟨n, s, e⟩, hf⟩ : ∃ y, frontS l = y := ⟨_, rfl⟩
  have q0 := box_new w (.int .u8 0) (.slice none 0 0) (.slice none 0 0) 67
  have hB0 := below_box w #[.int .u8 0, .slice none 0 0, .slice none 0 0] 67
  have rv := hv.below hB0 (Nat.le_refl _)
  have HV : Hid (∀ x, takeV l x = .tuple #[.int .u64 (n : Int), x, .int .i64 (e : Int)]) := by intro x; unfold takeV; rw [hf]
  have hsz0 : (w.alloc (.cells #[.int .u8 0, .slice none 0 0, .slice none 0 0] 67)).heap.size = w.heap.size + 1 := by simp
  clear hv
  by_cases he : e = 0 ∧ n ≤ 3
  · obtain ⟨rfl, hn3⟩ := he
    have HP : Hid (∀ B w x, TakePost l B w x → Own B w x (l.drop s)) := by intro B w x h; unfold TakePost at h; rw [hf] at h; exact h
    obtain ⟨p1, hp1⟩ : ∃ p, l.drop s = p := ⟨_, rfl⟩
    have hp1l : p1.length ≤ 1000000 := by rw [← hp1, List.length_drop]; omega
    rw [hp1] at HP
    obtain ⟨⟨u, p2, e1⟩, hu⟩ : ∃ y, textS p1 64 = y := ⟨_, rfl⟩
    obtain ⟨⟨x, p3, e2⟩, hx⟩ : ∃ y, textS p2 512 = y := ⟨_, rfl⟩
    have HU : Hid _ := hu
    have HX : Hid _ := hx
    have HT : Hid (takeS l = if e1 = 0 then if e2 = 0 then ((UInt8.ofNat n, u, x), p3, decide (chkOp (n : Int) u x = 0)) else ((0, [], []), [], false) else ((0, [], []), [], false)) := by
      show _ = _
      unfold takeS
      rw [hf]
      simp only [hp1, hu, hx]
      rw [if_pos ⟨trivial, hn3⟩]
    have hp2l : p2.length ≤ 1000000 := by
      by_cases h0 : e1 = 0
      · subst h0
        have := congrArg List.length (text_inv hu).1
        rw [List.length_append] at this
        omega
      · have : p2 = [] := by
          have h := hu
          unfold textS at h
          split at h
          · split at h
            · simp at h; exact h.2.1
            · split at h
              · simp at h; exact h.2.1
              · simp at h; exact absurd h.2.2.symm h0
          · simp at h; exact h.2.1
        rw [this]; simp
    have hn3i : (n : Int) ≤ 3 := by omega
    clear hf hp1 hu hx hn3
    go_enter Try.func40, Try.ntmps40
    go_wp2_with fail
    refine (take_any _ _ l rv (by omega)).mono ?_
    rintro r w1 ⟨xr, rfl, hp, hb⟩
    rw [HV.out]
    have hrow := HP.out _ _ _ hp
    rw [hsz0] at hrow
    have q1 := q0.below hb (Nat.le_refl _)
    have hB1 := hB0.trans (hb.mono hB0.size)
    have hs1 : w.heap.size + 1 ≤ w1.heap.size := by have := hb.size; omega
    clear q0 hB0 rv hp hb HP HV hsz0
    go_wp2_with fail
    refine (text_any _ _ p1 64 (by omega) hrow.rd (by omega)).mono ?_
    rintro r w2 ⟨xk, yk, rfl, rk, ry, fk, fy, hb⟩
    rw [HU.out] at rk ry ⊢
    have q2 := q1.below hb (Nat.le_refl _)
    have hB2 := hB1.trans (hb.mono hB1.size)
    have hs2 := Nat.le_trans hs1 hb.size
    clear q1 hB1 hb hrow
    by_cases h1 : e1 = 0
    · subst h1
      go_wp2_with fail
      refine (text_any _ _ p2 512 (by omega) ry (by omega)).mono ?_
      rintro r w3 ⟨xv, yv, rfl, rvv, rz, fv, fz, hb⟩
      rw [HX.out] at rvv rz ⊢
      have q3 := q2.below hb (Nat.le_refl _)
      have rk3 := rk.below hb (Nat.le_refl _)
      have hB3 := hB2.trans (hb.mono hB2.size)
      have hs3 := Nat.le_trans hs2 hb.size
      clear q2 hB2 hb ry rk fy
      by_cases h2 : e2 = 0
      · subst h2
        obtain ⟨xk1, xk2, hxk⟩ := rk3.len
        subst hxk
        obtain ⟨xv1, xv2, hxv⟩ := rvv.len
        subst hxv
        have hwn : IntKind.u8.wrap (n : Int) = (n : Int) := by rw [IntKind.wrap_u8]; omega
        have hba := below_box w3 #[.int .u8 (n : Int), .slice xk1 u.length xk2, .slice xv1 x.length xv2] 67
        have b9 := (box_new w3 (.int .u8 (n : Int)) (.slice xk1 u.length xk2) (.slice xv1 x.length xv2) 67).drew
        have q4 := (q3.below hba (Nat.le_refl _)).drew
        have rk4 := Rd.drew (rk3.below hba (Nat.le_refl _))
        have rv4 := Rd.drew (rvv.below hba (Nat.le_refl _))
        have rz4 := Rd.drew (rz.below hba (Nat.le_refl _))
        have hB4 := (hB3.trans (hba.mono hB3.size)).drew
        obtain ⟨d, hd⟩ : ∃ d, chkOp (n : Int) u x = d := ⟨_, rfl⟩
        have HD : Hid _ := hd
        have hne9 : w3.heap.size ≠ w.heap.size := by omega
        clear q3 rk3 rvv rz hB3 hba hd
        go_wp2_with fail
        go_region_held3 (fun w' => w'.cell? ⟨w3.heap.size, 0, none⟩ = some (.int .u8 (n : Int)) ∧ w'.cell? ⟨w3.heap.size, 1, none⟩ = some (.slice xk1 u.length xk2) ∧ w'.cell? ⟨w3.heap.size, 2, none⟩ = some (.slice xv1 x.length xv2))
          (first | exact ⟨b11.c0, b11.c1, b11.c2⟩ | exact ⟨b10.c0, b10.c1, b10.c2⟩ | exact ⟨b9.c0, b9.c1, b9.c2⟩)
          (first
            | (go_at_call 41; refine (checkop_any _ _ _ u x n d (by omega) rk4 rv4 HD.out).mono ?_; rintro e w5 ⟨rfl, hb5⟩; have b10 := b9.below hb5 (Nat.le_refl _); have b11 := ((b10.other ⟨w.heap.size, 0, none⟩ hne9 (.int .u8 (n : Int))).other ⟨w.heap.size, 1, none⟩ hne9 (.slice xk1 u.length xk2)).other ⟨w.heap.size, 2, none⟩ hne9 (.slice xv1 x.length xv2); obtain ⟨e0, e1, e2, f0, f1, f2⟩ := q4.below hb5 (Nat.le_refl _))
            | fail)
        all_goals
          have hB5 := hB4.trans (hb5.mono hB4.size)
          have hBs := below_store3 hB5 (b := w.heap.size) (Nat.le_refl _) (.int .u8 (n : Int)) (.slice xk1 u.length xk2) (.slice xv1 x.length xv2)
          have fk1 := fk.mono hs1
          have fv1 := fv.mono hs2
          have fz1 := fz.mono hs2
          have rk5 := (rk4.below hb5 (Nat.le_refl _)).stored3f (b := w.heap.size) fk1 (.int .u8 (n : Int)) (.slice xk1 u.length xk2) (.slice xv1 x.length xv2)
          have rv5 := (rv4.below hb5 (Nat.le_refl _)).stored3f (b := w.heap.size) fv1 (.int .u8 (n : Int)) (.slice xk1 u.length xk2) (.slice xv1 x.length xv2)
          have rz5 := (rz4.below hb5 (Nat.le_refl _)).stored3f (b := w.heap.size) fz1 (.int .u8 (n : Int)) (.slice xk1 u.length xk2) (.slice xv1 x.length xv2)
          clear q4 rk4 rv4 rz4 hB4 b9 b10 b11 hB5 hb5
          go_wp2
          have hnn : ((UInt8.ofNat n).toNat : Int) = (n : Int) := by simp; omega
          refine bodyPost_ret (v := .tuple #[.agg #[.int .u8 (n : Int), .slice xk1 u.length xk2, .slice xv1 x.length xv2], yv, .bool (d == 0)]) (by simp [results, Try.results40, go_sem, e0, e1, e2]) rfl ?_
          have hT := HT.out
          simp only [if_true] at hT
          unfold TakeOpPost
          rw [hT, HD.out]
          simp only [hnn]
          exact ⟨_, _, _, rfl, rk5, rv5, rz5, fk1.mono (Nat.le_succ _), fv1.mono (Nat.le_succ _), fz1.mono (Nat.le_succ _), hBs⟩
      · have h2b : ((e2 : Int) != 0) = true := by simp; omega
        have h2c : ((e2 : Int) == 0) = false := by simp; omega
        obtain ⟨e0, e1', e2', f0, f1, f2⟩ := q3
        have HT2 : Hid (takeS l = ((0, [], []), [], false)) := by have := HT.out; simp only [if_true] at this; rw [if_neg h2] at this; exact this
        clear rk3 rvv rz HT
        go_wp2
        exact bodyPost_ret (v := .tuple #[.agg #[.int .u8 0, .slice none 0 0, .slice none 0 0], .slice none 0 0, .bool false]) (by simp [results, Try.results40, go_sem, e0, e1', e2']) rfl (takeop_zero HT2.out rfl (below_store3 hB3 (Nat.le_refl _) _ _ _))
    · have h1b : ((e1 : Int) != 0) = true := by simp; omega
      have h1c : ((e1 : Int) == 0) = false := by simp; omega
      obtain ⟨e0, e1', e2', f0, f1, f2⟩ := q2
      have HT2 : Hid (takeS l = ((0, [], []), [], false)) := by have := HT.out; rw [if_neg h1] at this; exact this
      clear rk ry HT
      go_wp2
      exact bodyPost_ret (v := .tuple #[.agg #[.int .u8 0, .slice none 0 0, .slice none 0 0], .slice none 0 0, .bool false]) (by simp [results, Try.results40, go_sem, e0, e1', e2']) rfl (takeop_zero HT2.out rfl (below_store3 hB2 (Nat.le_refl _) _ _ _))
  · have HT2 : Hid (takeS l = ((0, [], []), [], false)) := by
      show _ = _
      unfold takeS
      rw [hf]
      simp only
      rw [if_neg he]
    clear hf
    go_enter Try.func40, Try.ntmps40
    go_wp2_with fail
    refine (take_any _ _ l rv (by omega)).mono ?_
    rintro r w1 ⟨xr, rfl, hp, hb⟩
    rw [HV.out]
    have hB1 := hB0.trans (hb.mono hB0.size)
    obtain ⟨e0, e1', e2', f0, f1, f2⟩ := q0.below hb (Nat.le_refl _)
    clear q0 hB0 rv hp hb HV hsz0
    by_cases he0 : e = 0
    · subst he0
      have hn : (3 : Int) < (n : Int) := by omega
      clear he
      go_wp2
      exact bodyPost_ret (v := .tuple #[.agg #[.int .u8 0, .slice none 0 0, .slice none 0 0], .slice none 0 0, .bool false]) (by simp [results, Try.results40, go_sem, e0, e1', e2']) rfl (takeop_zero HT2.out rfl (below_store3 hB1 (Nat.le_refl _) _ _ _))
    · have h1b : ((e : Int) != 0) = true := by simp; omega
      have h1c : ((e : Int) == 0) = false := by simp; omega
      clear he
      go_wp2
      exact bodyPost_ret (v := .tuple #[.agg #[.int .u8 0, .slice none 0 0, .slice none 0 0], .slice none 0 0, .bool false]) (by simp [results, Try.results40, go_sem, e0, e1', e2']) rfl (takeop_zero HT2.out rfl (below_store3 hB1 (Nat.le_refl _) _ _ _))

end Go.Proofs.Ytjgpkmdmicjdhaa
