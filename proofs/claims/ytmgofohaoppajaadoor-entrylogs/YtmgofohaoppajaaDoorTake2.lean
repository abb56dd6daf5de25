/- atom.Take. -/
import Derived.Test.YtmgofohaoppajaaDoorTake
import Derived.Test.YtmgofohaoppajaaDoorFresh
namespace Go.Proofs.YtmgofohaoppajaaDoor
open Go.RowKit

theorem frontS_ok {l : List UInt8} {n s : Nat} (h : frontS l = (n, s, 0)) : 1 ≤ s ∧ s ≤ l.length ∧ s ≤ 9 ∧ n < 18446744073709551616 := by
  cases l with
  | nil => simp [frontS] at h
  | cons f t =>
    have hb := sizeN_bd f.toNat f.toNat_lt
    by_cases hl : (f :: t).length < sizeN f.toNat
    · rw [frontS, if_pos hl] at h; simp at h
    · rw [frontS, if_neg hl] at h
      split at h
      · simp only [Prod.mk.injEq, and_true] at h
        obtain ⟨hn, hs⟩ := h
        refine ⟨by omega, by omega, by omega, ?_⟩
        rw [← hn]
        obtain ⟨q, hq⟩ : ∃ q, sizeN f.toNat = q + 1 := ⟨sizeN f.toNat - 1, by omega⟩
        rw [hq, List.take_succ_cons]
        refine decN_lt f _ ?_
        simp only [List.length_cons] at hl ⊢
        rw [List.length_take]; omega
      · simp at h

/-- the error of a number in front, if it isn't one -/
theorem frontS_err {l : List UInt8} {n s e : Nat} (h : frontS l = (n, s, e)) (he : e ≠ 0) : n = 0 ∧ s = 0 ∧ (e = 2 ∨ e = 4) := by
  cases l with
  | nil => simp [frontS] at h; omega
  | cons f t =>
    by_cases hl : (f :: t).length < sizeN f.toNat
    · rw [frontS, if_pos hl] at h; simp at h; omega
    · rw [frontS, if_neg hl] at h
      split at h
      · simp at h; omega
      · simp at h; omega

theorem take_err (w : World) (v : Value) (l : List UInt8) (e : Nat) (hv : Rd w v l) (hf : frontS l = (0, 0, e)) (he : e = 2 ∨ e = 4) :
    Calls Tryd.prog 47 #[v] w fun r w' => r = .returned (.tuple #[.int .u64 0, .slice none 0 0, .int .i64 (e : Int)]) ∧ Below w.heap.size w w' := by
  have hV : Hid (frontV (frontS l) = .tuple #[.int .u64 0, .int .i64 0, .int .i64 (e : Int)]) := by show _ = _; rw [hf]; rfl
  have he0 : ((e : Int) == 0) = false := by simp; omega
  clear hf
  go_enter Tryd.func47, Tryd.ntmps47
  go_wp2_with (go_at_call 62; refine (front_any _ _ l hv).mono ?_; rintro r w1 ⟨rfl, hb⟩; rw [hV.out])
  go_ret3
  exact ⟨rfl, hb⟩

set_option maxHeartbeats 1000000 in
theorem take_ok (w : World) (v : Value) (l : List UInt8) (n s : Nat) (hv : Rd w v l) (hf : frontS l = (n, s, 0)) (hl : l.length ≤ 281474976710656) :
    Calls Tryd.prog 47 #[v] w fun r w' => ∃ x, r = .returned (.tuple #[.int .u64 (n : Int), x, .int .i64 0]) ∧ Own w.heap.size w' x (l.drop s) ∧ Below w.heap.size w w' := by
  obtain ⟨hs1, hs2, hs9, hn⟩ := frontS_ok hf
  have hV : Hid (frontV (frontS l) = .tuple #[.int .u64 (n : Int), .int .i64 (s : Int), .int .i64 0]) := by show _ = _; rw [hf]; rfl
  clear hf
  have hh := hv
  rcases hh with ⟨_, rfl⟩ | ⟨b, off, cap, rfl, h1, h2, h3⟩
  · simp at hs2; omega
  have hR : ¬ cap = s → Rd w (.slice (some ⟨b, off + s, none⟩) (l.length - s) (cap - s)) (l.drop s) := fun _ => by
    have := rd_sub h3 s (l.length - s) (cap - s) (by omega) (by omega) (by omega)
    rwa [List.take_of_length_le (by simp)] at this
  have hR0 : cap = s → Rd w (.slice (some ⟨b, off, none⟩) (l.length - s) (cap - s)) (l.drop s) := fun e => by
    have ht : l.drop s = [] := by apply List.drop_eq_nil_of_le; omega
    rw [ht]
    exact .inr ⟨b, off, cap - s, by rw [show l.length - s = 0 by omega]; rfl, Nat.zero_le _, by omega, fun j u hu => by simp [bv] at hu⟩
  unfold maxLen at h2
  by_cases hcap : s = cap
  · subst hcap
    replace hR := hR0 rfl
    clear hR0
    rw [Nat.sub_self, show l.length - s = 0 by omega] at hR
    go_enter Tryd.func47, Tryd.ntmps47
    go_wp2_with (first | (go_at_call 62; refine (front_any _ _ l hv).mono ?_; rintro r w1 ⟨rfl, hb⟩; rw [hV.out]) | (go_at_call 63; refine (fresh_any _ _ (l.drop s) (by exact hR.below hb (Nat.le_refl _)) (by rw [List.length_drop]; omega)).mono ?_; rintro r w2 ⟨x, rfl, ho, hb2⟩))
    go_ret3
    exact ⟨x, rfl, ho.mono hb.size, hb.trans (hb2.mono hb.size)⟩
  · replace hR := hR (fun e => hcap e.symm)
    clear hR0
    go_enter Tryd.func47, Tryd.ntmps47
    go_wp2_with (first | (go_at_call 62; refine (front_any _ _ l hv).mono ?_; rintro r w1 ⟨rfl, hb⟩; rw [hV.out]) | (go_at_call 63; refine (fresh_any _ _ (l.drop s) (by exact hR.below hb (Nat.le_refl _)) (by rw [List.length_drop]; omega)).mono ?_; rintro r w2 ⟨x, rfl, ho, hb2⟩))
    go_ret3
    exact ⟨x, rfl, ho.mono hb.size, hb.trans (hb2.mono hb.size)⟩

end Go.Proofs.YtmgofohaoppajaaDoor
