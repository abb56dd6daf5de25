/- atom.front. -/
import Derived.Test.YtmgofohaoppajaaDoorFront
import Derived.Deep.RegionWith
namespace Go.Proofs.YtmgofohaoppajaaDoor
open Go.RowKit

/-- the number in front and how many bytes it has; or the error -/
def frontS (l : List UInt8) : Nat × Nat × Nat :=
  match l with
  | [] => (0, 0, 2)
  | f :: t => if (f :: t).length < sizeN f.toNat then (0, 0, 2)
    else if Mth.numB (decN ((f :: t).take (sizeN f.toNat))) == (f :: t).take (sizeN f.toNat) then (decN ((f :: t).take (sizeN f.toNat)), sizeN f.toNat, 0)
    else (0, 0, 4)

theorem decN_lt (f : UInt8) (t : List UInt8) (hl : (f :: t).length = sizeN f.toNat) : decN (f :: t) < 18446744073709551616 := by
  have hfb := f.toNat_lt
  have hsb := sizeN_bd f.toNat f.toNat_lt
  have hht := Mth.hf_lt t
  simp only [List.length_cons] at hl
  have e : decN (f :: t) = if f.toNat ≤ 240 then f.toNat else if f.toNat ≤ 248 then 240 + (f.toNat - 241) * 256 + Mth.hf t else if f.toNat = 249 then 2288 + Mth.hf t else Mth.hf t := rfl
  rw [e]
  by_cases g1 : f.toNat ≤ 240
  · rw [if_pos g1]; omega
  rw [if_neg g1]
  by_cases g2 : f.toNat ≤ 248
  · rw [if_pos g2]
    have : t.length = 1 := by simp only [sizeN, if_neg g1, if_pos g2] at hl; omega
    rw [this] at hht; omega
  rw [if_neg g2]
  by_cases g3 : f.toNat = 249
  · rw [if_pos g3]
    have : t.length = 2 := by simp only [sizeN, if_neg g1, if_neg g2, if_pos g3] at hl; omega
    rw [this] at hht; omega
  · rw [if_neg g3]
    exact Nat.lt_of_lt_of_le hht (Nat.pow_le_pow_right (n := 256) (by omega) (show t.length ≤ 8 by omega))

/-- what front answers -/
def frontV (x : Nat × Nat × Nat) : Value := .tuple #[.int .u64 (x.1 : Int), .int .i64 (x.2.1 : Int), .int .i64 (x.2.2 : Int)]

theorem front_nil (w : World) (v : Value) (hv : Rd w v []) :
    Calls Tryd.prog 62 #[v] w fun e w' => e = .returned (.tuple #[.int .u64 0, .int .i64 0, .int .i64 2]) ∧ w' = w := by
  rcases hv with ⟨rfl, _⟩ | ⟨b, off, cap, rfl, h1, h2, h3⟩
  all_goals
    try simp only [List.length_nil]
    go_enter Tryd.func62, Tryd.ntmps62
    go_wp2
    go_ret3
    exact ⟨rfl, rfl⟩

theorem front_short (w : World) (v : Value) (f : UInt8) (t : List UInt8) (hv : Rd w v (f :: t)) (hl : (f :: t).length < sizeN f.toNat) :
    Calls Tryd.prog 62 #[v] w fun e w' => e = .returned (.tuple #[.int .u64 0, .int .i64 0, .int .i64 2]) ∧ w' = w := by
  rcases hv with ⟨_, h⟩ | ⟨b, off, cap, rfl, h1, h2, h3⟩
  · cases h
  have hc := h3 0 _ (bv_get (f :: t) 0 (by simp))
  simp only [Nat.add_zero, List.getElem_cons_zero] at hc
  simp only [List.length_cons] at hl h1 ⊢
  unfold maxLen at h2
  clear h3
  have h0 : (((t.length + 1 : Nat) : Int) == 0) = false := by simp; omega
  go_enter Tryd.func62, Tryd.ntmps62
  go_wp2_with (go_at_call 71; refine (size_any _ _ f.toNat_lt).mono ?_; rintro e w' ⟨rfl, rfl⟩)
  go_ret3
  exact ⟨rfl, rfl⟩

set_option maxHeartbeats 400000 in
theorem front_full (w : World) (v : Value) (f : UInt8) (t : List UInt8) (hv : Rd w v (f :: t)) (hl : sizeN f.toNat ≤ (f :: t).length) (d : Nat) (hd : d = decN ((f :: t).take (sizeN f.toNat))) (same : Bool)
    (hs : same = (Mth.numB d == (f :: t).take (sizeN f.toNat))) (x : Value) (hx : x = frontV (frontS (f :: t))) :
    Calls Tryd.prog 62 #[v] w fun e w' => e = .returned x ∧ Below w.heap.size w w' := by
  rcases hv with ⟨_, h⟩ | ⟨b, off, cap, rfl, h1, h2, h3⟩
  · cases h
  have hc := h3 0 _ (bv_get (f :: t) 0 (by simp))
  simp only [Nat.add_zero, List.getElem_cons_zero] at hc
  have hsb := sizeN_bd f.toNat f.toNat_lt
  obtain ⟨s, hs0⟩ : ∃ s, sizeN f.toNat = s := ⟨_, rfl⟩
  have hpl : ((f :: t).take s).length = s := by rw [List.length_take]; omega
  have hp : (f :: t).take s = f :: t.take (s - 1) := by
    obtain ⟨q, rfl⟩ : ∃ q, s = q + 1 := ⟨s - 1, by omega⟩
    simp
  have hR : Rd w (.slice (some ⟨b, off, none⟩) s cap) (f :: t.take (s - 1)) := by
    have := rd_sub h3 0 s cap (by omega) h2 (by omega)
    rw [List.drop_zero, hp] at this
    exact this
  have hlen : (f :: t.take (s - 1)).length = sizeN f.toNat := by rw [← hp, hpl, hs0]
  have hdl := decN_lt f _ hlen
  have hX : Hid (x = if same then .tuple #[.int .u64 (d : Int), .int .i64 (s : Int), .int .i64 0] else .tuple #[.int .u64 0, .int .i64 0, .int .i64 4]) := by
    show x = _
    rw [hx, frontS, if_neg (by omega), ← hd, ← hs, hs0]
    cases same <;> rfl
  clear hx
  rw [hs0, hp] at hd hs
  rw [← hd] at hdl
  have hD : Hid (decN (f :: t.take (s - 1)) = d) := hd.symm
  have hE : Hid (same = (Mth.numB d == f :: t.take (s - 1))) := hs
  have hZ : Hid (sizeN f.toNat = s) := hs0
  rw [hs0] at hsb hl
  have hbw : b < w.heap.size := World.block_lt_of_cell? w _ hc
  simp only [List.length_cons] at hl h1 ⊢
  unfold maxLen at h2
  clear h3 hp hpl hd hs hs0
  have h0 : ((t.length : Int) + 1 == 0) = false := by simp; omega
  have h5 : decide ((t.length : Int) + 1 < (s : Int)) = false := by simp; omega
  go_enter Tryd.func62, Tryd.ntmps62
  go_wp2_with (first | (go_at_call 71; refine (size_any _ _ f.toNat_lt).mono ?_; rintro e w' ⟨rfl, rfl⟩; rw [hZ.out]) | (go_at_call 72; refine (decode_any _ _ f (t.take (s - 1)) (by assumption) hlen).mono ?_; rintro e w' ⟨rfl, rfl⟩; rw [hD.out]))
  go_region_with (first | (go_at_call 36; refine (num_any d _ hdl).mono ?_; rintro e w1 ⟨v, rfl, ho, hb'⟩) | (go_at_call 61; refine (equal_any _ _ _ (Mth.numB d) (f :: t.take (s - 1)) (by exact ho.rd) (by exact Rd.below hR.drew hb' (Nat.le_refl _))).mono ?_; rintro e w2 ⟨rfl, rfl⟩; rw [← hE.out]))
  all_goals
    cases same
    all_goals
      go_wp2
      go_ret3
      exact ⟨by rw [hX.out]; rfl, (Below.refl _ _).drew.trans hb'⟩

theorem front_any (w : World) (v : Value) (l : List UInt8) (hv : Rd w v l) :
    Calls Tryd.prog 62 #[v] w fun e w' => e = .returned (frontV (frontS l)) ∧ Below w.heap.size w w' := by
  cases l with
  | nil =>
    refine (front_nil w v hv).mono ?_
    rintro e w' ⟨rfl, rfl⟩
    exact ⟨rfl, Below.refl _ _⟩
  | cons f t =>
    by_cases hl : (f :: t).length < sizeN f.toNat
    · refine (front_short w v f t hv hl).mono ?_
      rintro e w' ⟨rfl, rfl⟩
      exact ⟨by rw [frontS, if_pos hl]; rfl, Below.refl _ _⟩
    · exact front_full w v f t hv (by omega) _ rfl _ rfl _ rfl

end Go.Proofs.YtmgofohaoppajaaDoor
