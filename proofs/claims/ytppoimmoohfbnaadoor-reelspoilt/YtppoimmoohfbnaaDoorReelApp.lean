/- reel's small functions: left, gap, kindOf, sumOf, appendLowFirst, appendPiece. -/
import Derived.Test.YtppoimmoohfbnaaDoorReelPure
import Derived.Deep.LoopGhost
import Derived.Deep.RegionHeld3
namespace Go.Proofs.YtppoimmoohfbnaaDoor
open Go.RowKit
set_option linter.unusedVariables false

theorem left_any (w : World) (a : Nat) (h : a ≤ 4611686018427387904) :
    Calls Tryd.prog 24 #[.int .i64 (a : Int)] w fun e w' => e = .returned (.int .i64 (leftN a : Int)) ∧ w' = w := by
  obtain ⟨r, hr⟩ : ∃ r : Int, (a : Int).tmod 64 = r := ⟨_, rfl⟩
  have hr2 : r = (a : Int) % 64 := by rw [← hr, Int.tmod_eq_emod_of_nonneg (by omega)]
  have h0 : 0 ≤ r := by omega
  have h1 : r ≤ 63 := by omega
  have HL : Hid (64 - r = (leftN a : Int)) := by show _ = _; unfold leftN; omega
  clear hr2 h
  go_enter Tryd.func24, Tryd.ntmps24
  go_wp2
  go_ret
  exact ⟨ret_int HL.out, rfl⟩

theorem gap_any (w : World) (a : Nat) (h : a ≤ 4611686018427387904) :
    Calls Tryd.prog 23 #[.int .i64 (a : Int)] w fun e w' => e = .returned (.int .i64 (gapN a : Int)) ∧ w' = w := by
  obtain ⟨n, hn⟩ : ∃ n, leftN a = n := ⟨_, rfl⟩
  have HG : Hid (gapN a = if n < 7 then n else 0) := by show _ = _; unfold gapN; rw [hn]
  have hl := left_any w a h
  rw [hn] at hl
  clear hn h
  by_cases h7 : n < 7
  · have h7' : (n : Int) < 7 := by omega
    go_enter Tryd.func23, Tryd.ntmps23
    go_wp2_with fail
    refine hl.mono ?_
    rintro e w1 ⟨rfl, rfl⟩
    go_wp2
    go_ret
    exact ⟨ret_int (by rw [HG.out, if_pos h7]), rfl⟩
  · have h7' : ¬ (n : Int) < 7 := by omega
    go_enter Tryd.func23, Tryd.ntmps23
    go_wp2_with fail
    refine hl.mono ?_
    rintro e w1 ⟨rfl, rfl⟩
    go_wp2
    go_ret
    exact ⟨ret_int (by rw [HG.out, if_neg h7]; rfl), rfl⟩

def kindB (b e : Bool) : UInt8 := if b then (if e then 4 else 3) else (if e then 1 else 2)

theorem kind_any (w : World) (b e : Bool) :
    Calls Tryd.prog 26 #[.bool b, .bool e] w fun r w' => r = .returned (.int .u8 ((kindB b e).toNat : Int)) ∧ w' = w := by
  cases b <;> cases e
  all_goals
    go_enter Tryd.func26, Tryd.ntmps26
    go_wp2
    go_ret
    exact ⟨rfl, rfl⟩

theorem Tab.low {B : Nat} {w w' : World} (h : Tab w) (hb : Below B w w') (hB : 0 < B) : Tab w' := fun i hi => by
  rw [hb.cell (p := ⟨0, i, none⟩) hB]
  exact h i hi

theorem sumof_any (w : World) (k : UInt8) (v : Value) (t : List UInt8) (hv : Rd w v t) (ht : Tab w) :
    Calls Tryd.prog 34 #[.int .u8 (k.toNat : Int), v] w fun e w' => e = .returned (.int .u32 (Crc.mask (Crc.sum (k :: t)) : Int)) ∧ Below w.heap.size w w' := by
  obtain ⟨ao, cap, hvv⟩ := hv.len
  subst hvv
  have hb1 : Below w.heap.size w (w.alloc (.cells #[.int .u8 (k.toNat : Int)] 5)) := (Below.refl _ _).alloc (Nat.le_refl _) _
  have r1 := rd_lit w [k] (by simp [maxLen]) #[.int .u8 (k.toNat : Int)] rfl
  have r2 := hv.below hb1 (Nat.le_refl _)
  have rl := rdl_two _ _ _ [k] t r1 r2
  have hsz : (w.alloc (.cells #[.int .u8 (k.toNat : Int)] 5)).heap.size = w.heap.size + 1 := by simp
  rw [hsz] at rl
  have hb2 : Below (w.heap.size + 1) (w.alloc (.cells #[.int .u8 (k.toNat : Int)] 5)) ((w.alloc (.cells #[.int .u8 (k.toNat : Int)] 5)).alloc (.cells #[.slice (some ⟨w.heap.size, 0, none⟩) 1 1, .slice ao t.length cap] 22)) := (Below.refl _ _).alloc (by simp) _
  have HB : Hid (Below w.heap.size w ((w.alloc (.cells #[.int .u8 (k.toNat : Int)] 5)).alloc (.cells #[.slice (some ⟨w.heap.size, 0, none⟩) 1 1, .slice ao t.length cap] 22))) := hb1.trans (hb2.mono (Nat.le_succ _))
  have htt := ht.below HB.out (Nat.le_refl _)
  have HL : Hid (RdL _ _ _) := rl
  have hs := sum_any _ _ _ rl htt
  have e1 : ([[k], t] : List (List UInt8)).flatten = k :: t := by simp
  rw [e1] at hs
  have hm := mask_any (Crc.sum (k :: t)) (Crc.sum_lt _)
  clear hv r1 r2 rl hsz hb1 hb2 e1 ht htt
  go_enter Tryd.func34, Tryd.ntmps34
  go_wp2_with fail
  refine hs.mono ?_
  rintro e w1 ⟨rfl, rfl⟩
  clear hs
  go_wp2_with fail
  refine (hm _).mono ?_
  rintro e w2 ⟨rfl, rfl⟩
  go_wp2
  go_ret
  exact ⟨rfl, HB.out⟩

/-- so many bytes of a number, the lowest first -/
def lowK : Nat → Nat → List UInt8
  | 0, _ => []
  | k + 1, n => UInt8.ofNat (n % 256) :: lowK k (n / 256)

theorem lowK_four (n : Nat) : lowK 4 n = Crc.four n := by
  simp only [lowK, Crc.four, Nat.div_div_eq_div_mul]

theorem lowK_length (k n : Nat) : (lowK k n).length = k := by
  induction k generalizing n with
  | zero => rfl
  | succ k ih => simp [lowK, ih]

theorem byte_val (n : Nat) : ((UInt8.ofNat (n % 256)).toNat : Int) = (n : Int) % 256 := by simp

theorem Own.bd {B : Nat} {w : World} {g n k : Nat} {l : List UInt8} (h : Own B w (.slice (some ⟨g, 0, none⟩) n k) l) : l.length = n := by
  obtain ⟨g', k', c, e, _⟩ := h
  cases e
  rfl

theorem low_next {m : Nat} (h : m < 4294967296) : m / 256 < 4294967296 := by omega
theorem gk_nxt {gk j n : Nat} (hj : gk + j = n) (hlt : j < n) : gk - 1 < gk ∧ gk - 1 + (j + 1) = n := by omega
theorem shr8 (m : Nat) : (m : Int) / 256 = ((m / 256 : Nat) : Int) := by omega

end Go.Proofs.YtppoimmoohfbnaaDoor
