/- seal.sumOn. -/
import Derived.Test.YtlonomjepipjlaaDoorCrc
import Derived.Test.YtlonomjepipjlaaDoorCut
namespace Go.Proofs.YtlonomjepipjlaaDoor
open Go.RowKit

/-- the table of half bytes stands in memory -/
def Tab (w : World) : Prop := ∀ i, i < 16 → w.cell? ⟨0, i, none⟩ = some (.int .u32 (Crc.nib.getD i 0 : Int))

theorem Tab.below {B : Nat} {w w' : World} (h : Tab w) (hb : Below B w w') (hB : w.heap.size ≤ B) : Tab w' := fun i hi => by
  have := h i hi
  rw [hb.cell (p := ⟨0, i, none⟩) (Nat.lt_of_lt_of_le (World.block_lt_of_cell? w _ this) hB)]; exact this

theorem x32 (a b : Nat) (ha : a < 4294967296) (hb : b < 4294967296) : bits BinOp.xor IntKind.u32 (a : Int) (b : Int) = ((a ^^^ b : Nat) : Int) := u32_xor_nat a b ha hb

theorem a15 (a : Nat) (ha : a < 4294967296) : bits BinOp.and IntKind.u32 (a : Int) 15 = ((a % 16 : Nat) : Int) := by
  have h := u32_and_nat a 15 ha (by omega)
  have e : ((15 : Nat) : Int) = 15 := rfl
  rw [e] at h
  rw [h]
  congr 1
  exact Nat.and_two_pow_sub_one_eq_mod a 4

theorem sumOn_any (w : World) (s : Nat) (hs : s < 4294967296) (v : Value) (l : List UInt8) (hv : Rd w v l) (ht : Tab w) :
    Calls Tryd.prog 28 #[.int .u32 (s : Int), v] w fun e w' => e = .returned (.int .u32 (Crc.on s l : Int)) ∧ w' = w := by
  rcases hv with ⟨rfl, rfl⟩ | ⟨b, off, cap, rfl, h1, h2, h3⟩
  · go_enter Tryd.func28, Tryd.ntmps28
    go_wp2
    refine wp_loop_rounds 1 ?_
    rw [rounds_succ]
    go_wp2
    go_ret
    exact ⟨rfl, rfl⟩
  · unfold maxLen at h2
    go_enter Tryd.func28, Tryd.ntmps28
    go_wp2
    go_loop [0, 9] (fun sv iv => ∃ k : Nat, k ≤ l.length ∧ iv = .int .i64 (k : Int) ∧ sv = .int .u32 (Crc.on s (l.take k) : Int)) (fun _ iv => l.length - (intOf iv).toNat)
    case atStart => exact ⟨0, Nat.zero_le _, rfl, rfl⟩
    case round =>
      obtain ⟨k, hk, rfl, rfl⟩ := hrel
      by_cases hlt : k < l.length
      · have hc := h3 k _ (bv_get l k hlt)
        have hq := Crc.on_lt s (l.take k) hs
        have hb := (l[k]).toNat_lt
        have HS : Hid (Crc.on s (l.take (k + 1)) = Crc.byt (Crc.on s (l.take k)) (l[k]).toNat) := by
          show _ = _
          rw [List.take_succ_eq_append_getElem hlt, Crc.on_snoc]
        obtain ⟨q, hq0⟩ : ∃ q, Crc.on s (l.take k) = q := ⟨_, rfl⟩
        obtain ⟨y, hy0⟩ : ∃ y, (l[k]).toNat = y := ⟨_, rfl⟩
        rw [hq0, hy0] at HS
        rw [hq0] at hq
        rw [hy0] at hc hb
        rw [hq0]
        clear h3 hq0 hy0
        have hxl : q ^^^ y < 4294967296 := Crc.xor_lt hq (by omega)
        have r1 := x32 q y hq (by omega)
        have HB : Hid (Crc.byt q y = Crc.nb (Crc.nb (q ^^^ y))) := rfl
        obtain ⟨x, hx⟩ : ∃ x, q ^^^ y = x := ⟨_, rfl⟩
        rw [hx] at hxl r1 HB
        have r2 := a15 x hxl
        have c1 := ht (x % 16) (by omega)
        have hn1 := Crc.nib_lt (x % 16)
        have hz := Crc.nb_lt x hxl
        have r3 := x32 (x / 16) (Crc.nib.getD (x % 16) 0) (by omega) hn1
        have HZ : Crc.nb x = x / 16 ^^^ Crc.nib.getD (x % 16) 0 := rfl
        rw [← HZ] at r3
        obtain ⟨z, hz0⟩ : ∃ z, Crc.nb x = z := ⟨_, rfl⟩
        rw [hz0] at hz r3 HB
        obtain ⟨i1, hi1⟩ : ∃ i1, x % 16 = i1 := ⟨_, rfl⟩
        have hi1b : i1 < 16 := by omega
        rw [hi1] at r2 c1 hn1 r3
        obtain ⟨n1, hn10⟩ : ∃ n1, Crc.nib.getD i1 0 = n1 := ⟨_, rfl⟩
        rw [hn10] at c1 hn1 r3
        have e3 : ((x / 16 : Nat) : Int) = (x : Int) / 16 := by omega
        rw [e3] at r3
        have r4 := a15 z hz
        have c2 := ht (z % 16) (by omega)
        have hn2 := Crc.nib_lt (z % 16)
        have r5 := x32 (z / 16) (Crc.nib.getD (z % 16) 0) (by omega) hn2
        have HZ2 : Crc.nb z = z / 16 ^^^ Crc.nib.getD (z % 16) 0 := rfl
        rw [← HZ2] at r5
        have hu := Crc.nb_lt z hz
        obtain ⟨u, hu0⟩ : ∃ u, Crc.nb z = u := ⟨_, rfl⟩
        rw [hu0] at hu r5 HB
        obtain ⟨i2, hi2⟩ : ∃ i2, z % 16 = i2 := ⟨_, rfl⟩
        have hi2b : i2 < 16 := by omega
        rw [hi2] at r4 c2 hn2 r5
        obtain ⟨n2, hn20⟩ : ∃ n2, Crc.nib.getD i2 0 = n2 := ⟨_, rfl⟩
        rw [hn20] at c2 hn2 r5
        have e5 : ((z / 16 : Nat) : Int) = (z : Int) / 16 := by omega
        rw [e5] at r5
        clear ht hx HZ hz0 hi1 hn10 e3 HZ2 hu0 hi2 hn20 e5
        go_wp2
        go_round
        case rel => exact ⟨k + 1, by omega, by go_num, by rw [HS.out, HB.out]⟩
        case measure => simp [intOf]; omega
      · go_wp2
        go_ret
        have : k = l.length := by omega
        subst this
        rw [List.take_length]
        exact ⟨rfl, rfl⟩

end Go.Proofs.YtlonomjepipjlaaDoor
