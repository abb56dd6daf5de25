/- bartizanref02's Sum. -/
import Derived.Test.YtlonomjepipjlaaDoorRowB
namespace Go.Proofs.YtlonomjepipjlaaDoor
open Go.RowKit

set_option maxHeartbeats 4000000 in
set_option maxRecDepth 100000 in
theorem refsum_any (w : World) (v : Value) (l : List UInt8) (hv : Rd w v l) (hl : l.length ≤ 1000000) :
    Calls Tryd.prog 27 #[v] w fun e w' => e = .returned (.int .u32 (Crc.sum l : Int)) ∧ Below w.heap.size w w' := by
  obtain ⟨i0, hi, hz0, hz1, hz2⟩ := info_parts info4
  obtain ⟨ao, cap, hvv⟩ := hv.len
  subst hvv
  have hcell : ∀ j (h : j < l.length), ∃ b off, ao = some ⟨b, off, none⟩ ∧ w.cell? ⟨b, off + j, none⟩ = some (.int .u8 ((l[j]).toNat : Int)) := fun j h => by
    rcases hv with ⟨_, rfl⟩ | ⟨b, off, cap', e, h1, h2, h3⟩
    · simp at h
    · simp only [Value.slice.injEq] at e
      exact ⟨b, off, e.1, h3 j _ (bv_get l j h)⟩
  have hcapl : l.length ≤ cap := by
    rcases hv with ⟨e, rfl⟩ | ⟨b, off, cap', e, h1, h2, h3⟩
    · simp
    · simp only [Value.slice.injEq] at e
      omega
  obtain ⟨n, hn⟩ : ∃ n, l.length = n := ⟨_, rfl⟩
  obtain ⟨N, hN⟩ : ∃ N, 8 * n + 32 = N := ⟨_, rfl⟩
  have HN : Hid (8 * n + 32 = N) := hN
  have HL : Hid (l.length = n) := hn
  have hNn : 8 * n + 32 ≤ N := by omega
  have hNn2 : N ≤ 8 * n + 32 := by omega
  rw [hn] at hl hcapl
  rw [hn]
  clear hv hN hn
  go_enter Tryd.func27, Tryd.ntmps27
  go_wp2_with (at_make; refine wpList_make_full _ rfl (.tmp 15) (.tmp 15) 40 rfl w.heap.size 4 i0 (.bool false) 1 Tryd.underlying40 hi hz0 hz1 .i64 .i64 _ _ N rfl rfl (by omega) (by omega) (by rw [hz2]; omega) (by simp only [maxLen]; omega) (Nat.le_refl _) ?_; intro w1 hown hgr)
  have hr1 : RowB w.heap.size w.heap.size N w1 (fun _ => false) := by
    unfold RowB
    have e : (madeCells (Value.bool false).cells (N * 1)).toList = bbf N (fun _ => false) := by
      rw [Nat.mul_one]
      have := toList_madeCells_one (Value.bool false) N
      rw [show (Value.bool false).cells = #[Value.bool false] from rfl, this]
      unfold bbf
      apply List.ext_getElem?
      intro i
      by_cases hi : i < N
      · simp [hi]
      · simp [hi]
    rw [e] at hown
    exact hown
  have hb1 : Below w.heap.size w w1 := (Below.refl _ _).grown hgr (Nat.le_refl _) (fun k h => by cases h)
  clear hown hgr
  go_loopw [20] (fun iv wr => ∃ k : Nat, k ≤ 8 * n ∧ iv = .int .i64 (k : Int) ∧ RowB w.heap.size w.heap.size N wr (fun q => if q < k then Crc.mbit l q else false) ∧ Below w.heap.size w wr) (fun iv _ => 8 * n - (intOf iv).toNat)
  case atStart => exact ⟨0, Nat.zero_le _, rfl, hr1.congr (fun q _ => by simp), hb1⟩
  case round =>
    clear hr1 hb1
    obtain ⟨k, hk, rfl, hrow, hbl⟩ := hrel
    by_cases hlt : k < 8 * n
    · obtain ⟨b, off, hao, hc⟩ := hcell (k / 8) (by have := HL.out; omega)
      subst hao
      have hc2 : wr.cell? ⟨b, off + k / 8, none⟩ = some (.int .u8 ((l[k / 8]'(by have := HL.out; omega)).toNat : Int)) := by rw [hbl.cell (p := ⟨b, off + k / 8, none⟩) (World.block_lt_of_cell? w _ hc)]; exact hc
      have hxb := (l[k / 8]'(by have := HL.out; omega)).toNat_lt
      have HM : Hid (Crc.mbit l k = ((l[k / 8]'(by have := HL.out; omega)).toNat / 2 ^ (k % 8) % 2 == 1)) := by
        show _ = _
        unfold Crc.mbit
        have e : l.getD (k / 8) 0 = l[k / 8]'(by have := HL.out; omega) := by simp [show k / 8 < l.length by have := HL.out; omega]
        rw [e]
      obtain ⟨x, hx⟩ : ∃ x, (l[k / 8]'(by have := HL.out; omega)).toNat = x := ⟨_, rfl⟩
      rw [hx] at hc2 hxb HM
      have hcl := hrow.cell k (by omega)
      have hfz := hrow.frozen k
      have hk8 : k / 8 < n := by omega
      clear hc hx hcell
      go_wp2
      have hset := hrow.set k (Int.tmod ((x : Int) / 2 ^ (k % 8)) 2 == 1)
      go_round
      case rel =>
        refine ⟨k + 1, by omega, by go_num, ?_, hbl.setCell (Nat.le_refl _) _⟩
        refine RowB.congr hset (fun q _ => ?_)
        have e : (Int.tmod ((x : Int) / 2 ^ (k % 8)) 2 == 1) = Crc.mbit l k := by
          rw [HM.out]
          have e1 : (x : Int) / 2 ^ (k % 8) = ((x / 2 ^ (k % 8) : Nat) : Int) := by simp
          rw [e1]
          generalize x / 2 ^ (k % 8) = y
          rw [Bool.eq_iff_iff]
          simp only [beq_iff_eq]
          rw [Int.tmod_eq_emod_of_nonneg (by omega)]
          omega
        rw [e]
        unfold upd
        simp only
        split
        · rename_i h; subst h; rw [if_pos (by omega)]
        · split
          · rw [if_pos (by omega)]
          · rw [if_neg (by omega)]
      case measure => simp [intOf]; omega
    · have hk' : k = 8 * n := by omega
      subst hk'
      go_wp2
      go_loopw [38] (fun iv wr => ∃ k : Nat, k ≤ 32 ∧ iv = .int .i64 (k : Int) ∧ RowB w.heap.size w.heap.size N wr (fun q => if q < k then !Crc.mbit l q else Crc.mbit l q) ∧ Below w.heap.size w wr) (fun iv _ => 32 - (intOf iv).toNat)
      case atStart =>
        refine ⟨0, Nat.zero_le _, rfl, hrow.congr (fun q hq => ?_), hbl⟩
        rw [if_neg (Nat.not_lt_zero q)]
        split
        · rfl
        · rename_i h; rw [Crc.mbit_far l q (by have := HL.out; omega)]
      case round =>
        clear hrow hbl
        obtain ⟨k, hk, rfl, hrow, hbl⟩ := hrel
        by_cases hlt : k < 32
        · have hcl := hrow.cell k (by omega)
          have hfz := hrow.frozen k
          rw [if_neg (by omega)] at hcl
          have hset := hrow.set k (!Crc.mbit l k)
          go_wp2
          go_round
          case rel =>
            refine ⟨k + 1, by omega, by go_num, ?_, hbl.setCell (Nat.le_refl _) _⟩
            refine RowB.congr hset (fun q _ => ?_)
            unfold upd
            simp only
            split
            · rename_i h; subst h; rw [if_pos (by omega)]
            · split
              · rw [if_pos (by omega)]
              · rw [if_neg (by omega)]
          case measure => simp [intOf]; omega
        · have hk' : k = 32 := by omega
          subst hk'
          have hgl := hrow.lt (by omega)
          go_wp2
          have hrow2 := hrow.alloc (.cells #[.int .i64 0, .int .i64 6, .int .i64 8, .int .i64 9, .int .i64 10, .int .i64 11, .int .i64 13, .int .i64 14, .int .i64 18, .int .i64 19, .int .i64 20, .int .i64 22, .int .i64 23, .int .i64 25, .int .i64 26, .int .i64 27, .int .i64 28] 3)
          have hbl2 := hbl.alloc (Nat.le_of_lt hgl) (.cells #[.int .i64 0, .int .i64 6, .int .i64 8, .int .i64 9, .int .i64 10, .int .i64 11, .int .i64 13, .int .i64 14, .int .i64 18, .int .i64 19, .int .i64 20, .int .i64 22, .int .i64 23, .int .i64 25, .int .i64 26, .int .i64 27, .int .i64 28] 3)
          have hby := byc_new wr
          obtain ⟨g, hg⟩ : ∃ g, wr.heap.size = g := ⟨_, rfl⟩
          rw [hg] at hgl hby
          rw [hg]
          generalize wr.alloc _ = wa at hrow2 hbl2 hby
          clear hrow hbl hg
          go_loopw [7] (fun iv wr => ∃ i : Nat, i ≤ 8 * n ∧ iv = .int .i64 (i : Int) ∧ RowB w.heap.size w.heap.size N wr (Crc.fs l i) ∧ ByC g wr ∧ Below w.heap.size w wr) (fun iv _ => 8 * n - (intOf iv).toNat)
          case atStart => exact ⟨0, Nat.zero_le _, rfl, hrow2, hby, hbl2⟩
          case round =>
            clear hrow2 hbl2 hby
            obtain ⟨i, hi8, rfl, hrow, hby, hbl⟩ := hrel
            by_cases hlt : i < 8 * n
            · have hcl := hrow.cell i (by omega)
              cases hfi : Crc.fs l i i
              · rw [hfi] at hcl
                go_wp2
                go_round
                case rel =>
                  refine ⟨i + 1, by omega, by go_num, hrow.congr (fun q _ => ?_), hby, hbl⟩
                  rw [Crc.fs, Crc.divF, hfi]; simp
                case measure => simp [intOf]; omega
              · rw [hfi] at hcl
                go_wp2
                go_loopw [64] (fun tv wr => ∃ t : Nat, t ≤ 17 ∧ tv = .int .i64 (t : Int) ∧ RowB w.heap.size w.heap.size N wr (fun q => Crc.fs l i q ^^ hitT i t q) ∧ ByC g wr ∧ Below w.heap.size w wr) (fun tv _ => 17 - (intOf tv).toNat)
                case atStart => exact ⟨0, Nat.zero_le _, rfl, hrow.congr (fun q _ => by rw [hitT_zero]; simp), hby, hbl⟩
                case round =>
                  clear hrow hbl hby hcl
                  obtain ⟨t, ht17, rfl, hrow, hby, hbl⟩ := hrel
                  by_cases htl : t < 17
                  · have hc1 := hby t htl
                    have hy28 := bys_le ⟨t, htl⟩
                    have HS : Hid (∀ q, hitT i (t + 1) q = (hitT i t q || q + Crc.bys.getD t 0 == i + 32)) := fun q => hitT_succ i t q htl
                    have HW : Hid (∀ q, q + Crc.bys.getD t 0 = i + 32 → hitT i t q = false) := fun q => hitT_new i t q htl
                    obtain ⟨y, hy⟩ : ∃ y, Crc.bys.getD t 0 = y := ⟨_, rfl⟩
                    simp only at hy28
                    rw [hy] at hc1 hy28 HS HW
                    clear hy
                    obtain ⟨j, hj⟩ : ∃ j, j + y = i + 32 := ⟨i + 32 - y, by omega⟩
                    have hjy : (i : Int) + 32 - (y : Int) = (j : Int) := by omega
                    have hcj := hrow.cell j (by omega)
                    have hfz := hrow.frozen j
                    have hset := hrow.set j (!(Crc.fs l i j ^^ hitT i t j))
                    have hjN : j < N := by omega
                    obtain ⟨c, hc⟩ : ∃ c, (Crc.fs l i j ^^ hitT i t j) = c := ⟨_, rfl⟩
                    have HC : Hid ((Crc.fs l i j ^^ hitT i t j) = c) := hc
                    rw [hc] at hcj hset
                    clear hc
                    go_wp2
                    go_round
                    case rel =>
                      refine ⟨t + 1, by omega, by go_num, RowB.congr hset (fun q _ => ?_), hby.set _ _ (by simp only; omega), hbl.setCell (Nat.le_refl _) _⟩
                      unfold upd
                      simp only
                      rw [HS.out]
                      split
                      · rename_i h
                        subst h
                        have e1 := HW.out q hj
                        have e2 := HC.out
                        rw [e1] at e2 ⊢
                        rw [← e2]
                        simp [hj]
                      · rename_i h
                        have : (q + y == i + 32) = false := by simp; omega
                        rw [this]; simp
                    case measure => simp [intOf]; omega
                  · have ht' : t = 17 := by omega
                    subst ht'
                    go_wp2
                    go_round
                    case rel =>
                      refine ⟨i + 1, by omega, by go_num, hrow.congr (fun q _ => ?_), hby, hbl⟩
                      rw [hitT_all, Crc.fs, Crc.divF, hfi]; simp
                    case measure => simp [intOf]; omega
            · have hi' : i = 8 * n := by omega
              subst hi'
              clear hby
              go_wp2
              go_loopw [10, 11] (fun sv iv wr => ∃ k : Nat, k ≤ 32 ∧ sv = .int .u32 ((Crc.sum l / 2 ^ k : Nat) : Int) ∧ iv = .int .i64 ((k : Int) - 1) ∧ RowB w.heap.size w.heap.size N wr (Crc.fs l (8 * n)) ∧ Below w.heap.size w wr) (fun _ iv _ => (intOf iv + 1).toNat)
              case atStart => exact ⟨32, Nat.le_refl _, by rw [sum_top]; rfl, rfl, hrow, hbl⟩
              case round =>
                clear hrow hbl
                obtain ⟨k, hk32, rfl, rfl, hrow, hbl⟩ := hrel
                cases k with
                | zero =>
                  have e0 : Crc.sum l / 2 ^ 0 = Crc.sum l := by simp
                  rw [e0]
                  go_wp2
                  go_ret
                  exact ⟨rfl, hbl⟩
                | succ j =>
                  have hcl := hrow.cell (8 * n + j) (by omega)
                  have hb := sum_part l j
                  have HH : Hid (Crc.sum l / 2 ^ j = 2 * (Crc.sum l / 2 ^ (j + 1)) + (if Crc.fs l (8 * n) (8 * n + j) = true then 0 else 1)) := by
                    have := sum_half l j (by omega)
                    rw [HL.out] at this
                    exact this
                  obtain ⟨s, hs⟩ : ∃ s, Crc.sum l / 2 ^ (j + 1) = s := ⟨_, rfl⟩
                  rw [hs] at hb HH
                  rw [hs]
                  clear hs
                  have hjN : (N : Int) - 32 + (((j + 1 : Nat) : Int) - 1) = ((8 * n + j : Nat) : Int) := by omega
                  have hjp : ((j + 1 : Nat) : Int) - 1 = (j : Int) := by omega
                  rw [hjp] at hjN
                  rw [hjp]
                  obtain ⟨m, hm⟩ : ∃ m, 8 * n + j = m := ⟨_, rfl⟩
                  rw [hm] at hcl HH hjN
                  have hmN : m < N := by omega
                  cases hf : Crc.fs l (8 * n) m
                  · rw [hf] at hcl HH
                    go_wp2
                    refine ⟨⟨j, by omega, ?_, rfl, hrow, hbl⟩, by simp [intOf]⟩
                    have := HH.out
                    simp at this
                    rw [this]
                    congr 1
                    omega
                  · rw [hf] at hcl HH
                    go_wp2
                    refine ⟨⟨j, by omega, ?_, rfl, hrow, hbl⟩, by simp [intOf]⟩
                    have := HH.out
                    simp at this
                    rw [this]
                    congr 1
                    omega

end Go.Proofs.YtlonomjepipjlaaDoor
