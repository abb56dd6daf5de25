/- Cut and Copy of bartizanref01; what a law is told of bytes that came in. -/
import Derived.Test.YthiogpojccohgaaSame
namespace Go.Proofs.Ythiogpojccohgaa
open Go.RowKit

/-- WHAT A LAW IS TOLD OF A SLICE OF BYTES THAT CAME IN -/
def IsRow (k : IntKind) (w : World) (a : Option Addr) (len cap : Nat) (zs : List Int) : Prop :=
  (a = none ∧ len = 0 ∧ cap = 0 ∧ zs = []) ∨
  ∃ x, a = some x ∧ len ≤ cap ∧ cap ≤ maxLen ∧ zs.length = cap ∧ (∀ i, i < zs.length → w.cell? (x.add i) = some (.int k (zs.getD i 0))) ∧ ∀ n ∈ zs, (Lit.int k n).wf = true

/-- the slice value v, wherever it lies, reads as the bytes l -/
def Arg (w : World) (v : Value) (l : List UInt8) : Prop :=
  (v = .slice none 0 0 ∧ l = []) ∨ ∃ a cap, v = .slice (some a) l.length cap ∧ l.length ≤ cap ∧ cap ≤ maxLen ∧ ∀ j u, (bv l)[j]? = some u → w.cell? (a.add j) = some u

theorem Rd.arg {w : World} {v : Value} {l : List UInt8} (h : Rd w v l) : Arg w v l := by
  rcases h with h | ⟨b, off, cap, rfl, h1, h2, h3⟩
  · exact .inl h
  · exact .inr ⟨_, cap, rfl, h1, h2, fun j u hu => by rw [Addr.add_lit]; exact h3 j u hu⟩

theorem Arg.below {B : Nat} {w w' : World} {v : Value} {l : List UInt8} (h : Arg w v l) (hb : Below B w w') (hB : w.heap.size ≤ B) : Arg w' v l := by
  rcases h with h | ⟨a, cap, rfl, h1, h2, h3⟩
  · exact .inl h
  · refine .inr ⟨a, cap, rfl, h1, h2, fun j u hu => ?_⟩
    have := h3 j u hu
    rw [hb.cell (Nat.lt_of_lt_of_le (World.block_lt_of_cell? w _ this) hB)]
    exact this

/-- what came in reads as bytes -/
def argB (len : Nat) (zs : List Int) : List UInt8 := (zs.take len).map fun n => UInt8.ofNat n.toNat

theorem arg_of {w : World} {a : Option Addr} {len cap : Nat} {zs : List Int} (h : IsRow .u8 w a len cap zs) : Arg w (.slice a len cap) (argB len zs) := by
  rcases h with ⟨rfl, rfl, rfl, rfl⟩ | ⟨x, rfl, hl, hm, hz, hc, hw⟩
  · exact .inl ⟨rfl, rfl⟩
  · have el : (argB len zs).length = len := by simp [argB]; omega
    refine .inr ⟨x, cap, by rw [el], by omega, hm, fun j u hu => ?_⟩
    have hj : j < len := by have := (List.getElem?_eq_some_iff.1 hu).1; rw [bv_length] at this; omega
    have hjz : j < zs.length := by omega
    rw [hc j (by omega)]
    rw [← hu]
    have hb := bounds_u8 (hw zs[j] (List.getElem_mem hjz))
    simp [bv, argB, hj, hjz]
    omega

set_option maxHeartbeats 400000 in
theorem cut_any (w : World) (v : Value) (l : List UInt8) (n : Nat) (hv : Arg w v l) (hn : n ≤ 1099511627776) :
    Calls Try.prog 14 #[v, .int .i64 (n : Int)] w fun e w' => ∃ x, e = .returned x ∧ Own w.heap.size w' x (l.take n) ∧ Below w.heap.size w w' := by
  obtain ⟨i0, hi, hz0, hz1, hz2⟩ := info_parts info5
  have hown0 : (w.alloc (.cells #[] 5)).ownsRow w.heap.size 5 1 (.slice (some ⟨w.heap.size, 0, none⟩) 0 0) 0 [] := World.ownsRow_lit w #[] 0 (Nat.le_refl _) (Nat.zero_le _) rfl
  have hb0 : Below w.heap.size w (w.alloc (.cells #[] 5)) := (Below.refl _ _).alloc (Nat.le_refl _) _
  have hv' := hv.below hb0 (Nat.le_refl _)
  rcases hv' with ⟨rfl, rfl⟩ | ⟨a, cap, rfl, h1, h2, h3⟩
  · have hmin : min (0 : Int) (n : Int) = 0 := by omega
    go_enter Try.func14, Try.ntmps14
    go_wp2_with (at_builtin; refine wpList_append_own_none rfl (.tmp 5) (.tmp 11) 30 rfl w.heap.size 5 i0 1 Try.underlying30 hi _ _ _ rfl hown0 rfl ?_)
    go_ret
    exact ⟨_, rfl, Own.of_row (by simpa [bv] using hown0) (by simp), hb0⟩
  · unfold maxLen at h2
    obtain ⟨k, hk⟩ : ∃ k, (l.take n).length = k := ⟨_, rfl⟩
    have hk2 : k = min l.length n := by rw [← hk, List.length_take, Nat.min_comm]
    have hmin : min (l.length : Int) (n : Int) = (k : Int) := by omega
    have hmin2 : (if n < l.length then (n : Int) else (l.length : Int)) = (k : Int) := by split <;> omega
    have hkl : k ≤ l.length := by omega
    have hkn : k ≤ n := by omega
    have h4 : ∀ j u, (bv (l.take n))[j]? = some u → (w.alloc (.cells #[] 5)).cell? (a.add j) = some u := fun j u hu => h3 j u (by
      rw [← hu]
      have hj : j < k := by have := (List.getElem?_eq_some_iff.1 hu).1; rw [bv_length] at this; omega
      simp [bv, show j < n by omega])
    have HK : Hid ((l.take n).length = k) := hk
    clear hk hk2 h3 hv
    go_enter Try.func14, Try.ntmps14
    go_wp2_with (at_builtin; refine wpList_append_own _ rfl (.tmp 5) (.tmp 11) 30 rfl w.heap.size 5 i0 (.int .u8 0) 1 1 Try.underlying30 hi hz0 hz1 hz2 rfl (by decide) (.slice (some ⟨w.heap.size, 0, none⟩) 0 0) 0 [] rfl hown0 a k cap (bv (l.take n)) rfl (by rw [bv_length, HK.out, Nat.mul_one]) h4 (bv_one _) (by simp only [maxLen]; omega) (by omega) (by simp) ?_; intro v' w2 ho' hgr' hn')
    go_ret
    refine ⟨_, rfl, Own.of_row ?_ (fun e => by have := (hn'.1 e).1; cases this), hb0.grown hgr' (by simp) (fun k' e => (hown0.lt k' e).1)⟩
    rw [HK.out]
    simpa using ho'

theorem copy_any (w : World) (v : Value) (l : List UInt8) (hv : Arg w v l) (hn : l.length ≤ 1099511627776) :
    Calls Try.prog 15 #[v] w fun e w' => ∃ x, e = .returned x ∧ Own w.heap.size w' x l ∧ Below w.heap.size w w' := by
  obtain ⟨i0, hi, hz0, hz1, hz2⟩ := info_parts info5
  have hown0 : (w.alloc (.cells #[] 5)).ownsRow w.heap.size 5 1 (.slice (some ⟨w.heap.size, 0, none⟩) 0 0) 0 [] := World.ownsRow_lit w #[] 0 (Nat.le_refl _) (Nat.zero_le _) rfl
  have hb0 : Below w.heap.size w (w.alloc (.cells #[] 5)) := (Below.refl _ _).alloc (Nat.le_refl _) _
  have hv' := hv.below hb0 (Nat.le_refl _)
  rcases hv' with ⟨rfl, rfl⟩ | ⟨a, cap, rfl, h1, h2, h3⟩
  · go_enter Try.func15, Try.ntmps15
    go_wp2_with (at_builtin; refine wpList_append_own_none rfl (.tmp 3) (.tmp 4) 30 rfl w.heap.size 5 i0 1 Try.underlying30 hi _ _ _ rfl hown0 rfl ?_)
    go_ret
    exact ⟨_, rfl, Own.of_row (by simpa [bv] using hown0) (by simp), hb0⟩
  · unfold maxLen at h2
    clear hv
    go_enter Try.func15, Try.ntmps15
    go_wp2_with (at_builtin; refine wpList_append_own _ rfl (.tmp 3) (.tmp 4) 30 rfl w.heap.size 5 i0 (.int .u8 0) 1 1 Try.underlying30 hi hz0 hz1 hz2 rfl (by decide) (.slice (some ⟨w.heap.size, 0, none⟩) 0 0) 0 [] rfl hown0 a l.length cap (bv l) rfl (by rw [bv_length, Nat.mul_one]) h3 (bv_one _) (by simp only [maxLen]; omega) (by omega) (by simp) ?_; intro v' w2 ho' hgr' hn')
    go_ret
    exact ⟨_, rfl, Own.of_row (by simpa using ho') (fun e => by have := (hn'.1 e).1; cases this), hb0.grown hgr' (by simp) (fun k' e => (hown0.lt k' e).1)⟩

end Go.Proofs.Ythiogpojccohgaa
