/- locks.New, Len; bartizanref18.Same; bartizanlaw19.lock. -/
import Derived.Test.YthiogpojccohgaaLkAsk
import Derived.Test.YthiogpojccohgaaConvStr
import Derived.BigQuiet
namespace Go.Proofs.Ythiogpojccohgaa
set_option maxRecDepth 100000
open Go.RowKit Go.Maps
set_option linter.unusedVariables false
set_option linter.unusedSimpArgs false

theorem lknew_any (w : World) (mo ea : Int) (h1 : 1 ≤ mo) (h2 : mo ≤ 256) (h3 : 1 ≤ ea) (h4 : ea ≤ 256) :
    Calls Try.prog 6 #[.int .i64 mo, .int .i64 ea] w fun e w' => ∃ t, e = .returned (.tuple #[.pointer (some ⟨t, 0, none⟩), .int .i64 0]) ∧ LkP (fun b => b = t) w' t mo ea [] [] ∧ t = w.heap.size ∧ w'.heap.size = w.heap.size + 1 ∧ Below w.heap.size w w' := by
  have a1 : ¬ mo < 1 := by omega
  have a2 : ¬ 256 < mo := by omega
  have a3 : ¬ ea < 1 := by omega
  have a4 : ¬ 256 < ea := by omega
  have HF : Hid (LkP (fun b => b = w.heap.size) (w.alloc (.cells #[.int .i64 mo, .int .i64 ea, .slice none 0 0, .slice none 0 0] 54)) w.heap.size mo ea [] [] ∧ (w.alloc (.cells #[.int .i64 mo, .int .i64 ea, .slice none 0 0, .slice none 0 0] 54)).heap.size = w.heap.size + 1 ∧ Below w.heap.size w (w.alloc (.cells #[.int .i64 mo, .int .i64 ea, .slice none 0 0, .slice none 0 0] 54))) := by
    refine ⟨⟨.slice none 0 0, .slice none 0 0, ?_⟩, by simp, below_box4 w _⟩
    exact {
      bx := BxT.new w mo ea _ _
      rg := World.ownsRow_nil _ _ _ _
      rq := World.ownsRow_nil _ _ _ _
      og := by simp
      oq := by simp
      gt := rfl
      gg := fun b hb => by simp [Value.ownBlock] at hb
      gq := fun b hb => by simp [Value.ownBlock] at hb
      xg := by simp
      xq := by simp
      lt := fun b hb => by rw [hb]; simp
      nu := by simp }
  clear h1 h2 h3 h4
  go_enter Try.func6, Try.ntmps6
  go_wp2_with fail
  refine bodyPost_ret (v := .tuple #[.pointer (some ⟨w.heap.size, 0, none⟩), .int .i64 0]) (by simp [results, Try.results6, go_sem]) rfl ?_
  exact ⟨_, rfl, HF.out.1, rfl, HF.out.2.1, HF.out.2.2⟩

set_option maxHeartbeats 2000000 in
theorem sameU_any (w : World) (a b : Value) (ns : List Nat) (ha : RdU w a ns) (hb : RdU w b ns) :
    Calls Try.prog 17 #[a, b] w fun e w' => e = .returned (.bool true) ∧ Below w.heap.size w w' := by
  obtain ⟨a1, a2, rfl, ha1, ha2⟩ := row_slice9 ha
  obtain ⟨b1, b2, rfl, hb1, hb2⟩ := row_slice9 hb
  obtain ⟨N, hN⟩ : ∃ N, ns.length = N := ⟨_, rfl⟩
  have HA : Hid (RdU w (.slice a1 ns.length a2) ns ∧ RdU w (.slice b1 ns.length b2) ns) := ⟨ha, hb⟩
  have HN : Hid (ns.length = N) := hN
  rw [hN] at HA ha1 hb1 ⊢
  clear ha hb hN
  go_enter Try.func17, Try.ntmps17
  go_wp2_with fail
  go_loopg [13] N (fun gk iv wr => ∃ j : Nat, gk + j = N ∧ iv = .int .i64 (j : Int) ∧ Hid (Below w.heap.size w wr))
  case atStart => exact ⟨0, by omega, rfl, Below.refl _ _⟩
  case round =>
    obtain ⟨j, hj, rfl, HB⟩ := hrel
    by_cases hlt : j < N
    · have hlt2 : j < ns.length := by rw [HN.out]; exact hlt
      obtain ⟨g, c, e, _, c0⟩ := RdU.at (row_below HA.out.1 HB.out) j hlt2
      obtain ⟨g', c', e', _, c0'⟩ := RdU.at (row_below HA.out.2 HB.out) j hlt2
      rw [HN.out] at e e'
      cases e
      cases e'
      obtain ⟨q1, q2⟩ := gk_nxt hj hlt
      obtain ⟨z, hz⟩ : ∃ z : Int, (ns[j] : Int) = z := ⟨_, rfl⟩
      rw [hz] at c0 c0'
      have HB1 : Hid (∀ n, Below w.heap.size w (wr.drewN n)) := fun n => below_drewN HB.out n
      go_wp2_with fail
      go_quiet (fail)
      go_wp2_with fail
      go_roundg (gk - 1)
      case measure => exact q1
      case rel => exact ⟨j + 1, q2, by go_num, HB1.out _⟩
    · have hjN : j = N := by omega
      subst hjN
      go_wp2
      go_ret
      exact ⟨rfl, HB.out⟩

theorem lock_any (w : World) (n m : Int) :
    Calls Try.prog 16 #[.int .u64 n, .string ⟨#[97]⟩, .int .u8 m] w fun e w' => ∃ x y, e = .returned (lkV n x y m) ∧ Rd w' x [97] ∧ Rd w' y [97, 0] ∧ Below w.heap.size w w' := by
  have hb0 := below_box4 w (.cells #[.int .u64 0, .slice none 0 0, .slice none 0 0, .int .u8 0] 32)
  have BX := box4f_new w (.int .u64 0) (.slice none 0 0) (.slice none 0 0) (.int .u8 0) 32
  obtain ⟨k1, w1, hc1, rd1, hb1, hs1⟩ := conv_str (w.alloc (.cells #[.int .u64 0, .slice none 0 0, .slice none 0 0, .int .u8 0] 32)) ⟨#[97]⟩ [97] rfl (by simp)
  obtain ⟨k2, w2, hc2, rd2, hb2, hs2⟩ := conv_str w1 ((⟨#[97]⟩ : ByteArray) ++ ⟨#[0]⟩) [97, 0] rfl (by simp)
  have hsz : (w.alloc (.cells #[.int .u64 0, .slice none 0 0, .slice none 0 0, .int .u8 0] 32)).heap.size = w.heap.size + 1 := by simp
  have B2 := (BX.below hb1 (by rw [hsz]; exact Nat.lt_succ_self _)).below hb2 (by
    have h1 : w1.heap.size = _ := hs1
    rw [h1, hsz]
    omega)
  rw [hsz] at hc1 rd1 hs1
  have hs1' : w1.heap.size = w.heap.size + 2 := hs1
  rw [hs1'] at hc2 rd2
  simp only [List.length_cons, List.length_nil, Nat.zero_add, Nat.reduceAdd] at hc1 rd1 hc2 rd2
  obtain ⟨⟨c0, c1, c2, c3⟩, f0, f1, f2, f3⟩ := B2
  have HR : Hid (Rd w2 (.slice (some ⟨w.heap.size + 1, 0, none⟩) 1 k1) [97] ∧ Rd w2 (.slice (some ⟨w.heap.size + 2, 0, none⟩) 2 k2) [97, 0] ∧ Below w.heap.size w w2) := ⟨rd1.below hb2 (by rw [hs1']; omega), rd2, bsplit (bsplit hb0 hb1) hb2⟩
  clear hb0 BX rd1 hb1 hs1 rd2 hb2 hs2 hsz hs1'
  go_enter Try.func16, Try.ntmps16
  go_wp2
  refine bodyPost_ret (v := lkV n (.slice (some ⟨w.heap.size + 1, 0, none⟩) 1 k1) (.slice (some ⟨w.heap.size + 2, 0, none⟩) 2 k2) m) (by simp [results, Try.results16, go_sem, c0, c1, c2, c3, lkV]) rfl ⟨_, _, rfl, rd_store4 HR.out.1 (fun g hg => ?_) _ _ _ _, rd_store4 HR.out.2.1 (fun g hg => ?_) _ _ _ _, below_store4 HR.out.2.2 (Nat.le_refl _) _ _ _ _⟩
  · simp only [Value.ownBlock, Option.some.injEq] at hg
    omega
  · simp only [Value.ownBlock, Option.some.injEq] at hg
    omega

end Go.Proofs.Ythiogpojccohgaa
