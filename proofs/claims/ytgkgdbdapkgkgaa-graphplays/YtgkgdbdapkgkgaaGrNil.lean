/- The methods of a graph that is nil. -/
import Derived.Test.YtgkgdbdapkgkgaaGrpH
import Derived.Test.YtgkgdbdapkgkgaaGrpG
namespace Go.Proofs.Ytgkgdbdapkgkgaa
set_option maxRecDepth 100000
open Go.RowKit Go.Maps
set_option linter.unusedVariables false
set_option linter.unusedSimpArgs false

theorem eqGN : ∀ w : World, (binOp .eql 24 (.pointer none) (.pointer none)).run Try.prog w = .ok (.bool true) w := fun _ => rfl

theorem outN_any (w : World) (k : Nat) : Calls Try.prog 15 #[.pointer none, .int .u64 (k : Int)] w fun e' w' => e' = .returned (.slice none 0 0) ∧ w' = w := by
  have he := eqGN
  go_enter Try.func15, Try.ntmps15
  go_wp2
  go_ret
  exact ⟨rfl, rfl⟩

theorem freeN_any (w : World) : Calls Try.prog 17 #[.pointer none] w fun e' w' => e' = .returned (.bool true) ∧ w' = w := by
  have he := eqGN
  go_enter Try.func17, Try.ntmps17
  go_wp2
  go_ret
  exact ⟨rfl, rfl⟩

theorem linkN_any (w : World) (k : Nat) (v : Value) : Calls Try.prog 20 #[.pointer none, .int .u64 (k : Int), v] w fun e' w' => e' = .returned (.tuple #[]) ∧ w' = w := by
  have he := eqGN
  go_enter Try.func20, Try.ntmps20
  go_wp2
  refine bodyPost_ret (results_none rfl _ _ _) rfl ?_
  exact ⟨rfl, rfl⟩

theorem cutN_any (w : World) (v : Value) : Calls Try.prog 19 #[.pointer none, v] w fun e' w' => e' = .returned (.tuple #[]) ∧ w' = w := by
  have he := eqGN
  go_enter Try.func19, Try.ntmps19
  go_wp2
  refine bodyPost_ret (results_none rfl _ _ _) rfl ?_
  exact ⟨rfl, rfl⟩

set_option maxHeartbeats 1000000 in
theorem cycleN_any (w : World) (s : Nat) : Calls Try.prog 11 #[.pointer none, .int .u64 (s : Int)] w fun e' w' => e' = .returned (.tuple #[.slice none 0 0, .bool false]) ∧ Below w.heap.size w w' := by
  have hmk : (Instr.makeMap 51 none).run Try.prog w = .ok (.map (some w.heap.size)) (w.alloc (.map #[] 0)) := run_makeMap _ w
  obtain ⟨W, hW⟩ : ∃ W, w.alloc (.map #[] 0) = W := ⟨_, rfl⟩
  have hbW : Below w.heap.size w W := by rw [← hW]; exact below_box4 w _
  have hcell := oneU_new W s
  have HB : Hid (Below w.heap.size w (W.alloc (.cells #[.int .u64 (s : Int)] 30))) := bsplit hbW (below_box4 W _)
  rw [hW] at hmk
  obtain ⟨W2, hW2⟩ : ∃ W2, W.alloc (.cells #[.int .u64 (s : Int)] 30) = W2 := ⟨_, rfl⟩
  have HW2 : Hid (W.alloc (.cells #[.int .u64 (s : Int)] 30) = W2) := hW2
  rw [hW2] at HB
  rw [hW2] at hcell
  clear hW hbW hW2
  go_enter Try.func11, Try.ntmps11
  go_wp2_with fail
  go_loopg [7] 1 (fun gk qv wr => ((gk = 1 ∧ qv = .slice (some ⟨W.heap.size, 0, none⟩) 1 1) ∨ (gk = 0 ∧ ∃ a, qv = .slice a 0 0)) ∧ wr = W2)
  case atStart => exact ⟨.inl ⟨rfl, rfl⟩, HW2.out⟩
  case round =>
    obtain ⟨⟨h1, rfl⟩ | ⟨h1, a, rfl⟩, rfl⟩ := hrel
    · have hou := outN_any wr s
      clear HW2
      go_wp2_with fail
      refine hou.mono ?_
      rintro e1 w1 ⟨rfl, hw1⟩
      have HW : Hid (w1 = wr) := hw1
      clear hou hw1
      go_wp2_with fail
      go_loopg [7, 28] 0 (fun gj qv iv wx => (∃ a, qv = .slice a 0 0) ∧ iv = .int .i64 0 ∧ wx = w1)
      case atStart => exact ⟨⟨_, rfl⟩, rfl, rfl⟩
      case round =>
        obtain ⟨⟨a, rfl⟩, rfl, rfl⟩ := hrel
        go_wp2_with fail
        go_roundg 0
        case measure => omega
        case rel => exact ⟨.inr ⟨rfl, _, rfl⟩, HW.out⟩
    · go_wp2
      try simp only [Exit.inBlock, Exit.then]
      refine bodyPost_ret (results_tmp2 rfl _ _ _) rfl ?_
      exact ⟨rfl, HB.out⟩

end Go.Proofs.Ytgkgdbdapkgkgaa
