/- slices.Values of spans: its function goes along the spans. -/
import Derived.Test.YtifdomhmmhepcaaTbSeqs
import Derived.RangeFuncNested
import Derived.RangeFuncBound
import Derived.RangeFuncCalls
import Derived.RangeFuncLeaves
import Derived.RangeFuncFrom
import Derived.Shelf.Abstract
import Derived.Shelf.RegionOpen
import Derived.WalkKit
import Derived.OwnWalkIn
import Derived.TacticsInMore
import Derived.LoopNIn
import Derived.LoopIn
namespace Go.Proofs.Ytifdomhmmhepcaa
open Go.RowKit Go.Shelf
set_option linter.unusedVariables false
set_option linter.unusedSimpArgs false

attribute [local go_sem] Oper.semAt_some

def leftV (N : Nat) (v : Value) : Nat := match v with
  | .int _ z => N - z.toNat
  | _ => 0

theorem vals_any (w : World) (a : Option Addr) (n c : Nat) :
    Calls Try.prog 32 #[.slice a n c] w fun e w' => e = .returned (.func (.func 46) #[] #[.pointer (some ⟨w.heap.size, 0, none⟩)]) ∧ w' = w.alloc (.cells #[.slice a n c] 22) := by
  go_enter Try.func32, Try.ntmps32
  go_wp2
  go_ret
  exact ⟨rfl, rfl⟩

set_option maxRecDepth 100000 in
set_option maxHeartbeats 4000000 in
theorem vals_stops (n : Nat) (hn : 1 ≤ n) (w : World) (Bl : Nat) (v : Value) (cs : List SpC) (hv : RdC w v cs) (cl : w.cell? ⟨Bl, 0, none⟩ = some v) :
    SeqStopsK Fence.wide n Try.prog 46 #[.pointer (some ⟨Bl, 0, none⟩)] (fun t : {t : SpC // t ∈ cs} => #[spV t.1.x t.1.y (t.1.e.2.2 : Int)]) (fun A B => Below w.heap.size A B) (fun xs => xs.map (·.1) = cs) (fun pre => pre.map (·.1) <+: cs) (cs.length + 1) w := fun yl J Jx W hW hJ hJx hY h0 => by
  have clW : W.cell? ⟨Bl, 0, none⟩ = some v := by rw [hW.cell (p := ⟨Bl, 0, none⟩) (World.block_lt_of_cell? w _ cl)]; exact cl
  have HV : Hid (RdC w v cs) := hv
  obtain ⟨ao, cap, rfl, h1, h2, _⟩ := hv
  unfold maxLen at h2
  obtain ⟨N, hN⟩ : ∃ N, cs.length = N := ⟨_, rfl⟩
  rw [hN] at h1 HV clW
  have HN : Hid (cs.length = N) := hN
  have HJ : Hid (AbidesFrom W.heap.size J) := hJ
  have HW : Hid (Below w.heap.size w W) := hW
  have HY : Hid _ := hY
  clear hN cl hJ hJx hW hY
  refine callsIn_of_wp Try.func46 rfl trivial ?_ rfl
  simp only [Try.ntmps46, List.size_toArray, List.length_cons, List.length_nil, Nat.reduceAdd, Nat.reduceSub, Array.replicate_succ, Array.replicate_zero, List.push_toArray, List.append_toArray, List.nil_append, List.cons_append]
  gi_wp2_with fail
  gi_loopw [4, 7] (fun bv iv wr => ∃ j : Nat, j ≤ N ∧ iv = .int .i64 (j : Int) ∧ (∃ pre : List {t : SpC // t ∈ cs}, pre.map (·.1) = cs.take j ∧ J pre wr) ∧ Below w.heap.size w wr) (fun bv iv wr => leftV N iv)
  case atStart => exact ⟨0, Nat.zero_le _, rfl, ⟨[], by simp, h0⟩, HW.out⟩
  case round =>
    obtain ⟨j, hjN, rfl, ⟨pre, hpre, hJa⟩, hBa⟩ := hrel
    by_cases hlt : j < N
    · have hlt2 : j < cs.length := by rw [HN.out]; exact hlt
      obtain ⟨_, _, e, _, _, h3⟩ := HV.out.below hBa (Nat.le_refl _)
      rw [HN.out] at e
      cases e
      obtain ⟨b, off, rfl, c0, c1, c2, rx, ry⟩ := h3 j hlt2
      obtain ⟨x1, x2, ex⟩ := rx.len
      obtain ⟨y1, y2, ey⟩ := ry.len
      obtain ⟨xj, hxj⟩ : ∃ z : {t : SpC // t ∈ cs}, z.1 = cs[j] := ⟨⟨cs[j], List.getElem_mem hlt2⟩, rfl⟩
      have HPN : Hid ((pre ++ [xj]).map (·.1) = cs.take (j + 1)) := by
        show _ = _
        rw [List.map_append, hpre, List.take_succ_eq_append_getElem hlt2, List.map_cons, List.map_nil, hxj]
      have hpl : pre.length < N + 1 := by
        have h9 := congrArg List.length hpre
        rw [List.length_map, List.length_take] at h9
        omega
      rw [ex] at c0
      rw [ey] at c1
      obtain ⟨nl, hnl⟩ : ∃ nl, cs[j].e.1.length = nl := ⟨_, rfl⟩
      obtain ⟨ml, hml⟩ : ∃ ml, cs[j].e.2.1.length = ml := ⟨_, rfl⟩
      obtain ⟨sq, hsq⟩ : ∃ z : Int, (cs[j].e.2.2 : Int) = z := ⟨_, rfl⟩
      have hb0 := below_box wr #[.slice x1 nl x2, .slice y1 ml y2, .int .u64 sq] 32
      have hJ1 : J pre (wr.alloc (.cells #[.slice x1 nl x2, .slice y1 ml y2, .int .u64 sq] 32)) := HJ.out pre wr _ none hJa (World.grownBy_alloc _ _ _) (fun r e => by cases e)
      have hB1 : Below w.heap.size w (wr.alloc (.cells #[.slice x1 nl x2, .slice y1 ml y2, .int .u64 sq] 32)) := bsplit hBa hb0
      obtain ⟨z0, z1, z2, _, _, _⟩ := box_new wr (.slice x1 nl x2) (.slice y1 ml y2) (.int .u64 sq) 32
      obtain ⟨fn, tmps, assign, body, hy, hR⟩ := HY.out pre xj _ hJ1 (by rw [HN.out]; exact hpl)
      rw [hxj, ex, ey, hnl, hml, hsq] at hy
      rw [hnl] at c0
      rw [hml] at c1
      rw [hsq] at c2
      clear hJa rx ry hpre hxj h3 hb0 hnl hml hsq ex ey hpl hJ1
      gi_wp2_with fail
      refine hR.mono ?_
      rintro e W3 (⟨rfl, hJ3, hK3⟩ | ⟨rfl, hJx3⟩)
      · have HB3 : Hid (Below w.heap.size w W3) := hB1.trans hK3
        have HJ3 : Hid (J (pre ++ [xj]) W3) := hJ3
        clear hR hK3 c0 c1 c2 hy z0 z1 z2 hB1 hBa
        gi_wp2_with fail
        go_roundw
        case rel => exact ⟨j + 1, by omega, by go_num, ⟨_, HPN.out, HJ3.out⟩, HB3.out⟩
        case measure => unfold leftV; simp; omega
      · have HPP : Hid ((pre ++ [xj]).map (·.1) <+: cs) := by show _ <+: _; rw [HPN.out]; exact List.take_prefix _ _
        gi_wp2
        refine bodyPost_ret (results_none rfl _ _ _) rfl ?_
        exact ⟨⟨_, rfl⟩, .inr ⟨_, HPP.out, hJx3⟩⟩
    · have hjE : j = N := by omega
      subst hjE
      have HJ9 : Hid (∃ xs : List {t : SpC // t ∈ cs}, xs.map (·.1) = cs ∧ J xs wr) := ⟨pre, by rw [hpre, ← HN.out, List.take_length], hJa⟩
      clear hJa hpre
      gi_wp2
      go_end0
      exact ⟨⟨_, rfl⟩, .inl HJ9.out⟩

end Go.Proofs.Ytifdomhmmhepcaa
