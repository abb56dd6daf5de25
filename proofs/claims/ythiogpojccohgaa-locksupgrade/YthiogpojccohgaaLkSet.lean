/- set.Of, Add: a set of numbers. -/
import Derived.Test.YthiogpojccohgaaNumRow
import Derived.Maps.OwnSet
namespace Go.Proofs.Ythiogpojccohgaa
set_option maxRecDepth 20000
open Go.RowKit Go.Maps
set_option linter.unusedVariables false
set_option linter.unusedSimpArgs false

def litU (n : Nat) : Lit := .int .u64 (n : Int)

/-- a set of numbers in memory: those of a list -/
def MapU (w : World) (b : Nat) (xs : List Nat) : Prop := w.ownsMap Try.prog 29 (unitElem (H := Unit)) b xs.length (setOf (.agg []) (xs.map litU))

theorem keyU {n : Nat} (h : n < 18446744073709551616) : keyOf Try.prog 29 (.int .u64 (n : Int)) = some (litU n) :=
  keyOf_int_mk Try.underlying29 (WalkArith.wf_u64 (by omega))

theorem MapU.below {w w' : World} {b : Nat} {xs : List Nat} (h : MapU w b xs) (hb : Below w.heap.size w w') : MapU w' b xs := by
  have hlt := World.ownsMap.lt h
  obtain ⟨es, clock, hb2, r⟩ := h
  exact ⟨es, clock, by rw [hb.block b hlt]; exact hb2, r⟩

theorem setadd_any (w : World) (b a : Nat) (xs : List Nat) (n : Nat) (hm : MapU w b xs) (hc : w.cell? ⟨a, 0, none⟩ = some (.int .u64 (n : Int))) (hn : n < 18446744073709551616) (hl : xs.length ≤ 1000000) :
    Calls Try.prog 45 #[.map (some b), .slice (some ⟨a, 0, none⟩) 1 1] w fun e w' => e = .returned (.tuple #[]) ∧ MapU w' b (xs ++ [n]) ∧ w.grownBy w' (some b) := by
  have HM : Hid (MapU w b xs) := hm
  have HK : Hid (keyOf Try.prog 29 (.int .u64 (n : Int)) = some (litU n)) := keyU hn
  have HL : Hid (xs.length ≤ 1000000) := hl
  have HC : Hid (w.cell? ⟨a, 0, none⟩ = some (.int .u64 (n : Int))) := hc
  clear hm hn hl hc
  go_enter Try.func45, Try.ntmps45
  go_wp2_with fail
  go_loopg [8] 1 (fun gk iv wr => ∃ j : Nat, gk + j = 1 ∧ iv = .int .i64 (j : Int) ∧ Hid (j = 0 → wr = w) ∧ Hid (j = 1 → MapU wr b (xs ++ [n]) ∧ w.grownBy wr (some b)))
  case atStart => exact ⟨0, by omega, rfl, fun _ => rfl, fun h => by omega⟩
  case round =>
    obtain ⟨j, hj, rfl, H0, H1⟩ := hrel
    by_cases hlt : j < 1
    · have hj0 : j = 0 := by omega
      subst hj0
      have hw := H0.out rfl
      subst hw
      have hc := HC.out
      have hgk : gk = 1 := by omega
      subst hgk
      clear H0 H1
      go_wp2_with (first | (at_mapUpdate; refine wpList_mapUpdate_own _ rfl _ _ _ 60 rfl 29 87 (int_keyed Try.underlying29) Try.underlying60 _ b xs.length _ rfl HM.out (by have := HL.out; unfold maxLen; omega) _ _ _ rfl rfl HK.out (.agg []) [] unitElem_mk ?_; intro w5 hown5 hgrow5) | fail)
      have HF : Hid (MapU w5 b (xs ++ [n]) ∧ wr.grownBy w5 (some b)) := by
        refine ⟨?_, hgrow5⟩
        unfold MapU
        rw [List.map_append, List.length_append]
        simp only [List.map_cons, List.map_nil]
        rw [setOf_snoc]
        exact hown5
      clear hown5 hgrow5
      go_roundg 0
      case measure => omega
      case rel => exact ⟨1, by omega, by go_num, fun h => by omega, fun _ => HF.out⟩
    · have hj1 : j = 1 := by omega
      subst hj1
      have HF := H1.out rfl
      have HF2 : Hid (MapU wr b (xs ++ [n]) ∧ w.grownBy wr (some b)) := HF
      clear HF
      go_wp2
      refine bodyPost_end (results_none Try.results45 _ _ _) rfl ?_
      exact ⟨rfl, HF2.out.1, HF2.out.2⟩

theorem setof_any (w : World) : Calls Try.prog 43 #[.slice none 0 0] w fun e w' => e = .returned (.map (some w.heap.size)) ∧ MapU w' w.heap.size [] ∧ Below w.heap.size w w' := by
  have hmk : ∀ w : World, (Instr.makeMap 60 none).run Try.prog w = .ok (.map (some w.heap.size)) (w.alloc (.map #[] 0)) := fun w => run_makeMap _ w
  have hadd : ∀ W : World, ∀ b, Calls Try.prog 45 #[.map (some b), .slice none 0 0] W fun e w' => e = .returned (.tuple #[]) ∧ w' = W := by
    intro W b
    go_enter Try.func45, Try.ntmps45
    go_wp2_with fail
    go_loopg [8] 0 (fun gk iv wr => iv = .int .i64 0 ∧ wr = W)
    case atStart => exact ⟨rfl, rfl⟩
    case round =>
      obtain ⟨rfl, rfl⟩ := hrel
      go_wp2
      refine bodyPost_end (results_none Try.results45 _ _ _) rfl ?_
      exact ⟨rfl, rfl⟩
  have hh := hadd (w.alloc (.map #[] 0)) w.heap.size
  have HM : Hid (MapU (w.alloc (.map #[] 0)) w.heap.size [] ∧ Below w.heap.size w (w.alloc (.map #[] 0))) := ⟨World.ownsMap_made _ _ _ _, below_box4 w _⟩
  clear hadd
  go_enter Try.func43, Try.ntmps43
  go_wp2_with fail
  refine hh.mono ?_
  rintro e w1 ⟨rfl, rfl⟩
  go_wp2
  go_ret
  exact ⟨rfl, HM.out.1, HM.out.2⟩

theorem MapU.lt {w : World} {b : Nat} {xs : List Nat} (h : MapU w b xs) : b < w.heap.size := World.ownsMap.lt h

end Go.Proofs.Ythiogpojccohgaa
