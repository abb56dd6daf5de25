/- What Cycle and Victim answer, beside the document's cycle: in pure terms. -/
import Derived.Test.YtgkgdbdapkgkgaaGCutsWalk
import Derived.Test.YtgkgdbdapkgkgaaGrGreedy
import Derived.Test.YtgkgdbdapkgkgaaRefCyc18
namespace Go.Proofs.Ytgkgdbdapkgkgaa
set_option maxRecDepth 100000
open Go.RowKit Go.Maps
set_option linter.unusedVariables false
set_option linter.unusedSimpArgs false

/-- the cycle that the search finds -/
def CycR (o : Nat → List Nat) (s : Nat) (U : List Nat) (C : List Nat) : Prop :=
  (bfsB o s (U.length + 2) (fun _ => none) [s] = none ∧ C = []) ∨ ∃ f x P, bfsB o s (U.length + 2) (fun _ => none) [s] = some (f, x) ∧ WayP f s (x :: P) ∧ C = (x :: P).reverse

theorem cycR_ex {o : Nat → List Nat} {s : Nat} {U : List Nat} (hU : ∀ x, ∀ y ∈ o x, y ∈ U) : ∃ C, CycR o s U C := by
  cases hR : bfsB o s (U.length + 2) (fun _ => none) [s] with
  | none => exact ⟨[], .inl ⟨hR, rfl⟩⟩
  | some fx =>
    obtain ⟨f, x⟩ := fx
    obtain ⟨_, ⟨P, hP, _⟩, _⟩ := bfs_some hU _ _ _ (BfI.first o s U) f x hR
    exact ⟨_, .inr ⟨f, x, P, hR, hP, rfl⟩⟩

theorem rise_lt {xs ys : List Nat} (h : Rise xs ys) : ys.Pairwise (· < ·) := by
  have h1 := h.2
  have h2 : ys.Pairwise (fun a b => a ≠ b) := h.1.1
  exact (h1.and h2).imp (fun h => by omega)

theorem cycS_of {e o : Nat → List Nat} {ls : List (Nat × Nat)} {s : Nat} {C : List Nat} (h : GL e ls) (ho : ∀ a b, b ∈ o a ↔ (a, b) ∈ ls) (hp : ∀ k, (o k).Pairwise (· < ·)) (hC : CycR o s (ls.map (·.2)) C) : CycS o s ls.length C := by
  have hU : ∀ x, ∀ y ∈ o x, y ∈ ls.map (·.2) := fun x y hy => List.mem_map.2 ⟨_, (ho x y).1 hy, rfl⟩
  rcases hC with ⟨hb, rfl⟩ | ⟨f, x, P, hb, hw, rfl⟩
  · refine .inl ⟨rfl, fun n hr => ?_⟩
    exact cyc_none h ho hb n (reach_mono (fun a b hab => (h a b).2 ((ho a b).1 hab)) n s hr)
  · obtain ⟨c, h1, h2, h3, h4, h5⟩ := cyc_greedy hU hp hb hw
    obtain ⟨hsx, ⟨P', hP', hl'⟩, _⟩ := bfs_some hU _ _ _ (BfI.first o s _) f x hb
    have e9 := way_uniq f s x P P' hw hP'
    subst e9
    obtain ⟨T, ob, _, _⟩ := bfs_ord hp _ _ _ _ _ (BfT.first o s) f x hb
    have hv := vis_unv f (ls.map (·.2))
    have hu : 0 < unvN f (ls.map (·.2)) := by
      unfold unvN
      refine List.length_pos_iff.2 (List.ne_nil_of_mem (a := s) (List.mem_filter.2 ⟨hU x s hsx, ?_⟩))
      rw [ob.rootf]; rfl
    rw [List.length_map] at hv
    exact .inr ⟨c, P.length, h1, by omega, h2, h3, h4, h5⟩

/-- there is one just if there is a way round -/
theorem cycR_reach {e o : Nat → List Nat} {ls : List (Nat × Nat)} {s : Nat} {C : List Nat} (h : GL e ls) (ho : ∀ a b, b ∈ o a ↔ (a, b) ∈ ls) (hp : ∀ k, (o k).Pairwise (· < ·)) (hC : CycR o s (ls.map (·.2)) C) : C = [] ↔ ∀ n, ¬ Go.Proofs.Ytgkgdbdapkgkgaa.Reach e s n s := by
  constructor
  · rintro rfl
    rcases hC with ⟨hb, _⟩ | ⟨f, x, P, _, _, e9⟩
    · exact cyc_none h ho hb
    · simp at e9
  · intro hno
    rcases cycS_of h ho hp hC with ⟨h9, _⟩ | ⟨c, m, _, _, _, _, hb, _⟩
    · exact h9
    · exact absurd (reach_mono (fun a b hab => (h a b).2 ((ho a b).1 hab)) m s hb) (hno m)

def mxL (C : List Nat) : Nat := C.foldl max 0

theorem mxL_snoc (C : List Nat) (x : Nat) : mxL (C ++ [x]) = max (mxL C) x := by unfold mxL; rw [List.foldl_append]; rfl

theorem fold_ge : ∀ (C : List Nat) (a : Nat), a ≤ C.foldl max a ∧ ∀ x ∈ C, x ≤ C.foldl max a
  | [], a => ⟨Nat.le_refl _, fun _ h => by simp at h⟩
  | y :: r, a => by
    obtain ⟨h1, h2⟩ := fold_ge r (max a y)
    rw [List.foldl_cons]
    refine ⟨by omega, fun x hx => ?_⟩
    rcases List.mem_cons.1 hx with rfl | hx
    · omega
    · exact h2 x hx
theorem fold_mem : ∀ (C : List Nat) (a : Nat), C.foldl max a = a ∨ C.foldl max a ∈ C
  | [], a => .inl rfl
  | y :: r, a => by
    rw [List.foldl_cons]
    rcases fold_mem r (max a y) with h | h
    · rw [h]
      rcases Nat.le_total a y with e | e
      · right; rw [Nat.max_eq_right e]; simp
      · left; exact Nat.max_eq_left e
    · exact .inr (List.mem_cons_of_mem _ h)

theorem mxL_top {M : Nat} {C : List Nat} (h : TopL M C) : mxL C = M := by
  have h1 := (fold_ge C 0).2 M h.1
  unfold mxL
  rcases fold_mem C 0 with e | e
  · rw [e] at h1 ⊢; omega
  · have := h.2 _ e
    omega

theorem cyc_uni {w w' : World} {o : Nat → List Nat} {s : Nat} {U C : List Nat} {e' : Ending} (h : CycPost w o s U e' w') (hC : CycR o s U C) : ∃ v, e' = .returned (.tuple #[v, .bool (decide (C ≠ []))]) ∧ RdU w' v C ∧ Below w.heap.size w w' := by
  obtain ⟨hb, ⟨rfl, h1⟩ | ⟨v, f, x, P, rfl, h1, h2, h3⟩⟩ := h
  · rcases hC with ⟨_, rfl⟩ | ⟨f, x, P, h9, _⟩
    · exact ⟨_, rfl, World.ownsRow_nil _ _ _ _, hb⟩
    · rw [h1] at h9; cases h9
  · rcases hC with ⟨h9, _⟩ | ⟨f', x', P', h9, h8, rfl⟩
    · rw [h1] at h9; cases h9
    · rw [h1] at h9
      cases h9
      have e9 := way_uniq _ _ _ _ _ h2 h8
      subst e9
      exact ⟨v, by rw [decide_eq_true (by simp)], h3.rd, hb⟩

theorem vic_uni {w w' : World} {o : Nat → List Nat} {s : Nat} {U C : List Nat} {e' : Ending} (h : VicPost w o s U e' w') (hC : CycR o s U C) : e' = .returned (.tuple #[.int .u64 (mxL C : Int), .bool (decide (C ≠ []))]) ∧ Below w.heap.size w w' := by
  obtain ⟨hb, ⟨rfl, h1⟩ | ⟨M, f, x, P, rfl, h1, h2, h3⟩⟩ := h
  · rcases hC with ⟨_, rfl⟩ | ⟨f, x, P, h9, _⟩
    · exact ⟨rfl, hb⟩
    · rw [h1] at h9; cases h9
  · rcases hC with ⟨h9, _⟩ | ⟨f', x', P', h9, h8, rfl⟩
    · rw [h1] at h9; cases h9
    · rw [h1] at h9
      cases h9
      have e9 := way_uniq _ _ _ _ _ h2 h8
      subst e9
      have ht : TopL M (x :: P).reverse := ⟨by rw [List.mem_reverse]; exact h3.1, fun y hy => h3.2 y (List.mem_reverse.1 hy)⟩
      exact ⟨by rw [mxL_top ht, decide_eq_true (by simp)], hb⟩

end Go.Proofs.Ytgkgdbdapkgkgaa
