/- The way that the search finds is the least of the shortest: in pure terms. -/
import Derived.Test.YtgkgdbdapkgkgaaGrOrdP
import Derived.Test.YtgkgdbdapkgkgaaGrpH
namespace Go.Proofs.Ytgkgdbdapkgkgaa
set_option maxRecDepth 20000
set_option linter.unusedVariables false
set_option linter.unusedSimpArgs false

/-- a way round, by a function -/
structure CycF (o : Nat → List Nat) (s : Nat) (f : Nat → Option Nat) (T : Nat → Nat) (c : Nat → Nat) (m : Nat) : Prop where
  ob : OrdB o s f T
  own : ∀ a b, f a = some b → a ∈ o b
  hd : c 0 = s
  link : ∀ i, i < m → f (c (i + 1)) = some (c i)
  last : s ∈ o (c m)
  done : ∀ z, VisB f s z → T z < T (c m) → ∀ y ∈ o z, y ≠ s ∧ (f y).isSome = true

theorem CycF.vis {o : Nat → List Nat} {s : Nat} {f : Nat → Option Nat} {T : Nat → Nat} {c : Nat → Nat} {m : Nat} (H : CycF o s f T c m) : ∀ i, i ≤ m → VisB f s (c i)
  | 0, _ => .inl H.hd
  | i + 1, h => .inr (by rw [H.link i (by omega)]; rfl)

theorem CycF.lt {o : Nat → List Nat} {s : Nat} {f : Nat → Option Nat} {T : Nat → Nat} {c : Nat → Nat} {m : Nat} (H : CycF o s f T c m) {i : Nat} (h : i < m) : T (c i) < T (c (i + 1)) := (H.ob.par _ _ (H.link i h)).2

theorem CycF.le {o : Nat → List Nat} {s : Nat} {f : Nat → Option Nat} {T : Nat → Nat} {c : Nat → Nat} {m : Nat} (H : CycF o s f T c m) : ∀ d i, i + d = m → T (c i) ≤ T (c m)
  | 0, i, h => by rw [show i = m by omega]; exact Nat.le_refl _
  | d + 1, i, h => by
    have h1 := H.lt (i := i) (by omega)
    have h2 := H.le d (i + 1) (by omega)
    omega

/-- who was come to ahead of the way's node is on no way as short -/
theorem CycF.beat {o : Nat → List Nat} {s : Nat} {f : Nat → Option Nat} {T : Nat → Nat} {c : Nat → Nat} {m : Nat} (H : CycF o s f T c m) : ∀ d i, i + d = m → ∀ y, VisB f s y → T y < T (c i) → ¬ LvB o y (d + 1) s
  | 0, i, h, y, hy, hlt, hr => by
    rw [show i = m by omega] at hlt
    exact (H.done y hy hlt s hr).1 rfl
  | d + 1, i, h, y, hy, hlt, hr => by
    obtain ⟨z, hz, hr2⟩ := lv_front hr
    have hle := H.le (d + 1) i h
    obtain ⟨_, h2⟩ := H.done y hy (by omega) z hz
    obtain ⟨p, hp⟩ := Option.isSome_iff_exists.1 h2
    have h3 : T p ≤ T y := by
      by_cases h9 : T y < T p
      · exact absurd hz (H.ob.first z p hp y hy h9)
      · omega
    exact H.beat d (i + 1) (by omega) z (.inr h2) (H.ob.ord _ _ _ _ hp (H.link i (by omega)) (by omega)) hr2

/-- the next node is the least from whom there is a way as short -/
theorem CycF.least {o : Nat → List Nat} {s : Nat} {f : Nat → Option Nat} {T : Nat → Nat} {c : Nat → Nat} {m : Nat} (H : CycF o s f T c m) {i : Nat} (hi : i < m) (a : Nat) (ha : a ∈ o (c i)) (hlt : a < c (i + 1)) : ¬ LvB o a (m - i) s := by
  have h1 := H.lt hi
  have h2 := H.le (m - (i + 1)) (i + 1) (by omega)
  obtain ⟨_, h3⟩ := H.done (c i) (H.vis i (by omega)) (by omega) a ha
  obtain ⟨p, hp⟩ := Option.isSome_iff_exists.1 h3
  have h4 : T p ≤ T (c i) := by
    by_cases h9 : T (c i) < T p
    · exact absurd ha (H.ob.first a p hp _ (H.vis i (by omega)) h9)
    · omega
  have h5 : T a < T (c (i + 1)) := by
    by_cases h9 : T p < T (c i)
    · exact H.ob.ord _ _ _ _ hp (H.link i hi) h9
    · have e : p = c i := H.ob.inj _ _ (H.ob.par _ _ hp).1 (H.vis i (by omega)) (by omega)
      subst e
      exact H.ob.ord2 _ _ _ hp (H.link i hi) hlt
  have h6 := H.beat (m - (i + 1)) (i + 1) (by omega) a (.inr h3) h5
  rw [show m - (i + 1) + 1 = m - i by omega] at h6
  exact h6

/-- from each node of it back to the first -/
theorem CycF.back {o : Nat → List Nat} {s : Nat} {f : Nat → Option Nat} {T : Nat → Nat} {c : Nat → Nat} {m : Nat} (H : CycF o s f T c m) : ∀ d i, i + d = m → LvB o (c i) (d + 1) s
  | 0, i, h => by
    rw [show i = m by omega]
    exact H.last
  | d + 1, i, h => lv_cons (H.own _ _ (H.link i (by omega))) (H.back d (i + 1) (by omega))

/-- what the document's cycle wants to know of the one that is told -/
theorem cyc_greedy {o : Nat → List Nat} {s k x : Nat} {U : List Nat} {f : Nat → Option Nat} {P : List Nat} (hU : ∀ x, ∀ y ∈ o x, y ∈ U) (hp : ∀ k, (o k).Pairwise (· < ·)) (hb : bfsB o s k (fun _ => none) [s] = some (f, x)) (hw : WayP f s (x :: P)) :
    ∃ c : Nat → Nat, (x :: P).reverse = (List.range (P.length + 1)).map c ∧ c 0 = s ∧ (∀ n, LvB o s (n + 1) s → P.length ≤ n) ∧ LvB o s (P.length + 1) s ∧
      ∀ i, i < P.length → c (i + 1) ∈ o (c i) ∧ LvB o (c (i + 1)) (P.length - i) s ∧ ∀ a ∈ o (c i), a < c (i + 1) → ¬ LvB o a (P.length - i) s := by
  obtain ⟨hsx, _, hf⟩ := bfs_some hU _ _ _ (BfI.first o s U) f x hb
  obtain ⟨D, d1, d2, d3⟩ := bfs_short _ _ _ _ (BfD.first o s) f x hb
  have hfar := way_far d1 d2 P x hw
  obtain ⟨T, ob, hvx, hdone⟩ := bfs_ord hp _ _ _ _ _ (BfT.first o s) f x hb
  have hl : ((x :: P).reverse).length = P.length + 1 := by simp
  have hc : ∀ i, i < P.length + 1 → ((x :: P).reverse).getD i 0 = (x :: P)[P.length - i]'(by simp; omega) := fun i hi => by
    have h1 := List.getElem?_reverse (l := x :: P) (i := i) (by simpa using hi)
    have h2 : (x :: P).length - 1 - i = P.length - i := by simp
    rw [List.getD_eq_getElem?_getD, h1, h2, List.getElem?_eq_getElem (by simp; omega)]
    rfl
  have hF : CycF o s f T (fun i => ((x :: P).reverse).getD i 0) P.length := by
    refine ⟨ob, hf, ?_, fun i hi => ?_, ?_, ?_⟩
    · show ((x :: P).reverse).getD 0 0 = s
      rw [hc 0 (by omega)]
      obtain ⟨_, h9⟩ := way_last _ hw
      simpa using h9
    · show f (((x :: P).reverse).getD (i + 1) 0) = some (((x :: P).reverse).getD i 0)
      rw [hc (i + 1) (by omega), hc i (by omega)]
      have h9 := way_link _ hw (P.length - (i + 1)) (by simp; omega)
      rw [h9]
      congr 1
      congr 1
      omega
    · show s ∈ o (((x :: P).reverse).getD P.length 0)
      rw [hc _ (by omega)]
      simpa using hsx
    · show ∀ z, VisB f s z → T z < T (((x :: P).reverse).getD P.length 0) → _
      rw [hc _ (by omega)]
      simpa using hdone
  refine ⟨fun i => ((x :: P).reverse).getD i 0, ?_, hF.hd, fun n hn => ?_, ?_, fun i hi => ⟨hf _ _ (hF.link i hi), ?_, fun a ha hlt => hF.least hi a ha hlt⟩⟩
  · refine List.ext_getElem? fun i => ?_
    by_cases hi : i < P.length + 1
    · rw [List.getElem?_map, List.getElem?_range hi]
      show _ = some (((x :: P).reverse).getD i 0)
      rw [List.getD_eq_getElem?_getD, List.getElem?_eq_getElem (by rw [hl]; exact hi)]
      rfl
    · rw [List.getElem?_eq_none (by rw [hl]; omega), List.getElem?_eq_none (by simp; omega)]
  · have := d3 n hn
    omega
  · have h9 := hF.back P.length 0 (by omega)
    rw [hF.hd] at h9
    exact h9
  · have h9 := hF.back (P.length - (i + 1)) (i + 1) (by omega)
    rw [show P.length - (i + 1) + 1 = P.length - i by omega] at h9
    exact h9

end Go.Proofs.Ytgkgdbdapkgkgaa
