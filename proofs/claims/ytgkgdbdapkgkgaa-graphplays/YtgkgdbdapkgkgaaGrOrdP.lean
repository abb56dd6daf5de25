/- The search comes to nodes in the order of their ways: in pure terms. -/
import Derived.Test.YtgkgdbdapkgkgaaGrpG
namespace Go.Proofs.Ytgkgdbdapkgkgaa
set_option maxRecDepth 20000
set_option linter.unusedVariables false
set_option linter.unusedSimpArgs false

/-- what is known of the order in which nodes are come to -/
structure OrdB (o : Nat → List Nat) (s : Nat) (f : Nat → Option Nat) (T : Nat → Nat) : Prop where
  rootf : f s = none
  par : ∀ y z, f y = some z → VisB f s z ∧ T z < T y
  first : ∀ y z, f y = some z → ∀ z', VisB f s z' → T z' < T z → y ∉ o z'
  ord : ∀ y z y' z', f y = some z → f y' = some z' → T z < T z' → T y < T y'
  ord2 : ∀ y y' z, f y = some z → f y' = some z → y < y' → T y < T y'
  inj : ∀ z z', VisB f s z → VisB f s z' → T z = T z' → z = z'

/-- between two nodes of the line -/
structure BfT (o : Nat → List Nat) (s : Nat) (f : Nat → Option Nat) (Q : List Nat) (T : Nat → Nat) (N : Nat) : Prop where
  ob : OrdB o s f T
  lt : ∀ z, VisB f s z → T z < N
  line : Q.Pairwise fun a b => T a < T b
  vis : ∀ q ∈ Q, VisB f s q
  parq : ∀ y z, f y = some z → ∀ q ∈ Q, T z < T q
  gone : ∀ z, VisB f s z → z ∈ Q ∨ ∀ y ∈ o z, y ≠ s ∧ (f y).isSome = true

/-- while one node's links are gone through: ys are left -/
structure InT (o : Nat → List Nat) (s x : Nat) (ys : List Nat) (f : Nat → Option Nat) (Q : List Nat) (T : Nat → Nat) (N : Nat) : Prop where
  ob : OrdB o s f T
  lt : ∀ z, VisB f s z → T z < N
  line : Q.Pairwise fun a b => T a < T b
  vis : ∀ q ∈ Q, VisB f s q
  visx : VisB f s x
  up : ∀ q ∈ Q, T x < T q
  parx : ∀ y z, f y = some z → T z ≤ T x
  low : ∀ y, f y = some x → ∀ z ∈ ys, y < z
  gone : ∀ z, VisB f s z → z = x ∨ z ∈ Q ∨ ∀ y ∈ o z, y ≠ s ∧ (f y).isSome = true

theorem InT.put {o : Nat → List Nat} {s x y : Nat} {r : List Nat} {f : Nat → Option Nat} {Q : List Nat} {T : Nat → Nat} {N : Nat} (H : InT o s x (y :: r) f Q T N) (hr : (y :: r).Pairwise (· < ·)) (hy : f y = none) (hs : y ≠ s) :
    InT o s x r (setB f y x) (Q ++ [y]) (fun z => if z = y then N else T z) (N + 1) := by
  have hnv : ∀ z, VisB f s z → z ≠ y := fun z hz e => by
    subst e
    rcases hz with h | h
    · exact hs h
    · rw [hy] at h; cases h
  have hxy := hnv x H.visx
  have hv : ∀ z, VisB (setB f y x) s z → z = y ∨ VisB f s z := fun z hz => by
    rcases hz with h | h
    · exact .inr (.inl h)
    · rw [setB_isSome] at h
      by_cases e : z = y
      · exact .inl e
      · simp [e] at h
        exact .inr (.inr h)
  have hT : ∀ z, z ≠ y → (fun z => if z = y then N else T z) z = T z := fun z hz => if_neg hz
  have hTy : (fun z => if z = y then N else T z) y = N := if_pos rfl
  have hf : ∀ a b, setB f y x a = some b → (a = y ∧ b = x) ∨ (a ≠ y ∧ f a = some b) := fun a b hab => by
    unfold setB at hab
    by_cases e : a = y
    · rw [if_pos e] at hab
      cases hab
      exact .inl ⟨e, rfl⟩
    · rw [if_neg e] at hab
      exact .inr ⟨e, hab⟩
  have hpv : ∀ a b, f a = some b → b ≠ y := fun a b hab => hnv b (H.ob.par a b hab).1
  have hgx : ∀ z, VisB f s z → T z < T x → ∀ a ∈ o z, a ≠ s ∧ (f a).isSome = true := fun z hz hlt => by
    rcases H.gone z hz with h | h | h
    · subst h; omega
    · have := H.up z h; omega
    · exact h
  generalize (fun z => if z = y then N else T z) = T' at hT hTy ⊢
  refine ⟨⟨?_, fun a b hab => ?_, fun a b hab z' hz' hlt => ?_, fun a b a' b' hab hab' hlt => ?_, fun a a' b hab hab' hlt => ?_, fun a b ha hb e => ?_⟩, fun z hz => ?_, ?_, fun q hq => ?_, H.visx.set, fun q hq => ?_, fun a b hab => ?_, fun a hab z hz => ?_, fun z hz => ?_⟩
  · unfold setB
    rw [if_neg (fun e => hs e.symm)]; exact H.ob.rootf
  · rcases hf a b hab with ⟨rfl, rfl⟩ | ⟨h1, h2⟩
    · exact ⟨H.visx.set, by rw [hT _ hxy, hTy]; exact H.lt _ H.visx⟩
    · obtain ⟨h3, h4⟩ := H.ob.par a b h2
      exact ⟨h3.set, by rw [hT _ h1, hT _ (hpv a b h2)]; exact h4⟩
  · rcases hf a b hab with ⟨rfl, rfl⟩ | ⟨h1, h2⟩
    · rcases hv z' hz' with e | h
      · subst e
        have h9 := H.lt _ H.visx
        rw [hT _ hxy, hTy] at hlt
        omega
      · rw [hT _ hxy, hT _ (hnv z' h)] at hlt
        intro hin
        have := (hgx z' h hlt a hin).2
        rw [hy] at this
        cases this
    · have h3 := hpv a b h2
      rcases hv z' hz' with e | h
      · subst e
        rw [hT _ h3, hTy] at hlt
        have := H.lt b (H.ob.par a b h2).1
        omega
      · rw [hT _ h3, hT _ (hnv z' h)] at hlt
        exact H.ob.first a b h2 z' h hlt
  · rcases hf a b hab with ⟨rfl, rfl⟩ | ⟨h1, h2⟩
    · rcases hf a' b' hab' with ⟨rfl, rfl⟩ | ⟨h3, h4⟩
      · omega
      · rw [hT _ hxy, hT _ (hpv a' b' h4)] at hlt
        have := H.parx a' b' h4
        omega
    · rcases hf a' b' hab' with ⟨rfl, rfl⟩ | ⟨h3, h4⟩
      · rw [hT _ h1, hTy]
        exact H.lt a (.inr (by rw [h2]; rfl))
      · rw [hT _ (hpv a b h2), hT _ (hpv a' b' h4)] at hlt
        rw [hT _ h1, hT _ h3]
        exact H.ob.ord a b a' b' h2 h4 hlt
  · rcases hf a b hab with ⟨rfl, rfl⟩ | ⟨h1, h2⟩
    · rcases hf a' b hab' with ⟨rfl, _⟩ | ⟨h3, h4⟩
      · omega
      · have := H.low a' h4 a (by simp)
        omega
    · rcases hf a' b hab' with ⟨rfl, rfl⟩ | ⟨h3, h4⟩
      · rw [hT _ h1, hTy]
        exact H.lt a (.inr (by rw [h2]; rfl))
      · rw [hT _ h1, hT _ h3]
        exact H.ob.ord2 a a' b h2 h4 hlt
  · rcases hv a ha with e1 | h1
    · rcases hv b hb with e2 | h2
      · rw [e1, e2]
      · rw [e1, hTy, hT _ (hnv b h2)] at e
        have := H.lt b h2
        omega
    · rcases hv b hb with e2 | h2
      · rw [e2, hTy, hT _ (hnv a h1)] at e
        have := H.lt a h1
        omega
      · rw [hT _ (hnv a h1), hT _ (hnv b h2)] at e
        exact H.ob.inj a b h1 h2 e
  · rcases hv z hz with e | h
    · rw [e, hTy]; omega
    · rw [hT _ (hnv z h)]
      have := H.lt z h
      omega
  · refine List.pairwise_append.2 ⟨?_, List.pairwise_singleton _ _, fun a ha b hb => ?_⟩
    · refine (List.pairwise_iff_forall_sublist.2 fun {a b} hab => ?_)
      have h1 := List.pairwise_iff_forall_sublist.1 H.line hab
      have ha : a ∈ Q := hab.subset (by simp)
      have hb : b ∈ Q := hab.subset (by simp)
      rw [hT _ (hnv a (H.vis a ha)), hT _ (hnv b (H.vis b hb))]
      exact h1
    · rw [List.mem_singleton] at hb
      subst hb
      rw [hT _ (hnv a (H.vis a ha)), hTy]
      exact H.lt a (H.vis a ha)
  · rcases List.mem_append.1 hq with h | h
    · exact (H.vis q h).set
    · rw [List.mem_singleton] at h
      subst h
      exact .inr (by rw [setB_isSome]; simp)
  · rw [hT _ hxy]
    rcases List.mem_append.1 hq with h | h
    · rw [hT _ (hnv q (H.vis q h))]; exact H.up q h
    · rw [List.mem_singleton] at h
      subst h
      rw [hTy]; exact H.lt x H.visx
  · rcases hf a b hab with ⟨rfl, rfl⟩ | ⟨h1, h2⟩
    · exact Nat.le_refl _
    · rw [hT _ (hpv a b h2), hT _ hxy]
      exact H.parx a b h2
  · rcases hf a x hab with ⟨rfl, _⟩ | ⟨h1, h2⟩
    · exact (List.pairwise_cons.1 hr).1 z hz
    · exact H.low a h2 z (by simp [hz])
  · rcases hv z hz with e | h
    · subst e; exact .inr (.inl (by simp))
    · rcases H.gone z h with h1 | h1 | h1
      · exact .inl h1
      · exact .inr (.inl (by simp [h1]))
      · exact .inr (.inr fun a ha => ⟨(h1 a ha).1, by rw [setB_isSome, (h1 a ha).2]; rfl⟩)

theorem InT.skip {o : Nat → List Nat} {s x y : Nat} {r : List Nat} {f : Nat → Option Nat} {Q : List Nat} {T : Nat → Nat} {N : Nat} (H : InT o s x (y :: r) f Q T N) : InT o s x r f Q T N :=
  ⟨H.ob, H.lt, H.line, H.vis, H.visx, H.up, H.parx, fun a ha z hz => H.low a ha z (by simp [hz]), H.gone⟩

/-- what the round over one node's links leaves -/
theorem inn_ord {o : Nat → List Nat} {s x : Nat} : ∀ (ys : List Nat) (f : Nat → Option Nat) (Q : List Nat) (T : Nat → Nat) (N : Nat), InT o s x ys f Q T N → ys.Pairwise (· < ·) →
    ∃ T' N' rs, InT o s x rs (innB s x ys f Q).2.1 (innB s x ys f Q).2.2 T' N' ∧ (∀ z, (f z).isSome = true → ((innB s x ys f Q).2.1 z).isSome = true) ∧ ((innB s x ys f Q).1 = false → ∀ y ∈ ys, y ≠ s ∧ ((innB s x ys f Q).2.1 y).isSome = true)
  | [], f, Q, T, N, H, _ => ⟨T, N, [], H, fun _ h => h, fun _ y hy => absurd hy (by simp)⟩
  | y :: r, f, Q, T, N, H, hp => by
    have hp2 := (List.pairwise_cons.1 hp).2
    unfold innB
    by_cases h1 : y = s
    · rw [if_pos h1]
      exact ⟨T, N, _, H, fun _ h => h, (fun h => by cases h)⟩
    · rw [if_neg h1]
      by_cases h2 : (f y).isSome = true
      · rw [if_pos h2]
        obtain ⟨T', N', rs, a1, a2, a3⟩ := inn_ord r f Q T N H.skip hp2
        refine ⟨T', N', rs, a1, a2, fun h z hz => ?_⟩
        rcases List.mem_cons.1 hz with rfl | hz
        · exact ⟨h1, a2 _ h2⟩
        · exact a3 h z hz
      · rw [if_neg h2]
        have hn : f y = none := by simpa using h2
        obtain ⟨T', N', rs, a1, a2, a3⟩ := inn_ord r _ _ _ _ (H.put hp hn h1) hp2
        refine ⟨T', N', rs, a1, fun z hz => a2 z (by rw [setB_isSome, hz]; rfl), fun h z hz => ?_⟩
        rcases List.mem_cons.1 hz with rfl | hz
        · exact ⟨h1, a2 _ (by rw [setB_isSome]; simp)⟩
        · exact a3 h z hz

theorem BfT.first (o : Nat → List Nat) (s : Nat) : BfT o s (fun _ => none) [s] (fun _ => 0) 1 := by
  have hv : ∀ z, VisB (fun _ => none) s z → z = s := fun z h => by rcases h with h | h <;> simp_all
  exact ⟨⟨rfl, fun _ _ h => (by cases h), fun _ _ h => (by cases h), fun _ _ _ _ h => (by cases h), fun _ _ _ h => (by cases h), fun a b ha hb _ => by rw [hv a ha, hv b hb]⟩, fun _ _ => Nat.one_pos, List.pairwise_singleton _ _, fun q hq => .inl (by simpa using hq), fun _ _ h => (by cases h), fun z h => .inl (by rw [hv z h]; simp)⟩

theorem BfT.inn {o : Nat → List Nat} {s x : Nat} {ys : List Nat} {f : Nat → Option Nat} {Q : List Nat} {T : Nat → Nat} {N : Nat} (H : BfT o s f (x :: Q) T N) : InT o s x ys f Q T N := by
  obtain ⟨l1, l2⟩ := List.pairwise_cons.1 H.line
  refine ⟨H.ob, H.lt, l2, fun q hq => H.vis q (by simp [hq]), H.vis x (by simp), l1, fun y z h => Nat.le_of_lt (H.parq y z h x (by simp)), fun y h z hz => ?_, fun z hz => ?_⟩
  · have := H.parq y x h x (by simp)
    omega
  · rcases H.gone z hz with h | h
    · rcases List.mem_cons.1 h with h | h
      · exact .inl h
      · exact .inr (.inl h)
    · exact .inr (.inr h)

/-- the order in which nodes were come to when the way is found -/
theorem bfs_ord {o : Nat → List Nat} {s : Nat} (hp : ∀ k, (o k).Pairwise (· < ·)) : ∀ (k : Nat) (f : Nat → Option Nat) (Q : List Nat) (T : Nat → Nat) (N : Nat), BfT o s f Q T N → ∀ f' x, bfsB o s k f Q = some (f', x) →
    ∃ T' : Nat → Nat, OrdB o s f' T' ∧ VisB f' s x ∧ ∀ z, VisB f' s z → T' z < T' x → ∀ y ∈ o z, y ≠ s ∧ (f' y).isSome = true
  | 0, f, Q, _, _, _, _, _, h => by cases h
  | k + 1, f, [], _, _, _, _, _, h => by cases h
  | k + 1, f, z :: Q, T, N, H, f', x, h => by
    obtain ⟨T', N', rs, a1, a2, a3⟩ := inn_ord (o z) f Q T N H.inn (hp z)
    unfold bfsB at h
    by_cases hf : (innB s z (o z) f Q).1 = true
    · rw [if_pos hf] at h
      cases h
      refine ⟨T', a1.ob, a1.visx, fun y hy hlt => ?_⟩
      rcases a1.gone y hy with h | h | h
      · subst h; omega
      · have := a1.up y h; omega
      · exact h
    · rw [if_neg hf] at h
      have hf' : (innB s z (o z) f Q).1 = false := by simpa using hf
      refine bfs_ord hp k _ _ T' N' ⟨a1.ob, a1.lt, a1.line, a1.vis, fun y p hy q hq => ?_, fun y hy => ?_⟩ f' x h
      · have := a1.parx y p hy
        have := a1.up q hq
        omega
      · rcases a1.gone y hy with h1 | h1 | h1
        · subst h1
          exact .inr (a3 hf')
        · exact .inl h1
        · exact .inr h1

end Go.Proofs.Ytgkgdbdapkgkgaa
