/- Several texts in one. -/
import Derived.Test.YtgkgdbdapkgkgaaGrpG
import Derived.Test.YtgkgdbdapkgkgaaGrpS
import Derived.Test.YtgkgdbdapkgkgaaKeyArg
import Derived.Deep.Strs
import Derived.Deep.AppendSrc

/- Whoever isn't waited for goes, as long as there is one: what is left goes round. -/
namespace Go.Proofs.Ytgkgdbdapkgkgaa
set_option linter.unusedVariables false

/-- in the order in which they go: whoever waits for one has gone ahead of it (the last one first) -/
def TopO (e : Nat → List Nat) (ks : List Nat) : List Nat → Prop
  | [] => True
  | y :: P => (∀ k ∈ ks, y ∈ e k → k ∈ P) ∧ TopO e ks P

def rnk : List Nat → Nat → Nat
  | [], _ => 0
  | y :: P, x => if x = y then P.length + 1 else rnk P x

theorem rnk_le : ∀ (P : List Nat) (x : Nat), rnk P x ≤ P.length
  | [], _ => Nat.le_refl _
  | y :: P, x => by
    unfold rnk
    have := rnk_le P x
    split
    · simp
    · simp; omega

theorem rnk_lt {e : Nat → List Nat} {ks : List Nat} : ∀ (P : List Nat), TopO e ks P → P.Nodup → ∀ x k, x ∈ P → k ∈ ks → x ∈ e k → k ∈ P ∧ rnk P k < rnk P x
  | [], _, _, x, k, hx, _, _ => by cases hx
  | y :: P, ht, hd, x, k, hx, hk, hxe => by
    have hy := (List.nodup_cons.1 hd).1
    have hP := (List.nodup_cons.1 hd).2
    by_cases e1 : x = y
    · subst e1
      have h1 := ht.1 k hk hxe
      have hne : k ≠ x := fun h => hy (h ▸ h1)
      refine ⟨List.mem_cons_of_mem _ h1, ?_⟩
      unfold rnk
      rw [if_neg hne, if_pos rfl]
      have := rnk_le P k
      omega
    · have hxP : x ∈ P := by
        rcases List.mem_cons.1 hx with h | h
        · exact absurd h e1
        · exact h
      obtain ⟨h1, h2⟩ := rnk_lt P ht.2 hP x k hxP hk hxe
      have hne : k ≠ y := fun h => hy (h ▸ h1)
      refine ⟨List.mem_cons_of_mem _ h1, ?_⟩
      unfold rnk
      rw [if_neg hne, if_neg e1]
      exact h2

theorem reach_first {e : Nat → List Nat} {a : Nat} : ∀ n b, Reach e a n b → e a ≠ []
  | 0, b, h => fun h0 => by
    have h : b ∈ e a := h
    rw [h0] at h; cases h
  | n + 1, b, h => by
    obtain ⟨c, hc, _⟩ := h
    exact reach_first n c hc

theorem topo_reach {e : Nat → List Nat} {ks P : List Nat} (hks : ∀ k, k ∈ ks ↔ e k ≠ []) (hP : ∀ k ∈ ks, k ∈ P) (ht : TopO e ks P) (hd : P.Nodup) (a : Nat) : ∀ n b, Reach e a n b → b ∈ ks → rnk P a < rnk P b
  | 0, b, h, hb => by
    have h : b ∈ e a := h
    have ha : a ∈ ks := (hks a).2 fun h0 => by rw [h0] at h; cases h
    exact (rnk_lt P ht hd b a (hP b hb) ha h).2
  | n + 1, b, h, hb => by
    obtain ⟨c, hc, hbc⟩ := h
    have hcs : c ∈ ks := (hks c).2 fun h0 => by rw [h0] at hbc; cases hbc
    exact Nat.lt_trans (topo_reach hks hP ht hd a n c hc hcs) (rnk_lt P ht hd b c (hP b hb) hcs hbc).2

/-- all have gone: nothing goes round -/
theorem topo_free {e : Nat → List Nat} {ks P : List Nat} (hks : ∀ k, k ∈ ks ↔ e k ≠ []) (hP : ∀ k ∈ ks, k ∈ P) (ht : TopO e ks P) (hd : P.Nodup) (n s : Nat) : ¬ Reach e s n s := fun h =>
  Nat.lt_irrefl _ (topo_reach hks hP ht hd s n s h ((hks s).2 (reach_first n s h)))

theorem reach_cons {e : Nat → List Nat} {z y : Nat} (hy : y ∈ e z) : ∀ n b, Reach e y n b → Reach e z (n + 1) b
  | 0, b, h => ⟨y, hy, h⟩
  | n + 1, b, h => by
    obtain ⟨c, hc, hb⟩ := h
    exact ⟨c, reach_cons hy n c hc, hb⟩

/-- each waits for the next -/
def Chn (e : Nat → List Nat) : List Nat → Prop
  | [] => True
  | x :: l => (match l with | [] => True | y :: _ => y ∈ e x) ∧ Chn e l

theorem chn_reach {e : Nat → List Nat} : ∀ (r : List Nat) (y z : Nat), Chn e (y :: r) → z ∈ y :: r → z = y ∨ ∃ n, Reach e y n z
  | [], y, z, _, hz => .inl (List.mem_singleton.1 hz)
  | y' :: r, y, z, hc, hz => by
    rcases List.mem_cons.1 hz with h | h
    · exact .inl h
    · have hy : y' ∈ e y := hc.1
      rcases chn_reach r y' z hc.2 h with h | ⟨n, h⟩
      · subst h; exact .inr ⟨0, hy⟩
      · exact .inr ⟨n + 1, reach_cons hy n z h⟩

theorem chn_ex {e : Nat → List Nat} {S : List Nat} (hp : ∀ x ∈ S, ∃ z ∈ S, x ∈ e z) {x0 : Nat} (h0 : x0 ∈ S) : ∀ n, (∃ s n, Reach e s n s) ∨ ∃ y r, r.length = n ∧ (y :: r).Nodup ∧ Chn e (y :: r) ∧ ∀ x ∈ y :: r, x ∈ S
  | 0 => .inr ⟨x0, [], rfl, by simp, ⟨trivial, trivial⟩, fun x hx => by rw [List.mem_singleton.1 hx]; exact h0⟩
  | n + 1 => by
    rcases chn_ex hp h0 n with h | ⟨y, r, hl, hd, hc, hS⟩
    · exact .inl h
    · obtain ⟨z, hz, hy⟩ := hp y (hS y (by simp))
      by_cases h : z ∈ y :: r
      · left
        rcases chn_reach r y z hc h with h | ⟨m, h⟩
        · subst h; exact ⟨z, 0, hy⟩
        · exact ⟨z, m + 1, reach_cons hy m z h⟩
      · refine .inr ⟨z, y :: r, by simp [hl], List.nodup_cons.2 ⟨h, hd⟩, ⟨hy, hc⟩, fun x hx => ?_⟩
        rcases List.mem_cons.1 hx with h | h
        · rw [h]; exact hz
        · exact hS x h

/-- some are left, and each of them is waited for by one of them: something goes round -/
theorem left_round {e : Nat → List Nat} {S : List Nat} (hp : ∀ x ∈ S, ∃ z ∈ S, x ∈ e z) {x0 : Nat} (h0 : x0 ∈ S) : ∃ s n, Reach e s n s := by
  rcases chn_ex hp h0 S.length with h | ⟨y, r, hl, hd, _, hS⟩
  · exact h
  · have := sub_len (y :: r) S hd hS
    simp at this
    omega

/-- how many that are left wait for one -/
def cntP (e : Nat → List Nat) (ks P : List Nat) (x : Nat) : Nat := (ks.filter fun k => decide (k ∉ P) && decide (x ∈ e k)).length

theorem cntP_nil (e : Nat → List Nat) (ks : List Nat) (x : Nat) : cntP e ks [] x = cntK e ks x := by
  unfold cntP cntK
  simp

theorem cntP_zero {e : Nat → List Nat} {ks P : List Nat} {x : Nat} : cntP e ks P x = 0 ↔ ∀ k ∈ ks, x ∈ e k → k ∈ P := by
  unfold cntP
  rw [List.length_eq_zero_iff, List.filter_eq_nil_iff]
  constructor
  · intro h k hk hx
    have := h k hk
    simpa [hx] using this
  · intro h k hk
    by_cases hx : x ∈ e k
    · simp [hx, h k hk hx]
    · simp [hx]

theorem cntP_cons {e : Nat → List Nat} {P : List Nat} {y x : Nat} (hy : y ∉ P) : ∀ (ks : List Nat), ks.Nodup → cntP e ks P x = cntP e ks (y :: P) x + if y ∈ ks ∧ x ∈ e y then 1 else 0
  | [], _ => by simp [cntP]
  | a :: r, hd => by
    have ha := (List.nodup_cons.1 hd).1
    have ih := cntP_cons (e := e) (x := x) hy r (List.nodup_cons.1 hd).2
    unfold cntP at ih ⊢
    rw [List.filter_cons, List.filter_cons]
    by_cases e1 : a = y
    · subst e1
      have e2 : ¬ (a ∈ r ∧ x ∈ e a) := fun h => ha h.1
      rw [if_neg e2] at ih
      by_cases hx : x ∈ e a
      · simp [hy, hx] at ih ⊢; omega
      · simp [hy, hx] at ih ⊢; omega
    · have e2 : (y ∈ a :: r ∧ x ∈ e y) ↔ (y ∈ r ∧ x ∈ e y) := by
        constructor
        · rintro ⟨h, h2⟩
          rcases List.mem_cons.1 h with h | h
          · exact absurd h.symm e1
          · exact ⟨h, h2⟩
        · exact fun h => ⟨List.mem_cons_of_mem _ h.1, h.2⟩
      simp only [e2]
      have e3 : (a ∉ y :: P) ↔ a ∉ P := by simp [e1]
      simp only [e3]
      split
      · simp only [List.length_cons]; omega
      · exact ih

end Go.Proofs.Ytgkgdbdapkgkgaa

/- graph.Free's two loops, in pure terms; a map's size. -/
namespace Go.Proofs.Ytgkgdbdapkgkgaa
open Go.RowKit Go.Maps Go.WideElems
set_option linter.unusedVariables false
set_option linter.unusedSimpArgs false

/-- who has gone (P), who is loose (Q) -/
structure FrI (e : Nat → List Nat) (ks P Q : List Nat) : Prop where
  pd : P.Nodup
  pk : ∀ x ∈ P, x ∈ ks
  top : TopO e ks P
  qd : Q.Nodup
  qk : ∀ x ∈ Q, x ∈ ks
  ap : ∀ x ∈ P, x ∉ Q
  zero : ∀ x ∈ ks, (x ∈ P ∨ x ∈ Q) ↔ cntP e ks P x = 0

/-- while one goes: y, whose links ss have been counted off -/
structure InI (e : Nat → List Nat) (ks P Q ss : List Nat) (y : Nat) (f : Nat → Nat) : Prop where
  qd : Q.Nodup
  qk : ∀ x ∈ Q, x ∈ ks
  ap : ∀ x ∈ y :: P, x ∉ Q
  zero : ∀ x ∈ ks, (x ∈ y :: P ∨ x ∈ Q) ↔ f x = 0
  val : ∀ x, f x = cntP e ks (y :: P) x + if x ∈ e y ∧ x ∉ ss then 1 else 0

theorem FrI.first {e : Nat → List Nat} {ks Q : List Nat} (hd : Q.Nodup) (h : ∀ x, x ∈ Q ↔ x ∈ ks ∧ cntK e ks x = 0) : FrI e ks [] Q :=
  ⟨List.nodup_nil, fun x hx => (by cases hx), trivial, hd, fun x hx => ((h x).1 hx).1, fun x hx => (by cases hx), fun x hx => by
    rw [cntP_nil, h x]
    simp [hx]⟩

theorem FrI.pop {e : Nat → List Nat} {ks P Q : List Nat} {y : Nat} (h : FrI e ks P (Q ++ [y])) (hd : ks.Nodup) : InI e ks P Q [] y (cntP e ks P) := by
  have hy : y ∉ P := fun hp => h.ap y hp (by simp)
  have hyk : y ∈ ks := h.qk y (by simp)
  have hq := List.nodup_append.1 h.qd
  refine ⟨hq.1, fun x hx => h.qk x (by simp [hx]), fun x hx hxQ => ?_, fun x hx => ?_, fun x => ?_⟩
  · rcases List.mem_cons.1 hx with e1 | e1
    · subst e1; exact hq.2.2 x hxQ x (by simp) rfl
    · exact h.ap x e1 (by simp [hxQ])
  · rw [← h.zero x hx]
    simp only [List.mem_cons, List.mem_append, List.mem_singleton, List.not_mem_nil, or_false]
    constructor
    · rintro ((e1 | e1) | e1)
      · exact .inr (.inr e1)
      · exact .inl e1
      · exact .inr (.inl e1)
    · rintro (e1 | e1 | e1)
      · exact .inl (.inr e1)
      · exact .inr e1
      · exact .inl (.inl e1)
  · rw [cntP_cons hy ks hd]
    simp [hyk]

theorem InI.hit {e : Nat → List Nat} {ks P Q ss : List Nat} {y x : Nat} {f : Nat → Nat} (h : InI e ks P Q ss y f) (hx : x ∈ e y) (hs : x ∉ ss) : f x = cntP e ks (y :: P) x + 1 := by
  rw [h.val x, if_pos ⟨hx, hs⟩]

theorem InI.out {e : Nat → List Nat} {ks P Q ss : List Nat} {y x : Nat} {f : Nat → Nat} (h : InI e ks P Q ss y f) (hx : x ∈ e y) (hs : x ∉ ss) (hk : x ∈ ks) : x ∉ y :: P ∧ x ∉ Q := by
  have h1 := h.hit hx hs
  have h2 := h.zero x hk
  exact ⟨fun h9 => by have := h2.1 (.inl h9); omega, fun h9 => by have := h2.1 (.inr h9); omega⟩

theorem InI.valS {e : Nat → List Nat} {ks P Q ss : List Nat} {y x : Nat} {f : Nat → Nat} (h : InI e ks P Q ss y f) (hx : x ∈ e y) (hs : x ∉ ss) (z : Nat) : (if z = x then cntP e ks (y :: P) x else f z) = cntP e ks (y :: P) z + if z ∈ e y ∧ z ∉ ss ++ [x] then 1 else 0 := by
  by_cases e1 : z = x
  · subst e1; simp
  · rw [if_neg e1, h.val z]
    simp [e1]

theorem InI.push {e : Nat → List Nat} {ks P Q ss : List Nat} {y x : Nat} {f : Nat → Nat} (h : InI e ks P Q ss y f) (hx : x ∈ e y) (hs : x ∉ ss) (hk : x ∈ ks) (h0 : cntP e ks (y :: P) x = 0) : InI e ks P (Q ++ [x]) (ss ++ [x]) y (fun z => if z = x then cntP e ks (y :: P) x else f z) := by
  obtain ⟨o1, o2⟩ := h.out hx hs hk
  refine ⟨List.nodup_append.2 ⟨h.qd, by simp, fun a ha b hb e1 => by rw [List.mem_singleton] at hb; subst hb; subst e1; exact o2 ha⟩, fun z hz => ?_, fun z hz hq => ?_, fun z hz => ?_, h.valS hx hs⟩
  · rcases List.mem_append.1 hz with h9 | h9
    · exact h.qk z h9
    · rw [List.mem_singleton.1 h9]; exact hk
  · rcases List.mem_append.1 hq with h9 | h9
    · exact h.ap z hz h9
    · rw [List.mem_singleton.1 h9] at hz; exact o1 hz
  · by_cases e1 : z = x
    · subst e1
      rw [if_pos rfl]
      exact ⟨fun _ => h0, fun _ => .inr (by simp)⟩
    · rw [if_neg e1, ← h.zero z hz]
      simp [e1]

theorem InI.stay {e : Nat → List Nat} {ks P Q ss : List Nat} {y x : Nat} {f : Nat → Nat} (h : InI e ks P Q ss y f) (hx : x ∈ e y) (hs : x ∉ ss) (h0 : x ∈ ks → cntP e ks (y :: P) x ≠ 0) : InI e ks P Q (ss ++ [x]) y (fun z => if z = x then cntP e ks (y :: P) x else f z) := by
  refine ⟨h.qd, h.qk, h.ap, fun z hz => ?_, h.valS hx hs⟩
  by_cases e1 : z = x
  · subst e1
    rw [if_pos rfl]
    obtain ⟨o1, o2⟩ := h.out hx hs hz
    exact ⟨fun h9 => h9.elim (fun h9 => absurd h9 o1) (fun h9 => absurd h9 o2), fun h9 => absurd h9 (h0 hz)⟩
  · rw [if_neg e1]; exact h.zero z hz

theorem InI.done {e : Nat → List Nat} {ks P Q0 Q ss : List Nat} {y : Nat} {f : Nat → Nat} (h : InI e ks P Q ss y f) (h0 : FrI e ks P (Q0 ++ [y])) (hs : ∀ x, x ∈ ss ↔ x ∈ e y) : FrI e ks (y :: P) Q ∧ ∀ x, f x = cntP e ks (y :: P) x := by
  have hv : ∀ x, f x = cntP e ks (y :: P) x := fun x => by
    rw [h.val x, if_neg (fun h9 => h9.2 ((hs x).2 h9.1))]; rfl
  have hyk : y ∈ ks := h0.qk y (by simp)
  refine ⟨⟨List.nodup_cons.2 ⟨fun hp => h0.ap y hp (by simp), h0.pd⟩, fun x hx => ?_, ⟨?_, h0.top⟩, h.qd, h.qk, h.ap, fun x hx => by rw [h.zero x hx, hv x]⟩, hv⟩
  · rcases List.mem_cons.1 hx with e1 | e1
    · rw [e1]; exact hyk
    · exact h0.pk x e1
  · exact cntP_zero.1 ((h0.zero y hyk).1 (.inr (by simp)))

/-- all have gone, or some go round -/
theorem FrI.free {e : Nat → List Nat} {ks P : List Nat} (h : FrI e ks P []) (hks : ∀ k, k ∈ ks ↔ e k ≠ []) (hl : ks.length ≤ P.length) (n s : Nat) : ¬ Reach e s n s := by
  refine topo_free hks (fun k hk => ?_) h.top h.pd n s
  by_cases h9 : k ∈ P
  · exact h9
  · have := sub_len (k :: P) ks (List.nodup_cons.2 ⟨h9, h.pd⟩) (fun x hx => by
      rcases List.mem_cons.1 hx with e1 | e1
      · rw [e1]; exact hk
      · exact h.pk x e1)
    simp at this
    omega

theorem FrI.round {e : Nat → List Nat} {ks P : List Nat} (h : FrI e ks P []) (hd : ks.Nodup) (hl : P.length < ks.length) : ∃ s n, Reach e s n s := by
  have hx : ∃ x ∈ ks, x ∉ P := by
    refine Classical.byContradiction fun h9 => ?_
    have := sub_len ks P hd (fun x hx => Classical.byContradiction fun h8 => h9 ⟨x, hx, h8⟩)
    omega
  obtain ⟨x0, h0, h1⟩ := hx
  refine left_round (S := ks.filter fun k => decide (k ∉ P)) (fun x hx => ?_) (List.mem_filter.2 ⟨h0, by simpa using h1⟩)
  obtain ⟨hk, hp⟩ := List.mem_filter.1 hx
  have hp : x ∉ P := by simpa using hp
  refine Classical.byContradiction fun h9 => ?_
  have h8 : cntP e ks P x = 0 := cntP_zero.2 fun k hk hxk => Classical.byContradiction fun h7 => h9 ⟨k, List.mem_filter.2 ⟨hk, by simpa using h7⟩, hxk⟩
  rcases (h.zero x hk).2 h8 with h7 | h7
  · exact hp h7
  · cases h7

/-- the number in a key -/
def natL : Lit → Nat
  | .int _ v => v.toNat
  | _ => 0

theorem natL_litU (x : Nat) : natL (litU x) = x := by
  unfold natL litU
  simp

theorem keys_litU {w : World} {b n : Nat} {D : DataW Unit} {R : Value → Option (DataW Unit × List MemPlace)} (h : w.ownsMap Try.prog 30 R b n D) : ∃ es, D = .map es ∧ es.Pairwise (fun p q => p.1 ≠ q.1) ∧ ∀ p ∈ es, ∃ x : Nat, p.1 = litU x ∧ x < 18446744073709551616 := by
  obtain ⟨es, h1, h2, _⟩ := h.entries (int_keyed Try.underlying30)
  subst h1
  refine ⟨es, rfl, h2, fun p hp => ?_⟩
  obtain ⟨es', clock, _, F, _, hD⟩ := h
  simp only [DataW.map.injEq] at hD
  rw [hD] at hp
  obtain ⟨x, hx, rfl⟩ := List.mem_map.1 (mem_sorted.1 hp)
  obtain ⟨y, hy⟩ := F.reads x hx
  rw [rg_of hy]
  obtain ⟨v, hv⟩ := keyQ_inv _ _ (rd_key hy)
  have hk := rd_key hy
  rw [hv] at hk
  obtain ⟨k, _, e2, e3⟩ := keyQ_lit hk
  exact ⟨k, e2, e3⟩

theorem key_lt {w : World} {b n : Nat} {D : DataW Unit} {R : Value → Option (DataW Unit × List MemPlace)} (h : w.ownsMap Try.prog 30 R b n D) {x : Nat} (hx : has D (litU x) = true) : x < 18446744073709551616 := by
  obtain ⟨es, rfl, hp, hl⟩ := keys_litU h
  unfold has at hx
  obtain ⟨p, hp, he⟩ := List.any_eq_true.1 hx
  obtain ⟨z, hz, hlt⟩ := hl p hp
  rw [hz, litU_same] at he
  have : z = x := of_decide_eq_true he
  omega

/-- a map's size: of its keys, each once -/
theorem size_keys {w : World} {b n : Nat} {D : DataW Unit} {R : Value → Option (DataW Unit × List MemPlace)} {ks : List Nat} (h : w.ownsMap Try.prog 30 R b n D) (hd : ks.Nodup) (hk : ∀ k, k ∈ ks ↔ has D (litU k) = true) : Maps.size D = ks.length := by
  obtain ⟨es, rfl, hp, hl⟩ := keys_litU h
  have e1 : Maps.size (DataW.map es) = es.length := rfl
  rw [e1]
  have hasE : ∀ x : Nat, has (DataW.map es) (litU x) = true ↔ x ∈ es.map fun p => natL p.1 := fun x => by
    unfold has
    rw [List.any_eq_true, List.mem_map]
    constructor
    · rintro ⟨p, hp, he⟩
      obtain ⟨z, hz, _⟩ := hl p hp
      rw [hz, litU_same] at he
      exact ⟨p, hp, by rw [hz, natL_litU]; exact of_decide_eq_true he⟩
    · rintro ⟨p, hp, he⟩
      obtain ⟨z, hz, _⟩ := hl p hp
      rw [hz, natL_litU] at he
      exact ⟨p, hp, by rw [hz, litU_same, he]; simp⟩
  have hnd : (es.map fun p => natL p.1).Nodup := by
    rw [List.Nodup, List.pairwise_map]
    refine List.Pairwise.imp_of_mem (R := fun p q => p.1 ≠ q.1) (fun {p q} hp hq h9 h8 => h9 ?_) hp
    obtain ⟨a, ha, _⟩ := hl p hp
    obtain ⟨c, hc, _⟩ := hl q hq
    rw [ha, hc, natL_litU, natL_litU] at h8
    rw [ha, hc, h8]
  have h1 := sub_len _ ks hnd (fun x hx => (hk x).2 ((hasE x).2 hx))
  have h2 := sub_len ks _ hd (fun x hx => (hasE x).1 ((hk x).1 hx))
  rw [List.length_map] at h1 h2
  omega

theorem OwnU.take {B : Nat} {w : World} {c : Nat} {ns : List Nat} {a : Option Addr} {n : Nat} (h : OwnU B w (.slice a n c) ns) (hn : ns.length = n) (k : Nat) (hk : k ≤ n) (h0 : 0 < n) : OwnU B w (.slice a k c) (ns.take k) := by
  subst hn
  unfold OwnU at h ⊢
  obtain ⟨h1, h2⟩ := h
  rcases h2 with ⟨_, h9⟩ | ⟨g', c', cur, e, hb0, hb, hc1, hc2, hsz, hcs⟩
  · omega
  · cases e
    have hl : (ns.take k).length = k := by rw [List.length_take]; omega
    refine ⟨by simp, .inr ⟨g', c, cur, by rw [hl], hb0, hb, by omega, hc2, hsz, ?_⟩⟩
    rw [hl, List.map_take, ← hcs, List.take_take]
    congr 1
    omega

end Go.Proofs.Ytgkgdbdapkgkgaa

/- graph.Free. -/
namespace Go.Proofs.Ytgkgdbdapkgkgaa
set_option maxRecDepth 100000
open Go.RowKit Go.Maps
set_option linter.unusedVariables false
set_option linter.unusedSimpArgs false

/-- what Free answers -/
def FreePost (w : World) (e : Nat → List Nat) (e' : Ending) (w' : World) : Prop :=
  Below w.heap.size w w' ∧ ∃ bb : Bool, e' = .returned (.bool bb) ∧ (bb = true → ∀ n s, ¬ Reach e s n s) ∧ (bb = false → ∃ s n, Reach e s n s)

theorem own_cells {B : Nat} {w : World} {v : Value} {ns : List Nat} (h : OwnU B w v ns) {q : Nat} (hq : v.ownBlock = some q) : ∃ cur, w.heap[q]? = some (.cells cur 30 (0, 0)) := by
  rcases h.2 with ⟨rfl, _⟩ | ⟨g, c, cur, rfl, _, hc, _⟩
  · cases hq
  · cases hq
    exact ⟨cur, hc⟩

theorem own_neC {B : Nat} {w : World} {v : Value} {ns : List Nat} {c N : Nat} {f : Nat → Nat} (h : OwnU B w v ns) (hm : MapC w c N f) : v.ownBlock ≠ some c := fun hq => by
  obtain ⟨cur, hc⟩ := own_cells h hq
  obtain ⟨D, ⟨es, clock, hb, _⟩, _⟩ := hm
  rw [hc] at hb
  cases hb

theorem own_neR {B : Nat} {w : World} {v : Value} {ns : List Nat} {b r n cnt : Nat} {R : Value → Option (DataW Unit × List MemPlace)} {D : DataW Unit} {left : Lit → Bool} (h : OwnU B w v ns) (hr : w.ranges Try.prog 30 R b r n D left cnt) : v.ownBlock ≠ some b ∧ v.ownBlock ≠ some r := by
  obtain ⟨es, clock, since, seen, c0, hb, F, hs, hD, hr, rest⟩ := hr
  refine ⟨fun hq => ?_, fun hq => ?_⟩
  · obtain ⟨cur, hc⟩ := own_cells h hq
    rw [hc] at hb; cases hb
  · obtain ⟨cur, hc⟩ := own_cells h hq
    rw [hc] at hr; cases hr

theorem own_same {B : Nat} {w w' : World} {v : Value} {ns : List Nat} (h : OwnU B w v ns) (hk : ∀ q, v.ownBlock = some q → w'.heap[q]? = w.heap[q]?) : OwnU B w' v ns := row_same9 h hk

theorem len_nilS (w : World) (ty : TypeId) : (Builtin.len_ #[56] ty #[.map none]).run Try.prog w = .ok (.int .i64 0) w := by kernel_rfl

set_option maxHeartbeats 8000000 in
theorem free_any (B : Nat) (w : World) (g n : Nat) (e : Nat → List Nat) (h : GrQ B w g n e) (hn : n ≤ 100000) :
    Calls Try.prog 17 #[.pointer (some ⟨g, 0, none⟩)] w (FreePost w e) := by
  have he := eqG g
  have haw := awaited_any B w g n e h hn
  obtain ⟨m, hh, h1, h2, h3, h4, h5, h6, h7, h8⟩ := h
  have hgl : g < w.heap.size := World.block_lt_of_cell? w _ h4
  have HH : Hid (MapE w m n hh ∧ LnkP B w g m n hh e ∧ n ≤ 100000 ∧ g < w.heap.size ∧ w.cell? ⟨g, 0, none⟩ = some (.map (some m))) := ⟨h5, ⟨h6, h7, h8⟩, hn, hgl, h4⟩
  obtain ⟨D, hmp, hmat⟩ := h5
  have HD : Hid (w.ownsMap Try.prog 30 mapR m n D ∧ MatD D hh) := ⟨hmp, hmat⟩
  clear h1 h2 h3 h4 h6 h7 h8 hmp hmat hn hgl
  go_enter Try.func17, Try.ntmps17
  go_wp2_with fail
  refine haw.mono ?_
  rintro e1 w1 ⟨c, N, ks, rfl, hN, hkd, hkl, hks, hmc, hcw, hb1⟩
  have hmp1 := owns_block HD.out.1 (hb1.block m HD.out.1.lt)
  have c1 : w1.cell? ⟨g, 0, none⟩ = some (.map (some m)) := (hb1.cell (p := ⟨g, 0, none⟩) HH.out.2.2.2.1).trans HH.out.2.2.2.2
  have hsz : Maps.size D = ks.length := size_keys HD.out.1 hkd (fun k => by
    rw [hks, (HD.out.2 k).1]
    cases h9 : hh k with
    | none => simp [HH.out.2.1.no k h9]
    | some b => simp [(HH.out.2.1.st k b h9).1])
  have HK : Hid (ks.Nodup ∧ ks.length ≤ 100000 ∧ (∀ k, k ∈ ks ↔ e k ≠ []) ∧ N ≤ 11000000000 ∧ w.heap.size ≤ c ∧ Maps.size D = ks.length) := ⟨hkd, hkl, hks, hN, hcw, hsz⟩
  have H1 : Hid (MapC w1 c N (cntK e ks) ∧ Below w.heap.size w w1) := ⟨hmc, hb1⟩
  clear haw hN hkd hkl hks hmc hcw hb1
  go_wp2_with (first
    | (at_range; refine wpList_range_own _ rfl _ 43 rfl 30 56 (int_keyed Try.underlying30) Try.underlying43 mapR m n D rfl hmp1 ?_; intro w0 hrg0 hg0 hs0)
    | fail)
  try go_frame
  have H0 : Hid (MapC w0 c N (cntK e ks) ∧ Below w.heap.size w w0 ∧ w1.heap.size < w0.heap.size) := by
    have hk0 : Keeps (fun _ => False) w1 w0 := keeps_grown hg0 (fun q e => by cases e)
    exact ⟨H1.out.1.same (hk0.block _ H1.out.1.lt (fun h => h)), H1.out.2.trans (hk0.below (fun _ h => h.elim) H1.out.2.size), by omega⟩
  clear hg0 hs0 hmp1 c1 hsz
  go_loopg [4] (Maps.size D) (fun gk lv wr => ∃ left, wr.ranges Try.prog 30 mapR m w1.heap.size n D left gk ∧ ∃ (na ca : Nat) (aa : Option Addr), lv = .slice aa na ca ∧ Hid (∃ ss Q, CollU D left ss ∧ ss.length + gk ≤ ks.length ∧ (∀ x, x ∈ Q ↔ x ∈ ss ∧ cntK e ks x = 0) ∧ Q.Nodup ∧ Q.length = na ∧ OwnU w.heap.size wr (.slice aa na ca) Q ∧ MapC wr c N (cntK e ks) ∧ Below w.heap.size w wr ∧ w1.heap.size < wr.heap.size))
  case atStart => exact ⟨_, hrg0, 0, 0, none, rfl, [], [], CollU.start D, by have := HK.out.2.2.2.2.2; simpa using Nat.le_of_eq this, by simp, List.nodup_nil, rfl, World.ownsRow_nil _ _ _ _, H0.out.1, H0.out.2.1, H0.out.2.2⟩
  case round =>
    obtain ⟨left, hrg, na, ca, aa, rfl, HC⟩ := hrel
    have cr : wr.cell? ⟨g, 0, none⟩ = some (.map (some m)) := by
      obtain ⟨ss, Q, p1, p2, p3, p4, p5, p6, p7, p8, p9⟩ := HC.out
      exact (p8.cell (p := ⟨g, 0, none⟩) HH.out.2.2.2.1).trans HH.out.2.2.2.2
    have hln := hrg.owns.len Try.underlying43
    rw [HK.out.2.2.2.2.2] at hln
    obtain ⟨L, hL⟩ : ∃ L, ks.length = L := ⟨_, rfl⟩
    have HL : Hid (ks.length = L) := hL
    rw [hL] at hln
    clear hL
    go_wp2_with (at_next; refine wpList_next_ranges _ rfl _ rfl 30 (int_keyed Try.underlying30) mapR (Value.int .u64) (fun o : Option Nat => Value.map o) keyQ_inv mapQ_inv m w1.heap.size n D left gk rfl hrg ?_ ?_; intro hc0 hl0; rotate_left; intro x o kl y wn cnt1 hkey hlk hv hat hrg1 hlt9 hg1 hs1 hen; rotate_left)
    · have HF : Hid (∃ Q, FrI e ks [] Q ∧ Q.length = na ∧ OwnU w.heap.size wr (.slice aa na ca) Q ∧ MapC wr c N (cntP e ks []) ∧ Below w.heap.size w wr) := by
        obtain ⟨ss, Q, p1, p2, p3, p4, p5, p6, p7, p8, p9⟩ := HC.out
        refine ⟨Q, FrI.first p4 (fun x => ?_), p5, p6, p7.eqv (fun x => (cntP_nil e ks x).symm), p8⟩
        rw [p3 x, p1.2 x, hl0, HK.out.2.2.1 x, (HD.out.2 x).1]
        cases h9 : hh x with
        | none => simp [HH.out.2.1.no x h9]
        | some b => simp [(HH.out.2.1.st x b h9).1]
      clear HC hc0 hl0
      clear hrg cr hln
      go_loopg [4, 6] L (fun gk lv av wr => ∃ (na ca : Nat) (aa : Option Addr), lv = .slice aa na ca ∧ av = .int .i64 (gk : Int) ∧ Hid (∃ P Q N2, FrI e ks P Q ∧ Q.length = na ∧ OwnU w.heap.size wr (.slice aa na ca) Q ∧ MapC wr c N2 (cntP e ks P) ∧ N2 ≤ 11000000000 + P.length * 100000 ∧ P.length + gk = L ∧ Below w.heap.size w wr))
      case atStart =>
        obtain ⟨Q, r1, r2, r3, r4, r5⟩ := HF.out
        exact ⟨na, ca, aa, rfl, rfl, [], Q, N, r1, r2, r3, r4, by have := HK.out.2.2.2.1; simpa using this, by simp, r5⟩
      case round =>
        obtain ⟨na, ca, aa, rfl, rfl, HS⟩ := hrel
        clear HF
        by_cases hna : na = 0
        · subst hna
          by_cases hgk : gk = 0
          · subst hgk
            have HE : Hid (FreePost w e (.returned (.bool true)) wr) := by
              obtain ⟨P, Q, N2, r1, r2, r3, r4, r5, r6, r7⟩ := HS.out
              have hQ := List.eq_nil_of_length_eq_zero r2
              subst hQ
              exact ⟨r7, true, rfl, fun _ => r1.free HK.out.2.2.1 (by have := HL.out; omega), fun h9 => by cases h9⟩
            clear HS
            go_wp2_with fail
            go_ret
            exact HE.out
          · have hgI : ¬ (gk : Int) = 0 := by omega
            have HE : Hid (FreePost w e (.returned (.bool ((gk : Int) == 0))) wr) := by
              rw [show ((gk : Int) == 0) = false by simp [hgk]]
              obtain ⟨P, Q, N2, r1, r2, r3, r4, r5, r6, r7⟩ := HS.out
              have hQ := List.eq_nil_of_length_eq_zero r2
              subst hQ
              exact ⟨r7, false, rfl, fun h9 => (by cases h9), fun _ => r1.round HK.out.1 (by have := HL.out; omega)⟩
            clear HS
            go_wp2_with fail
            go_ret
            exact HE.out
        · obtain ⟨M, hM⟩ : ∃ M, M + 1 = na := ⟨na - 1, by omega⟩
          have hnaI : ¬ (na : Int) = 0 := by omega
          have hnaP : 0 < na := by omega
          obtain ⟨P, Q, N2, r1, r2, r3, r4, r5, r6, r7⟩ := HS.out
          have hQn : Q ≠ [] := fun h9 => by rw [h9] at r2; exact hna r2.symm
          obtain ⟨Q0, y, hQ⟩ : ∃ Q0 y, Q = Q0 ++ [y] := ⟨Q.dropLast, Q.getLast hQn, (List.dropLast_concat_getLast hQn).symm⟩
          subst hQ
          have hl0 : Q0.length = M := by rw [List.length_append] at r2; simp at r2; omega
          have hql := sub_len _ ks r1.qd r1.qk
          have yM : M < 1152921504606846976 := by have := HK.out.2.1; omega
          have hyk : y ∈ ks := r1.qk y (by simp)
          have hyP : y ∉ P := fun h9 => r1.ap y h9 (by simp)
          have hPl : P.length + 1 ≤ L := by
            have := sub_len (y :: P) ks (List.nodup_cons.2 ⟨hyP, r1.pd⟩) (fun x hx => by
              rcases List.mem_cons.1 hx with e1 | e1
              · rw [e1]; exact hyk
              · exact r1.pk x e1)
            have := HL.out
            simp at *
            omega
          obtain ⟨b, hb⟩ : ∃ b, hh y = some b := by
            cases h9 : hh y with
            | none => exact absurd (HH.out.2.1.no y h9) ((HK.out.2.2.1 y).1 hyk)
            | some b => exact ⟨b, rfl⟩
          have hyn : y < 18446744073709551616 := key_lt HD.out.1 (by rw [(HD.out.2 y).1, hb]; rfl)
          obtain ⟨bq, cq, eq9, hcq, c0⟩ := r3.rd.at M (by rw [List.length_append]; simp; omega)
          rw [r2] at eq9 hcq
          cases eq9
          have hgy : (Q0 ++ [y])[M]'(by rw [List.length_append]; simp; omega) = y := by subst hl0; simp
          rw [hgy] at c0
          have hot := r3.take r2 M (by omega) (by omega)
          have htk : (Q0 ++ [y]).take M = Q0 := by rw [← hl0, List.take_left]
          rw [htk] at hot
          have hM1 : (na : Int) - 1 = (M : Int) := by omega
          have hMn : (M : Int) < (na : Int) := by omega
          have hMn2 : M < na := by omega
          obtain ⟨G, hG⟩ : ∃ G, G + 1 = gk := ⟨gk - 1, by omega⟩
          have eG : (gk : Int) - 1 = (G : Int) := by omega
          have yG : G < 1152921504606846976 := by have := HK.out.2.1; have := HL.out; omega
          have cr : wr.cell? ⟨g, 0, none⟩ = some (.map (some m)) := (r7.cell (p := ⟨g, 0, none⟩) HH.out.2.2.2.1).trans HH.out.2.2.2.2
          have hlk := (HH.out.1.same (r7.block m HH.out.1.lt)).look y hyn
          rw [hb] at hlk
          have hbs := HH.out.2.1.st y b hb
          obtain ⟨D2, hmp2, hD2⟩ := hbs.2.2.1.below r7
          have hsz2 := hmp2.size_le
          obtain ⟨w3, hrun3, hrg3, hg3, hs3⟩ := hmp2.range (int_keyed Try.underlying30) Try.underlying56
          obtain ⟨rr, hrr⟩ : ∃ rr, wr.heap.size = rr := ⟨_, rfl⟩
          rw [hrr] at hrun3 hrg3
          have hk3 : Keeps (fun _ => False) wr w3 := keeps_grown hg3 (fun q e => by cases e)
          have HI : Hid (FrI e ks P (Q0 ++ [y]) ∧ (∀ x, has D2 (litU x) = true ↔ x ∈ e y) ∧ b < w.heap.size ∧ G < gk ∧ P.length + 1 + G = L ∧ Maps.size D2 ≤ n ∧ w.heap.size ≤ rr) := ⟨r1, hD2, hbs.2.2.1.lt, by omega, by omega, hsz2, by rw [← hrr]; exact r7.size⟩
          have H3 : Hid (InI e ks P Q0 [] y (cntP e ks P) ∧ Q0.length = M ∧ OwnU w.heap.size w3 (.slice (some ⟨bq, 0, none⟩) M ca) Q0 ∧ MapC w3 c N2 (cntP e ks P) ∧ N2 ≤ 11000000000 + P.length * 100000 ∧ Below w.heap.size w w3 ∧ rr < w3.heap.size) :=
            ⟨r1.pop HK.out.1, hl0, own_same hot (fun q hq => hk3.block q (hot.lts q hq).2 (fun h => h)), r4.same (hk3.block _ r4.lt (fun h => h)), r5, r7.trans (hk3.below (fun _ h => h.elim) r7.size), by omega⟩
          clear HS r1 r2 r3 r4 r5 r6 r7 hQn hl0 hyk hyP hPl hyn hgy hot htk hbs hmp2 hD2 hsz2 hg3 hs3 hk3 hrr hG hb hM hna hql
          go_wp2_with fail
          clear hlk cr hrun3 c0
          go_loopg [4] (Maps.size D2) (fun gk lv wr => ∃ left, wr.ranges Try.prog 30 (unitElem (H := Unit)) b rr n D2 left gk ∧ ∃ (na ca : Nat) (aa : Option Addr), lv = .slice aa na ca ∧ Hid (∃ ss Q f N3, CollU D2 left ss ∧ ss.length + gk ≤ n ∧ InI e ks P Q ss y f ∧ Q.length = na ∧ OwnU w.heap.size wr (.slice aa na ca) Q ∧ MapC wr c N3 f ∧ N3 ≤ 11000000000 + P.length * 100000 + ss.length ∧ Below w.heap.size w wr ∧ rr < wr.heap.size))
          case atStart =>
            obtain ⟨q1, q2, q3, q4, q5, q6, q7⟩ := H3.out
            exact ⟨_, hrg3, M, ca, _, rfl, [], Q0, _, N2, CollU.start D2, by have := HI.out.2.2.2.2.2.1; simpa using this, q1, q2, q3, q4, by simpa using q5, q6, q7⟩
          case round =>
            obtain ⟨left, hrg, na2, ca2, aa2, rfl, HC2⟩ := hrel
            go_wp2_with (at_next; refine wpList_next_ranges _ rfl _ rfl 30 (int_keyed Try.underlying30) (unitElem (H := Unit)) (Value.int .u64) (fun _ : Unit => Value.agg #[]) keyQ_inv unitQ_inv b rr n D2 left _ rfl hrg ?_ ?_; intro hc0 hl0; rotate_left; intro x2 cu2 kl2 y2 wn cnt1 hkey hlk hv hat hrg1 hlt9 hg1 hs1 hen; rotate_left)
            · have HF : Hid (∃ P Q N2, FrI e ks P Q ∧ Q.length = na2 ∧ OwnU w.heap.size wr (.slice aa2 na2 ca2) Q ∧ MapC wr c N2 (cntP e ks P) ∧ N2 ≤ 11000000000 + P.length * 100000 ∧ P.length + G = L ∧ Below w.heap.size w wr) := by
                obtain ⟨ss, Q, f, N3, p1, p2, p3, p4, p5, p6, p7, p8, p9⟩ := HC2.out
                obtain ⟨d1, d2⟩ := p3.done HI.out.1 (fun x => by rw [p1.2 x, hl0, HI.out.2.1 x]; simp)
                exact ⟨y :: P, Q, N3, d1, p4, p5, p6.eqv d2, by have := HH.out.2.2.1; rw [List.length_cons]; omega, by rw [List.length_cons]; exact HI.out.2.2.2.2.1, p8⟩
              clear HC2 hrg
              go_roundg G
              case measure => exact HI.out.2.2.2.1
              case rel => exact ⟨na2, ca2, aa2, rfl, rfl, HF.out⟩
            · obtain ⟨k, rfl, rfl, hk⟩ := keyQ_lit hkey
              obtain ⟨ss, Q, f, N3, p1, p2, p3, p4, p5, p6, p7, p8, p9⟩ := HC2.out
              have hkn : Keeps (fun q => q = rr) wr wn := keeps_grown hg1 (fun q e => by cases e; rfl)
              have hrr := HI.out.2.2.2.2.2.2
              have hcr : c ≠ rr := by
                have := p6.lt
                intro h9
                obtain ⟨_, ⟨es, cl, hb9, _⟩, _⟩ := p6
                obtain ⟨es2, clock, since, seen, c0, hb2, F, hs, hD, hr2, rest⟩ := hrg
                rw [h9, hr2] at hb9
                cases hb9
              have hmcn := p6.same (hkn.block c p6.lt hcr)
              have hown := own_same p5 (fun q hq => hkn.block q (p5.lts q hq).2 (fun h9 => (own_neR p5 hrg).2 (by rw [hq, h9])))
              have hbn := p8.trans (hkn.below (fun i e => by rw [e]; exact hrr) p8.size)
              have hkss : k ∉ ss := fun h => by have := ((p1.2 k).1 h).2; rw [hlk] at this; cases this
              have hke : k ∈ e y := (HI.out.2.1 k).1 (has_true_of_atKey hat)
              obtain ⟨cv, hcv⟩ : ∃ cv, cntP e ks (y :: P) k = cv := ⟨_, rfl⟩
              obtain ⟨cv1, hcv1⟩ : ∃ cv1, cv + 1 = cv1 := ⟨_, rfl⟩
              have hfk : f k = cv1 := by rw [p3.hit hke hkss, hcv]; exact hcv1
              have hcl : cv ≤ 100000 := by rw [← hcv]; exact Nat.le_trans (List.length_filter_le _ _) HK.out.2.1
              have ecv : (cv1 : Int) - 1 = (cv : Int) := by omega
              have ycv : cv < 1152921504606846976 := by omega
              have hlook := hmcn.look k hk
              rw [hfk] at hlook
              have hPl : P.length ≤ 100000 := by have := HK.out.2.1; have := HI.out.2.2.2.2.1; have := HL.out; omega
              obtain ⟨w6, hrun6, hmc6, hk6⟩ := hmcn.upd k cv hk ycv (by have := HH.out.2.2.1; unfold maxLen; omega)
              have hlook6 := hmc6.look k hk
              have hlook6 : (Instr.lookup 58 (.map (some c)) (.int .u64 (k : Int)) false).run Try.prog w6 = .ok (.int .i64 (cv : Int)) w6 := by
                rw [hlook6]
                simp only [if_pos]
              have hcb : c ≠ b := by have := HI.out.2.2.1; have := HK.out.2.2.2.2.1; omega
              have hrg6 := ranges_sameG hrg1 (hk6.block b hrg1.owns.lt (fun h9 => hcb h9.symm)) (hk6.block _ hrg1.lt (fun h9 => hcr h9.symm))
              have hown6 := own_same hown (fun q hq => hk6.block q (hown.lts q hq).2 (fun h9 => own_neC hown hmcn (by rw [hq, h9])))
              have hb6 := hbn.trans (hk6.below (fun i e => by rw [e]; exact HK.out.2.2.2.2.1) hbn.size)
              have cr6 : w6.cell? ⟨g, 0, none⟩ = some (.map (some m)) := (hb6.cell (p := ⟨g, 0, none⟩) HH.out.2.2.2.1).trans HH.out.2.2.2.2
              have hlk6 := (HH.out.1.same (hb6.block m HH.out.1.lt)).look k hk
              have HP : Hid (CollU D2 (fun z => left z && !z.sameKey (litU k)) (ss ++ [k]) ∧ (ss ++ [k]).length + cnt1 ≤ n ∧ InI e ks P Q ss y f ∧ Q.length = na2 ∧ OwnU w.heap.size w6 (.slice aa2 na2 ca2) Q ∧ MapC w6 c (N3 + 1) (fun z => if z = k then cv else f z) ∧ N3 + 1 ≤ 11000000000 + P.length * 100000 + (ss ++ [k]).length ∧ Below w.heap.size w w6 ∧ rr < w6.heap.size ∧ cntP e ks (y :: P) k = cv ∧ k ∉ ss ∧ k ∈ e y) :=
                ⟨p1.step hlk hat, by rw [List.length_append]; simp; omega, p3, p4, hown6, hmc6, by rw [List.length_append]; simp; omega, hb6, Nat.lt_of_lt_of_le p9 (Nat.le_trans hkn.size hk6.size), hcv, hkss, hke⟩
              have HLT : Hid (cnt1 < _) := hlt9
              clear hkey hlk hv hat hlt9 hg1 hs1 HC2 p1 p2 p3 p4 p5 p6 p7 p8 p9 hkn hrr hcr hmcn hown hbn hkss hke hcv hcv1 hfk hcl hmc6 hk6 hcb hown6 hb6 hrg hPl hrg1
              by_cases h0 : cv = 0
              · subst h0
                rw [show ((0 : Nat) : Int) = 0 from rfl] at hrun6 hlook6
                cases hhk : hh k with
                | none =>
                  rw [hhk] at hlk6
                  have hnl := len_nilS
                  have HF : Hid (InI e ks P Q (ss ++ [k]) y (fun z => if z = k then 0 else f z)) := by
                    have h9 := HP.out.2.2.1.stay HP.out.2.2.2.2.2.2.2.2.2.2.2 HP.out.2.2.2.2.2.2.2.2.2.2.1 (fun hkk => absurd (HH.out.2.1.no k hhk) ((HK.out.2.2.1 k).1 hkk))
                    rw [HP.out.2.2.2.2.2.2.2.2.2.1] at h9
                    exact h9
                  clear hhk
                  go_wp2_with fail
                  go_roundg cnt1
                  case measure => exact HLT.out
                  case rel =>
                    obtain ⟨q1, q2, q3, q4, q5, q6, q7, q8, q9, q10⟩ := HP.out
                    exact ⟨_, hrg6, na2, ca2, _, rfl, ss ++ [k], Q, _, N3 + 1, q1, q2, HF.out, q4, q5, q6, q7, q8, q9⟩
                | some b2 =>
                  rw [hhk] at hlk6
                  have hst := HH.out.2.1.st k b2 hhk
                  obtain ⟨D3, hmp3, hD3⟩ := hst.2.2.1.below HP.out.2.2.2.2.2.2.2.1
                  have hs3 := MapS.size_zero hmp3 hD3
                  have hln3 := hmp3.len Try.underlying56
                  obtain ⟨s3, hs3e⟩ : ∃ s3, Maps.size D3 = s3 := ⟨_, rfl⟩
                  rw [hs3e] at hs3 hln3
                  have hgt : (0 : Int) < (s3 : Int) := by
                    have : s3 ≠ 0 := fun h9 => hst.1 (hs3.1 h9)
                    omega
                  have hkk : k ∈ ks := (HK.out.2.2.1 k).2 hst.1
                  have hba := below_box4 w6 (.cells #[.int .u64 (k : Int)] 30)
                  have ho1 : OwnU w.heap.size (w6.alloc (.cells #[.int .u64 (k : Int)] 30)) (.slice aa2 na2 ca2) Q := row_below HP.out.2.2.2.2.1 hba
                  obtain ⟨g9, c9, w7, hrun, ho7, hk7⟩ := ho1.run k w6.heap.size 28 (by simp) (by have := HK.out.2.1; have := sub_len Q ks HP.out.2.2.1.qd HP.out.2.2.1.qk; omega) (Nat.le_trans HP.out.2.2.2.2.2.2.2.1.size hba.size)
                  rw [HP.out.2.2.2.1] at hrun ho7
                  have hmca : MapC (w6.alloc (.cells #[.int .u64 (k : Int)] 30)) c (N3 + 1) (fun z => if z = k then 0 else f z) := HP.out.2.2.2.2.2.1.below hba
                  have hrga := ranges_sameG hrg6 (hba.block b hrg6.owns.lt) (hba.block _ hrg6.lt)
                  have hne := own_neR ho1 hrga
                  have hrg7 := ranges_sameG hrga (hk7.block b hrga.owns.lt hne.1) (hk7.block _ hrga.lt hne.2)
                  have HF : Hid (InI e ks P (Q ++ [k]) (ss ++ [k]) y (fun z => if z = k then 0 else f z) ∧ (Q ++ [k]).length = na2 + 1 ∧ OwnU w.heap.size w7 (.slice (some ⟨g9, 0, none⟩) (na2 + 1) c9) (Q ++ [k]) ∧ MapC w7 c (N3 + 1) (fun z => if z = k then 0 else f z) ∧ Below w.heap.size w w7 ∧ rr < w7.heap.size) := by
                    obtain ⟨q1, q2, q3, q4, q5, q6, q7, q8, q9, q10, q11, q12⟩ := HP.out
                    have h9 := q3.push q12 q11 hkk q10
                    rw [q10] at h9
                    exact ⟨h9, by rw [List.length_append, q4]; rfl, ho7, hmca.same (hk7.block c hmca.lt (own_neC ho1 hmca)), (q8.trans (hba.mono q8.size)).trans (hk7.below (fun i h9 => (ho1.lts i h9).1) (Nat.le_trans q8.size hba.size)), Nat.lt_of_lt_of_le q9 (Nat.le_trans hba.size hk7.size)⟩
                  clear hst hmp3 hD3 hs3 hs3e hkk hba ho1 ho7 hk7 hmca hrga hne hrg6 hhk
                  go_wp2_with (first | (at_builtin; refine wpList_appU rfl _ _ _ rfl _ _ _ rfl rfl hrun ?_) | fail)
                  go_roundg cnt1
                  case measure => exact HLT.out
                  case rel =>
                    obtain ⟨q1, q2, q3, q4, q5, q6, q7, q8, q9, q10⟩ := HP.out
                    exact ⟨_, hrg7, na2 + 1, c9, _, rfl, ss ++ [k], _, _, N3 + 1, q1, q2, HF.out.1, HF.out.2.1, HF.out.2.2.1, HF.out.2.2.2.1, q7, HF.out.2.2.2.2.1, HF.out.2.2.2.2.2⟩
              · have hcI : ¬ (cv : Int) = 0 := by omega
                have HF : Hid (InI e ks P Q (ss ++ [k]) y (fun z => if z = k then cv else f z)) := by
                  have h9 := HP.out.2.2.1.stay HP.out.2.2.2.2.2.2.2.2.2.2.2 HP.out.2.2.2.2.2.2.2.2.2.2.1 (fun _ => by rw [HP.out.2.2.2.2.2.2.2.2.2.1]; exact h0)
                  rw [HP.out.2.2.2.2.2.2.2.2.2.1] at h9
                  exact h9
                go_wp2_with fail
                go_roundg cnt1
                case measure => exact HLT.out
                case rel =>
                  obtain ⟨q1, q2, q3, q4, q5, q6, q7, q8, q9, q10⟩ := HP.out
                  exact ⟨_, hrg6, na2, ca2, _, rfl, ss ++ [k], Q, _, N3 + 1, q1, q2, HF.out, q4, q5, q6, q7, q8, q9⟩
    · obtain ⟨k, rfl, rfl, hk⟩ := keyQ_lit hkey
      obtain ⟨ss, Q, p1, p2, p3, p4, p5, p6, p7, p8, p9⟩ := HC.out
      have hkn : Keeps (fun q => q = w1.heap.size) wr wn := keeps_grown hg1 (fun q e => by cases e; rfl)
      have hw1 := H1.out.2.size
      have hcw1 := H1.out.1.lt
      have hmcn := p7.same (hkn.block c p7.lt (by omega))
      have hown := own_same p6 (fun q hq => hkn.block q (p6.lts q hq).2 (fun h9 => (own_neR p6 hrg).2 (by rw [hq, h9])))
      have hbn := p8.trans (hkn.below (fun i e => by rw [e]; exact hw1) p8.size)
      have hlook := hmcn.look k hk
      obtain ⟨cv, hcv⟩ : ∃ cv, cntK e ks k = cv := ⟨_, rfl⟩
      rw [hcv] at hlook
      have hC := p1.step hlk hat
      have hkss : k ∉ ss := fun h => by have := ((p1.2 k).1 h).2; rw [hlk] at this; cases this
      have hls : (ss ++ [k]).length + cnt1 ≤ ks.length := by rw [List.length_append]; simp; omega
      have HP : Hid (CollU D (fun z => left z && !z.sameKey (litU k)) (ss ++ [k]) ∧ (ss ++ [k]).length + cnt1 ≤ ks.length ∧ (∀ x, x ∈ Q ↔ x ∈ ss ∧ cntK e ks x = 0) ∧ Q.Nodup ∧ Q.length = na ∧ OwnU w.heap.size wn (.slice aa na ca) Q ∧ MapC wn c N (cntK e ks) ∧ Below w.heap.size w wn ∧ w1.heap.size < wn.heap.size ∧ cntK e ks k = cv ∧ k ∉ ss ∧ cnt1 < gk) := ⟨hC, hls, p3, p4, p5, hown, hmcn, hbn, Nat.lt_of_lt_of_le p9 hkn.size, hcv, hkss, hlt9⟩
      clear hkey hlk hv hat hlt9 hg1 hs1 HC p1 p2 p3 p4 p5 p6 p7 p8 p9 hkn hw1 hcw1 hmcn hown hbn hcv hC hkss hls hrg hk
      by_cases h0 : cv = 0
      · subst h0
        have hba := below_box4 wn (.cells #[.int .u64 (k : Int)] 30)
        have ho1 : OwnU w.heap.size (wn.alloc (.cells #[.int .u64 (k : Int)] 30)) (.slice aa na ca) Q := row_below HP.out.2.2.2.2.2.1 hba
        obtain ⟨g9, c9, w5, hrun, ho5, hk5⟩ := ho1.run k wn.heap.size 28 (by simp) (by have := HP.out; have := HK.out.2.1; have := sub_len Q (ss ++ [k]) HP.out.2.2.2.1 (fun x hx => by simp [((HP.out.2.2.1 x).1 hx).1]); omega) (Nat.le_trans HP.out.2.2.2.2.2.2.2.1.size hba.size)
        rw [HP.out.2.2.2.2.1] at hrun ho5
        have hmca : MapC (wn.alloc (.cells #[.int .u64 (k : Int)] 30)) c N (cntK e ks) := HP.out.2.2.2.2.2.2.1.below hba
        have hrga := ranges_sameG hrg1 (hba.block m hrg1.owns.lt) (hba.block _ hrg1.lt)
        have hne := own_neR ho1 hrga
        have hrg5 := ranges_sameG hrga (hk5.block m hrga.owns.lt hne.1) (hk5.block _ hrga.lt hne.2)
        have HF : Hid (CollU D (fun z => left z && !z.sameKey (litU k)) (ss ++ [k]) ∧ (ss ++ [k]).length + cnt1 ≤ ks.length ∧ (∀ x, x ∈ Q ++ [k] ↔ x ∈ ss ++ [k] ∧ cntK e ks x = 0) ∧ (Q ++ [k]).Nodup ∧ (Q ++ [k]).length = na + 1 ∧ OwnU w.heap.size w5 (.slice (some ⟨g9, 0, none⟩) (na + 1) c9) (Q ++ [k]) ∧ MapC w5 c N (cntK e ks) ∧ Below w.heap.size w w5 ∧ w1.heap.size < w5.heap.size) := by
          obtain ⟨q1, q2, q3, q4, q5, q6, q7, q8, q9, q10, q11, q12⟩ := HP.out
          have hkQ : k ∉ Q := fun h9 => q11 ((q3 k).1 h9).1
          refine ⟨q1, q2, fun x => ?_, List.nodup_append.2 ⟨q4, by simp, fun a ha b hb e9 => by rw [List.mem_singleton] at hb; subst hb; subst e9; exact hkQ ha⟩, by rw [List.length_append, q5]; rfl, ho5, hmca.same (hk5.block c hmca.lt (own_neC ho1 hmca)), (q8.trans (hba.mono q8.size)).trans (hk5.below (fun i h9 => (ho1.lts i h9).1) (Nat.le_trans q8.size hba.size)), Nat.lt_of_lt_of_le q9 (Nat.le_trans hba.size hk5.size)⟩
          rw [List.mem_append, List.mem_append, List.mem_singleton, q3 x]
          constructor
          · rintro (a1 | a1)
            · exact ⟨.inl a1.1, a1.2⟩
            · rw [a1]; exact ⟨.inr rfl, q10⟩
          · rintro ⟨a1 | a1, a2⟩
            · exact .inl ⟨a1, a2⟩
            · exact .inr a1
        have HLT : Hid (cnt1 < gk) := HP.out.2.2.2.2.2.2.2.2.2.2.2
        clear hba ho1 ho5 hk5 hmca hrga hne hrg1 cr hln
        go_wp2_with fail
        rw [hlook]
        clear hlook hen
        go_wp2_with (first | (at_builtin; refine wpList_appU rfl _ _ _ rfl _ _ _ rfl rfl hrun ?_) | fail)
        go_roundg cnt1
        case measure => exact HLT.out
        case rel => exact ⟨_, hrg5, na + 1, c9, _, rfl, _, _, HF.out⟩
      · have hcI : ¬ (cv : Int) = 0 := by omega
        have HF : Hid (∀ x, x ∈ Q ↔ x ∈ ss ++ [k] ∧ cntK e ks x = 0) := fun x => by
          rw [HP.out.2.2.1 x, List.mem_append, List.mem_singleton]
          constructor
          · rintro ⟨a1, a2⟩; exact ⟨.inl a1, a2⟩
          · rintro ⟨a1 | a1, a2⟩
            · exact ⟨a1, a2⟩
            · rw [a1, HP.out.2.2.2.2.2.2.2.2.2.1] at a2; exact absurd a2 h0
        have HLT : Hid (cnt1 < gk) := HP.out.2.2.2.2.2.2.2.2.2.2.2
        clear cr hln
        go_wp2_with fail
        rw [hlook]
        clear hlook hen
        go_wp2_with fail
        go_roundg cnt1
        case measure => exact HLT.out
        case rel =>
          obtain ⟨q1, q2, q3, q4, q5, q6, q7, q8, q9, q10, q11, q12⟩ := HP.out
          exact ⟨_, hrg1, na, ca, _, rfl, _, Q, q1, q2, HF.out, q4, q5, q6, q7, q8, q9⟩

end Go.Proofs.Ytgkgdbdapkgkgaa

/- bartizanlaw18.awake: the document's example. -/
namespace Go.Proofs.Ytgkgdbdapkgkgaa
set_option maxRecDepth 100000
open Go.RowKit Go.Maps
set_option linter.unusedVariables false
set_option linter.unusedSimpArgs false

/-- numbers written down -/
theorem RdU.lits (w : World) (ns : List Nat) (hl : ns.length ≤ maxLen) : RdU (w.alloc (.cells (ns.map encN).toArray 30)) (.slice (some ⟨w.heap.size, 0, none⟩) ns.length ns.length) ns :=
  ⟨by simp, .inr ⟨w.heap.size, ns.length, _, rfl, Nat.zero_le _, World.alloc_heap_new w _, Nat.le_refl _, hl, by simp, by simp; exact List.take_of_length_le (by simp)⟩⟩

def aw1 : Nat → List Nat := lnkE (fun _ => []) 1 [2]
def aw2 : Nat → List Nat := lnkE aw1 2 [3, 1]
def aw3 : Nat → List Nat := lnkE aw2 3 [1]
def awO : Nat → List Nat := fun k => if k = 1 then [2] else if k = 2 then [1, 3] else if k = 3 then [1] else []

theorem aw_rise (k : Nat) : Rise (aw3 k) (awO k) := by
  by_cases h1 : k = 1
  · subst h1
    have e1 : aw3 1 = [2] := rfl
    have e2 : awO 1 = [2] := rfl
    rw [e1, e2]
    exact ⟨⟨by simp, fun x => Iff.rfl⟩, by simp⟩
  by_cases h2 : k = 2
  · subst h2
    have e1 : aw3 2 = [3, 1] := rfl
    have e2 : awO 2 = [1, 3] := rfl
    rw [e1, e2]
    exact ⟨⟨by simp, fun x => by simp; omega⟩, by simp⟩
  by_cases h3 : k = 3
  · subst h3
    have e1 : aw3 3 = [1] := rfl
    have e2 : awO 3 = [1] := rfl
    rw [e1, e2]
    exact ⟨⟨by simp, fun x => Iff.rfl⟩, by simp⟩
  have e1 : aw3 k = [] := by unfold aw3 aw2 aw1 lnkE; rw [if_neg h3, if_neg h2, if_neg h1]
  have e2 : awO k = [] := by unfold awO; rw [if_neg h1, if_neg h2, if_neg h3]
  rw [e1, e2]
  exact ⟨⟨by simp, fun x => Iff.rfl⟩, by simp⟩

theorem aw_in (x : Nat) : ∀ y ∈ awO x, y ∈ [1, 2, 3] := by
  intro y hy
  unfold awO at hy
  split at hy
  · simp at hy; simp [hy]
  · split at hy
    · simp at hy; rcases hy with h | h <;> simp [h]
    · split at hy
      · simp at hy; simp [hy]
      · cases hy

theorem aw_bfs1 : bfsB awO 1 ([1, 2, 3].length + 2) (fun _ => none) [1] = some (setB (fun _ => none) 2 1, 2) := rfl
theorem aw_bfs3 : bfsB awO 3 ([1, 2, 3].length + 2) (fun _ => none) [3] = some (setB (setB (fun _ => none) 1 3) 2 1, 2) := rfl

theorem aw_way1 : WayP (setB (fun _ => none) 2 1) 1 (2 :: [1]) := ⟨by decide, rfl, rfl⟩
theorem aw_way3 : WayP (setB (setB (fun _ => none) 1 3) 2 1) 3 (2 :: [1, 3]) := ⟨by decide, rfl, by decide, rfl, rfl⟩

theorem aw_cyc1 {w w' : World} {e : Ending} (h : CycPost w awO 1 [1, 2, 3] e w') : ∃ v, e = .returned (.tuple #[v, .bool true]) ∧ OwnU w.heap.size w' v [1, 2] ∧ Below w.heap.size w w' := by
  obtain ⟨hb, ⟨_, h9⟩ | ⟨v, f, x, P, rfl, h1, h2, h3⟩⟩ := h
  · rw [aw_bfs1] at h9; cases h9
  · rw [aw_bfs1] at h1
    cases h1
    have := way_uniq _ _ _ _ _ h2 aw_way1
    subst this
    exact ⟨v, rfl, h3, hb⟩
theorem aw_cyc3 {w w' : World} {e : Ending} (h : CycPost w awO 3 [1, 2, 3] e w') : ∃ v, e = .returned (.tuple #[v, .bool true]) ∧ OwnU w.heap.size w' v [3, 1, 2] ∧ Below w.heap.size w w' := by
  obtain ⟨hb, ⟨_, h9⟩ | ⟨v, f, x, P, rfl, h1, h2, h3⟩⟩ := h
  · rw [aw_bfs3] at h9; cases h9
  · rw [aw_bfs3] at h1
    cases h1
    have := way_uniq _ _ _ _ _ h2 aw_way3
    subst this
    exact ⟨v, rfl, h3, hb⟩
theorem aw_vic3 {w w' : World} {e : Ending} (h : VicPost w awO 3 [1, 2, 3] e w') : e = .returned (.tuple #[.int .u64 3, .bool true]) ∧ Below w.heap.size w w' := by
  obtain ⟨hb, ⟨_, h9⟩ | ⟨M, f, x, P, rfl, h1, h2, h3⟩⟩ := h
  · rw [aw_bfs3] at h9; cases h9
  · rw [aw_bfs3] at h1
    cases h1
    have := way_uniq _ _ _ _ _ h2 aw_way3
    subst this
    have : M = 3 := by
      have a1 := h3.1
      have a2 := h3.2 3 (by simp)
      simp at a1
      omega
    subst this
    exact ⟨rfl, hb⟩
theorem aw_free {w w' : World} {e : Ending} (h : FreePost w aw3 e w') : e = .returned (.bool false) ∧ Below w.heap.size w w' := by
  obtain ⟨hb, bb, rfl, h1, _⟩ := h
  cases bb with
  | false => exact ⟨rfl, hb⟩
  | true => exact absurd (show Reach aw3 1 1 1 from ⟨2, by show 2 ∈ aw3 1; decide, by decide⟩) (h1 rfl 1 1)

set_option maxHeartbeats 4000000 in
theorem awake_any (w : World) : Calls Try.prog 7 #[] w fun e w' => e = .returned (.bool true) ∧ Below w.heap.size w w' := by
  have hnw := grnew_any w
  go_enter Try.func7, Try.ntmps7
  go_wp2_with fail
  refine hnw.mono ?_
  rintro e1 w1 ⟨g, rfl, hg1, hb1⟩
  have HG1 : Hid (GrQ w.heap.size w1 g 0 (fun _ => []) ∧ Below w.heap.size w w1) := ⟨hg1, hb1⟩
  have hba1 := below_box4 w1 (.cells #[.int .u64 2] 30)
  have hl1 : RdU (w1.alloc (.cells #[.int .u64 2] 30)) (.slice (some ⟨w1.heap.size, 0, none⟩) 1 1) [2] := RdU.lits w1 [2] (by decide)
  have hlk1 := link_any w.heap.size _ g 0 1 (fun _ => []) _ [2] (hg1.below hba1) hl1 (by decide) (by simp) (by decide)
  rw [show ((1 : Nat) : Int) = 1 from rfl] at hlk1
  have HB1 : Hid (Below w1.heap.size w1 (w1.alloc (.cells #[.int .u64 2] 30))) := hba1
  clear hnw hg1 hb1 hba1 hl1
  go_wp2_with fail
  refine hlk1.mono ?_
  rintro e2 w2 ⟨rfl, hg2, hk2⟩
  have HG2 : Hid (GrQ w.heap.size w2 g 2 aw1 ∧ Below w.heap.size w w2) := by
    have hb := bsplit HG1.out.2 HB1.out
    exact ⟨hg2, hb.trans (hk2.below (fun i h => h.1) hb.size)⟩
  have hba2 := below_box4 w2 (.cells #[.int .u64 3, .int .u64 1] 30)
  have hl2 : RdU (w2.alloc (.cells #[.int .u64 3, .int .u64 1] 30)) (.slice (some ⟨w2.heap.size, 0, none⟩) 2 2) [3, 1] := RdU.lits w2 [3, 1] (by decide)
  have hlk2 := link_any w.heap.size _ g 2 2 aw1 _ [3, 1] (HG2.out.1.below hba2) hl2 (by decide) (by simp) (by decide)
  rw [show ((2 : Nat) : Int) = 2 from rfl] at hlk2
  have HB2 : Hid (Below w2.heap.size w2 (w2.alloc (.cells #[.int .u64 3, .int .u64 1] 30))) := hba2
  clear hlk1 hg2 hk2 hba2 hl2
  go_wp2_with fail
  refine hlk2.mono ?_
  rintro e3 w3 ⟨rfl, hg3, hk3⟩
  have HG3 : Hid (GrQ w.heap.size w3 g 5 aw2 ∧ Below w.heap.size w w3) := by
    have hb := bsplit HG2.out.2 HB2.out
    exact ⟨hg3, hb.trans (hk3.below (fun i h => h.1) hb.size)⟩
  have hba3 := below_box4 w3 (.cells #[.int .u64 1] 30)
  have hl3 : RdU (w3.alloc (.cells #[.int .u64 1] 30)) (.slice (some ⟨w3.heap.size, 0, none⟩) 1 1) [1] := RdU.lits w3 [1] (by decide)
  have hlk3 := link_any w.heap.size _ g 5 3 aw2 _ [1] (HG3.out.1.below hba3) hl3 (by decide) (by simp) (by decide)
  rw [show ((3 : Nat) : Int) = 3 from rfl] at hlk3
  have HB3 : Hid (Below w3.heap.size w3 (w3.alloc (.cells #[.int .u64 1] 30))) := hba3
  clear hlk2 hg3 hk3 hba3 hl3
  go_wp2_with fail
  refine hlk3.mono ?_
  rintro e4 w4 ⟨rfl, hg4, hk4⟩
  have HG4 : Hid (GrQ w.heap.size w4 g 7 aw3 ∧ Below w.heap.size w w4) := by
    have hb := bsplit HG3.out.2 HB3.out
    exact ⟨hg4, hb.trans (hk4.below (fun i h => h.1) hb.size)⟩
  have hc1 := cycle_any w.heap.size w4 g 7 1 aw3 awO [1, 2, 3] HG4.out.1 aw_rise aw_in (by simp) (by decide) (by decide) (by decide)
  rw [show ((1 : Nat) : Int) = 1 from rfl] at hc1
  clear hlk3 hg4 hk4
  go_wp2_with fail
  refine hc1.mono ?_
  intro e5 w5 hp5
  obtain ⟨va, rfl, hva, hb5⟩ := aw_cyc1 hp5
  have HG5 : Hid (GrQ w.heap.size w5 g 7 aw3 ∧ Below w.heap.size w w5 ∧ RdU w5 va [1, 2]) := ⟨HG4.out.1.below hb5, bsplit HG4.out.2 hb5, hva.rd⟩
  have hc3 := cycle_any w.heap.size w5 g 7 3 aw3 awO [1, 2, 3] HG5.out.1 aw_rise aw_in (by simp) (by decide) (by decide) (by decide)
  rw [show ((3 : Nat) : Int) = 3 from rfl] at hc3
  clear hc1 hp5 hva hb5
  go_wp2_with fail
  refine hc3.mono ?_
  intro e6 w6 hp6
  obtain ⟨vb, rfl, hvb, hb6⟩ := aw_cyc3 hp6
  have HG6 : Hid (GrQ w.heap.size w6 g 7 aw3 ∧ Below w.heap.size w w6 ∧ RdU w6 va [1, 2] ∧ RdU w6 vb [3, 1, 2]) := ⟨HG5.out.1.below hb6, bsplit HG5.out.2.1 hb6, row_below HG5.out.2.2 hb6, hvb.rd⟩
  have hv3 := grvictim_any w.heap.size w6 g 7 3 aw3 awO [1, 2, 3] HG6.out.1 aw_rise aw_in (by simp) (by decide) (by decide) (by decide)
  rw [show ((3 : Nat) : Int) = 3 from rfl] at hv3
  clear hc3 hp6 hvb hb6
  go_wp2_with fail
  refine hv3.mono ?_
  intro e7 w7 hp7
  obtain ⟨rfl, hb7⟩ := aw_vic3 hp7
  have hba7 := below_box4 w7 (.cells #[.int .u64 1, .int .u64 2] 30)
  have hl7 : RdU (w7.alloc (.cells #[.int .u64 1, .int .u64 2] 30)) (.slice (some ⟨w7.heap.size, 0, none⟩) 2 2) [1, 2] := RdU.lits w7 [1, 2] (by decide)
  have HG7 : Hid (GrQ w.heap.size w7 g 7 aw3 ∧ Below w.heap.size w w7 ∧ RdU w7 vb [3, 1, 2] ∧ Below w7.heap.size w7 (w7.alloc (.cells #[.int .u64 1, .int .u64 2] 30))) := ⟨HG6.out.1.below hb7, bsplit HG6.out.2.1 hb7, row_below HG6.out.2.2.2 hb7, hba7⟩
  have hs7 := sameU_any _ va _ [1, 2] (row_below (row_below HG6.out.2.2.1 hb7) hba7) hl7
  clear hv3 hp7 hb7 hba7 hl7
  go_wp2_with fail
  refine hs7.mono ?_
  rintro e8 w8 ⟨rfl, hb8⟩
  have HG8 : Hid (GrQ w.heap.size w8 g 7 aw3 ∧ Below w.heap.size w w8 ∧ RdU w8 vb [3, 1, 2]) := ⟨(HG7.out.1.below HG7.out.2.2.2).below hb8, bsplit (bsplit HG7.out.2.1 HG7.out.2.2.2) hb8, row_below (row_below HG7.out.2.2.1 HG7.out.2.2.2) hb8⟩
  have hba8 := below_box4 w8 (.cells #[.int .u64 3, .int .u64 1, .int .u64 2] 30)
  have hl8 : RdU (w8.alloc (.cells #[.int .u64 3, .int .u64 1, .int .u64 2] 30)) (.slice (some ⟨w8.heap.size, 0, none⟩) 3 3) [3, 1, 2] := RdU.lits w8 [3, 1, 2] (by decide)
  have hs8 := sameU_any _ vb _ [3, 1, 2] (row_below HG8.out.2.2 hba8) hl8
  have HB8 : Hid (Below w8.heap.size w8 (w8.alloc (.cells #[.int .u64 3, .int .u64 1, .int .u64 2] 30))) := hba8
  clear hs7 hb8 hba8 hl8
  go_wp2_with fail
  refine hs8.mono ?_
  rintro e9 w9 ⟨rfl, hb9⟩
  have HG9 : Hid (GrQ w.heap.size w9 g 7 aw3 ∧ Below w.heap.size w w9) := ⟨(HG8.out.1.below HB8.out).below hb9, bsplit (bsplit HG8.out.2.1 HB8.out) hb9⟩
  have hf9 := free_any w.heap.size w9 g 7 aw3 HG9.out.1 (by decide)
  clear hs8 hb9
  go_wp2_with fail
  refine hf9.mono ?_
  intro e10 w10 hp10
  obtain ⟨rfl, hb10⟩ := aw_free hp10
  have HE : Hid (Below w.heap.size w w10) := bsplit HG9.out.2 hb10
  clear hf9 hp10 hb10
  go_wp2_with fail
  go_ret
  exact ⟨rfl, HE.out⟩

end Go.Proofs.Ytgkgdbdapkgkgaa

/- Rows of links (bartizanref18.Link); bartizanref18.Has, Cut. -/
namespace Go.Proofs.Ytgkgdbdapkgkgaa
set_option maxRecDepth 100000
open Go.RowKit Go.Maps
set_option linter.unusedVariables false
set_option linter.unusedSimpArgs false

def encK (l : Nat × Nat) : List Value := [.int .u64 (l.1 : Int), .int .u64 (l.2 : Int)]
theorem encK_len (l : Nat × Nat) : (encK l).length = 2 := rfl

def OwnK (B : Nat) (w : World) (v : Value) (ls : List (Nat × Nat)) : Prop := w.ownsRow B 49 2 v ls.length (ls.flatMap encK)
def RdK (w : World) (v : Value) (ls : List (Nat × Nat)) : Prop := w.ownsRow 0 49 2 v ls.length (ls.flatMap encK)
theorem OwnK.rd {B : Nat} {w : World} {v : Value} {ls : List (Nat × Nat)} (h : OwnK B w v ls) : RdK w v ls := row_mono9 h (Nat.zero_le _)

theorem flatK_len : ∀ ls : List (Nat × Nat), (ls.flatMap encK).length = ls.length * 2
  | [] => rfl
  | a :: r => by rw [List.flatMap_cons, List.length_append, flatK_len r, encK_len, List.length_cons]; omega
theorem flatK_get : ∀ (ls : List (Nat × Nat)) (j i : Nat) (hj : j < ls.length) (hi : i < 2), (ls.flatMap encK)[j * 2 + i]? = (encK ls[j])[i]?
  | a :: r, 0, i, _, hi => by
    rw [List.flatMap_cons, List.getElem?_append_left (by rw [encK_len]; omega)]
    simp
  | a :: r, j + 1, i, hj, hi => by
    rw [List.flatMap_cons, List.getElem?_append_right (by rw [encK_len]; omega), encK_len]
    have e : (j + 1) * 2 + i - 2 = j * 2 + i := by omega
    rw [e, flatK_get r j i (by simpa using hj) hi]
    simp

theorem RdK.at {w : World} {v : Value} {ls : List (Nat × Nat)} (h : RdK w v ls) (j : Nat) (hj : j < ls.length) : ∃ b c, v = .slice (some ⟨b, 0, none⟩) ls.length c ∧ ls.length ≤ c ∧ w.cell? ⟨b, j * 2, none⟩ = some (.int .u64 (ls[j].1 : Int)) ∧ w.cell? ⟨b, j * 2 + 1, none⟩ = some (.int .u64 (ls[j].2 : Int)) := by
  have h' := h
  unfold RdK at h'
  rcases h'.2 with ⟨_, h0⟩ | ⟨b, c, cur, e, _, _, hc, _⟩
  · omega
  · subst e
    have hl := flatK_len ls
    refine ⟨b, c, rfl, hc, ?_, ?_⟩
    · rw [World.ownsRow.cellAt h' _ (by omega)]; exact flatK_get ls j 0 hj (by omega)
    · rw [World.ownsRow.cellAt h' _ (by omega)]; exact flatK_get ls j 1 hj (by omega)

theorem infoK : (Try.prog.info? 49).map (fun i => (i.zero, i.size, i.bytes)) = some (some (.agg #[.int .u64 0, .int .u64 0]), 2, 16) := by kernel_rfl

/-- one link more -/
theorem OwnK.run {B : Nat} {w : World} {v : Value} {ls : List (Nat × Nat)} (h : OwnK B w v ls) (l : Nat × Nat) (a : Nat) (ty : TypeId) (h0 : w.cell? ⟨a, 0, none⟩ = some (.int .u64 (l.1 : Int))) (h1 : w.cell? ⟨a, 1, none⟩ = some (.int .u64 (l.2 : Int))) (hn : ls.length ≤ 1000000) (hB : B ≤ w.heap.size) :
    ∃ g c w', (Builtin.append_ #[26, 26] ty #[v, .slice (some ⟨a, 0, none⟩) 1 1]).run Try.prog w = .ok (.slice (some ⟨g, 0, none⟩) (ls.length + 1) c) w' ∧ OwnK B w' (.slice (some ⟨g, 0, none⟩) (ls.length + 1) c) (ls ++ [l]) ∧ Keeps (fun q => v.ownBlock = some q) w w' := by
  obtain ⟨i0, hi, hz0, hz1, hz2⟩ := info_parts infoK
  obtain ⟨v', w', hr, r1, r2, r3⟩ := run_append_own (P := Try.prog) w B 26 ty 49 i0 (.agg #[.int .u64 0, .int .u64 0]) 2 16 Try.underlying26 hi hz0 hz1 hz2 rfl (by decide) v ls.length (ls.flatMap encK) h ⟨a, 0, none⟩ 1 1 (encK l) rfl (fun j u hu => by
    match j, hu with
    | 0, hu => simp [encK] at hu; subst hu; simpa [Addr.add] using h0
    | 1, hu => simp [encK] at hu; subst hu; simpa [Addr.add] using h1
    | j + 2, hu => simp [encK] at hu) (by intro u hu; simp [encK] at hu; rcases hu with rfl | rfl <;> rfl) (by simp only [maxLen]; omega) (by omega) hB
  obtain ⟨g, c, rfl⟩ := ownsRow_succ r1
  refine ⟨g, c, w', hr, ?_, keeps_grown r2 (fun q e => e)⟩
  unfold OwnK
  rw [List.length_append, List.flatMap_append]
  simpa using r1

theorem box2_new (w : World) (a b : Value) (t : TypeId) : (w.alloc (.cells #[a, b] t)).cell? ⟨w.heap.size, 0, none⟩ = some a ∧ (w.alloc (.cells #[a, b] t)).cell? ⟨w.heap.size, 1, none⟩ = some b := by
  have h0 := heap_alloc_new w (.cells #[a, b] t)
  constructor
  · rw [cell_of_row _ _ _ _ _ _ h0]; simp
  · rw [cell_of_row _ _ _ _ _ _ h0]; simp

set_option maxHeartbeats 2000000 in
theorem refhas_any (w : World) (v : Value) (ls : List (Nat × Nat)) (a b : Nat) (h : RdK w v ls) (hn : ls.length ≤ 1000000) :
    Calls Try.prog 18 #[v, .int .u64 (a : Int), .int .u64 (b : Int)] w fun e w' => e = .returned (.bool (decide ((a, b) ∈ ls))) ∧ Below w.heap.size w w' := by
  obtain ⟨va, vc, rfl, hvc, hvc2⟩ := row_slice9 h
  obtain ⟨N, hN⟩ : ∃ N, ls.length = N := ⟨_, rfl⟩
  have HV : Hid (RdK w (.slice va ls.length vc) ls) := h
  have HN : Hid (ls.length = N ∧ N ≤ 1000000) := ⟨hN, by omega⟩
  rw [hN] at HV hvc ⊢
  clear h hN hn
  go_enter Try.func18, Try.ntmps18
  go_wp2_with fail
  go_loopg [11] N (fun gk iv wr => ∃ j : Nat, gk + j = N ∧ iv = .int .i64 (j : Int) ∧ Hid ((a, b) ∉ ls.take j ∧ Below w.heap.size w wr))
  case atStart => exact ⟨0, by omega, rfl, by simp, Below.refl _ _⟩
  case round =>
    obtain ⟨j, hj, rfl, HB⟩ := hrel
    by_cases hlt : j < N
    · have hlt2 : j < ls.length := by rw [HN.out.1]; exact hlt
      obtain ⟨bq, c, e, _, c0, c1⟩ := RdK.at (row_below HV.out HB.out.2) j hlt2
      rw [HN.out.1] at e
      cases e
      obtain ⟨q1, q2⟩ := gk_nxt hj hlt
      have htk : ls.take (j + 1) = ls.take j ++ [ls[j]] := by rw [List.take_succ_eq_append_getElem hlt2]
      obtain ⟨l, hl⟩ : ∃ l, ls[j] = l := ⟨_, rfl⟩
      have hlm : l ∈ ls := by rw [← hl]; exact List.getElem_mem hlt2
      rw [hl] at c0 c1 htk
      obtain ⟨x, y⟩ := l
      have hb0 := below_box4 wr (.cells #[.int .u64 (x : Int), .int .u64 (y : Int)] 49)
      obtain ⟨z0, z1⟩ := box2_new wr (.int .u64 (x : Int)) (.int .u64 (y : Int)) 49
      have HB0 : Hid (Below w.heap.size w (wr.alloc (.cells #[.int .u64 (x : Int), .int .u64 (y : Int)] 49))) := bsplit HB.out.2 hb0
      have HT : Hid (ls.take (j + 1) = ls.take j ++ [(x, y)]) := htk
      clear hb0 htk hl
      by_cases hx : x = a
      · subst hx
        by_cases hy : y = b
        · subst hy
          have HE : Hid (decide ((x, y) ∈ ls) = true) := decide_eq_true hlm
          clear hlm
          go_wp2_with fail
          go_ret
          exact ⟨by rw [HE.out]; rfl, HB0.out⟩
        · have hyI : ¬ (y : Int) = (b : Int) := by omega
          have HF : Hid ((x, b) ∉ ls.take (j + 1)) := by
            rw [HT.out, List.mem_append]
            rintro (h9 | h9)
            · exact HB.out.1 h9
            · simp at h9; exact hy h9.symm
          clear hlm
          go_wp2_with fail
          go_roundg (gk - 1)
          case measure => exact q1
          case rel => exact ⟨j + 1, q2, by go_num, HF.out, HB0.out⟩
      · have hxI : ¬ (x : Int) = (a : Int) := by omega
        have HF : Hid ((a, b) ∉ ls.take (j + 1)) := by
          rw [HT.out, List.mem_append]
          rintro (h9 | h9)
          · exact HB.out.1 h9
          · simp at h9; exact hx h9.1.symm
        clear hlm
        go_wp2_with fail
        go_roundg (gk - 1)
        case measure => exact q1
        case rel => exact ⟨j + 1, q2, by go_num, HF.out, HB0.out⟩
    · have hjN : j = N := by omega
      subst hjN
      have HE : Hid (decide ((a, b) ∈ ls) = false ∧ Below w.heap.size w wr) := ⟨decide_eq_false (by have := HB.out.1; rw [← HN.out.1, List.take_length] at this; exact this), HB.out.2⟩
      go_wp2
      go_ret
      exact ⟨by rw [HE.out.1]; rfl, HE.out.2⟩

/-- without a node's -/
def offK (n : Nat) (l : Nat × Nat) : Bool := decide (l.1 ≠ n) && decide (l.2 ≠ n)

set_option maxHeartbeats 2000000 in
theorem refcut_any (w : World) (v : Value) (ls : List (Nat × Nat)) (a : Nat) (h : RdK w v ls) (hn : ls.length ≤ 1000000) :
    Calls Try.prog 21 #[v, .int .u64 (a : Int)] w fun e w' => ∃ v', e = .returned v' ∧ OwnK w.heap.size w' v' (ls.filter (offK a)) ∧ Below w.heap.size w w' := by
  obtain ⟨va, vc, rfl, hvc, hvc2⟩ := row_slice9 h
  obtain ⟨N, hN⟩ : ∃ N, ls.length = N := ⟨_, rfl⟩
  have HV : Hid (RdK w (.slice va ls.length vc) ls) := h
  have HN : Hid (ls.length = N ∧ N ≤ 1000000) := ⟨hN, by omega⟩
  rw [hN] at HV hvc ⊢
  clear h hN hn
  go_enter Try.func21, Try.ntmps21
  go_wp2_with fail
  go_loopg [5, 10] N (fun gk rv iv wr => ∃ (j n' c' : Nat) (a' : Option Addr), gk + j = N ∧ iv = .int .i64 (j : Int) ∧ rv = .slice a' n' c' ∧ Hid (((ls.take j).filter (offK a)).length = n' ∧ OwnK w.heap.size wr (.slice a' n' c') ((ls.take j).filter (offK a)) ∧ Below w.heap.size w wr))
  case atStart => exact ⟨0, 0, 0, none, by omega, rfl, rfl, rfl, World.ownsRow_nil _ _ _ _, Below.refl _ _⟩
  case round =>
    obtain ⟨j, n', c', a', hj, rfl, rfl, HB⟩ := hrel
    by_cases hlt : j < N
    · have hlt2 : j < ls.length := by rw [HN.out.1]; exact hlt
      obtain ⟨bq, c, e, _, c0, c1⟩ := RdK.at (row_below HV.out HB.out.2.2) j hlt2
      rw [HN.out.1] at e
      cases e
      obtain ⟨q1, q2⟩ := gk_nxt hj hlt
      have htk : ls.take (j + 1) = ls.take j ++ [ls[j]] := by rw [List.take_succ_eq_append_getElem hlt2]
      obtain ⟨l, hl⟩ : ∃ l, ls[j] = l := ⟨_, rfl⟩
      rw [hl] at c0 c1 htk
      obtain ⟨x, y⟩ := l
      have hb0 := below_box4 wr (.cells #[.int .u64 (x : Int), .int .u64 (y : Int)] 49)
      obtain ⟨z0, z1⟩ := box2_new wr (.int .u64 (x : Int)) (.int .u64 (y : Int)) 49
      have HB0 : Hid (Below w.heap.size w (wr.alloc (.cells #[.int .u64 (x : Int), .int .u64 (y : Int)] 49)) ∧ OwnK w.heap.size (wr.alloc (.cells #[.int .u64 (x : Int), .int .u64 (y : Int)] 49)) (.slice a' n' c') ((ls.take j).filter (offK a))) := ⟨bsplit HB.out.2.2 hb0, row_below HB.out.2.1 hb0⟩
      have HT : Hid ((ls.take (j + 1)).filter (offK a) = (ls.take j).filter (offK a) ++ if offK a (x, y) = true then [(x, y)] else []) := by
        show _ = _
        rw [htk, List.filter_append]
        congr 1
        by_cases h9 : offK a (x, y) = true <;> simp [h9]
      clear hb0 htk hl
      by_cases hx : x = a
      · subst hx
        have HF : Hid ((ls.take (j + 1)).filter (offK x) = (ls.take j).filter (offK x)) := by
          show _ = _
          rw [HT.out]; simp [offK]
        go_wp2_with fail
        go_roundg (gk - 1)
        case measure => exact q1
        case rel => exact ⟨j + 1, n', c', a', q2, by go_num, rfl, by rw [HF.out]; exact HB.out.1, by rw [HF.out]; exact HB0.out.2, HB0.out.1⟩
      · have hxI : ¬ (x : Int) = (a : Int) := by omega
        by_cases hy : y = a
        · subst hy
          have HF : Hid ((ls.take (j + 1)).filter (offK y) = (ls.take j).filter (offK y)) := by
            show _ = _
            rw [HT.out]; simp [offK]
          go_wp2_with fail
          go_roundg (gk - 1)
          case measure => exact q1
          case rel => exact ⟨j + 1, n', c', a', q2, by go_num, rfl, by rw [HF.out]; exact HB.out.1, by rw [HF.out]; exact HB0.out.2, HB0.out.1⟩
        · have hyI : ¬ (y : Int) = (a : Int) := by omega
          obtain ⟨W1, hW1⟩ : ∃ W1, wr.alloc (.cells #[.int .u64 (x : Int), .int .u64 (y : Int)] 49) = W1 := ⟨_, rfl⟩
          have hbw := below_box4 W1 (.cells #[.int .u64 (x : Int), .int .u64 (y : Int)] 49)
          obtain ⟨y0, y1⟩ := box2_new W1 (.int .u64 (x : Int)) (.int .u64 (y : Int)) 49
          rw [hW1] at HB0
          have ho2 := row_below HB0.out.2 hbw
          have hbb := bsplit HB0.out.1 hbw
          obtain ⟨g9, c9, w5, hrun, ho5, hk5⟩ := OwnK.run ho2 (x, y) W1.heap.size 26 y0 y1 (Nat.le_trans (List.length_filter_le _ _) (by rw [List.length_take]; have := HN.out; omega)) hbb.size
          rw [HB.out.1] at hrun ho5
          have HF : Hid (((ls.take (j + 1)).filter (offK a)).length = n' + 1 ∧ OwnK w.heap.size w5 (.slice (some ⟨g9, 0, none⟩) (n' + 1) c9) ((ls.take (j + 1)).filter (offK a)) ∧ Below w.heap.size w w5) := by
            rw [HT.out, if_pos (by simp [offK, hx, hy])]
            exact ⟨by rw [List.length_append, HB.out.1]; rfl, ho5, hbb.trans (hk5.below (fun q hq => (World.ownsRow.lt ho2 q hq).1) hbb.size)⟩
          have hs1 : W1.heap.size = wr.heap.size + 1 := by rw [← hW1]; simp
          rw [hs1, ← hW1] at hrun
          clear hs1 hW1 hbw y0 y1 ho2 hbb ho5 hk5
          go_wp2_with (first | (at_builtin; refine wpList_appU rfl _ _ _ rfl _ _ _ rfl rfl hrun ?_) | fail)
          rotate_left
          · rename_i hcond
            simp [hxI, hyI] at hcond
          go_roundg (gk - 1)
          case measure => exact q1
          case rel => exact ⟨j + 1, n' + 1, c9, _, q2, by go_num, rfl, HF.out⟩
    · have hjN : j = N := by omega
      subst hjN
      have HE : Hid ((ls.take j).filter (offK a) = ls.filter (offK a)) := by show _ = _; rw [← HN.out.1, List.take_length]
      go_wp2
      go_ret
      exact ⟨_, rfl, by rw [← HE.out]; exact HB.out.2.1, HB.out.2.2⟩

end Go.Proofs.Ytgkgdbdapkgkgaa

/- bartizanlaw18.nodes: all that links name. -/
namespace Go.Proofs.Ytgkgdbdapkgkgaa
set_option maxRecDepth 100000
open Go.RowKit Go.Maps
set_option linter.unusedVariables false
set_option linter.unusedSimpArgs false

/-- numbers more, behind a row of one's own -/
theorem OwnU.runL {B : Nat} {w : World} {v : Value} {ns ms : List Nat} (h : OwnU B w v ns) (a : Addr) (c : Nat) (ty : TypeId) (ha : ∀ j (hj : j < ms.length), w.cell? (a.add j) = some (.int .u64 (ms[j] : Int))) (hn : ns.length + ms.length ≤ 1000000) (h0 : 0 < ms.length) (hB : B ≤ w.heap.size) :
    ∃ g c' w', (Builtin.append_ #[28, 28] ty #[v, .slice (some a) ms.length c]).run Try.prog w = .ok (.slice (some ⟨g, 0, none⟩) (ns.length + ms.length) c') w' ∧ OwnU B w' (.slice (some ⟨g, 0, none⟩) (ns.length + ms.length) c') (ns ++ ms) ∧ Keeps (fun q => v.ownBlock = some q) w w' := by
  obtain ⟨i0, hi, hz0, hz1, hz2⟩ := info_parts infoU64
  obtain ⟨v', w', hr, r1, r2, r3⟩ := run_append_own (P := Try.prog) w B 28 ty 30 i0 (.int .u64 0) 1 8 Try.underlying28 hi hz0 hz1 hz2 rfl (by decide) v ns.length (ns.map encN) h a ms.length c (ms.map encN) (by simp) (fun j u hu => by
    rw [List.getElem?_map] at hu
    by_cases hj : j < ms.length
    · rw [List.getElem?_eq_getElem hj] at hu
      simp at hu
      subst hu
      exact ha j hj
    · rw [List.getElem?_eq_none (by omega)] at hu
      cases hu) (by intro u hu; obtain ⟨z, _, rfl⟩ := List.mem_map.1 hu; rfl) (by simp only [maxLen]; omega) (by omega) hB
  obtain ⟨k, hk⟩ : ∃ k, ns.length + ms.length = k + 1 := ⟨ns.length + ms.length - 1, by omega⟩
  rw [hk] at r1
  obtain ⟨g, c9, rfl⟩ := ownsRow_succ r1
  rw [← hk] at hr r1
  refine ⟨g, c9, w', by rw [hr, hk], ?_, keeps_grown r2 (fun q e => e)⟩
  unfold OwnU
  rw [List.length_append, List.map_append, hk]
  rw [hk] at r1
  exact r1

/-- all that links name -/
def ndK (ls : List (Nat × Nat)) : List Nat := ls.flatMap fun l => [l.1, l.2]
theorem ndK_len : ∀ ls : List (Nat × Nat), (ndK ls).length = ls.length * 2
  | [] => rfl
  | a :: r => by
    have := ndK_len r
    unfold ndK at this ⊢
    rw [List.flatMap_cons, List.length_append, this, List.length_cons]
    simp
    omega
theorem ndK_mem {ls : List (Nat × Nat)} {l : Nat × Nat} (h : l ∈ ls) : l.1 ∈ ndK ls ∧ l.2 ∈ ndK ls := by
  unfold ndK
  exact ⟨List.mem_flatMap.2 ⟨l, h, by simp⟩, List.mem_flatMap.2 ⟨l, h, by simp⟩⟩

set_option maxHeartbeats 2000000 in
theorem nodes_any (w : World) (v : Value) (ls : List (Nat × Nat)) (h : RdK w v ls) (hn : ls.length ≤ 100000) :
    Calls Try.prog 10 #[v] w fun e w' => ∃ v', e = .returned v' ∧ OwnU w.heap.size w' v' (ndK ls ++ [77]) ∧ Below w.heap.size w w' := by
  obtain ⟨va, vc, rfl, hvc, hvc2⟩ := row_slice9 h
  obtain ⟨N, hN⟩ : ∃ N, ls.length = N := ⟨_, rfl⟩
  have HV : Hid (RdK w (.slice va ls.length vc) ls) := h
  have HN : Hid (ls.length = N ∧ N ≤ 100000) := ⟨hN, by omega⟩
  rw [hN] at HV hvc ⊢
  clear h hN hn
  go_enter Try.func10, Try.ntmps10
  go_wp2_with fail
  go_loopg [3, 8] N (fun gk rv iv wr => ∃ (j n' c' : Nat) (a' : Option Addr), gk + j = N ∧ iv = .int .i64 (j : Int) ∧ rv = .slice a' n' c' ∧ Hid ((ndK (ls.take j)).length = n' ∧ OwnU w.heap.size wr (.slice a' n' c') (ndK (ls.take j)) ∧ Below w.heap.size w wr))
  case atStart => exact ⟨0, 0, 0, none, by omega, rfl, rfl, rfl, World.ownsRow_nil _ _ _ _, Below.refl _ _⟩
  case round =>
    obtain ⟨j, n', c', a', hj, rfl, rfl, HB⟩ := hrel
    by_cases hlt : j < N
    · have hlt2 : j < ls.length := by rw [HN.out.1]; exact hlt
      obtain ⟨bq, c, e, _, c0, c1⟩ := RdK.at (row_below HV.out HB.out.2.2) j hlt2
      rw [HN.out.1] at e
      cases e
      obtain ⟨q1, q2⟩ := gk_nxt hj hlt
      have htk : ls.take (j + 1) = ls.take j ++ [ls[j]] := by rw [List.take_succ_eq_append_getElem hlt2]
      obtain ⟨l, hl⟩ : ∃ l, ls[j] = l := ⟨_, rfl⟩
      rw [hl] at c0 c1 htk
      obtain ⟨x, y⟩ := l
      have hb0 := below_box4 wr (.cells #[.int .u64 (x : Int), .int .u64 (y : Int)] 49)
      obtain ⟨z0, z1⟩ := box2_new wr (.int .u64 (x : Int)) (.int .u64 (y : Int)) 49
      obtain ⟨W1, hW1⟩ : ∃ W1, wr.alloc (.cells #[.int .u64 (x : Int), .int .u64 (y : Int)] 49) = W1 := ⟨_, rfl⟩
      have hb1 : Below w.heap.size w W1 := by rw [← hW1]; exact bsplit HB.out.2.2 hb0
      have ho1 : OwnU w.heap.size W1 (.slice a' n' c') (ndK (ls.take j)) := by rw [← hW1]; exact row_below HB.out.2.1 hb0
      have hs1 : W1.heap.size = wr.heap.size + 1 := by rw [← hW1]; simp
      have hbw := below_box4 W1 (.cells #[.int .u64 (x : Int), .int .u64 (y : Int)] 30)
      obtain ⟨y0, y1⟩ := box2_new W1 (.int .u64 (x : Int)) (.int .u64 (y : Int)) 30
      have ho2 : OwnU w.heap.size _ (.slice a' n' c') (ndK (ls.take j)) := row_below ho1 hbw
      have hbb := bsplit hb1 hbw
      have hlen : (ndK (ls.take j)).length ≤ 200000 := by rw [ndK_len, List.length_take]; have := HN.out; omega
      obtain ⟨g9, c9, w5, hrun, ho5, hk5⟩ := OwnU.runL (ms := [x, y]) ho2 ⟨W1.heap.size, 0, none⟩ 2 28 (fun i hi => by
        match i, hi with
        | 0, _ => exact y0
        | 1, _ => exact y1
        | i + 2, hi => have h9 : i + 2 < 2 := hi; omega) (by simp; omega) (by simp) hbb.size
      rw [HB.out.1] at hrun ho5
      have HF : Hid ((ndK (ls.take (j + 1))).length = n' + 2 ∧ OwnU w.heap.size w5 (.slice (some ⟨g9, 0, none⟩) (n' + 2) c9) (ndK (ls.take (j + 1))) ∧ Below w.heap.size w w5) := by
        have e9 : ndK (ls.take (j + 1)) = ndK (ls.take j) ++ [x, y] := by rw [htk]; unfold ndK; rw [List.flatMap_append]; simp
        rw [e9]
        exact ⟨by rw [List.length_append, HB.out.1]; rfl, ho5, hbb.trans (hk5.below (fun q hq => (World.ownsRow.lt ho2 q hq).1) hbb.size)⟩
      have hn2 : n' ≤ 200000 := by have := HB.out.1; omega
      simp only [List.length_cons, List.length_nil, Nat.zero_add, Nat.reduceAdd] at hrun
      rw [hs1, ← hW1] at hrun
      clear hs1 hW1 hbw y0 y1 ho1 ho2 hbb ho5 hk5 hb0 hb1 htk hl hlen
      go_wp2_with (first | (at_builtin; refine wpList_appU rfl _ _ _ rfl _ _ _ rfl rfl hrun ?_) | fail)
      go_roundg (gk - 1)
      case measure => exact q1
      case rel => exact ⟨j + 1, n' + 2, c9, _, q2, by go_num, rfl, HF.out⟩
    · have hjN : j = N := by omega
      subst hjN
      have hb2 := below_box4 wr (.cells #[.int .u64 77] 30)
      have ho2 : OwnU w.heap.size (wr.alloc (.cells #[.int .u64 77] 30)) (.slice a' n' c') (ndK (ls.take j)) := row_below HB.out.2.1 hb2
      have hbb := bsplit HB.out.2.2 hb2
      have hlen : (ndK (ls.take j)).length ≤ 200000 := by rw [ndK_len, List.length_take]; have := HN.out; omega
      obtain ⟨g9, c9, w5, hrun, ho5, hk5⟩ := ho2.run 77 wr.heap.size 28 (by simp) (by omega) hbb.size
      rw [HB.out.1] at hrun ho5
      have HE : Hid (OwnU w.heap.size w5 (.slice (some ⟨g9, 0, none⟩) (n' + 1) c9) (ndK ls ++ [77]) ∧ Below w.heap.size w w5) := by
        have e9 : ls.take j = ls := by rw [← HN.out.1, List.take_length]
        rw [e9] at ho5
        exact ⟨ho5, hbb.trans (hk5.below (fun q hq => (ho2.lts q hq).1) hbb.size)⟩
      clear hb2 ho2 hbb ho5 hk5 hlen
      go_wp2_with (first | (at_builtin; refine wpList_appU rfl _ _ _ rfl _ _ _ rfl rfl hrun ?_) | fail)
      go_ret
      exact ⟨_, rfl, HE.out.1, HE.out.2⟩

end Go.Proofs.Ytgkgdbdapkgkgaa

/- What a law of graphs is told of calls that came in. -/
namespace Go.Proofs.Ytgkgdbdapkgkgaa
open Go.ChangeShapes Go.WideShapes Go.ChangeAt Go.RowKit
set_option linter.unusedVariables false
set_option linter.unusedSimpArgs false
set_option maxRecDepth 20000

/-- a call: which, from whom, and whom it names -/
structure GOp where
  dop : UInt8
  k : Nat
  ts : List Nat

/-- a slice of numbers, wherever it lies -/
def ArgU (w : World) (v : Value) (ts : List Nat) : Prop :=
  (v = .slice none 0 0 ∧ ts = []) ∨ ∃ a cap, v = .slice (some a) ts.length cap ∧ ts.length ≤ cap ∧ cap ≤ 9223372036854775807 ∧ (∀ j (hj : j < ts.length), w.cell? (a.add j) = some (.int .u64 (ts[j] : Int))) ∧ ∀ x ∈ ts, x < 18446744073709551616

theorem cell_belowGO {B : Nat} {w w' : World} {p : Addr} {v : Value} (hb : Below B w w') (hB : w.heap.size ≤ B) (h : w.cell? p = some v) : w'.cell? p = some v :=
  (hb.cell (Nat.lt_of_lt_of_le (World.block_lt_of_cell? w _ h) hB)).trans h

theorem ArgU.below {B : Nat} {w w' : World} {v : Value} {ts : List Nat} (h : ArgU w v ts) (hb : Below B w w') (hB : w.heap.size ≤ B) : ArgU w' v ts := by
  rcases h with h | ⟨a, cap, e, h1, h2, h3, h4⟩
  · exact .inl h
  · exact .inr ⟨a, cap, e, h1, h2, fun j hj => cell_belowGO hb hB (h3 j hj), h4⟩

structure GOpAt (w : World) (b off : Nat) (o : GOp) (x : Value) : Prop where
  c0 : w.cell? ⟨b, off, none⟩ = some (.int .u8 (o.dop.toNat : Int))
  c1 : w.cell? ⟨b, off + 1, none⟩ = some (.int .u64 (o.k : Int))
  c2 : w.cell? ⟨b, off + 2, none⟩ = some x
  ax : ArgU w x o.ts
  hk : o.k < 18446744073709551616

def ArgGO (w : World) (v : Value) (os : List GOp) : Prop :=
  ∃ a cap, v = .slice a os.length cap ∧ os.length ≤ cap ∧ cap ≤ 9223372036854775807 ∧ ∀ j (hj : j < os.length), ∃ b off, a = some ⟨b, off, none⟩ ∧ ∃ x, GOpAt w b (off + j * 3) os[j] x

theorem GOpAt.below {B : Nat} {w w' : World} {b off : Nat} {o : GOp} {x : Value} (h : GOpAt w b off o x) (hb : Below B w w') (hB : w.heap.size ≤ B) : GOpAt w' b off o x :=
  ⟨cell_belowGO hb hB h.c0, cell_belowGO hb hB h.c1, cell_belowGO hb hB h.c2, h.ax.below hb hB, h.hk⟩

theorem ArgGO.below {B : Nat} {w w' : World} {v : Value} {os : List GOp} (h : ArgGO w v os) (hb : Below B w w') (hB : w.heap.size ≤ B) : ArgGO w' v os := by
  obtain ⟨a, cap, e, h1, h2, h3⟩ := h
  refine ⟨a, cap, e, h1, h2, fun j hj => ?_⟩
  obtain ⟨b, off, e2, v1, h4⟩ := h3 j hj
  exact ⟨b, off, e2, v1, h4.below hb hB⟩

theorem numsU_of {H : Type} {enc : TypeId × Value → H} {w : World} {n : Nat} {v : Value} {y : DataW H × List MemPlace}
    (h : DataW.trod enc Try.prog w 0 (fun _ => true) true n 28 [v] = some y) : ∃ ts, ArgU w v ts := by
  rcases open_ints Try.underlying28 Try.underlying30 (by kernel_rfl) h with ⟨hcs, _⟩ | ⟨x, l, c, zs, hcs, _, hl, hm, hz, _, hcell, hwz⟩
  · simp at hcs
    exact ⟨[], .inl ⟨hcs, rfl⟩⟩
  · simp at hcs
    subst hcs
    have hz : zs.length = c := by simpa using hz
    have hlen : ((zs.take l).map Int.toNat).length = l := by rw [List.length_map, List.length_take]; omega
    refine ⟨(zs.take l).map Int.toNat, .inr ⟨x, c, by rw [hlen], by rw [hlen]; exact hl, by unfold maxLen at hm; exact hm, fun j hj => ?_, fun u hu => ?_⟩⟩
    · rw [hlen] at hj
      have hjz : j < zs.length := by omega
      rw [hcell j hjz]
      have hw := bounds_u64 (hwz zs[j] (List.getElem_mem hjz))
      rw [List.getElem_map, List.getElem_take]
      have e9 : zs.getD j 0 = zs[j] := by simp [List.getD, hjz]
      rw [e9, show ((zs[j].toNat : Nat) : Int) = zs[j] by omega]
    · obtain ⟨z, hz9, rfl⟩ := List.mem_map.1 hu
      have hw := bounds_u64 (hwz z (List.mem_of_mem_take hz9))
      omega

theorem byte_ofG {k : Int} (h : (Lit.int .u8 k).wf = true) : k = ((UInt8.ofNat k.toNat).toNat : Int) := by
  have := bounds_u8 h
  rw [UInt8.toNat_ofNat', Nat.mod_eq_of_lt (by omega)]
  omega

theorem gop_of {H : Type} {enc : TypeId × Value → H} {w : World} {n : Nat} {v0 v1 v2 : Value} {y : DataW H × List MemPlace}
    (h : DataW.trod enc Try.prog w 0 (fun _ => true) true n 47 [v0, v1, v2] = some y) :
    ∃ o : GOp, v0 = .int .u8 (o.dop.toNat : Int) ∧ v1 = .int .u64 (o.k : Int) ∧ ArgU w v2 o.ts ∧ o.k < 18446744073709551616 := by
  obtain ⟨y0, y1, y2, n', _, _, h0, h1, h2⟩ := Deep.trod_struct3 Try.underlying47 h
  have c5 : Try.prog.cellsOf 5 = 1 := by kernel_rfl
  have c8 : Try.prog.cellsOf 30 = 1 := by kernel_rfl
  have cb : Try.prog.cellsOf 28 = 1 := by kernel_rfl
  simp only [c5, c8, cb] at h0 h1 h2
  simp at h0 h1 h2
  obtain ⟨k, e0, _, wk⟩ := DataW.trod_int Try.underlying5 h0
  obtain ⟨s, e1, _, ws⟩ := DataW.trod_int Try.underlying30 h1
  obtain ⟨ts, ht⟩ := numsU_of h2
  simp at e0 e1
  subst e0 e1
  have hs := bounds_u64 ws
  refine ⟨⟨UInt8.ofNat k.toNat, s.toNat, ts⟩, congrArg (Value.int .u8) (byte_ofG wk), ?_, ht, by show s.toNat < _; omega⟩
  rw [show ((s.toNat : Nat) : Int) = s by omega]

theorem gopsArg_of {H : Type} {enc : TypeId × Value → H} {w : World} {a : Option Addr} {len cap : Nat} {d : DataW H} {ps : List MemPlace}
    (h : DataW.Trod enc Try.prog w 0 (fun _ => true) true 22 (.slice a len cap) d ps) : ∃ os, ArgGO w (.slice a len cap) os := by
  obtain ⟨fuel, hf⟩ := h
  rcases Deep.open_slice Try.underlying22 hf with ⟨hcs, _⟩ | ⟨x, len', cap', m, n, D, Pl, hcs, _, hl, hm, hmm, _, hall⟩
  · simp [Value.cells] at hcs
    obtain ⟨rfl, rfl, rfl⟩ := hcs
    exact ⟨[], none, 0, rfl, by simp, by omega, fun j hj => by simp at hj⟩
  · simp [Value.cells] at hcs
    obtain ⟨rfl, rfl, rfl⟩ := hcs
    simp only [if_true] at hmm
    subst hmm
    have c3 : Try.prog.cellsOf 47 = 3 := by kernel_rfl
    rw [c3] at hall
    have hsp : 0 < len → x.spot = none := by
      intro h0
      obtain ⟨cs', h1, _⟩ := hall 0 (by omega)
      obtain ⟨_, hlen, hcell⟩ := World.cells?_some h1
      match cs', hlen with
      | [v0, v1, v2], _ =>
        have k0 : w.cell? ((x.add (0 * 3)).add 0) = some v0 := hcell 0 (by decide)
        simpa [Addr.add] using World.cell?_spot k0
    have hex : ∀ i, i < len → ∃ o : GOp, ∃ b off, x = ⟨b, off, none⟩ ∧ ∃ x, GOpAt w b (off + i * 3) o x := by
      intro i hi
      obtain ⟨cs', h1, h2⟩ := hall i (by omega)
      obtain ⟨_, hlen, hcell⟩ := World.cells?_some h1
      match cs', hlen with
      | [v0, v1, v2], _ =>
        obtain ⟨o, rfl, rfl, r2, s1⟩ := gop_of h2
        have k0 := hcell 0 (by decide)
        have k1 := hcell 1 (by decide)
        have k2 := hcell 2 (by decide)
        have hspot := hsp (by omega)
        obtain ⟨b, off, spot⟩ := x
        simp only at hspot
        subst hspot
        simp only [Addr.add_lit] at k0 k1 k2
        exact ⟨o, b, off, rfl, v2, k0, k1, k2, r2, s1⟩
    have hI : Inhabited GOp := ⟨⟨0, 0, []⟩⟩
    obtain ⟨L, hL⟩ := Deep.choose_lt hex
    refine ⟨(List.range len).map L, some x, m, by simp, by simp; omega, by unfold maxLen at hm; omega, fun j hj => ?_⟩
    have hj' : j < len := by simpa using hj
    obtain ⟨b, off, rfl, v1, hD⟩ := hL j hj'
    exact ⟨b, off, rfl, v1, by simpa using hD⟩

end Go.Proofs.Ytgkgdbdapkgkgaa

/- A script of links and cuts, in pure terms; append of a slice that came in. -/
namespace Go.Proofs.Ytgkgdbdapkgkgaa
set_option maxRecDepth 100000
open Go.RowKit Go.Maps
set_option linter.unusedVariables false
set_option linter.unusedSimpArgs false

/-- the links that are not there yet -/
def addL (ls : List (Nat × Nat)) (k : Nat) (ns : List Nat) : List (Nat × Nat) := ns.foldl (fun acc x => if (k, x) ∈ acc then acc else acc ++ [(k, x)]) ls
/-- without some nodes' links -/
def cutL (ls : List (Nat × Nat)) (ns : List Nat) : List (Nat × Nat) := ns.foldl (fun acc x => acc.filter (offK x)) ls

theorem addL_snoc (ls : List (Nat × Nat)) (k : Nat) (ns : List Nat) (x : Nat) : addL ls k (ns ++ [x]) = if (k, x) ∈ addL ls k ns then addL ls k ns else addL ls k ns ++ [(k, x)] := by
  unfold addL
  rw [List.foldl_append]
  rfl
theorem cutL_snoc (ls : List (Nat × Nat)) (ns : List Nat) (x : Nat) : cutL ls (ns ++ [x]) = (cutL ls ns).filter (offK x) := by
  unfold cutL
  rw [List.foldl_append]
  rfl

theorem addL_mem (k : Nat) : ∀ (ns : List Nat) (ls : List (Nat × Nat)) (p : Nat × Nat), p ∈ addL ls k ns ↔ p ∈ ls ∨ (p.1 = k ∧ p.2 ∈ ns)
  | [], ls, p => by simp [addL]
  | x :: r, ls, p => by
    have ih := addL_mem k r (if (k, x) ∈ ls then ls else ls ++ [(k, x)]) p
    have e : addL ls k (x :: r) = addL (if (k, x) ∈ ls then ls else ls ++ [(k, x)]) k r := rfl
    rw [e, ih]
    obtain ⟨a, b⟩ := p
    by_cases h : (k, x) ∈ ls
    · rw [if_pos h]
      constructor
      · rintro (h1 | ⟨h1, h2⟩)
        · exact .inl h1
        · exact .inr ⟨h1, List.mem_cons_of_mem _ h2⟩
      · rintro (h1 | ⟨h1, h2⟩)
        · exact .inl h1
        · rcases List.mem_cons.1 h2 with h3 | h3
          · left
            simp only at h1 h3
            rw [h1, h3]; exact h
          · exact .inr ⟨h1, h3⟩
    · rw [if_neg h, List.mem_append, List.mem_singleton]
      constructor
      · rintro ((h1 | h1) | ⟨h1, h2⟩)
        · exact .inl h1
        · cases h1; exact .inr ⟨rfl, List.mem_cons_self⟩
        · exact .inr ⟨h1, List.mem_cons_of_mem _ h2⟩
      · rintro (h1 | ⟨h1, h2⟩)
        · exact .inl (.inl h1)
        · rcases List.mem_cons.1 h2 with h3 | h3
          · simp only at h1 h3
            rw [h1, h3]; exact .inl (.inr rfl)
          · exact .inr ⟨h1, h3⟩

theorem cutL_mem : ∀ (ns : List Nat) (ls : List (Nat × Nat)) (p : Nat × Nat), p ∈ cutL ls ns ↔ p ∈ ls ∧ p.1 ∉ ns ∧ p.2 ∉ ns
  | [], ls, p => by simp [cutL]
  | x :: r, ls, p => by
    have ih := cutL_mem r (ls.filter (offK x)) p
    have e : cutL ls (x :: r) = cutL (ls.filter (offK x)) r := rfl
    rw [e, ih, List.mem_filter]
    unfold offK
    simp only [Bool.and_eq_true, decide_eq_true_eq, List.mem_cons, not_or]
    constructor
    · rintro ⟨⟨h1, h2, h3⟩, h4, h5⟩; exact ⟨h1, ⟨h2, h4⟩, h3, h5⟩
    · rintro ⟨h1, ⟨h2, h4⟩, h3, h5⟩; exact ⟨⟨h1, h2, h3⟩, h4, h5⟩

theorem addL_len (k : Nat) : ∀ (ns : List Nat) (ls : List (Nat × Nat)), (addL ls k ns).length ≤ ls.length + ns.length
  | [], ls => by simp [addL]
  | x :: r, ls => by
    have ih := addL_len k r (if (k, x) ∈ ls then ls else ls ++ [(k, x)])
    have e : addL ls k (x :: r) = addL (if (k, x) ∈ ls then ls else ls ++ [(k, x)]) k r := rfl
    rw [e, List.length_cons]
    by_cases h : (k, x) ∈ ls
    · rw [if_pos h] at ih ⊢; omega
    · rw [if_neg h] at ih ⊢
      rw [List.length_append, List.length_singleton] at ih
      omega
theorem cutL_len : ∀ (ns : List Nat) (ls : List (Nat × Nat)), (cutL ls ns).length ≤ ls.length
  | [], ls => by simp [cutL]
  | x :: r, ls => by
    have ih := cutL_len r (ls.filter (offK x))
    have e : cutL ls (x :: r) = cutL (ls.filter (offK x)) r := rfl
    rw [e]
    exact Nat.le_trans ih (List.length_filter_le _ _)

/-- the links are the graph's -/
def GL (e : Nat → List Nat) (ls : List (Nat × Nat)) : Prop := ∀ k x, x ∈ e k ↔ (k, x) ∈ ls

theorem GL.link {e : Nat → List Nat} {ls : List (Nat × Nat)} (h : GL e ls) (k : Nat) (ns : List Nat) : GL (lnkE e k ns) (addL ls k ns) := fun a x => by
  rw [addL_mem]
  unfold lnkE
  by_cases e1 : a = k
  · rw [if_pos e1, List.mem_append, h a x]
    simp [e1]
  · rw [if_neg e1, h a x]
    simp [e1]

theorem GL.cut {e : Nat → List Nat} {ls : List (Nat × Nat)} (h : GL e ls) (ns : List Nat) : GL (cutE e ns) (cutL ls ns) := fun a x => by
  rw [cutL_mem]
  unfold cutE
  by_cases e1 : a ∈ ns
  · rw [if_pos e1]
    simp [e1]
  · rw [if_neg e1, List.mem_filter, h a x]
    simp [e1]

theorem ArgU.take {w : World} {a : Addr} {n c : Nat} {ts : List Nat} (h : ArgU w (.slice (some a) n c) ts) (m : Nat) (hm : m ≤ ts.length) : n = ts.length ∧ ArgU w (.slice (some a) m c) (ts.take m) := by
  rcases h with ⟨h, _⟩ | ⟨a', cap, e, h1, h2, h3, h4⟩
  · cases h
  · cases e
    have hl : (ts.take m).length = m := by rw [List.length_take]; omega
    refine ⟨rfl, .inr ⟨a, c, by rw [hl], by omega, h2, fun j hj => ?_, fun x hx => h4 x (List.mem_of_mem_take hx)⟩⟩
    rw [List.getElem_take]
    exact h3 j (by omega)

/-- a slice that came in, behind a row of one's own that isn't nil -/
theorem OwnU.runA {B : Nat} {w : World} {g0 n c0 : Nat} {ns ts : List Nat} {vx : Value} (h : OwnU B w (.slice (some ⟨g0, 0, none⟩) n c0) ns) (hn : ns.length = n) (hx : ArgU w vx ts) (ty : TypeId) (hl : n + ts.length ≤ 1000000) (hB : B ≤ w.heap.size) :
    ∃ g c' w', (Builtin.append_ #[28, 28] ty #[.slice (some ⟨g0, 0, none⟩) n c0, vx]).run Try.prog w = .ok (.slice (some ⟨g, 0, none⟩) (n + ts.length) c') w' ∧ OwnU B w' (.slice (some ⟨g, 0, none⟩) (n + ts.length) c') (ns ++ ts) ∧ Keeps (fun q => q = g0) w w' := by
  subst hn
  rcases hx with ⟨rfl, rfl⟩ | ⟨a, cap, rfl, h1, h2, h3, h4⟩
  · obtain ⟨i0, hi, hz0, hz1, hz2⟩ := info_parts infoU64
    have hcap : ns.length ≤ c0 := by
      rcases h.2 with ⟨e', _⟩ | ⟨g, cap, cur, e', _, _, h1, _⟩
      · cases e'
      · cases e'; exact h1
    have hrun := run_append_room_src w 28 28 ty 30 i0 Try.underlying28 hi g0 0 ns.length c0 (.slice none 0 0) 0 [] (Src.ofNil w Try.underlying28 0) (by omega) (fun j hj => absurd hj (by simp)) (fun j hj => absurd hj (by simp))
    have hsc : w.setCells g0 (0 + ns.length * i0.size) [] = w := by simp [World.setCells]
    rw [hsc] at hrun
    exact ⟨g0, c0, w, hrun, by simpa using h, Keeps.refl _ _⟩
  · by_cases h0 : ts.length = 0
    · have ht : ts = [] := List.eq_nil_of_length_eq_zero h0
      subst ht
      obtain ⟨i0, hi, hz0, hz1, hz2⟩ := info_parts infoU64
      have hcap : ns.length ≤ c0 := by
        rcases h.2 with ⟨e', _⟩ | ⟨g, cap, cur, e', _, _, h1, _⟩
        · cases e'
        · cases e'; exact h1
      have hrun := run_append_room_src w 28 28 ty 30 i0 Try.underlying28 hi g0 0 ns.length c0 (.slice (some a) 0 cap) 0 [] (Src.ofSlice w Try.underlying28 a 0 cap [] (by simp) (by simp) (by simp)) (by omega) (fun j hj => absurd hj (by simp)) (fun j hj => absurd hj (by simp))
      have hsc : w.setCells g0 (0 + ns.length * i0.size) [] = w := by simp [World.setCells]
      rw [hsc] at hrun
      exact ⟨g0, c0, w, hrun, by simpa using h, Keeps.refl _ _⟩
    · obtain ⟨g, c', w', r1, r2, r3⟩ := h.runL a cap ty h3 hl (by omega) hB
      exact ⟨g, c', w', r1, r2, r3.mono (fun q e => by cases e; rfl)⟩

end Go.Proofs.Ytgkgdbdapkgkgaa

/- bartizanlaw18.run: a script on a graph, and the links. -/
namespace Go.Proofs.Ytgkgdbdapkgkgaa
set_option maxRecDepth 100000
open Go.RowKit Go.Maps
set_option linter.unusedVariables false
set_option linter.unusedSimpArgs false

def NumK (ls : List (Nat × Nat)) : Prop := ∀ l ∈ ls, l.1 < 18446744073709551616 ∧ l.2 < 18446744073709551616

/-- what run answers -/
def RunPost (B : Nat) (w : World) (g : Nat) (e' : Ending) (w' : World) : Prop :=
  ∃ v ls e n, e' = .returned v ∧ OwnK w.heap.size w' v ls ∧ GL e ls ∧ GrQ B w' g n e ∧ n ≤ 200 ∧ ls.length ≤ 100 ∧ NumK ls ∧ Below B w w'

theorem row_notMp {B n s : Nat} {e : TypeId} {w : World} {v : Value} {cs : List Value} (h : w.ownsRow B e s v n cs) {q : Nat} (hq : v.ownBlock = some q) : ¬ IsMp w q := by
  rintro ⟨es, c, hm⟩
  rcases h.2 with ⟨rfl, _⟩ | ⟨g, c', cur, rfl, _, hc, _⟩
  · cases hq
  · cases hq
    rw [hc] at hm
    cases hm

theorem row_keepsM {C B n s : Nat} {e : TypeId} {w w' : World} {v : Value} {cs : List Value} (h : w.ownsRow C e s v n cs) (hk : Keeps (fun q => B ≤ q ∧ IsMp w q) w w') : w'.ownsRow C e s v n cs := row_same9 h fun q hq => hk.block q (World.ownsRow.lt h q hq).2 fun h9 => row_notMp h hq h9.2

theorem GrQ.keepsC {B : Nat} {F : Nat → Prop} {w w' : World} {g n : Nat} {e : Nat → List Nat} (H : GrQ B w g n e) (hk : Keeps F w w') (hg : ¬ F g) (hF : ∀ q, F q → ¬ IsMp w q) : GrQ B w' g n e := by
  obtain ⟨m, h, h1, h2, h3, h4, h5, h6, h7, h8⟩ := H
  refine ⟨m, h, h1, h2, h3, hk.cell hg h4, h5.same (hk.block m h5.lt (fun hf => hF m hf h5.mp)), h6, fun k b hb => ?_, h8⟩
  obtain ⟨q1, q2, q3, q4, q5⟩ := h7 k b hb
  exact ⟨q1, q2, q3.same (hk.block b q3.lt (fun hf => hF b hf q3.mp)), q4, q5⟩

theorem row_tag {B n s : Nat} {e : TypeId} {w : World} {v : Value} {cs : List Value} (h : w.ownsRow B e s v n cs) {q : Nat} (hq : v.ownBlock = some q) : ∃ cur, w.heap[q]? = some (.cells cur e (0, 0)) := by
  rcases h.2 with ⟨rfl, _⟩ | ⟨g, c', cur, rfl, _, hc, _⟩
  · cases hq
  · cases hq
    exact ⟨cur, hc⟩

theorem GrQ.old {B : Nat} {w : World} {g n : Nat} {e : Nat → List Nat} (H : GrQ B w g n e) : g < w.heap.size := by
  obtain ⟨m, h, h1, h2, h3, h4, _⟩ := H
  exact World.block_lt_of_cell? w _ h4

theorem box3_mid {w : World} {b : Nat} {x y z : Value} {t : TypeId} (h : w.heap[b]? = some (.cells #[x, y, z] t)) : w.cell? ⟨b, 1, none⟩ = some y := by
  rw [cell_of_row _ _ _ _ _ _ h]; simp

theorem box3_new (w : World) (a b c : Value) (t : TypeId) : (w.alloc (.cells #[a, b, c] t)).cell? ⟨w.heap.size, 0, none⟩ = some a ∧ (w.alloc (.cells #[a, b, c] t)).cell? ⟨w.heap.size, 1, none⟩ = some b ∧ (w.alloc (.cells #[a, b, c] t)).cell? ⟨w.heap.size, 2, none⟩ = some c := by
  have h0 := heap_alloc_new w (.cells #[a, b, c] t)
  refine ⟨?_, ?_, ?_⟩
  · rw [cell_of_row _ _ _ _ _ _ h0]; simp
  · rw [cell_of_row _ _ _ _ _ _ h0]; simp
  · rw [cell_of_row _ _ _ _ _ _ h0]; simp

set_option maxHeartbeats 1000000 in
theorem run_any (B : Nat) (w0 w : World) (g : Nat) (v : Value) (os : List GOp) (h0 : w0.heap.size = B) (ha : ArgGO w0 v os) (hb : Below B w0 w) (hg : GrQ B w g 0 (fun _ => [])) :
    Calls Try.prog 9 #[.pointer (some ⟨g, 0, none⟩), v] w (RunPost B w g) := by
  obtain ⟨va, vc, rfl, hvc, hvc2, _⟩ := id ha
  obtain ⟨N, hN⟩ : ∃ N, os.length = N := ⟨_, rfl⟩
  have HA : Hid (ArgGO w0 (.slice va os.length vc) os ∧ w0.heap.size = B ∧ Below B w0 w ∧ GrQ B w g 0 (fun _ => [])) := ⟨ha, h0, hb, hg⟩
  have HN : Hid (os.length = N) := hN
  have HBW : Hid (B ≤ w.heap.size) := by
    show _ ≤ _
    have := hb.size
    omega
  rw [hN] at hvc HA ⊢
  clear ha hN h0 hb hg
  go_enter Try.func9, Try.ntmps9
  go_wp2_with fail
  go_loopg [5, 15] N (fun gk lv iv wr => ∃ (j n' c' : Nat) (a' : Option Addr), gk + j = N ∧ iv = .int .i64 (j : Int) ∧ lv = .slice a' n' c' ∧ j ≤ 24 ∧ Hid (∃ ls e nn, ls.length = n' ∧ OwnK w.heap.size wr (.slice a' n' c') ls ∧ GL e ls ∧ GrQ B wr g nn e ∧ nn ≤ j * 5 ∧ n' ≤ j * 4 ∧ NumK ls ∧ Below B w wr))
  case atStart => exact ⟨0, 0, 0, none, by omega, rfl, rfl, by omega, [], _, 0, rfl, World.ownsRow_nil _ _ _ _, fun k x => by simp, HA.out.2.2.2, by omega, by omega, fun l hl => (by cases hl), Below.refl _ _⟩
  case round =>
    obtain ⟨j, n', c', a', hj, rfl, rfl, hj24, HB⟩ := hrel
    by_cases hlt : j < N
    · have hltI : (j : Int) < (N : Int) := by omega
      have hb0 : Below B w0 wr := by
        obtain ⟨_, _, _, _, _, _, _, _, _, _, h9⟩ := HB.out
        exact HA.out.2.2.1.trans h9
      obtain ⟨va', vc', e9, _, _, hat⟩ := HA.out.1.below hb0 (by rw [HA.out.2.1]; exact Nat.le_refl _)
      rw [HN.out] at e9
      cases e9
      obtain ⟨ob, off, rfl, x, hx⟩ := hat j (by rw [HN.out]; exact hlt)
      obtain ⟨o, ho⟩ : ∃ o, os[j]'(by rw [HN.out]; exact hlt) = o := ⟨_, rfl⟩
      rw [ho] at hx
      obtain ⟨c0, c1, c2, hax, hok⟩ := hx
      obtain ⟨xa, xn, xc, rfl⟩ : ∃ a n c, x = .slice a n c := by
        rcases hax with ⟨h9, _⟩ | ⟨a, cap, h9, _⟩
        · exact ⟨_, _, _, h9⟩
        · exact ⟨_, _, _, h9⟩
      obtain ⟨z0, z1, z2⟩ := box3_new wr (.int .u8 (o.dop.toNat : Int)) (.int .u64 (o.k : Int)) (.slice xa xn xc) 47
      obtain ⟨W1, hW1⟩ : ∃ W1, wr.alloc (.cells #[.int .u8 (o.dop.toNat : Int), .int .u64 (o.k : Int), .slice xa xn xc] 47) = W1 := ⟨_, rfl⟩
      have hs1 : W1.heap.size = wr.heap.size + 1 := by rw [← hW1]; simp
      have hb1 : Below wr.heap.size wr W1 := by rw [← hW1]; exact below_box4 wr _
      obtain ⟨W2, hW2⟩ : ∃ W2, W1.alloc (.cells #[] 30) = W2 := ⟨_, rfl⟩
      have hs2 : W2.heap.size = wr.heap.size + 2 := by rw [← hW2]; simp; omega
      have hb2 : Below W1.heap.size W1 W2 := by rw [← hW2]; exact below_box4 W1 _
      have hb02 := bsplit (Below.refl wr.heap.size wr |>.trans hb1) hb2
      obtain ⟨M, hM⟩ : ∃ M, min xn 4 = M := ⟨_, rfl⟩
      have hMI : min (xn : Int) 4 = (M : Int) := by omega
      have hxl : xn = o.ts.length := by
        rcases hax with ⟨h9, h8⟩ | ⟨a, cap, h9, _⟩
        · cases h9; rw [h8]; rfl
        · cases h9; rfl
      have hMl : M ≤ o.ts.length := by omega
      have hns : (o.ts.take M).length = M := by rw [List.length_take]; omega
      have haxM : ArgU W2 (.slice xa M xc) (o.ts.take M) := by
        have h7 : ArgU W2 (.slice xa xn xc) o.ts := hax.below hb02 (Nat.le_refl _)
        rcases h7 with ⟨h9, h8⟩ | ⟨a, cap, h9, h8⟩
        · cases h9
          have : M = 0 := by omega
          subst this
          exact .inl ⟨rfl, by simp⟩
        · cases h9
          exact (ArgU.take (.inr ⟨a, xc, rfl, h8⟩) M hMl).2
      have hnum : ∀ x ∈ o.ts.take M, x < 18446744073709551616 := fun x hx => by
        rcases hax with ⟨_, h8⟩ | ⟨_, _, _, _, _, _, h8⟩
        · rw [h8] at hx; simp at hx
        · exact h8 x (List.mem_of_mem_take hx)
      have hBw : B ≤ wr.heap.size := by
        have := hb0.size
        rw [HA.out.2.1] at this
        exact this
      have ho0 : OwnU B W2 (.slice (some ⟨W1.heap.size, 0, none⟩) 0 0) [] := ⟨rfl, .inr ⟨W1.heap.size, 0, _, rfl, by omega, by rw [← hW2]; exact World.alloc_heap_new W1 _, Nat.le_refl _, by decide, rfl, rfl⟩⟩
      obtain ⟨g9, c9, w3, hrun, ho3, hk3⟩ := ho0.runA rfl haxM 28 (by omega) (by omega)
      rw [hns, Nat.zero_add] at hrun ho3
      rw [List.nil_append] at ho3
      rw [hs1, ← hW2, ← hW1] at hrun
      have hMc : M ≤ xc := by
        rcases hax with ⟨h9, _⟩ | ⟨a, cap, h9, h8, _⟩
        · cases h9; omega
        · cases h9; omega
      have hMcI : (M : Int) ≤ (xc : Int) := by omega
      have yM : M < 1152921504606846976 := by omega
      have HM4 : Hid (M ≤ 4) := by
        show _ ≤ _
        omega
      have HX : Hid (xn = o.ts.length ∧ (o.ts.take M).length = M) := ⟨hxl, hns⟩
      have hcell : ∀ (i : Nat) (u : Value), W1.cell? ⟨wr.heap.size, i, none⟩ = some u → w3.cell? ⟨wr.heap.size, i, none⟩ = some u := fun i u hu =>
        hk3.cell (show ¬ wr.heap.size = W1.heap.size by omega) ((hb2.cell (p := ⟨wr.heap.size, i, none⟩) (show wr.heap.size < W1.heap.size by omega)).trans hu)
      have y0 := hcell 0 _ (by rw [← hW1]; exact z0)
      have y1 := hcell 1 _ (by rw [← hW1]; exact z1)
      have hob : w3.heap[wr.heap.size]? = some (.cells #[.int .u8 (o.dop.toNat : Int), .int .u64 (o.k : Int), .slice xa xn xc] 47) := by
        rw [hk3.block _ (by omega) (show ¬ wr.heap.size = W1.heap.size by omega), hb2.block _ (by omega), ← hW1]
        exact World.alloc_heap_new wr _
      have hbz : Below wr.heap.size wr w3 := hb02.trans (hk3.below (fun i e => by rw [e]; omega) (by omega))
      have HZ : Hid (Below wr.heap.size wr w3 ∧ OwnU B w3 (.slice (some ⟨g9, 0, none⟩) M c9) (o.ts.take M) ∧ (∀ x ∈ o.ts.take M, x < 18446744073709551616) ∧ o.k < 18446744073709551616 ∧ Keeps (fun q => q = W1.heap.size) W2 w3 ∧ Below wr.heap.size wr W2) := ⟨hbz, ho3, hnum, hok, hk3, hb02⟩
      have HB1 : Hid (Below wr.heap.size wr W1 ∧ B ≤ wr.heap.size) := ⟨hb1, hBw⟩
      clear hcell hbz ho3 hnum hok hk3 hb02 hb1 hb2 ho0 haxM hBw
      clear hat ho hW2 hxl hns hM hMl hs1 hs2
      by_cases h24 : j = 24
      · subst h24
        clear hob
        have HE : Hid (RunPost B w g (.returned (.slice a' n' c')) (wr.alloc (.cells #[.int .u8 (o.dop.toNat : Int), .int .u64 (o.k : Int), .slice xa xn xc] 47))) := by
          obtain ⟨ls, e, nn, r1, r2, r3, r4, r5, r6, r7, r8⟩ := HB.out
          rw [hW1]
          exact ⟨_, ls, e, nn, rfl, row_below r2 HB1.out.1, r3, r4.below HB1.out.1, by omega, by omega, r7, r8.trans (HB1.out.1.mono HB1.out.2)⟩
        clear hW1 HB
        go_wp2_with fail
        go_ret
        exact HE.out
      · have hI24 : ¬ (24 : Int) ≤ (j : Int) := by omega
        obtain ⟨d0, hd0⟩ : ∃ z : Int, (o.dop.toNat : Int) = z := ⟨_, rfl⟩
        rw [hd0] at z0 y0 hrun c0 hob
        obtain ⟨ns, hns⟩ : ∃ ns, o.ts.take M = ns := ⟨_, rfl⟩
        rw [hns] at HX HZ
        obtain ⟨k, hk⟩ : ∃ k, o.k = k := ⟨_, rfl⟩
        rw [hk] at z1 y1 hrun c1 HZ hob
        have HOB : Hid (w3.heap[wr.heap.size]? = some (.cells #[.int .u8 d0, .int .u64 (k : Int), .slice xa xn xc] 47)) := hob
        clear hob
        obtain ⟨ls, e, nn, r1, r2, r3, r4, r5, r6, r7, r8⟩ := HB.out
        have HS : Hid (ls.length = n' ∧ OwnK w.heap.size w3 (.slice a' n' c') ls ∧ GL e ls ∧ GrQ B w3 g nn e ∧ nn ≤ j * 5 ∧ n' ≤ j * 4 ∧ NumK ls ∧ Below B w w3 ∧ gk + j = N ∧ j < N ∧ j ≤ 24) := ⟨r1, row_below r2 HZ.out.1, r3, r4.below HZ.out.1, r5, r6, r7, r8.trans (HZ.out.1.mono HB1.out.2), hj, hlt, hj24⟩
        clear hW1 hd0 hns hk r1 r2 r3 r4 r5 r6 r7 r8 HB hj
        have hlk := link_any B w3 g nn k e _ ns HS.out.2.2.2.1 HZ.out.2.1.rd HZ.out.2.2.2.1 HZ.out.2.2.1 (by have := HS.out; have := HX.out; omega)
        have hct := cut_any B w3 g nn e _ ns HS.out.2.2.2.1 HZ.out.2.1.rd HZ.out.2.2.1 (by have := HX.out; omega)
        go_wp2_with (first | (at_builtin; refine wpList_appU rfl _ _ _ rfl _ _ _ rfl rfl hrun ?_) | fail)
        · refine hlk.mono ?_
          rintro e4 w4 ⟨rfl, hg4, hk4⟩
          obtain ⟨G, hG⟩ : ∃ G, gk - 1 = G := ⟨_, rfl⟩
          have H4 : Hid (OwnK w.heap.size w4 (.slice a' n' c') ls ∧ OwnU B w4 (.slice (some ⟨g9, 0, none⟩) M c9) ns ∧ GrQ B w4 g (nn + ns.length + 1) (lnkE e k ns) ∧ Below B w w4 ∧ G < gk ∧ G + (j + 1) = N ∧ j + 1 ≤ 24 ∧ w4.heap[wr.heap.size]? = some (.cells #[.int .u8 d0, .int .u64 (k : Int), .slice xa xn xc] 47)) := by
            obtain ⟨q1, q2, q3, q4, q5, q6, q7, q8, q9, q10, q11⟩ := HS.out
            refine ⟨row_keepsM q2 hk4, row_keepsM HZ.out.2.1 hk4, hg4, q8.trans (hk4.below (fun i h => h.1) (Nat.le_trans HBW.out q8.size)), by omega, by omega, by omega, by
              rw [hk4.block _ (Array.getElem?_eq_some_iff.1 HOB.out).1 (fun h9 => by
                obtain ⟨_, es, cl, hm⟩ := h9
                rw [HOB.out] at hm
                cases hm)]
              exact HOB.out⟩
          clear hlk hct hg4 hk4 hG y0 z0 z1 z2 c0 c1 c2 hrun y1
          go_wp2_with fail
          go_loopg [5, 42] M (fun gk lv iv wr9 => ∃ (i n2 c2 : Nat) (a2 : Option Addr), gk + i = M ∧ iv = .int .i64 (i : Int) ∧ lv = .slice a2 n2 c2 ∧ Hid ((addL ls k (ns.take i)).length = n2 ∧ OwnK w.heap.size wr9 (.slice a2 n2 c2) (addL ls k (ns.take i)) ∧ Below B w4 wr9 ∧ GrQ B wr9 g (nn + ns.length + 1) (lnkE e k ns) ∧ OwnU B wr9 (.slice (some ⟨g9, 0, none⟩) M c9) ns ∧ wr9.heap[wr.heap.size]? = some (.cells #[.int .u8 d0, .int .u64 (k : Int), .slice xa xn xc] 47)))
          case atStart => exact ⟨0, n', c', a', by omega, rfl, rfl, by rw [List.take_zero]; exact HS.out.1, by rw [List.take_zero]; exact H4.out.1, Below.refl _ _, H4.out.2.2.1, H4.out.2.1, H4.out.2.2.2.2.2.2.2⟩
          case round =>
            obtain ⟨i, n2, c2, a2, hi, rfl, rfl, HC⟩ := hrel
            by_cases hlti : i < M
            · have hil : i < ns.length := by rw [HX.out.2]; exact hlti
              obtain ⟨tb, tc, e9, _, t0⟩ := RdU.at HC.out.2.2.2.2.1.rd i hil
              rw [HX.out.2] at e9
              cases e9
              have yb := box3_mid HC.out.2.2.2.2.2
              obtain ⟨q1, q2⟩ := gk_nxt hi hlti
              have htk : ns.take (i + 1) = ns.take i ++ [ns[i]] := by rw [List.take_succ_eq_append_getElem hil]
              obtain ⟨x, hx⟩ : ∃ x, ns[i] = x := ⟨_, rfl⟩
              rw [hx] at t0 htk
              have HT : Hid (addL ls k (ns.take (i + 1)) = if (k, x) ∈ addL ls k (ns.take i) then addL ls k (ns.take i) else addL ls k (ns.take i) ++ [(k, x)]) := by
                show _ = _
                rw [htk, addL_snoc]
              have hal : (addL ls k (ns.take i)).length ≤ 1000 := Nat.le_trans (addL_len _ _ _) (by rw [List.length_take]; have := HS.out; have := HX.out.2; omega)
              have hcl := refhas_any wr _ _ k x (OwnK.rd HC.out.2.1) (by omega)
              have HAL : Hid ((addL ls k (ns.take i)).length ≤ 1000) := hal
              clear htk hx hal
              by_cases hin : (k, x) ∈ addL ls k (ns.take i)
              · rw [decide_eq_true hin] at hcl
                rw [if_pos hin] at HT
                go_wp2_with fail
                refine hcl.mono ?_
                rintro e5 w5 ⟨rfl, hb5⟩
                have HF : Hid ((addL ls k (ns.take (i + 1))).length = n2 ∧ OwnK w.heap.size w5 (.slice a2 n2 c2) (addL ls k (ns.take (i + 1))) ∧ Below B w4 w5 ∧ GrQ B w5 g (nn + ns.length + 1) (lnkE e k ns) ∧ OwnU B w5 (.slice (some ⟨g9, 0, none⟩) M c9) ns) := by
                  obtain ⟨p1, p2, p3, p4, p5, p6⟩ := HC.out
                  rw [HT.out]
                  exact ⟨p1, row_below p2 hb5, p3.trans (hb5.mono (by have := p3.size; have := H4.out.2.2.2.1.size; have := HBW.out; omega)), p4.below hb5, row_below p5 hb5⟩
                have H6 := (hb5.block _ (Array.getElem?_eq_some_iff.1 HC.out.2.2.2.2.2).1).trans HC.out.2.2.2.2.2
                clear hcl hb5 t0 yb
                go_wp2_with fail
                go_roundg (gk - 1)
                case measure => exact q1
                case rel => exact ⟨i + 1, n2, c2, a2, q2, by go_num, rfl, HF.out.1, HF.out.2.1, HF.out.2.2.1, HF.out.2.2.2.1, HF.out.2.2.2.2, H6⟩
              · rw [decide_eq_false hin] at hcl
                rw [if_neg hin] at HT
                go_wp2_with fail
                refine hcl.mono ?_
                rintro e5 w5 ⟨rfl, hb5⟩
                have H6 := (hb5.block _ (Array.getElem?_eq_some_iff.1 HC.out.2.2.2.2.2).1).trans HC.out.2.2.2.2.2
                have yb5 := box3_mid H6
                have hb6 := below_box4 w5 (.cells #[.int .u64 (k : Int), .int .u64 (x : Int)] 49)
                obtain ⟨u0, u1⟩ := box2_new w5 (.int .u64 (k : Int)) (.int .u64 (x : Int)) 49
                have ho6 : OwnK w.heap.size (w5.alloc (.cells #[.int .u64 (k : Int), .int .u64 (x : Int)] 49)) (.slice a2 n2 c2) (addL ls k (ns.take i)) := row_below (row_below HC.out.2.1 hb5) hb6
                have hw5 : w.heap.size ≤ w5.heap.size := Nat.le_trans (Nat.le_trans H4.out.2.2.2.1.size HC.out.2.2.1.size) hb5.size
                obtain ⟨g7, c7, w7, hrun7, ho7, hk7⟩ := OwnK.run ho6 (k, x) w5.heap.size 26 u0 u1 (by have := HAL.out; omega) (Nat.le_trans hw5 hb6.size)
                rw [HC.out.1] at hrun7 ho7
                have hrow : ∀ q, (Value.slice a2 n2 c2).ownBlock = some q → ∃ cur, (w5.alloc (.cells #[.int .u64 (k : Int), .int .u64 (x : Int)] 49)).heap[q]? = some (.cells cur 49 (0, 0)) := fun q hq => row_tag ho6 hq
                have H6a := (hb6.block _ (Array.getElem?_eq_some_iff.1 H6).1).trans H6
                have H7 := (hk7.block _ (Array.getElem?_eq_some_iff.1 H6a).1 (fun h9 => by
                  obtain ⟨cur, hc⟩ := hrow _ h9
                  rw [H6a] at hc
                  cases hc)).trans H6a
                have hto : OwnU B (w5.alloc (.cells #[.int .u64 (k : Int), .int .u64 (x : Int)] 49)) (.slice (some ⟨g9, 0, none⟩) M c9) ns := row_below (row_below HC.out.2.2.2.2.1 hb5) hb6
                have HF : Hid ((addL ls k (ns.take (i + 1))).length = n2 + 1 ∧ OwnK w.heap.size w7 (.slice (some ⟨g7, 0, none⟩) (n2 + 1) c7) (addL ls k (ns.take (i + 1))) ∧ Below B w4 w7 ∧ GrQ B w7 g (nn + ns.length + 1) (lnkE e k ns) ∧ OwnU B w7 (.slice (some ⟨g9, 0, none⟩) M c9) ns) := by
                  obtain ⟨p1, p2, p3, p4, p5, p6⟩ := HC.out
                  rw [HT.out]
                  have hgw : g < w.heap.size := HA.out.2.2.2.old
                  have hB4 : B ≤ w5.heap.size := Nat.le_trans HBW.out hw5
                  refine ⟨by rw [List.length_append, p1]; rfl, ho7, ?_, ((p4.below hb5).below hb6).keepsC hk7 (fun h9 => ?_) (fun q hq => row_notMp ho6 hq), own_same hto (fun q hq => hk7.block q (hto.lts q hq).2 (fun h9 => ?_))⟩
                  · have hB9 : B ≤ wr.heap.size := Nat.le_trans (Nat.le_trans HBW.out H4.out.2.2.2.1.size) p3.size
                    exact ((p3.trans (hb5.mono hB9)).trans (hb6.mono hB4)).trans (hk7.below (fun q hq => Nat.le_trans HBW.out (World.ownsRow.lt ho6 q hq).1) (Nat.le_trans hB4 hb6.size))
                  · have := (World.ownsRow.lt ho6 g h9).1
                    omega
                  · obtain ⟨cur, hc⟩ := hrow q h9
                    obtain ⟨cur2, hc2⟩ := row_tag hto hq
                    rw [hc] at hc2
                    cases hc2
                clear hcl hb5 t0 yb H6 hb6 u0 u1 ho6 hw5 ho7 hk7 hrow H6a hto
                go_wp2_with (first | (at_builtin; refine wpList_appU rfl _ _ _ rfl _ _ _ rfl rfl hrun7 ?_) | fail)
                go_roundg (gk - 1)
                case measure => exact q1
                case rel => exact ⟨i + 1, n2 + 1, c7, _, q2, by go_num, rfl, HF.out.1, HF.out.2.1, HF.out.2.2.1, HF.out.2.2.2.1, HF.out.2.2.2.2, H7⟩
            · have hiM : i = M := by omega
              have hnI : ¬ (i : Int) < (M : Int) := by omega
              have HF : Hid (∃ ls e nn, ls.length = n2 ∧ OwnK w.heap.size wr (.slice a2 n2 c2) ls ∧ GL e ls ∧ GrQ B wr g nn e ∧ nn ≤ (j + 1) * 5 ∧ n2 ≤ (j + 1) * 4 ∧ NumK ls ∧ Below B w wr) := by
                obtain ⟨p1, p2, p3, p4, p5, p6⟩ := HC.out
                have htk : ns.take i = ns := List.take_of_length_le (by rw [HX.out.2]; omega)
                rw [htk] at p1 p2
                obtain ⟨q1, q2, q3, q4, q5, q6, q7, q8, q9, q10, q11⟩ := HS.out
                have h9 := addL_len k ns ls
                have hM4 : M ≤ 4 := HM4.out
                have hnl := HX.out.2
                exact ⟨_, _, _, p1, p2, q3.link k ns, p4, by omega, by omega, fun l hl => by
                  rcases (addL_mem k ns ls l).1 hl with h8 | ⟨h8, h7⟩
                  · exact q7 l h8
                  · rw [h8]; exact ⟨HZ.out.2.2.2.1, HZ.out.2.2.1 _ h7⟩, H4.out.2.2.2.1.trans p3⟩
              clear HC hi hiM
              go_wp2_with fail
              go_roundg G
              case measure => exact H4.out.2.2.2.2.1
              case rel => exact ⟨j + 1, n2, c2, a2, H4.out.2.2.2.2.2.1, by go_num, rfl, H4.out.2.2.2.2.2.2.1, HF.out⟩
        · refine hct.mono ?_
          rintro e4 w4 ⟨rfl, hg4, hk4⟩
          obtain ⟨G, hG⟩ : ∃ G, gk - 1 = G := ⟨_, rfl⟩
          have H4 : Hid (OwnK w.heap.size w4 (.slice a' n' c') ls ∧ OwnU B w4 (.slice (some ⟨g9, 0, none⟩) M c9) ns ∧ GrQ B w4 g nn (cutE e ns) ∧ Below B w w4 ∧ G < gk ∧ G + (j + 1) = N ∧ j + 1 ≤ 24) := by
            obtain ⟨q1, q2, q3, q4, q5, q6, q7, q8, q9, q10, q11⟩ := HS.out
            exact ⟨row_keepsM q2 hk4, row_keepsM HZ.out.2.1 hk4, hg4, q8.trans (hk4.below (fun i h => h.1) (Nat.le_trans HBW.out q8.size)), by omega, by omega, by omega⟩
          clear hlk hct hg4 hk4 hG y0 y1 z0 z1 z2 c0 c1 c2 hrun
          go_wp2_with fail
          go_loopg [5, 65] M (fun gk lv iv wr => ∃ (i n2 c2 : Nat) (a2 : Option Addr), gk + i = M ∧ iv = .int .i64 (i : Int) ∧ lv = .slice a2 n2 c2 ∧ Hid ((cutL ls (ns.take i)).length = n2 ∧ OwnK w.heap.size wr (.slice a2 n2 c2) (cutL ls (ns.take i)) ∧ Below w4.heap.size w4 wr))
          case atStart => exact ⟨0, n', c', a', by omega, rfl, rfl, by rw [List.take_zero]; exact HS.out.1, by rw [List.take_zero]; exact H4.out.1, Below.refl _ _⟩
          case round =>
            obtain ⟨i, n2, c2, a2, hi, rfl, rfl, HC⟩ := hrel
            by_cases hlti : i < M
            · have hil : i < ns.length := by rw [HX.out.2]; exact hlti
              obtain ⟨tb, tc, e9, _, t0⟩ := RdU.at (row_below H4.out.2.1.rd HC.out.2.2) i hil
              rw [HX.out.2] at e9
              cases e9
              obtain ⟨q1, q2⟩ := gk_nxt hi hlti
              have htk : ns.take (i + 1) = ns.take i ++ [ns[i]] := by rw [List.take_succ_eq_append_getElem hil]
              obtain ⟨x, hx⟩ : ∃ x, ns[i] = x := ⟨_, rfl⟩
              rw [hx] at t0 htk
              have HT : Hid (cutL ls (ns.take (i + 1)) = (cutL ls (ns.take i)).filter (offK x)) := by
                show _ = _
                rw [htk, cutL_snoc]
              have hcl := refcut_any wr _ _ x (OwnK.rd HC.out.2.1) (Nat.le_trans (cutL_len _ _) (by have := HS.out; omega))
              clear htk hx
              go_wp2_with fail
              refine hcl.mono ?_
              rintro e5 w5 ⟨v5, rfl, ho5, hb5⟩
              obtain ⟨a5, c5, ev, _⟩ := row_slice9 ho5
              obtain ⟨n5, hn5⟩ : ∃ n5, ((cutL ls (ns.take i)).filter (offK x)).length = n5 := ⟨_, rfl⟩
              rw [hn5] at ev
              subst ev
              have HF : Hid ((cutL ls (ns.take (i + 1))).length = n5 ∧ OwnK w.heap.size w5 (.slice a5 n5 c5) (cutL ls (ns.take (i + 1))) ∧ Below w4.heap.size w4 w5) := by
                rw [HT.out]
                exact ⟨hn5, row_mono9 ho5 (by have := HBW.out; have := HC.out.2.2.size; have := H4.out.2.2.2.1.size; omega), bsplit HC.out.2.2 hb5⟩
              clear hcl ho5 hb5 hn5 t0
              go_wp2_with fail
              go_roundg (gk - 1)
              case measure => exact q1
              case rel => exact ⟨i + 1, n5, c5, a5, q2, by go_num, rfl, HF.out⟩
            · have hiM : i = M := by omega
              have hnI : ¬ (i : Int) < (M : Int) := by omega
              have HF : Hid (∃ ls e nn, ls.length = n2 ∧ OwnK w.heap.size wr (.slice a2 n2 c2) ls ∧ GL e ls ∧ GrQ B wr g nn e ∧ nn ≤ (j + 1) * 5 ∧ n2 ≤ (j + 1) * 4 ∧ NumK ls ∧ Below B w wr) := by
                obtain ⟨p1, p2, p3⟩ := HC.out
                have htk : ns.take i = ns := List.take_of_length_le (by rw [HX.out.2]; omega)
                rw [htk] at p1 p2
                obtain ⟨q1, q2, q3, q4, q5, q6, q7, q8, q9, q10, q11⟩ := HS.out
                have := cutL_len ns ls
                exact ⟨_, _, nn, p1, p2, q3.cut ns, H4.out.2.2.1.below p3, by omega, by omega, fun l hl => q7 l ((cutL_mem ns ls l).1 hl).1, H4.out.2.2.2.1.trans (p3.mono (by have := H4.out.2.2.2.1.size; have := HBW.out; omega))⟩
              clear HC hi hiM
              go_wp2_with fail
              go_roundg G
              case measure => exact H4.out.2.2.2.2.1
              case rel => exact ⟨j + 1, n2, c2, a2, H4.out.2.2.2.2.2.1, by go_num, rfl, H4.out.2.2.2.2.2.2, HF.out⟩
    · have hjN : j = N := by omega
      subst hjN
      have HE : Hid (RunPost B w g (.returned (.slice a' n' c')) wr) := by
        obtain ⟨ls, e, nn, r1, r2, r3, r4, r5, r6, r7, r8⟩ := HB.out
        exact ⟨_, ls, e, nn, rfl, r2, r3, r4, by omega, by omega, r7, r8⟩
      clear HB
      go_wp2
      go_ret
      exact HE.out

end Go.Proofs.Ytgkgdbdapkgkgaa

/- What is told as a cycle is one, in pure terms. -/
namespace Go.Proofs.Ytgkgdbdapkgkgaa
set_option linter.unusedVariables false

theorem way_suf {f : Nat → Option Nat} {s : Nat} : ∀ (A : List Nat) (x : Nat) (r : List Nat), WayP f s (A ++ x :: r) → WayP f s (x :: r)
  | [], x, r, h => h
  | [a], x, r, h => h.2.2
  | a :: b :: A, x, r, h => way_suf (b :: A) x r h.2.2

/-- each node once -/
theorem way_nodup {f : Nat → Option Nat} {s : Nat} : ∀ (l : List Nat), WayP f s l → l.Nodup
  | [], h => h.elim
  | [x], _ => by simp
  | x :: y :: r, h => by
    refine List.nodup_cons.2 ⟨fun hx => ?_, way_nodup (y :: r) h.2.2⟩
    obtain ⟨A, r', e⟩ := List.append_of_mem hx
    have h1 : WayP f s (x :: r') := way_suf (x :: A) x r' (by rw [List.cons_append, ← e]; exact h)
    have h2 := way_uniq f s x (y :: r) r' h h1
    have h3 : (y :: r).length = A.length + (r'.length + 1) := by rw [e]; simp
    rw [h2] at h3
    omega

/-- along links -/
theorem way_link {f : Nat → Option Nat} {s : Nat} : ∀ (l : List Nat), WayP f s l → ∀ j (h : j + 1 < l.length), f l[j] = some l[j + 1]
  | [], h, j, hj => by simp at hj
  | [x], h, j, hj => by simp at hj
  | x :: y :: r, h, 0, hj => h.2.1
  | x :: y :: r, h, j + 1, hj => by
    have := way_link (y :: r) h.2.2 j (by simpa using hj)
    simpa using this

theorem way_last {f : Nat → Option Nat} {s : Nat} : ∀ (l : List Nat), WayP f s l → ∃ h : 0 < l.length, l[l.length - 1] = s
  | [], h => h.elim
  | [x], h => ⟨by simp, h⟩
  | x :: y :: r, h => by
    obtain ⟨h1, h2⟩ := way_last (y :: r) h.2.2
    refine ⟨by simp, ?_⟩
    simpa using h2

/-- the row that Cycle hands out: it begins with the node that was asked, each node is in it once, along links, back to the first -/
theorem ring_of {o : Nat → List Nat} {f : Nat → Option Nat} {s x : Nat} {P : List Nat} (hw : WayP f s (x :: P)) (hf : ∀ a b, f a = some b → a ∈ o b) (hs : s ∈ o x) :
    ∃ h0 : 0 < ((x :: P).reverse).length, ((x :: P).reverse)[0] = s ∧ ((x :: P).reverse).Nodup ∧ ∀ i (hi : i < ((x :: P).reverse).length), ((x :: P).reverse)[(i + 1) % ((x :: P).reverse).length]'(Nat.mod_lt _ h0) ∈ o ((x :: P).reverse)[i] := by
  have hl : ((x :: P).reverse).length = P.length + 1 := by simp
  obtain ⟨_, hlast⟩ := way_last _ hw
  refine ⟨by omega, ?_, (List.reverse_perm _).nodup_iff.2 (way_nodup _ hw), fun i hi => ?_⟩
  · rw [List.getElem_reverse]
    simpa using hlast
  · rw [hl] at hi
    by_cases e : i = P.length
    · subst e
      have e1 : (P.length + 1) % ((x :: P).reverse).length = 0 := by rw [hl]; exact Nat.mod_self _
      simp only [e1]
      rw [List.getElem_reverse, List.getElem_reverse]
      simp only [List.length_cons, Nat.add_sub_cancel, Nat.sub_zero, Nat.sub_self, List.getElem_cons_zero]
      have : (x :: P)[P.length] = s := by simpa using hlast
      rw [this]
      exact hs
    · have e1 : (i + 1) % ((x :: P).reverse).length = i + 1 := by rw [hl]; exact Nat.mod_eq_of_lt (by omega)
      simp only [e1]
      rw [List.getElem_reverse, List.getElem_reverse]
      refine hf _ _ ?_
      have h9 := way_link _ hw (P.length - (i + 1)) (by simp; omega)
      have e2 : (x :: P).length - 1 - (i + 1) = P.length - (i + 1) := by simp
      have e3 : (x :: P).length - 1 - i = P.length - (i + 1) + 1 := by simp; omega
      simp only [e2, e3]
      exact h9

end Go.Proofs.Ytgkgdbdapkgkgaa

/- There is a row that rises of any numbers. -/
namespace Go.Proofs.Ytgkgdbdapkgkgaa
open Go.RowKit
set_option linter.unusedVariables false

theorem ded_ex : ∀ xs : List Nat, ∃ ys : List Nat, Each xs ys
  | [] => ⟨[], List.nodup_nil, fun _ => Iff.rfl⟩
  | a :: r => by
    obtain ⟨ys, h1, h2⟩ := ded_ex r
    by_cases h : a ∈ ys
    · refine ⟨ys, h1, fun x => ?_⟩
      rw [List.mem_cons, h2]
      constructor
      · exact .inr
      · rintro (rfl | hx)
        · exact (h2 _).1 h
        · exact hx
    · refine ⟨a :: ys, List.nodup_cons.2 ⟨h, h1⟩, fun x => ?_⟩
      rw [List.mem_cons, List.mem_cons, h2]

/-- there is a row that rises of any numbers -/
theorem rise_ex (xs : List Nat) : ∃ ys, Rise xs ys := by
  obtain ⟨ds, h1, h2⟩ := ded_ex xs
  refine ⟨ds.mergeSort (fun a b => decide (a ≤ b)), ⟨?_, fun x => ?_⟩, ?_⟩
  · exact (List.mergeSort_perm _ _).nodup_iff.2 h1
  · rw [List.mem_mergeSort]; exact h2 x
  · have h := List.pairwise_mergeSort (le := fun a b : Nat => decide (a ≤ b)) (fun a b c h1 h2 => by simp at *; omega) (fun a b => by simp; omega) ds
    exact h.imp (fun h => by simpa using h)

end Go.Proofs.Ytgkgdbdapkgkgaa

/- Maps from numbers: to numbers, to truths. -/
namespace Go.Proofs.Ytgkgdbdapkgkgaa
set_option maxRecDepth 20000
open Go.RowKit Go.Maps
set_option linter.unusedVariables false
set_option linter.unusedSimpArgs false

/-- a map from numbers to numbers: what it tells of each -/
def MapF (w : World) (b n : Nat) (f : Nat → Nat) : Prop :=
  ∃ D : DataW Unit, w.ownsMap Try.prog 30 (plainElem Try.prog 30) b n D ∧ ∀ k, k < 18446744073709551616 → D.atKey (litU k) (.lit (.int .u64 0)) = .lit (.int .u64 (f k : Int))

/-- a map from numbers to truths: of which it tells true -/
def MapG (w : World) (b n : Nat) (l : List Nat) : Prop :=
  ∃ D : DataW Unit, w.ownsMap Try.prog 30 (plainElem Try.prog 4) b n D ∧ ∀ k, k < 18446744073709551616 → D.atKey (litU k) (.lit (.bool false)) = .lit (.bool (decide (k ∈ l)))

theorem ownsMap_block {w w' : World} {kt : TypeId} {R : Value → Option (DataW Unit × List MemPlace)} {b n : Nat} {D : DataW Unit} (h : w.ownsMap Try.prog kt R b n D) (hb : w'.heap[b]? = w.heap[b]?) : w'.ownsMap Try.prog kt R b n D := by
  obtain ⟨es, clock, hb2, r⟩ := h
  exact ⟨es, clock, hb.trans hb2, r⟩

theorem MapF.lt {w : World} {b n : Nat} {f : Nat → Nat} (h : MapF w b n f) : b < w.heap.size := by
  obtain ⟨D, h, _⟩ := h
  exact World.ownsMap.lt h
theorem MapG.lt {w : World} {b n : Nat} {l : List Nat} (h : MapG w b n l) : b < w.heap.size := by
  obtain ⟨D, h, _⟩ := h
  exact World.ownsMap.lt h

theorem MapF.same {w w' : World} {b n : Nat} {f : Nat → Nat} (h : MapF w b n f) (hb : w'.heap[b]? = w.heap[b]?) : MapF w' b n f := by
  obtain ⟨D, h1, h2⟩ := h
  exact ⟨D, ownsMap_block h1 hb, h2⟩
theorem MapG.same {w w' : World} {b n : Nat} {l : List Nat} (h : MapG w b n l) (hb : w'.heap[b]? = w.heap[b]?) : MapG w' b n l := by
  obtain ⟨D, h1, h2⟩ := h
  exact ⟨D, ownsMap_block h1 hb, h2⟩
theorem MapF.below {w w' : World} {b n : Nat} {f : Nat → Nat} (h : MapF w b n f) (hb : Below w.heap.size w w') : MapF w' b n f := h.same (hb.block b h.lt)
theorem MapG.below {w w' : World} {b n : Nat} {l : List Nat} (h : MapG w b n l) (hb : Below w.heap.size w w') : MapG w' b n l := h.same (hb.block b h.lt)

theorem MapF.made (w : World) : MapF (w.alloc (.map #[] 0)) w.heap.size 0 (fun _ => 0) :=
  ⟨.map [], World.ownsMap_made _ _ _ _, fun k _ => by simp [DataW.atKey]⟩
theorem MapG.made (w : World) : MapG (w.alloc (.map #[] 0)) w.heap.size 0 [] :=
  ⟨.map [], World.ownsMap_made _ _ _ _, fun k _ => by simp [DataW.atKey]⟩

theorem zero_boolU (w : World) : (zeroValue 4).run Try.prog w = .ok (.bool false) w := by kernel_rfl
theorem zero_u64U (w : World) : (zeroValue 30).run Try.prog w = .ok (.int .u64 0) w := by kernel_rfl

theorem plainElem_boolU_inv {H : Type} {P : Program} {e : TypeId} (he : P.underlying e = some .bool) {v : Value} {z : DataW H × List MemPlace} (h : plainElem P e v = some z) : ∃ b, v = .bool b ∧ z = (.lit (.bool b), []) := by
  unfold plainElem at h
  rw [he] at h
  cases v <;> simp at h
  exact ⟨_, rfl, h.symm⟩

theorem MapG.look {w : World} {b n : Nat} {l : List Nat} (h : MapG w b n l) (k : Nat) (hk : k < 18446744073709551616) :
    (Instr.lookup 39 (.map (some b)) (.int .u64 (k : Int)) false).run Try.prog w = .ok (.bool (decide (k ∈ l))) w := by
  obtain ⟨D, hm, hat⟩ := h
  obtain ⟨v, ps, hrun, hv⟩ := hm.lookup (int_keyed Try.underlying30) Try.underlying39 (zero_boolU w) (plainElem_bool Try.underlying4 false) (key := .int .u64 (k : Int)) (kl := litU k) (keyU hk)
  rw [hat k hk] at hv
  obtain ⟨b, rfl, hz⟩ := plainElem_boolU_inv Try.underlying4 hv
  simp only [Prod.mk.injEq, DataW.lit.injEq, Lit.bool.injEq] at hz
  rw [hrun, hz.1]

theorem MapF.look {w : World} {b n : Nat} {f : Nat → Nat} (h : MapF w b n f) (k : Nat) (hk : k < 18446744073709551616) :
    (Instr.lookup 51 (.map (some b)) (.int .u64 (k : Int)) false).run Try.prog w = .ok (.int .u64 (f k : Int)) w := by
  obtain ⟨D, hm, hat⟩ := h
  obtain ⟨v, ps, hrun, hv⟩ := hm.lookup (int_keyed Try.underlying30) Try.underlying51 (zero_u64U w) (plainElem_int Try.underlying30 (by decide)) (key := .int .u64 (k : Int)) (kl := litU k) (keyU hk)
  rw [hat k hk] at hv
  obtain ⟨b, rfl, hz, _⟩ := plainElem_int_inv Try.underlying30 hv
  simp only [Prod.mk.injEq, DataW.lit.injEq, Lit.int.injEq, true_and] at hz
  rw [hrun, hz.1]

theorem litU_ne {a b : Nat} (h : a ≠ b) : litU a ≠ litU b := by
  unfold litU
  intro e
  simp only [Lit.int.injEq, true_and] at e
  omega

theorem MapF.put {w w' : World} {b n k v : Nat} {f : Nat → Nat} {D : DataW Unit} (hm : w.ownsMap Try.prog 30 (plainElem Try.prog 30) b n D) (hat : ∀ k, k < 18446744073709551616 → D.atKey (litU k) (.lit (.int .u64 0)) = .lit (.int .u64 (f k : Int)))
    (h : w'.ownsMap Try.prog 30 (plainElem Try.prog 30) b (n + 1) (D.put (litU k) (.lit (.int .u64 (v : Int))))) : MapF w' b (n + 1) (fun x => if x = k then v else f x) := by
  refine ⟨_, h, fun x hx => ?_⟩
  by_cases e : x = k
  · subst e
    rw [atKey_put_same hm.isMap (k := litU x) (by simp [WideAt.IsKeyLit, litU])]
    simp
  · rw [atKey_put_other (litU_ne e), hat x hx]
    simp [e]

theorem MapG.put {w w' : World} {b n k : Nat} {l : List Nat} {D : DataW Unit} (hm : w.ownsMap Try.prog 30 (plainElem Try.prog 4) b n D) (hat : ∀ k, k < 18446744073709551616 → D.atKey (litU k) (.lit (.bool false)) = .lit (.bool (decide (k ∈ l))))
    (h : w'.ownsMap Try.prog 30 (plainElem Try.prog 4) b (n + 1) (D.put (litU k) (.lit (.bool true)))) : MapG w' b (n + 1) (l ++ [k]) := by
  refine ⟨_, h, fun x hx => ?_⟩
  by_cases e : x = k
  · subst e
    rw [atKey_put_same hm.isMap (k := litU x) (by simp [WideAt.IsKeyLit, litU])]
    simp
  · rw [atKey_put_other (litU_ne e), hat x hx]
    simp [e]

end Go.Proofs.Ytgkgdbdapkgkgaa
