/- Who waits too long: in pure terms; a table that keeps off some blocks. -/
import Derived.Test.YtnnedoohppobpaaLkTick
namespace Go.Proofs.Ytnnedoohppobpaa
set_option maxRecDepth 20000
open Go.RowKit Go.Maps
set_option linter.unusedVariables false
set_option linter.unusedSimpArgs false

/-- up to when each waits is told by f -/
structure LateI (gs : List Lk) (qs : List Rq) (f : Nat → Nat) : Prop where
  un : ∀ r ∈ qs, f r.l.n = r.u
  nd : (qs.map (·.l.n)).Nodup

theorem LateI.ask {mo ea : Int} {gs : List Lk} {qs : List Rq} {f : Nat → Nat} (h : LateI gs qs f) (l l' : Lk) (u : Nat) (hl : l'.n = l.n) :
    ((askB mo ea gs qs l l' u).1 = 3 → LateI (askB mo ea gs qs l l' u).2.1 (askB mo ea gs qs l l' u).2.2 (fun x => if x = l.n then u else f x)) ∧
    ((askB mo ea gs qs l l' u).1 ≠ 3 → LateI (askB mo ea gs qs l l' u).2.1 (askB mo ea gs qs l l' u).2.2 f) ∧
    (askB mo ea gs qs l l' u).2.1.length + (askB mo ea gs qs l l' u).2.2.length ≤ gs.length + qs.length + 1 := by
  unfold askB
  by_cases h1 : rightB l = false
  · rw [if_pos h1]; exact ⟨fun h9 => by simp at h9, fun _ => h, by simp⟩
  rw [if_neg h1]
  by_cases h2 : (qs.any fun q => decide (q.l.n = l.n)) = true
  · rw [if_pos h2]; exact ⟨fun h9 => by simp at h9, fun _ => h, by simp⟩
  rw [if_neg h2]
  by_cases h3 : hasB gs l = true
  · rw [if_pos h3]; exact ⟨fun h9 => by simp at h9, fun _ => h, by simp⟩
  rw [if_neg h3]
  by_cases h4 : fullB mo ea gs qs l.n = true
  · rw [if_pos h4]; exact ⟨fun h9 => by simp at h9, fun _ => h, by simp⟩
  rw [if_neg h4]
  by_cases h5 : (blkB gs qs l).length = 0
  · rw [if_pos h5]
    exact ⟨fun h9 => by simp at h9, fun _ => ⟨h.un, h.nd⟩, by simp; omega⟩
  · rw [if_neg h5]
    have hno : ∀ r ∈ qs, r.l.n ≠ l.n := fun r hr e => h2 (List.any_eq_true.2 ⟨r, hr, decide_eq_true e⟩)
    refine ⟨fun _ => ⟨fun r hr => ?_, ?_⟩, fun h9 => by simp at h9, by simp; omega⟩
    · rcases List.mem_append.1 hr with h9 | h9
      · rw [if_neg (hno r h9)]; exact h.un r h9
      · rw [List.mem_singleton.1 h9]
        show (if l'.n = l.n then u else f l'.n) = u
        rw [if_pos hl]
    · rw [List.map_append, List.nodup_append]
      refine ⟨h.nd, by simp, fun a ha b hb e => ?_⟩
      simp at hb
      subst hb
      obtain ⟨r, hr, e2⟩ := List.mem_map.1 ha
      exact hno r hr (by rw [← hl]; exact e2.trans e)

theorem advB_perm : ∀ (qs : List Rq) (gs : List Lk) (ah ps : List Rq), ((advB qs gs ah ps).2.1 ++ (advB qs gs ah ps).2.2).Perm (ah ++ ps ++ qs) := by
  intro qs
  induction qs with
  | nil => intro gs ah ps; simp [advB]
  | cons r qs ih =>
    intro gs ah ps
    unfold advB
    by_cases h : (blkB gs ah r.l).length = 0
    · rw [if_pos h]
      refine (ih _ _ _).trans ?_
      rw [List.append_assoc, List.append_assoc, List.append_assoc]
      rfl
    · rw [if_neg h]
      refine (ih _ _ _).trans ?_
      rw [List.append_assoc, List.append_assoc, List.append_assoc]
      refine List.Perm.append_left ah ?_
      show ([r] ++ (ps ++ qs)).Perm (ps ++ ([r] ++ qs))
      rw [← List.append_assoc, ← List.append_assoc]
      exact List.Perm.append_right qs List.perm_append_comm

theorem late_perm (qs : List Rq) (k : Nat) : (lateB qs k ++ restB qs k).Perm qs := by
  unfold lateB restB
  induction qs with
  | nil => exact List.Perm.refl _
  | cons r qs ih =>
    by_cases h : r.u ≤ k
    · rw [List.filter_cons_of_pos (by simpa using h), List.filter_cons_of_neg (by simpa using h)]
      exact ih.cons r
    · rw [List.filter_cons_of_neg (by simpa using h), List.filter_cons_of_pos (by simpa using h)]
      exact List.perm_middle.trans (ih.cons r)

/-- who waits still, and who is gone -/
theorem LateI.fin {gs : List Lk} {qs : List Rq} {f : Nat → Nat} (h : LateI gs qs f) (k : Nat) :
    (∀ n ∈ (lateB qs k).map (·.l.n), f n ≤ k) ∧
    ∀ n ∈ qs.map (·.l.n), ((advB (restB qs k) gs [] []).2.1.any fun q => decide (q.l.n = n)) = !decide (n ∈ (lateB qs k).map (·.l.n) ++ (advB (restB qs k) gs [] []).2.2.map (·.l.n)) ∧ (((advB (restB qs k) gs [] []).2.1.any fun q => decide (q.l.n = n)) = true → k < f n) := by
  have hmem : ∀ r ∈ restB qs k, r ∈ qs ∧ k < r.u := fun r hr => by
    obtain ⟨h1, h2⟩ := List.mem_filter.1 hr
    exact ⟨h1, by simpa using h2⟩
  have hap := advB_perm (restB qs k) gs [] []
  simp only [List.nil_append] at hap
  have hall : (lateB qs k ++ ((advB (restB qs k) gs [] []).2.1 ++ (advB (restB qs k) gs [] []).2.2)).Perm qs := (List.Perm.append_left _ hap).trans (late_perm qs k)
  have hm := hall.map (fun r : Rq => r.l.n)
  rw [List.map_append, List.map_append] at hm
  have hnd := hm.nodup_iff.2 h.nd
  rw [List.nodup_append, List.nodup_append] at hnd
  obtain ⟨_, ⟨_, _, hd1⟩, hd2⟩ := hnd
  refine ⟨fun n hn => ?_, fun n hn => ?_⟩
  · obtain ⟨r, hr, rfl⟩ := List.mem_map.1 hn
    obtain ⟨h1, h2⟩ := List.mem_filter.1 hr
    rw [h.un r h1]
    simpa using h2
  · have hany : ((advB (restB qs k) gs [] []).2.1.any fun q => decide (q.l.n = n)) = decide (n ∈ (advB (restB qs k) gs [] []).2.1.map (·.l.n)) := by
      rw [Bool.eq_iff_iff, List.any_eq_true, decide_eq_true_iff, List.mem_map]
      constructor
      · rintro ⟨q, h1, h2⟩; exact ⟨q, h1, of_decide_eq_true h2⟩
      · rintro ⟨q, h1, h2⟩; exact ⟨q, h1, decide_eq_true h2⟩
    rw [hany]
    have hin := hm.mem_iff.2 hn
    rw [List.mem_append, List.mem_append] at hin
    constructor
    · by_cases hA : n ∈ (advB (restB qs k) gs [] []).2.1.map (·.l.n)
      · rw [decide_eq_true hA, decide_eq_false]
        · rfl
        · intro h9
          rcases List.mem_append.1 h9 with h9 | h9
          · exact hd2 n h9 n (List.mem_append.2 (.inl hA)) rfl
          · exact hd1 n hA n h9 rfl
      · rw [decide_eq_false hA, decide_eq_true]
        · rfl
        · rcases hin with h9 | h9 | h9
          · exact List.mem_append.2 (.inl h9)
          · exact absurd h9 hA
          · exact List.mem_append.2 (.inr h9)
    · intro h9
      obtain ⟨r, hr, rfl⟩ := List.mem_map.1 (of_decide_eq_true h9)
      have h8 := hap.mem_iff.1 (List.mem_append.2 (.inl hr))
      obtain ⟨h1, h2⟩ := hmem r h8
      rw [h.un r h1]
      exact h2

/-- a table of which every block lies from B on, and none is of X -/
def LkX (B : Nat) (X : Nat → Prop) (w : World) (t : Nat) (mo ea : Int) (gs : List Lk) (qs : List Rq) : Prop :=
  B ≤ w.heap.size ∧ ∃ G, LkP G w t mo ea gs qs ∧ ∀ b, G b → B ≤ b ∧ ¬ X b

theorem LkX.below {B : Nat} {X : Nat → Prop} {w w' : World} {t : Nat} {mo ea : Int} {gs : List Lk} {qs : List Rq} (h : LkX B X w t mo ea gs qs) (hb : Below w.heap.size w w') : LkX B X w' t mo ea gs qs := by
  obtain ⟨hB, G, h, hG⟩ := h
  exact ⟨Nat.le_trans hB hb.size, G, h.below hb, hG⟩

theorem LkX.keeps {B : Nat} {F X : Nat → Prop} {w w' : World} {t : Nat} {mo ea : Int} {gs : List Lk} {qs : List Rq} (h : LkX B X w t mo ea gs qs) (hk : Keeps F w w') (hF : ∀ b, F b → X b) : LkX B X w' t mo ea gs qs := by
  obtain ⟨hB, G, h, hG⟩ := h
  exact ⟨Nat.le_trans hB hk.size, G, h.keeps hk (fun b hb hf => (hG b hb).2 (hF b hf)), hG⟩

theorem LkX.q {B : Nat} {X : Nat → Prop} {w : World} {t : Nat} {mo ea : Int} {gs : List Lk} {qs : List Rq} (h : LkX B X w t mo ea gs qs) : LkQ B w t mo ea gs qs := by
  obtain ⟨hB, G, h, hG⟩ := h
  exact ⟨hB, G, h, fun b hb => (hG b hb).1⟩

/-- it keeps off what is newer -/
theorem LkX.off {B : Nat} {X Y : Nat → Prop} {w : World} {t : Nat} {mo ea : Int} {gs : List Lk} {qs : List Rq} (h : LkX B X w t mo ea gs qs) (hY : ∀ b, Y b → X b ∨ w.heap.size ≤ b) : LkX B Y w t mo ea gs qs := by
  obtain ⟨hB, G, h, hG⟩ := h
  exact ⟨hB, G, h, fun b hb => ⟨(hG b hb).1, fun hy => (hY b hy).elim (hG b hb).2 (fun h9 => by have := h.lt b hb; omega)⟩⟩

theorem LkX.qu {B : Nat} {X : Nat → Prop} {w : World} {t : Nat} {mo ea : Int} {gs : List Lk} {qs : List Rq} (h : LkX B X w t mo ea gs qs) : ∀ q ∈ qs, q.l.n < 18446744073709551616 ∧ q.u < 18446744073709551616 := by
  obtain ⟨_, G, ⟨gv, qv, h⟩, _⟩ := h
  exact fun q hq => ⟨(h.oq q hq).2.2.1, h.nu q hq⟩

theorem askx_any (B : Nat) (X : Nat → Prop) (w : World) (t : Nat) (mo ea : Int) (gs : List Lk) (qs : List Rq) (n : Nat) (m : UInt8) (x y : Value) (f t2 : List UInt8) (u : Nat) (h : LkX B X w t mo ea gs qs) (hX : ∀ b, X b → b < w.heap.size) (hn : gs.length + qs.length ≤ 900) (hx : Rd w x f) (hy : Rd w y t2) (hln : n < 18446744073709551616) (hun : u < 18446744073709551616) :
    Calls Try.prog 15 #[.pointer (some ⟨t, 0, none⟩), lkV (n : Int) x y (m.toNat : Int), .int .u64 (u : Int)] w fun e w' => ∃ x' y', e = .returned (.int .i64 (askB mo ea gs qs ⟨n, f, t2, m, x, y⟩ ⟨n, f, t2, m, x', y'⟩ u).1) ∧ Keeps (fun b => B ≤ b ∧ ¬ X b) w w' ∧ LkX B X w' t mo ea (askB mo ea gs qs ⟨n, f, t2, m, x, y⟩ ⟨n, f, t2, m, x', y'⟩ u).2.1 (askB mo ea gs qs ⟨n, f, t2, m, x, y⟩ ⟨n, f, t2, m, x', y'⟩ u).2.2 := by
  obtain ⟨hB, G, h, hG⟩ := h
  refine (ask_any G w t mo ea gs qs ⟨n, f, t2, m, x, y⟩ u h hn hx hy hln hun).mono ?_
  rintro e w' ⟨⟨n', f', t', m', x', y'⟩, ⟨h1, h2, h3, h4⟩, he, hk, G', hp, hG'⟩
  simp only at h1 h2 h3 h4
  subst h1 h2 h3 h4
  exact ⟨x', y', he, hk.mono hG, Nat.le_trans hB hk.size, G', hp, fun b hb => (hG' b hb).elim (hG b) (fun h9 => ⟨Nat.le_trans hB h9, fun hx9 => by have := hX b hx9; omega⟩)⟩

theorem tickx_any (B : Nat) (X : Nat → Prop) (w : World) (t : Nat) (mo ea : Int) (gs : List Lk) (qs : List Rq) (k : Nat) (h : LkX B X w t mo ea gs qs) (hX : ∀ b, X b → b < w.heap.size) (hn : gs.length + qs.length ≤ 1000) :
    Calls Try.prog 14 #[.pointer (some ⟨t, 0, none⟩), .int .u64 (k : Int)] w fun e w' => ∃ v1 v2, e = .returned (.tuple #[v1, v2]) ∧ RdU w' v1 ((lateB qs k).map (·.l.n)) ∧ RdU w' v2 ((advB (restB qs k) gs [] []).2.2.map (·.l.n)) ∧ Keeps (fun b => B ≤ b ∧ ¬ X b) w w' ∧ LkX B X w' t mo ea (advB (restB qs k) gs [] []).1 (advB (restB qs k) gs [] []).2.1 := by
  obtain ⟨hB, G, h, hG⟩ := h
  refine (tick_any G w t mo ea gs qs k h hn).mono ?_
  rintro e w' ⟨v1, v2, he, h1, h2, hk, G', hp, hG'⟩
  exact ⟨v1, v2, he, h1.rd, h2.rd, hk.mono hG, Nat.le_trans hB hk.size, G', hp, fun b hb => (hG' b hb).elim (hG b) (fun h9 => ⟨Nat.le_trans hB h9, fun hx9 => by have := hX b hx9; omega⟩)⟩

end Go.Proofs.Ytnnedoohppobpaa
