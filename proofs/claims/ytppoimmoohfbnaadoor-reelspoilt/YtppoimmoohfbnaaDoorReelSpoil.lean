/- A reel of which one byte is another one, as plain bytes. -/
import Derived.Test.YtppoimmoohfbnaaDoorReelCut
import Derived.Test.YtppoimmoohfbnaaDoorInj
namespace Go.Proofs.YtppoimmoohfbnaaDoor
open Go.RowKit
set_option linter.unusedVariables false

/-- the pieces of a record behind its first one -/
def pcsG : Nat → List UInt8 → List (UInt8 × List UInt8)
  | 0, l => [(4, l)]
  | n + 1, l => if l.length ≤ 57 then [(4, l)] else (3, l.take 57) :: pcsG n (l.drop 57)

/-- the pieces of a record, with room for so many bytes in the first one -/
def pcsF (r : Nat) (l : List UInt8) : List (UInt8 × List UInt8) := if l.length ≤ r then [(1, l)] else (2, l.take r) :: pcsG (l.drop r).length (l.drop r)

/-- the pieces of records from a place on -/
def pcsAll : Nat → List (List UInt8) → List (UInt8 × List UInt8)
  | _, [] => []
  | a, r :: ls => pcsF (leftN (a + gapN a) - 7) r ++ pcsAll (a + (frameB a r).length) ls

/-- a byte that tells in no piece how many bytes it has -/
def okK : Nat → List (UInt8 × List UInt8) → Nat → Prop
  | _, [], _ => True
  | a, (_, t) :: ps, k => (k ≠ a + gapN a + 4 ∧ k ≠ a + gapN a + 5) ∧ okK (a + gapN a + 7 + t.length) ps k

theorem tailB_app : ∀ (xs ys : List (UInt8 × List UInt8)) (a : Nat), tailB a (xs ++ ys) = tailB a xs ++ tailB (a + (tailB a xs).length) ys := by
  intro xs
  induction xs with
  | nil => intro ys a; simp [tailB]
  | cons x xs ih =>
    intro ys a
    obtain ⟨k, t⟩ := x
    simp only [List.cons_append, tailB]
    rw [ih]
    simp only [List.append_assoc, List.length_append, List.length_replicate, pcB_length]
    rw [show a + gapN a + 7 + t.length + (tailB (a + gapN a + 7 + t.length) xs).length = a + (gapN a + (7 + t.length + (tailB (a + gapN a + 7 + t.length) xs).length)) by omega]

theorem tailOk_app : ∀ (xs ys : List (UInt8 × List UInt8)) (a : Nat), tailOk a xs → tailOk (a + (tailB a xs).length) ys → tailOk a (xs ++ ys) := by
  intro xs
  induction xs with
  | nil => intro ys a _ h; simpa [tailB] using h
  | cons x xs ih =>
    intro ys a h1 h2
    obtain ⟨k, t⟩ := x
    refine ⟨h1.1, h1.2.1, ih ys _ h1.2.2 ?_⟩
    simp only [tailB, List.length_append, List.length_replicate, pcB_length] at h2
    rw [show a + gapN a + 7 + t.length + (tailB (a + gapN a + 7 + t.length) xs).length = a + (gapN a + (7 + t.length + (tailB (a + gapN a + 7 + t.length) xs).length)) by omega]
    exact h2

theorem okK_app : ∀ (xs ys : List (UInt8 × List UInt8)) (a k : Nat), okK a (xs ++ ys) k → okK a xs k ∧ okK (a + (tailB a xs).length) ys k := by
  intro xs
  induction xs with
  | nil => intro ys a k h; exact ⟨trivial, by simpa [tailB] using h⟩
  | cons x xs ih =>
    intro ys a k h
    obtain ⟨kd, t⟩ := x
    obtain ⟨h1, h2⟩ := ih ys _ k h.2
    refine ⟨⟨h.1, h1⟩, ?_⟩
    simp only [tailB, List.length_append, List.length_replicate, pcB_length]
    rw [show a + gapN a + 7 + t.length + (tailB (a + gapN a + 7 + t.length) xs).length = a + (gapN a + (7 + t.length + (tailB (a + gapN a + 7 + t.length) xs).length)) by omega] at h2
    exact h2

theorem tailB_one {a : Nat} (h : 7 ≤ leftN a) (k : UInt8) (t : List UInt8) (ps : List (UInt8 × List UInt8)) : tailB a ((k, t) :: ps) = pcB k t ++ tailB (a + 7 + t.length) ps := by
  rw [tailB, gap_none h]
  rfl

theorem tailOk_one {a : Nat} (h : 7 ≤ leftN a) (k : UInt8) (t : List UInt8) (ps : List (UInt8 × List UInt8)) (hk : 1 ≤ k.toNat ∧ k.toNat ≤ 4) (ht : 7 + t.length ≤ leftN a) (hp : tailOk (a + 7 + t.length) ps) : tailOk a ((k, t) :: ps) := by
  refine ⟨hk, ?_, ?_⟩
  · rw [gap_none h]; exact ht
  · rw [gap_none h]; exact hp

theorem left_next {a : Nat} (h : leftN a = 64) : leftN (a + 7 + 57) = 64 := by unfold leftN at *; omega

theorem pcsG_tail : ∀ (n : Nat) (l : List UInt8) (a : Nat), l.length ≤ n → leftN a = 64 → tailB a (pcsG n l) = frG n l ∧ tailOk a (pcsG n l) := by
  intro n
  induction n with
  | zero =>
    intro l a hl ha
    rw [pcsG, frG]
    refine ⟨?_, tailOk_one (by omega) _ _ _ (by decide) (by omega) trivial⟩
    rw [tailB_one (by omega), tailB, List.append_nil]
  | succ n ih =>
    intro l a hl ha
    rw [pcsG, frG]
    by_cases h : l.length ≤ 57
    · rw [if_pos h, if_pos h]
      refine ⟨?_, tailOk_one (by omega) _ _ _ (by decide) (by omega) trivial⟩
      rw [tailB_one (by omega), tailB, List.append_nil]
    · rw [if_neg h, if_neg h]
      have ht : (l.take 57).length = 57 := by rw [List.length_take]; omega
      obtain ⟨h1, h2⟩ := ih (l.drop 57) (a + 7 + 57) (by rw [List.length_drop]; omega) (left_next ha)
      refine ⟨?_, tailOk_one (by omega) _ _ _ (by decide) (by omega) (by rw [ht]; exact h2)⟩
      rw [tailB_one (by omega), ht, h1]

theorem left_next2 {a r : Nat} (h : 7 ≤ leftN a) (hr : r = leftN a - 7) : leftN (a + 7 + r) = 64 := by unfold leftN at *; omega

theorem pcsF_tail (a : Nat) (l : List UInt8) : tailB a (pcsF (leftN (a + gapN a) - 7) l) = frameB a l ∧ tailOk a (pcsF (leftN (a + gapN a) - 7) l) := by
  have hg := gap_left a
  have hb := left_bd (a + gapN a)
  unfold frameB pcsF frF
  obtain ⟨r, hr⟩ : ∃ r, leftN (a + gapN a) - 7 = r := ⟨_, rfl⟩
  rw [hr]
  by_cases h : l.length ≤ r
  · rw [if_pos h, if_pos h]
    exact ⟨by rw [tailB, tailB, List.append_nil], ⟨by decide, by omega, trivial⟩⟩
  · rw [if_neg h, if_neg h]
    have ht : (l.take r).length = r := by rw [List.length_take]; omega
    obtain ⟨h1, h2⟩ := pcsG_tail _ (l.drop r) (a + gapN a + 7 + r) (Nat.le_refl _) (left_next2 hg hr.symm)
    refine ⟨?_, ⟨by decide, by omega, by rw [ht]; exact h2⟩⟩
    rw [tailB, ht, h1]
    rfl

theorem pcsAll_tail : ∀ (ls : List (List UInt8)) (P : List UInt8), ∃ X, allB ls P = P ++ X ∧ X = tailB P.length (pcsAll P.length ls) ∧ tailOk P.length (pcsAll P.length ls) := by
  intro ls
  induction ls with
  | nil => intro P; exact ⟨[], by simp [allB], rfl, trivial⟩
  | cons r ls ih =>
    intro P
    obtain ⟨X, h1, h2, h3⟩ := ih (P ++ frameB P.length r)
    obtain ⟨g1, g2⟩ := pcsF_tail P.length r
    rw [List.length_append] at h2 h3
    refine ⟨frameB P.length r ++ X, by rw [allB, h1, List.append_assoc], ?_, ?_⟩
    · rw [pcsAll, tailB_app, g1, h2]
    · rw [pcsAll]
      exact tailOk_app _ _ _ g2 (by rw [g1]; exact h3)

theorem pcsAll_at (T : List (List UInt8)) (k : Nat) : ∀ (j : Nat), j < T.length → okK 0 (pcsAll 0 T) k → ∃ (h : j < T.length), okK (offT T j) (pcsF (leftN (offT T j + gapN (offT T j)) - 7) T[j]) k := by
  have gen : ∀ (ls : List (List UInt8)) (P : List UInt8) (j : Nat) (hj : j < ls.length), okK P.length (pcsAll P.length ls) k → okK (allB (ls.take j) P).length (pcsF (leftN ((allB (ls.take j) P).length + gapN (allB (ls.take j) P).length) - 7) ls[j]) k := by
    intro ls
    induction ls with
    | nil => intro P j hj; simp at hj
    | cons r ls ih =>
      intro P j hj h
      rw [pcsAll] at h
      obtain ⟨h1, h2⟩ := okK_app _ _ _ _ h
      rw [(pcsF_tail P.length r).1] at h2
      cases j with
      | zero => simpa [allB] using h1
      | succ j =>
        have := ih (P ++ frameB P.length r) j (by simpa using hj) (by rw [List.length_append]; exact h2)
        simpa [allB] using this
  intro j hj h
  exact ⟨hj, gen T [] j hj h⟩

theorem set_ne_low {s0 s1 s2 s3 r0 r1 r2 r3 : UInt8} (h : Crc.low [s0, s1, s2, s3] = Crc.low [r0, r1, r2, r3]) : s0 = r0 ∧ s1 = r1 ∧ s2 = r2 ∧ s3 = r3 := by
  have h1 := Crc.four_low s0 s1 s2 s3
  rw [h, Crc.four_low] at h1
  simp at h1
  exact ⟨h1.1.symm, h1.2.1.symm, h1.2.2.1.symm, h1.2.2.2.symm⟩

theorem pcAt_bad {p : List UInt8} {a : Nat} {s0 s1 s2 s3 n0 n1 k : UInt8} {r : List UInt8} (hq : (p.drop a).take (leftN a) = s0 :: s1 :: s2 :: s3 :: n0 :: n1 :: k :: r) (h : ¬ Crc.low [s0, s1, s2, s3] = Crc.mask (Crc.sum (k :: r.take (n0.toNat + n1.toNat * 256)))) : pcAt p a = none := by
  rw [pcAt_eq hq, if_neg (fun hc => h hc.2)]

/-- a piece of which one byte is another one is none -/
theorem pcAt_spoilt (p Y t : List UInt8) (a i : Nat) (k v : UInt8) (hd : p.drop a = (pcB k t ++ Y).set i v) (ht : 7 + t.length ≤ leftN a) (hi : i < 7 + t.length) (h4 : i ≠ 4) (h5 : i ≠ 5) (hv : (pcB k t ++ Y)[i]? ≠ some v) : pcAt p a = none := by
  obtain ⟨s0, s1, s2, s3, e4, elow⟩ := four_low_sum (Crc.mask (Crc.sum (k :: t))) (Crc.mask_lt _)
  have hl := left_bd a
  obtain ⟨m, hm⟩ : ∃ m, leftN a = m + 7 := ⟨leftN a - 7, by omega⟩
  have hn : (UInt8.ofNat (t.length % 256)).toNat + (UInt8.ofNat (t.length / 256 % 256)).toNat * 256 = t.length := by
    simp
    omega
  have htk : ∀ u : List UInt8, u.length = t.length → ((u ++ Y).take m).take t.length = u := fun u hu => by
    rw [List.take_take, Nat.min_eq_left (by omega), ← hu, List.take_left]
  unfold pcB at hd hv
  rw [e4] at hd hv
  obtain ⟨b0, hb0⟩ : ∃ b0, UInt8.ofNat (t.length % 256) = b0 := ⟨_, rfl⟩
  obtain ⟨b1, hb1⟩ : ∃ b1, UInt8.ofNat (t.length / 256 % 256) = b1 := ⟨_, rfl⟩
  rw [hb0, hb1] at hd hn hv
  simp only [List.cons_append, List.nil_append] at hd hv
  match i, hi, h4, h5, hd, hv with
  | 0, _, _, _, hd, hv =>
    refine pcAt_bad (show (p.drop a).take (leftN a) = v :: s1 :: s2 :: s3 :: b0 :: b1 :: k :: (t ++ Y).take m by rw [hd, hm]; rfl) ?_
    rw [hn, htk t rfl, ← elow]
    intro h
    obtain ⟨e, _⟩ := set_ne_low h
    rw [e] at hv
    simp at hv
  | 1, _, _, _, hd, hv =>
    refine pcAt_bad (show (p.drop a).take (leftN a) = s0 :: v :: s2 :: s3 :: b0 :: b1 :: k :: (t ++ Y).take m by rw [hd, hm]; rfl) ?_
    rw [hn, htk t rfl, ← elow]
    intro h
    obtain ⟨_, e, _⟩ := set_ne_low h
    rw [e] at hv
    simp at hv
  | 2, _, _, _, hd, hv =>
    refine pcAt_bad (show (p.drop a).take (leftN a) = s0 :: s1 :: v :: s3 :: b0 :: b1 :: k :: (t ++ Y).take m by rw [hd, hm]; rfl) ?_
    rw [hn, htk t rfl, ← elow]
    intro h
    obtain ⟨_, _, e, _⟩ := set_ne_low h
    rw [e] at hv
    simp at hv
  | 3, _, _, _, hd, hv =>
    refine pcAt_bad (show (p.drop a).take (leftN a) = s0 :: s1 :: s2 :: v :: b0 :: b1 :: k :: (t ++ Y).take m by rw [hd, hm]; rfl) ?_
    rw [hn, htk t rfl, ← elow]
    intro h
    obtain ⟨_, _, _, e⟩ := set_ne_low h
    rw [e] at hv
    simp at hv
  | 4, _, h4, _, _, _ => exact absurd rfl h4
  | 5, _, _, h5, _, _ => exact absurd rfl h5
  | 6, _, _, _, hd, hv =>
    refine pcAt_bad (show (p.drop a).take (leftN a) = s0 :: s1 :: s2 :: s3 :: b0 :: b1 :: v :: (t ++ Y).take m by rw [hd, hm]; rfl) ?_
    rw [hn, htk t rfl, elow]
    intro h
    have h1 := Crc.mask_inj _ _ (Crc.sum_lt _) (Crc.sum_lt _) h
    have h2 := Crc.sum_byte [] t k v h1
    rw [h2] at hv
    simp at hv
  | j + 7, hi, _, _, hd, hv =>
    have hj : j < t.length := by omega
    have hset : (t ++ Y).set j v = t.set j v ++ Y := List.set_append_left _ _ hj
    refine pcAt_bad (show (p.drop a).take (leftN a) = s0 :: s1 :: s2 :: s3 :: b0 :: b1 :: k :: (t.set j v ++ Y).take m by rw [hd, hm, ← hset]; rfl) ?_
    rw [hn, htk (t.set j v) (by simp), elow]
    intro h
    have h1 := Crc.mask_inj _ _ (Crc.sum_lt _) (Crc.sum_lt _) h
    have h2 := Crc.sum_set (k :: t) (j + 1) (by simpa using hj) v (by rw [List.set_cons_succ]; exact h1.symm)
    apply hv
    rw [h2, List.getElem_cons_succ]
    simp only [List.getElem?_cons_succ]
    rw [List.getElem?_append_left hj, List.getElem?_eq_getElem hj]

theorem recG_none {n : Nat} {p : List UInt8} {nx : Nat} {t : List UInt8} (hn : p.length < n + nx) (h : pcAt p nx = none) : recG n p nx t = none := by
  rw [recG_step hn, h]

theorem set_behind {xs ys : List UInt8} {i : Nat} {v : UInt8} (h : xs.length ≤ i) : (xs ++ ys).set i v = xs ++ ys.set (i - xs.length) v := by
  rw [List.set_append, if_neg (by omega)]

theorem spoilt_G (Y p : List UInt8) (v : UInt8) : ∀ (n : Nat) (l : List UInt8) (a i N : Nat) (t0 : List UInt8), l.length ≤ n → leftN a = 64 → p.length < N + a → p.drop a = (frG n l ++ Y).set i v → i < (frG n l).length → (frG n l ++ Y)[i]? ≠ some v → okK a (pcsG n l) (a + i) → recG N p a t0 = none := by
  intro n
  induction n with
  | zero =>
    intro l a i N t0 hl ha hN hd hi hv hk
    rw [frG] at hd hi hv
    rw [pcsG] at hk
    have hk1 := hk.1
    rw [gap_none (by omega), pcB_length] at *
    exact recG_none hN (pcAt_spoilt p Y l a i 4 v hd (by omega) hi (by omega) (by omega) hv)
  | succ n ih =>
    intro l a i N t0 hl ha hN hd hi hv hk
    have hg := gap_none (a := a) (by omega)
    rw [frG] at hd hi hv
    rw [pcsG] at hk
    by_cases h : l.length ≤ 57
    · rw [if_pos h] at hd hi hv hk
      have hk1 := hk.1
      rw [hg] at hk1
      rw [pcB_length] at hi
      exact recG_none hN (pcAt_spoilt p Y l a i 4 v hd (by omega) hi (by omega) (by omega) hv)
    · rw [if_neg h] at hd hi hv hk
      have hk1 := hk.1
      have hk2 := hk.2
      rw [hg] at hk1 hk2
      have ht : (l.take 57).length = 57 := by rw [List.length_take]; omega
      have hpl : (pcB 3 (l.take 57)).length = 64 := by rw [pcB_length, ht]
      rw [ht] at hk2
      rw [List.append_assoc] at hd hv
      by_cases hi64 : i < 64
      · exact recG_none hN (pcAt_spoilt p _ (l.take 57) a i 3 v hd (by omega) (by omega) (by omega) (by omega) hv)
      · rw [set_behind (by omega), hpl] at hd
        rw [List.length_append, hpl] at hi
        rw [List.getElem?_append_right (by omega), hpl] at hv
        have hthere := pcAt_there p _ (l.take 57) a 3 hd (by decide) (by omega)
        rw [recG_step hN, hthere]
        simp only
        rw [if_neg (by decide), ht]
        refine ih (l.drop 57) (a + 7 + 57) (i - 64) N _ (by rw [List.length_drop]; omega) (left_next ha) (by omega) ?_ (by omega) hv ?_
        · rw [show a + 7 + 57 = a + 64 by omega, ← List.drop_drop, hd, List.drop_left' hpl]
        · rw [show a + 7 + 57 + (i - 64) = a + i by omega]
          exact hk2

theorem spoilt_F (Y p l : List UInt8) (v : UInt8) (a i N : Nat) (hN : p.length < N + (a + gapN a)) (hd : p.drop (a + gapN a) = (frF (leftN (a + gapN a) - 7) l ++ Y).set i v) (hi : i < (frF (leftN (a + gapN a) - 7) l).length) (hv : (frF (leftN (a + gapN a) - 7) l ++ Y)[i]? ≠ some v) (hk : okK a (pcsF (leftN (a + gapN a) - 7) l) (a + gapN a + i)) : recG N p (a + gapN a) [] = none := by
  have hg := gap_left a
  have hb := left_bd (a + gapN a)
  obtain ⟨b, hbq⟩ : ∃ b, a + gapN a = b := ⟨_, rfl⟩
  unfold pcsF at hk
  unfold frF at hd hi hv
  rw [hbq] at hg hb hN hd hi hv hk ⊢
  obtain ⟨r, hr⟩ : ∃ r, leftN b - 7 = r := ⟨_, rfl⟩
  rw [hr] at hd hi hv hk
  by_cases h : l.length ≤ r
  · rw [if_pos h] at hd hi hv hk
    have hk1 := hk.1
    rw [hbq] at hk1
    rw [pcB_length] at hi
    exact recG_none hN (pcAt_spoilt p Y l b i 1 v hd (by omega) hi (by omega) (by omega) hv)
  · rw [if_neg h] at hd hi hv hk
    have hk1 := hk.1
    have hk2 := hk.2
    rw [hbq] at hk1 hk2
    have ht : (l.take r).length = r := by rw [List.length_take]; omega
    have hpl : (pcB 2 (l.take r)).length = 7 + r := by rw [pcB_length, ht]
    rw [ht] at hk2
    rw [List.append_assoc] at hd hv
    by_cases hir : i < 7 + r
    · exact recG_none hN (pcAt_spoilt p _ (l.take r) b i 2 v hd (by omega) (by omega) (by omega) (by omega) hv)
    · rw [set_behind (by omega), hpl] at hd
      rw [List.length_append, hpl] at hi
      rw [List.getElem?_append_right (by omega), hpl] at hv
      have hthere := pcAt_there p _ (l.take r) b 2 hd (by decide) (by omega)
      rw [recG_step hN, hthere]
      simp only
      rw [if_neg (by decide), ht]
      refine spoilt_G Y p v _ (l.drop r) (b + 7 + r) (i - (7 + r)) N _ (Nat.le_refl _) (left_next2 hg hr.symm) (by omega) ?_ ?_ hv ?_
      · rw [Nat.add_assoc, ← List.drop_drop, hd, List.drop_left' hpl]
        rfl
      · have : (frR (l.drop r)).length = (frG (l.drop r).length (l.drop r)).length := rfl
        omega
      · rw [show b + 7 + r + (i - (7 + r)) = b + i by omega]
        exact hk2

theorem left7_frame (a : Nat) (l : List UInt8) : gapN a + 7 ≤ (frameB a l).length := by
  unfold frameB frF
  rw [List.length_append, List.length_replicate]
  split
  · rw [pcB_length]; omega
  · rw [List.length_append, pcB_length]; omega

/-- A REEL OF WHICH ONE BYTE IS ANOTHER ONE HAS THE RECORDS AHEAD OF IT -/
theorem read_spoilt (T : List (List UInt8)) (k wh : Nat) (v : UInt8) (h : ∀ r ∈ T, r.length ≤ 65536) (hwh : wh < T.length) (h1 : offT T wh ≤ k) (h2 : k < offT T (wh + 1)) (hv : (allB T [])[k]? ≠ some v) (hok : okK 0 (pcsAll 0 T) k) :
    readB ((allB T []).set k v) = (T.take wh, offT T wh) ∧ readN ((allB T []).set k v) ≤ k := by
  obtain ⟨_, hok2⟩ := pcsAll_at T k wh hwh hok
  obtain ⟨o, ho⟩ : ∃ o, offT T wh = o := ⟨_, rfl⟩
  have hst := offT_step T wh hwh
  obtain ⟨Y, hY⟩ := allB_here T wh hwh
  have htk := allB_take T wh
  obtain ⟨l, hl⟩ : ∃ l, T[wh] = l := ⟨_, rfl⟩
  have hl65 : l.length ≤ 65536 := by rw [← hl]; exact h _ (List.getElem_mem hwh)
  rw [hl] at hst hY hok2
  rw [ho] at hst hY htk hok2 h1 ⊢
  have hlen0 : (allB (T.take wh) []).length = o := by rw [← ho]; rfl
  obtain ⟨P, hP⟩ : ∃ P, allB T [] = P := ⟨_, rfl⟩
  rw [hP] at hv hY htk ⊢
  obtain ⟨A, hA⟩ : ∃ A, allB (T.take wh) [] = A := ⟨_, rfl⟩
  rw [hA] at htk hlen0
  have hPA : P = A ++ (frameB o l ++ Y) := by rw [← hY, ← htk, List.take_append_drop]
  have hg := left7_frame o l
  have hkF : k - o < (frameB o l).length := by omega
  have hset : P.set k v = A ++ (frameB o l ++ Y).set (k - o) v := by
    rw [hPA, set_behind (by omega), hlen0]
  have hv2 : (frameB o l ++ Y)[k - o]? ≠ some v := by
    rw [hPA, List.getElem?_append_right (by omega), hlen0] at hv
    exact hv
  have hd : (P.set k v).drop o = (frameB o l ++ Y).set (k - o) v := by rw [hset, List.drop_left' hlen0]
  have hnone : recAt (P.set k v) o = none := by
    by_cases hgap : k < o + gapN o
    · cases hr : recAt (P.set k v) o with
      | none => rfl
      | some r =>
        exfalso
        obtain ⟨t', nx⟩ := r
        obtain ⟨_, _, s3, _⟩ := recAt_some hr
        rw [hd] at s3
        have e1 : ((frameB o l ++ Y).set (k - o) v)[k - o]? = some v := by
          rw [List.getElem?_set_self (by rw [List.length_append]; omega)]
        rw [s3] at e1
        have z1 : ∀ (x Z : List UInt8), (frameB o x ++ Z)[k - o]? = some 0 := fun x Z => by
          unfold frameB
          rw [List.append_assoc, List.getElem?_append_left (by rw [List.length_replicate]; omega), List.getElem?_replicate, if_pos (by omega)]
        rw [z1] at e1
        apply hv2
        rw [z1]
        exact e1
    · apply recAt_none
      have hd2 : (P.set k v).drop (o + gapN o) = (frF (leftN (o + gapN o) - 7) l ++ Y).set (k - o - gapN o) v := by
        rw [← List.drop_drop, hd]
        unfold frameB
        rw [List.append_assoc, set_behind (by simp; omega), List.drop_left' (by simp)]
        simp
      refine spoilt_F Y (P.set k v) l v o (k - o - gapN o) _ (by omega) hd2 ?_ ?_ ?_
      · have : (frameB o l).length = gapN o + (frF (leftN (o + gapN o) - 7) l).length := by unfold frameB; simp
        omega
      · unfold frameB at hv2
        rw [List.append_assoc, List.getElem?_append_right (by simp; omega)] at hv2
        simpa using hv2
      · rw [show o + gapN o + (k - o - gapN o) = k by omega]
        exact hok2
  have hrd := read_behind (T.take wh) ((frameB o l ++ Y).set (k - o) v) (fun r hr => h r (List.mem_of_mem_take hr))
  rw [hA, hlen0, ← hset, readG_step (by omega), hnone] at hrd
  refine ⟨hrd, ?_⟩
  unfold readN
  rw [hrd]
  simp only
  rw [if_neg]
  · exact h1
  · rintro ⟨e, _⟩
    rw [hd, List.length_set, List.length_append] at e
    omega

end Go.Proofs.YtppoimmoohfbnaaDoor
