/- Which batch bytes are. -/
import Derived.Test.YtjgpkmdmicjdhaaOpRBytes
import Derived.Test.YtjgpkmdmicjdhaaTextAny
namespace Go.Proofs.Ytjgpkmdmicjdhaa
open Go.RowKit

/-- the op in front, what stands behind; false: there is no right one -/
def takeS (l : List UInt8) : OpB × List UInt8 × Bool :=
  if (frontS l).2.2 = 0 ∧ (frontS l).1 ≤ 3 then
    if (textS (l.drop (frontS l).2.1) 64).2.2 = 0 then
      if (textS (textS (l.drop (frontS l).2.1) 64).2.1 512).2.2 = 0 then
        ((UInt8.ofNat (frontS l).1, (textS (l.drop (frontS l).2.1) 64).1, (textS (textS (l.drop (frontS l).2.1) 64).2.1 512).1), (textS (textS (l.drop (frontS l).2.1) 64).2.1 512).2.1,
          decide (chkOp ((frontS l).1 : Int) (textS (l.drop (frontS l).2.1) 64).1 (textS (textS (l.drop (frontS l).2.1) 64).2.1 512).1 = 0))
      else ((0, [], []), [], false)
    else ((0, [], []), [], false)
  else ((0, [], []), [], false)

def readN : Nat → List UInt8 → Option (List OpB × List UInt8)
  | 0, l => some ([], l)
  | n + 1, l => if (takeS l).2.2 = true then (readN n (takeS l).2.1).map fun r => ((takeS l).1 :: r.1, r.2) else none

def batS (l : List UInt8) : List OpB × Nat :=
  if (frontS l).2.2 = 0 ∧ (frontS l).1 ≤ 64 then
    match readN (frontS l).1 (l.drop (frontS l).2.1) with
    | some (os, []) => (os, 0)
    | _ => ([], 4)
  else ([], 4)

/-- the document's: what stands there, whatever it is -/
def takeR (l : List UInt8) : Option (OpB × List UInt8) :=
  if (frontS l).2.2 = 0 ∧ (textS (behindS l) 512).2.2 = 0 ∧ (textS (textS (behindS l) 512).2.1 512).2.2 = 0 ∧ (frontS l).1 ≤ 255 then
    some ((UInt8.ofNat (frontS l).1, (textS (behindS l) 512).1, (textS (textS (behindS l) 512).2.1 512).1), (textS (textS (behindS l) 512).2.1 512).2.1)
  else none

def refN : Nat → List UInt8 → Option (List OpB × List UInt8)
  | 0, l => some ([], l)
  | n + 1, l => match takeR l with
    | some (o, r) => (refN n r).map fun q => (o :: q.1, q.2)
    | none => none

def refS (l : List UInt8) : List OpB × Nat :=
  if (frontS l).2.2 = 0 ∧ (frontS l).1 ≤ 64 then
    match refN (frontS l).1 (l.drop (frontS l).2.1) with
    | some (os, _) => if chkL os = 0 ∧ batB os = l then (os, 0) else ([], 4)
    | none => ([], 4)
  else ([], 4)

theorem front_inv {l : List UInt8} {n s : Nat} (h : frontS l = (n, s, 0)) : l = Mth.numB n ++ l.drop s := by
  match l, h with
  | [], h => simp [frontS] at h
  | f :: t, h =>
    rw [frontS] at h
    split at h
    · simp at h
    · split at h
      · rename_i hb
        simp only [Prod.mk.injEq] at h
        obtain ⟨h1, h2, _⟩ := h
        have := eq_of_beq hb
        rw [h1, h2] at this
        rw [this, List.take_append_drop]
      · simp at h

theorem text_inv {l u r : List UInt8} {m : Int} (h : textS l m = (u, r, 0)) : l = textB u ++ r ∧ (u.length : Int) ≤ m := by
  unfold textS at h
  obtain ⟨⟨n, s, e⟩, hf⟩ : ∃ y, frontS l = y := ⟨_, rfl⟩
  rw [hf] at h
  simp only at h
  split at h
  · rename_i he
    subst he
    split at h
    · simp at h
    · rename_i h1
      split at h
      · simp at h
      · rename_i h2
        simp only [Prod.mk.injEq, and_true] at h
        obtain ⟨rfl, rfl⟩ := h
        have hl : ((l.drop s).take n).length = n := by rw [List.length_take, List.length_drop]; omega
        refine ⟨?_, by rw [hl]; omega⟩
        unfold textB
        rw [hl, List.append_assoc, ← List.drop_drop, List.take_append_drop]
        exact front_inv hf
  · rename_i he
    simp only [Prod.mk.injEq] at h
    exact absurd h.2.2 he

theorem text_mk (u r : List UInt8) (m : Int) (hm : (u.length : Int) ≤ m) (hu : u.length < 18446744073709551616) : textS (textB u ++ r) m = (u, r, 0) := by
  unfold textS textB
  rw [List.append_assoc, front_numB u.length hu (u ++ r)]
  simp only [if_true]
  rw [if_neg (by omega), if_neg (by simp only [List.length_append]; omega)]
  simp

theorem chk_le {k : Int} {l m : List UInt8} (h : chkOp k l m = 0) : 1 ≤ k ∧ k ≤ 3 ∧ l.length ≤ 64 ∧ m.length ≤ 512 := by
  unfold chkOp at h
  split at h
  · simp at h
  · rename_i h1
    split at h
    · simp at h
    · rename_i h2
      split at h
      · simp at h
      · rename_i h3
        grind

/-- an op's bytes -/
def opB (o : OpB) : List UInt8 := Mth.numB o.1.toNat ++ (textB o.2.1 ++ textB o.2.2)

theorem take_inv {l r : List UInt8} {o : OpB} (h : takeS l = (o, r, true)) : l = opB o ++ r ∧ chkOp (o.1.toNat : Int) o.2.1 o.2.2 = 0 := by
  unfold takeS at h
  obtain ⟨⟨n, s, e⟩, hf⟩ : ∃ y, frontS l = y := ⟨_, rfl⟩
  rw [hf] at h
  simp only at h
  obtain ⟨⟨u, p, e1⟩, hu⟩ : ∃ y, textS (l.drop s) 64 = y := ⟨_, rfl⟩
  rw [hu] at h
  simp only at h
  obtain ⟨⟨x, q, e2⟩, hx⟩ : ∃ y, textS p 512 = y := ⟨_, rfl⟩
  rw [hx] at h
  simp only at h
  split at h
  · rename_i h1
    obtain ⟨rfl, hn⟩ := h1
    split at h
    · rename_i h2
      subst h2
      split at h
      · rename_i h3
        subst h3
        simp only [Prod.mk.injEq, decide_eq_true_eq] at h
        obtain ⟨rfl, rfl, hc⟩ := h
        have hnn : (UInt8.ofNat n).toNat = n := by simp; omega
        have i1 := front_inv hf
        have i2 := (text_inv hu).1
        have i3 := (text_inv hx).1
        refine ⟨?_, by simp only [hnn]; exact hc⟩
        unfold opB
        simp only [hnn, List.append_assoc]
        rw [← i3, ← i2]
        exact i1
      · simp at h
    · simp at h
  · simp at h

theorem take_mk (o : OpB) (r : List UInt8) (hc : chkOp (o.1.toNat : Int) o.2.1 o.2.2 = 0) : takeS (opB o ++ r) = (o, r, true) := by
  have hb := chk_le hc
  have hn : o.1.toNat < 256 := o.1.toNat_lt
  have hf : frontS (opB o ++ r) = (o.1.toNat, (Mth.numB o.1.toNat).length, 0) := by unfold opB; rw [List.append_assoc]; exact front_numB _ (by omega) _
  have hd : (opB o ++ r).drop (Mth.numB o.1.toNat).length = textB o.2.1 ++ (textB o.2.2 ++ r) := by unfold opB; simp
  unfold takeS
  rw [hf]
  simp only [hd]
  rw [text_mk o.2.1 _ 64 (by omega) (by omega)]
  simp only [if_true]
  rw [text_mk o.2.2 _ 512 (by omega) (by omega)]
  simp only [if_true]
  rw [if_pos ⟨trivial, by omega⟩]
  simp [hc]

theorem takeR_inv {l r : List UInt8} {o : OpB} (h : takeR l = some (o, r)) : l = opB o ++ r := by
  unfold takeR at h
  obtain ⟨⟨n, s, e⟩, hf⟩ : ∃ y, frontS l = y := ⟨_, rfl⟩
  have hbh : e = 0 → behindS l = l.drop s := by intro he; unfold behindS; rw [hf]; simp only; rw [if_pos he]
  rw [hf] at h
  simp only at h
  obtain ⟨⟨u, p, e1⟩, hu⟩ : ∃ y, textS (behindS l) 512 = y := ⟨_, rfl⟩
  rw [hu] at h
  simp only at h
  obtain ⟨⟨x, q, e2⟩, hx⟩ : ∃ y, textS p 512 = y := ⟨_, rfl⟩
  rw [hx] at h
  simp only at h
  split at h
  · rename_i h1
    obtain ⟨rfl, rfl, rfl, hn⟩ := h1
    simp only [Option.some.injEq, Prod.mk.injEq] at h
    obtain ⟨rfl, rfl⟩ := h
    have hnn : (UInt8.ofNat n).toNat = n := by simp; omega
    rw [hbh rfl] at hu
    have i1 := front_inv hf
    have i2 := (text_inv hu).1
    have i3 := (text_inv hx).1
    unfold opB
    simp only [hnn, List.append_assoc]
    rw [← i3, ← i2]
    exact i1
  · simp at h

theorem takeR_mk (o : OpB) (r : List UInt8) (hc : chkOp (o.1.toNat : Int) o.2.1 o.2.2 = 0) : takeR (opB o ++ r) = some (o, r) := by
  have hb := chk_le hc
  have hn : o.1.toNat < 256 := o.1.toNat_lt
  have hf : frontS (opB o ++ r) = (o.1.toNat, (Mth.numB o.1.toNat).length, 0) := by unfold opB; rw [List.append_assoc]; exact front_numB _ (by omega) _
  have hd : behindS (opB o ++ r) = textB o.2.1 ++ (textB o.2.2 ++ r) := by unfold behindS; rw [hf]; simp only [if_true]; unfold opB; simp
  unfold takeR
  rw [hf, hd, text_mk o.2.1 _ 512 (by omega) (by omega)]
  simp only
  rw [text_mk o.2.2 _ 512 (by omega) (by omega)]
  simp only
  rw [if_pos ⟨trivial, trivial, trivial, by omega⟩]
  simp

/-- ops' bytes, one behind the other -/
def opsB (os : List OpB) : List UInt8 := (os.map opB).flatten

theorem batB_eq (os : List OpB) : batB os = Mth.numB os.length ++ opsB os := by
  have h : ∀ ps : List OpB, (ps.flatMap opP).flatten = opsB ps := by
    intro ps
    induction ps with
    | nil => rfl
    | cons o ps ih =>
      rw [List.flatMap_cons, List.flatten_append, ih]
      simp [opsB, opP, opB]
  unfold batB partsO
  rw [List.flatten_cons, h]

theorem readN_inv {n : Nat} {l t : List UInt8} {os : List OpB} (h : readN n l = some (os, t)) : l = opsB os ++ t ∧ os.length = n ∧ (∀ o ∈ os, chkOp (o.1.toNat : Int) o.2.1 o.2.2 = 0) := by
  induction n generalizing l os with
  | zero => simp [readN] at h; obtain ⟨rfl, rfl⟩ := h; exact ⟨by simp [opsB], rfl, by simp⟩
  | succ n ih =>
    unfold readN at h
    obtain ⟨⟨o, r, b⟩, ht⟩ : ∃ y, takeS l = y := ⟨_, rfl⟩
    rw [ht] at h
    simp only at h
    split at h
    · rename_i hb
      subst hb
      rw [Option.map_eq_some_iff] at h
      obtain ⟨⟨ps, t'⟩, h1, h2⟩ := h
      simp only [Prod.mk.injEq] at h2
      obtain ⟨rfl, rfl⟩ := h2
      obtain ⟨e1, e2, e3⟩ := ih h1
      obtain ⟨i1, i2⟩ := take_inv ht
      refine ⟨?_, by simp [e2], ?_⟩
      · rw [i1, e1]; simp [opsB]
      · intro q hq
        rcases List.mem_cons.1 hq with rfl | hq
        · exact i2
        · exact e3 q hq
    · simp at h

theorem refN_inv {n : Nat} {l t : List UInt8} {os : List OpB} (h : refN n l = some (os, t)) : l = opsB os ++ t ∧ os.length = n := by
  induction n generalizing l os with
  | zero => simp [refN] at h; obtain ⟨rfl, rfl⟩ := h; exact ⟨by simp [opsB], rfl⟩
  | succ n ih =>
    unfold refN at h
    split at h
    · rename_i o r ht
      rw [Option.map_eq_some_iff] at h
      obtain ⟨⟨ps, t'⟩, h1, h2⟩ := h
      simp only [Prod.mk.injEq] at h2
      obtain ⟨rfl, rfl⟩ := h2
      obtain ⟨e1, e2⟩ := ih h1
      have i1 := takeR_inv ht
      exact ⟨by rw [i1, e1]; simp [opsB], by simp [e2]⟩
    · simp at h

theorem readN_mk (os : List OpB) (t : List UInt8) (hc : ∀ o ∈ os, chkOp (o.1.toNat : Int) o.2.1 o.2.2 = 0) : readN os.length (opsB os ++ t) = some (os, t) := by
  induction os with
  | nil => rfl
  | cons o os ih =>
    have e : opsB (o :: os) ++ t = opB o ++ (opsB os ++ t) := by simp [opsB]
    rw [List.length_cons, e, readN, take_mk o _ (hc o (by simp))]
    simp [ih (fun p hp => hc p (by simp [hp]))]

theorem refN_mk (os : List OpB) (t : List UInt8) (hc : ∀ o ∈ os, chkOp (o.1.toNat : Int) o.2.1 o.2.2 = 0) : refN os.length (opsB os ++ t) = some (os, t) := by
  induction os with
  | nil => rfl
  | cons o os ih =>
    have e : opsB (o :: os) ++ t = opB o ++ (opsB os ++ t) := by simp [opsB]
    rw [List.length_cons, e, refN, takeR_mk o _ (hc o (by simp))]
    simp [ih (fun p hp => hc p (by simp [hp]))]

theorem chkOps_zero {os : List OpB} : chkOps os = 0 ↔ ∀ o ∈ os, chkOp (o.1.toNat : Int) o.2.1 o.2.2 = 0 := by
  induction os with
  | nil => simp [chkOps]
  | cons o os ih =>
    unfold chkOps
    split
    · rename_i h
      rw [ih]
      simp [h]
    · rename_i h
      simp [h]

theorem chkL_zero {os : List OpB} : chkL os = 0 ↔ os.length ≤ 64 ∧ ∀ o ∈ os, chkOp (o.1.toNat : Int) o.2.1 o.2.2 = 0 := by
  unfold chkL
  split
  · rename_i h
    constructor
    · intro h'; simp at h'
    · intro h'; omega
  · rename_i h
    rw [chkOps_zero]
    exact ⟨fun h' => ⟨by omega, h'⟩, fun h' => h'.2⟩

/-- the two answers are one -/
theorem bat_same (l : List UInt8) : batS l = refS l := by
  unfold batS refS
  obtain ⟨⟨n, s, e⟩, hf⟩ : ∃ y, frontS l = y := ⟨_, rfl⟩
  rw [hf]
  simp only
  split
  · rename_i h
    obtain ⟨rfl, hn⟩ := h
    have i0 := front_inv hf
    cases hr : readN n (l.drop s) with
    | some q =>
      obtain ⟨os, t⟩ := q
      obtain ⟨e1, e2, e3⟩ := readN_inv hr
      have hr2 : refN n (l.drop s) = some (os, t) := by rw [e1, ← e2]; exact refN_mk os t e3
      rw [hr2]
      simp only
      have hcl : chkL os = 0 := chkL_zero.2 ⟨by omega, e3⟩
      cases t with
      | nil =>
        rw [List.append_nil] at e1
        rw [if_pos ⟨hcl, by rw [batB_eq, e2, ← e1]; exact i0.symm⟩]
      | cons b t =>
        rw [if_neg]
        rintro ⟨_, hb⟩
        rw [batB_eq, e2] at hb
        have h2 : opsB os = l.drop s := by
          have := hb.trans i0
          exact List.append_cancel_left this
        rw [← h2] at e1
        have := congrArg List.length e1
        simp at this
    | none =>
      simp only
      cases hr2 : refN n (l.drop s) with
      | none => rfl
      | some q =>
        obtain ⟨os, t⟩ := q
        simp only
        rw [if_neg]
        rintro ⟨hc, _⟩
        obtain ⟨e1, e2⟩ := refN_inv hr2
        have h3 := readN_mk os t (chkL_zero.1 hc).2
        rw [← e1, e2, hr] at h3
        cases h3
  · rfl

theorem bat_back (os : List OpB) (hc : chkL os = 0) : batS (batB os) = (os, 0) := by
  obtain ⟨h1, h2⟩ := chkL_zero.1 hc
  have hf : frontS (batB os) = (os.length, (Mth.numB os.length).length, 0) := by rw [batB_eq]; exact front_numB _ (by omega) _
  have hd : (batB os).drop (Mth.numB os.length).length = opsB os := by rw [batB_eq]; simp
  have hr := readN_mk os [] h2
  rw [List.append_nil] at hr
  unfold batS
  rw [hf]
  simp only [hd, hr]
  rw [if_pos ⟨trivial, by omega⟩]

end Go.Proofs.Ytjgpkmdmicjdhaa
