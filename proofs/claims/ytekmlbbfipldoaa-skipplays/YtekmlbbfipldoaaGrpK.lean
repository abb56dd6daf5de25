/- Several texts in one. -/
import Derived.Test.YtekmlbbfipldoaaKeyTail
import Derived.Test.YtekmlbbfipldoaaRefText
import Derived.Test.YtekmlbbfipldoaaKeyCheck
import Derived.Test.YtekmlbbfipldoaaKeyBytes
import Derived.Test.YtekmlbbfipldoaaNumRead
import Derived.Test.YtekmlbbfipldoaaLfPure
import Derived.Test.YtekmlbbfipldoaaJoin
import Derived.Test.YtekmlbbfipldoaaSmall2
import Derived.BigQuiet

/- ikey.lowFirst: eight bytes as one number, the lowest first. -/
namespace Go.Proofs.Ytekmlbbfipldoaa
open Go.RowKit

theorem orb64 (n b s k : Nat) (hn : n < 2 ^ k) (hs : s = 2 ^ k) (h : b * s < 18446744073709551616) (hn2 : n < 18446744073709551616) : bits BinOp.or IntKind.u64 (n : Int) ((b : Int) * (s : Int)) = ((n + b * s : Nat) : Int) := by
  subst hs
  have e : ((b : Int) * ((2 ^ k : Nat) : Int)) = ((b * 2 ^ k : Nat) : Int) := by simp
  rw [e, u64_or_nat _ _ hn2 h, Nat.or_comm, nat_join k _ _ (by simp) hn, Nat.add_comm]

/-- Seq out of seven bytes, the lowest first -/
def seqOf (a1 a2 a3 a4 a5 a6 a7 : UInt8) : Nat := a1.toNat + a2.toNat * 256 + a3.toNat * 65536 + a4.toNat * 16777216 + a5.toNat * 4294967296 + a6.toNat * 1099511627776 + a7.toNat * 281474976710656

end Go.Proofs.Ytekmlbbfipldoaa

/- TakeText, both ways. -/
namespace Go.Proofs.Ytekmlbbfipldoaa
set_option maxRecDepth 20000
open Go.RowKit

/-- what both TakeTexts answer -/
def textS (l : List UInt8) (most : Int) : List UInt8 × List UInt8 × Nat :=
  if (frontS l).2.2 = 0 then
    if most < 0 ∨ most < ((frontS l).1 : Int) then ([], [], 3)
    else if l.length - (frontS l).2.1 < (frontS l).1 then ([], [], 2)
    else ((l.drop (frontS l).2.1).take (frontS l).1, l.drop ((frontS l).2.1 + (frontS l).1), 0)
  else ([], [], (frontS l).2.2)

/-- what stands behind the number, as bytes -/
def behindS (l : List UInt8) : List UInt8 := if (frontS l).2.2 = 0 then l.drop (frontS l).2.1 else []

theorem TakePost.rd {l : List UInt8} {B : Nat} {w : World} {x : Value} (h : TakePost l B w x) : Rd w x (behindS l) := by
  unfold TakePost at h
  unfold behindS
  split at h
  · rename_i e; rw [if_pos e]; exact h.rd
  · rename_i e; rw [if_neg e]; exact .inl ⟨h, rfl⟩

end Go.Proofs.Ytekmlbbfipldoaa

/- ikey.Read. -/
namespace Go.Proofs.Ytekmlbbfipldoaa
open Go.RowKit

end Go.Proofs.Ytekmlbbfipldoaa

/- ikey.Read, where all is right. -/
namespace Go.Proofs.Ytekmlbbfipldoaa
open Go.RowKit

theorem Rd.stored3 {w : World} {v : Value} {l : List UInt8} {b : Nat} (h : Rd w v l) (hf : From (b + 1) v) (u0 u1 u2 : Value) : Rd (((w.setCell ⟨b, 0, none⟩ u0).setCell ⟨b, 1, none⟩ u1).setCell ⟨b, 2, none⟩ u2) v l := by
  rcases h with h | ⟨g, off, cap, rfl, h1, h2, h3⟩
  · exact .inl h
  · have hg : b + 1 ≤ g := hf _ _ _ rfl
    have : Rd w (.slice (some ⟨g, off, none⟩) l.length cap) l := .inr ⟨g, off, cap, rfl, h1, h2, h3⟩
    exact this.store3 (by omega) u0 u1 u2

end Go.Proofs.Ytekmlbbfipldoaa

/- bartizanref03.Read. -/
namespace Go.Proofs.Ytekmlbbfipldoaa
open Go.RowKit

end Go.Proofs.Ytekmlbbfipldoaa

/- bartizanref03.Read, where all is right. -/
namespace Go.Proofs.Ytekmlbbfipldoaa
open Go.RowKit

theorem textS_rest (l : List UInt8) (m : Int) : (textS l m).2.1.length ≤ l.length := by
  unfold textS
  split
  · split
    · simp
    · split
      · simp
      · simp
  · simp

end Go.Proofs.Ytekmlbbfipldoaa

/- What both Reads of a version answer. -/
namespace Go.Proofs.Ytekmlbbfipldoaa
open Go.RowKit

/-- user, Seq, Kind, what stands behind, and the error -/
def keyS (l : List UInt8) : List UInt8 × Nat × Nat × List UInt8 × Nat :=
  if (textS l 64).2.2 = 0 then
    match (textS l 64).2.1 with
    | a0 :: a1 :: a2 :: a3 :: a4 :: a5 :: a6 :: a7 :: t =>
      if chk (textS l 64).1.length (seqOf a1 a2 a3 a4 a5 a6 a7 : Nat) (a0.toNat : Nat) = 0 then ((textS l 64).1, seqOf a1 a2 a3 a4 a5 a6 a7, a0.toNat, t, 0) else ([], 0, 0, [], 4)
    | _ => ([], 0, 0, [], 2)
  else ([], 0, 0, [], (textS l 64).2.2)

theorem keyS_err {l u r : List UInt8} {e : Nat} (hT : textS l 64 = (u, r, e)) (he : ¬ e = 0) : keyS l = ([], 0, 0, [], e) := by
  unfold keyS; rw [hT]; simp only; rw [if_neg he]

theorem keyS_short {l u r : List UInt8} (hT : textS l 64 = (u, r, 0)) (hr : r.length < 8) : keyS l = ([], 0, 0, [], 2) := by
  unfold keyS; rw [hT]; simp only [if_true]
  match r, hr with
  | [], _ => rfl
  | [_], _ => rfl
  | [_, _], _ => rfl
  | [_, _, _], _ => rfl
  | [_, _, _, _], _ => rfl
  | [_, _, _, _, _], _ => rfl
  | [_, _, _, _, _, _], _ => rfl
  | [_, _, _, _, _, _, _], _ => rfl

theorem keyS_form {l u t : List UInt8} {a0 a1 a2 a3 a4 a5 a6 a7 : UInt8} (hT : textS l 64 = (u, a0 :: a1 :: a2 :: a3 :: a4 :: a5 :: a6 :: a7 :: t, 0)) (hc : ¬ chk u.length (seqOf a1 a2 a3 a4 a5 a6 a7 : Nat) (a0.toNat : Nat) = 0) : keyS l = ([], 0, 0, [], 4) := by
  unfold keyS; rw [hT]; simp only [if_true]; rw [if_neg hc]

theorem keyS_ok {l u t : List UInt8} {a0 a1 a2 a3 a4 a5 a6 a7 : UInt8} (hT : textS l 64 = (u, a0 :: a1 :: a2 :: a3 :: a4 :: a5 :: a6 :: a7 :: t, 0)) (hc : chk u.length (seqOf a1 a2 a3 a4 a5 a6 a7 : Nat) (a0.toNat : Nat) = 0) : keyS l = (u, seqOf a1 a2 a3 a4 a5 a6 a7, a0.toNat, t, 0) := by
  unfold keyS; rw [hT]; simp only [if_true]; rw [if_pos hc]

theorem eight {r : List UInt8} (h : 8 ≤ r.length) : ∃ a0 a1 a2 a3 a4 a5 a6 a7 t, r = a0 :: a1 :: a2 :: a3 :: a4 :: a5 :: a6 :: a7 :: t := by
  match r, h with
  | a0 :: a1 :: a2 :: a3 :: a4 :: a5 :: a6 :: a7 :: t, _ => exact ⟨a0, a1, a2, a3, a4, a5, a6, a7, t, rfl⟩

/-- the answer, as a value -/
def KeyPost (l : List UInt8) (w w' : World) (o : Ending) : Prop :=
  ∃ x y, o = .returned (.tuple #[.agg #[x, .int .u64 ((keyS l).2.1 : Int), .int .u8 ((keyS l).2.2.1 : Int)], y, .int .i64 ((keyS l).2.2.2.2 : Int)]) ∧ Rd w' x (keyS l).1 ∧ Rd w' y (keyS l).2.2.2.1 ∧ From (w.heap.size + 1) x ∧ From (w.heap.size + 1) y ∧ Below w.heap.size w w'

end Go.Proofs.Ytekmlbbfipldoaa

/- A version's bytes, read again. -/
namespace Go.Proofs.Ytekmlbbfipldoaa
set_option maxRecDepth 20000
open Go.RowKit
set_option linter.unusedVariables false

theorem seqOf_tail (s : Nat) (hs : s ≤ 72057594037927935) : seqOf (UInt8.ofNat (s % 256)) (UInt8.ofNat (s / 256 % 256)) (UInt8.ofNat (s / 65536 % 256)) (UInt8.ofNat (s / 16777216 % 256)) (UInt8.ofNat (s / 4294967296 % 256)) (UInt8.ofNat (s / 1099511627776 % 256)) (UInt8.ofNat (s / 281474976710656 % 256)) = s := by
  unfold seqOf
  simp only [UInt8.toNat_ofNat', Nat.mod_mod]
  omega

theorem textS_text (l t : List UInt8) (hl : l.length ≤ 64) : textS (textB l ++ t) 64 = (l, t, 0) := by
  unfold textS textB
  rw [List.append_assoc, front_numB l.length (by omega) (l ++ t)]
  simp only [if_true]
  rw [if_neg (by omega), if_neg (by simp only [List.length_append]; omega)]
  simp

theorem keyS_keyB (l t : List UInt8) (s k : Nat) (hs : s ≤ 72057594037927935) (hk : k < 256) (hl : l.length ≤ 64) (hc : chk l.length (s : Int) (k : Int) = 0) : keyS (keyB l s k ++ t) = (l, s, k, t, 0) := by
  have hkk : (UInt8.ofNat k).toNat = k := by simp; omega
  have hT : textS (keyB l s k ++ t) 64 = (l, UInt8.ofNat k :: UInt8.ofNat (s % 256) :: UInt8.ofNat (s / 256 % 256) :: UInt8.ofNat (s / 65536 % 256) :: UInt8.ofNat (s / 16777216 % 256) :: UInt8.ofNat (s / 4294967296 % 256) :: UInt8.ofNat (s / 1099511627776 % 256) :: UInt8.ofNat (s / 281474976710656 % 256) :: t, 0) := by
    unfold keyB
    rw [List.append_assoc, textS_text l _ hl]
    rfl
  rw [keyS_ok hT (by rw [seqOf_tail s hs, hkk]; exact hc), seqOf_tail s hs, hkk]

end Go.Proofs.Ytekmlbbfipldoaa

/- Forms: no form is a beginning of the one ahead, where versions rise. -/
namespace Go.Proofs.Ytekmlbbfipldoaa
set_option maxRecDepth 20000
open Go.RowKit
set_option linter.unusedVariables false

theorem keyB_form {e : EnB} (h : e.1.length ≤ 64) : keyB e.1 e.2.1 e.2.2.1.toNat = Mth.numB e.1.length ++ formB e := by
  unfold keyB textB formB; rw [List.append_assoc]

/-- a version's form tells the version -/
theorem formB_inj {a b : EnB} (ha : chkEn a = 0) (hb : chkEn b = 0) (h : formB a = formB b) : a.1 = b.1 ∧ a.2.1 = b.2.1 ∧ a.2.2.1 = b.2.2.1 := by
  obtain ⟨_, a2, a3, a4, _, a6⟩ := chkEn_ok ha
  obtain ⟨_, b2, b3, b4, _, b6⟩ := chkEn_ok hb
  have hl : a.1.length = b.1.length := by have := congrArg List.length h; rw [formB_len, formB_len] at this; omega
  have h1 := keyS_keyB a.1 [] a.2.1 a.2.2.1.toNat a3 (a.2.2.1.toNat_lt) a2 a6
  have h2 := keyS_keyB b.1 [] b.2.1 b.2.2.1.toNat b3 (b.2.2.1.toNat_lt) b2 b6
  rw [keyB_form a2, h, hl, ← keyB_form b2, h2] at h1
  simp only [Prod.mk.injEq] at h1
  exact ⟨h1.1.symm, h1.2.1.symm, UInt8.toNat_inj.1 h1.2.2.1.symm⟩

theorem cmp_more : ∀ (u z : List UInt8), 0 ≤ Lib.compareBytes (u ++ z) u
  | [], [] => by simp [Lib.compareBytes]
  | [], a :: z => by simp [Lib.compareBytes]
  | a :: u, z => by
    have := cmp_more u z
    simp only [List.cons_append, Lib.compareBytes]
    have h : ¬ a < a := UInt8.lt_irrefl a
    rw [if_neg h, if_neg h]
    exact this

theorem cmp_less {a b : EnB} (h : cmpE a b < 0) : Lib.compareBytes a.1 b.1 < 0 ∨ (a.1 = b.1 ∧ ¬ (a.2.1 = b.2.1 ∧ a.2.2.1 = b.2.2.1)) := by
  unfold cmpE Mth.cmpK at h
  have hv := Mth.cmp_vals a.1 b.1
  by_cases h0 : Lib.compareBytes a.1 b.1 = 0
  · right
    refine ⟨Mth.cmp_zero.1 h0, ?_⟩
    rintro ⟨e1, e2⟩
    rw [if_neg (by simpa using h0), e1, e2] at h
    simp at h
  · left
    rw [if_pos h0] at h
    exact h

theorem form_not {a b : EnB} (ha : chkEn a = 0) (hb : chkEn b = 0) (hr : cmpE a b < 0) : comN (formB a) (formB b) < (formB b).length := by
  have hle := (comN_le (formB a) (formB b)).2
  rcases Nat.lt_or_ge (comN (formB a) (formB b)) (formB b).length with h | h
  · exact h
  · exfalso
    have he : comN (formB a) (formB b) = (formB b).length := by omega
    have ht := comN_take (formB a) (formB b)
    rw [he, List.take_length] at ht
    have hl : (formB b).length ≤ (formB a).length := by have := (comN_le (formB a) (formB b)).1; omega
    rw [formB_len, formB_len] at hl
    rcases cmp_less hr with h1 | ⟨h1, h2⟩
    · have hp : a.1.take b.1.length = b.1 := by
        have h3 := congrArg (List.take b.1.length) ht
        rw [List.take_take, Nat.min_eq_left (by rw [formB_len]; omega)] at h3
        unfold formB at h3
        rw [List.take_append_of_le_length (by omega), List.take_append_of_le_length (Nat.le_refl _), List.take_length] at h3
        exact h3
      have h4 := cmp_more b.1 (a.1.drop b.1.length)
      have h5 : b.1 ++ a.1.drop b.1.length = a.1 := by
        conv => lhs; arg 1; rw [← hp]
        exact List.take_append_drop _ _
      rw [h5] at h4
      omega
    · rw [List.take_of_length_le (by rw [formB_len, formB_len, h1]; exact Nat.le_refl _)] at ht
      exact h2 (formB_inj ha hb ht).2

theorem shN_lt {es : List EnB} (h : ∀ e ∈ es, chkEn e = 0) (hr : riseB es = true) {j : Nat} (hj : j < es.length) : shN es j < (frm es j).length := by
  unfold shN
  split
  · rw [frm_at hj, formB_len]; omega
  · cases j with
    | zero => omega
    | succ j =>
      rw [ahd, frm_at hj, frm_at (by omega)]
      exact form_not (h _ (List.getElem_mem _)) (h _ (List.getElem_mem _)) ((riseB_iff es).1 hr j hj)

end Go.Proofs.Ytekmlbbfipldoaa

/- What leaf.Read reads, as plain bytes. -/
namespace Go.Proofs.Ytekmlbbfipldoaa
set_option maxRecDepth 20000
open Go.RowKit
set_option linter.unusedVariables false

/-- the version that has a form -/
def verS (F : List UInt8) : Option (List UInt8 × Nat × Nat) :=
  if F.length < 8 then none
  else if (keyS (Mth.numB (F.length - 8) ++ F)).2.2.2.2 = 0 then some ((keyS (Mth.numB (F.length - 8) ++ F)).1, (keyS (Mth.numB (F.length - 8) ++ F)).2.1, (keyS (Mth.numB (F.length - 8) ++ F)).2.2.1) else none

/-- what the third number is followed by: so many bytes of a form, so many of a value -/
def tak3 (A p : List UInt8) (n1 n2 n3 : Nat) : Option (EnB × List UInt8 × List UInt8) :=
  if n2 ≤ p.length ∧ n3 ≤ p.length - n2 then
    match verS (A.take n1 ++ p.take n2) with
    | some q => some ((q.1, q.2.1, UInt8.ofNat q.2.2, (p.drop n2).take n3), A.take n1 ++ p.take n2, (p.drop n2).drop n3)
    | none => none
  else none

def tak2 (A p : List UInt8) (n1 n2 : Nat) : Option (EnB × List UInt8 × List UInt8) :=
  if (frontS p).2.2 = 0 then tak3 A (p.drop (frontS p).2.1) n1 n2 (frontS p).1 else none

def tak1 (A p : List UInt8) (n1 : Nat) : Option (EnB × List UInt8 × List UInt8) :=
  if (frontS p).2.2 = 0 then tak2 A (p.drop (frontS p).2.1) n1 (frontS p).1 else none

/-- the entry in front, its form, what stands behind; A: the form ahead -/
def takS (A p : List UInt8) : Option (EnB × List UInt8 × List UInt8) :=
  if (frontS p).2.2 = 0 ∧ (frontS p).1 ≤ A.length then tak1 A (p.drop (frontS p).2.1) (frontS p).1 else none

def entsS : Nat → List UInt8 → List UInt8 → Option (List EnB)
  | _, _, [] => some []
  | 0, _, _ :: _ => none
  | m + 1, A, b :: r => match takS A (b :: r) with
    | none => none
    | some q => match entsS m q.2.1 q.2.2 with
      | none => none
      | some es => some (q.1 :: es)

def cntS (p : List UInt8) : Nat := (p.getD (p.length - 2) 0).toNat + (p.getD (p.length - 1) 0).toNat * 256

/-- what stands ahead of the places -/
def bodyS (p : List UInt8) : Option (List UInt8) :=
  if p.length < 2 then none else if p.length - 2 < cntS p * 2 then none else some (p.take (p.length - 2 - cntS p * 2))

def readL (p : List UInt8) : Option (List EnB) :=
  match bodyS p with
  | none => none
  | some b => match entsS 64 [] b with
    | none => none
    | some es => if chkLf es = 0 ∧ leafB es = p then some es else none

theorem verS_form {e : EnB} (h : chkEn e = 0) : verS (formB e) = some (e.1, e.2.1, e.2.2.1.toNat) := by
  obtain ⟨_, a2, a3, a4, _, a6⟩ := chkEn_ok h
  have h1 := keyS_keyB e.1 [] e.2.1 e.2.2.1.toNat a3 (e.2.2.1.toNat_lt) a2 a6
  rw [keyB_form a2, List.append_nil] at h1
  unfold verS
  rw [if_neg (by rw [formB_len]; omega), show (formB e).length - 8 = e.1.length by rw [formB_len]; omega, h1]
  rfl

theorem takS_ent {A F v R : List UInt8} {n : Nat} {e : EnB} (hF : formB e = F) (he : chkEn e = 0) (hv : e.2.2.2 = v) (hn : n ≤ F.length) (hA : A.take n = F.take n) (hnA : n ≤ A.length) : takS A (packB n F v ++ R) = some (e, F, R) := by
  obtain ⟨_, a2, a3, a4, a5, a6⟩ := chkEn_ok he
  have hFl : F.length ≤ 72 := by rw [← hF, formB_len]; omega
  have e1 : packB n F v ++ R = Mth.numB n ++ (Mth.numB (F.length - n) ++ (Mth.numB v.length ++ (F.drop n ++ (v ++ R)))) := by unfold packB; simp
  rw [e1]
  have f1 := front_numB n (by omega) (Mth.numB (F.length - n) ++ (Mth.numB v.length ++ (F.drop n ++ (v ++ R))))
  have f2 := front_numB (F.length - n) (by omega) (Mth.numB v.length ++ (F.drop n ++ (v ++ R)))
  have f3 := front_numB v.length (by rw [hv] at a5; omega) (F.drop n ++ (v ++ R))
  unfold takS
  rw [f1]
  simp only
  rw [if_pos ⟨trivial, hnA⟩, List.drop_left]
  unfold tak1
  rw [f2]
  simp only
  rw [if_pos trivial, List.drop_left]
  unfold tak2
  rw [f3]
  simp only
  rw [if_pos trivial, List.drop_left]
  unfold tak3
  have hdl : (F.drop n).length = F.length - n := List.length_drop
  have t1 : (F.drop n ++ (v ++ R)).take (F.length - n) = F.drop n := by rw [← hdl]; exact List.take_left
  have t2 : (F.drop n ++ (v ++ R)).drop (F.length - n) = v ++ R := by rw [← hdl]; exact List.drop_left
  rw [if_pos ⟨by simp, by simp⟩, t1, t2, hA, List.take_append_drop, ← hF, verS_form he]
  simp only
  rw [List.take_left, List.drop_left, ← hv]
  simp

theorem ents_all {es : List EnB} (h : ∀ e ∈ es, chkEn e = 0) : ∀ (k j m : Nat) (R : List UInt8), j + k = es.length → k ≤ m → bodyTo es es.length = bodyTo es j ++ R → entsS m (ahd es j) R = some (es.drop j)
  | 0, j, m, R, hj, _, hR => by
    have hj' : j = es.length := by omega
    subst hj'
    have : R = [] := by
      have := congrArg List.length hR
      rw [List.length_append] at this
      exact List.eq_nil_of_length_eq_zero (by omega)
    subst this
    rw [entsS, List.drop_length]
  | k + 1, j, 0, R, _, hm, _ => by omega
  | k + 1, j, m + 1, R, hj, hm, hR => by
    have hjl : j < es.length := by omega
    obtain ⟨R', hR'⟩ : ∃ R', R = entB es j ++ R' := by
      have hx : ∀ i, i ≤ es.length → ∃ T, bodyTo es es.length = bodyTo es i ++ T := fun i hi => by
        have : ∀ d i, i + d = es.length → ∃ T, bodyTo es es.length = bodyTo es i ++ T := fun d => by
          induction d with
          | zero => intro i hi; exact ⟨[], by rw [List.append_nil, ← hi]; rfl⟩
          | succ d ih => intro i hi; obtain ⟨T, hT⟩ := ih (i + 1) (by omega); exact ⟨entB es i ++ T, by rw [hT, bodyTo, List.append_assoc]⟩
        exact this (es.length - i) i (by omega)
      obtain ⟨T, hT⟩ := hx (j + 1) (by omega)
      refine ⟨T, ?_⟩
      rw [bodyTo, List.append_assoc] at hT
      rw [hT] at hR
      exact (List.append_cancel_left hR).symm
    have he := h _ (List.getElem_mem hjl)
    have hsh := shN_le es j
    rw [frm_at hjl] at hsh
    have hcom : (ahd es j).take (shN es j) = (formB es[j]).take (shN es j) ∧ shN es j ≤ (ahd es j).length := by
      unfold shN
      rw [frm_at hjl]
      split
      · simp
      · exact ⟨comN_take _ _, (comN_le _ _).1⟩
    have htk := takS_ent (A := ahd es j) (R := R') rfl he rfl hsh hcom.1 hcom.2
    rw [← entB_at hjl, ← hR'] at htk
    have ih := ents_all h k (j + 1) m R' (by omega) (by omega) (by rw [hR, hR', bodyTo, List.append_assoc])
    rw [ahd, frm_at hjl] at ih
    have hne : R ≠ [] := by
      intro e
      rw [e] at hR'
      have := congrArg List.length hR'
      rw [List.length_append, entB_at hjl] at this
      unfold packB at this
      rw [List.length_append, Mth.numB_length] at this
      have := Mth.numL_bd (shN es j)
      simp at *
      omega
    cases R with
    | nil => exact absurd rfl hne
    | cons b r =>
      rw [entsS, htk]
      simp only
      rw [ih]
      simp only
      rw [List.drop_eq_getElem_cons hjl]

theorem cntS_leaf {X : List UInt8} {c : Nat} (hc : c < 65536) : cntS (X ++ wordB c) = c := by
  unfold cntS
  have h1 : (X ++ wordB c).length = X.length + 2 := by rw [List.length_append]; rfl
  rw [h1, List.getD_eq_getElem?_getD, List.getD_eq_getElem?_getD, List.getElem?_append_right (by omega), List.getElem?_append_right (by omega)]
  rw [show X.length + 2 - 2 - X.length = 0 by omega, show X.length + 2 - 1 - X.length = 1 by omega]
  unfold wordB
  simp
  omega

theorem bodyS_leaf {es : List EnB} (h : chkLf es = 0) : bodyS (leafB es) = some (bodyTo es es.length) := by
  obtain ⟨h1, h2, h3⟩ := chkLf_ok.1 h
  have hsl := startsTo_len es es.length
  obtain ⟨c, hc⟩ : ∃ c, (startsTo es es.length).length = c := ⟨_, rfl⟩
  have e1 : leafB es = (bodyTo es es.length ++ wordsB (startsTo es es.length)) ++ wordB c := by unfold leafB; rw [hc, List.append_assoc]
  have hcn : cntS (leafB es) = c := by rw [e1]; exact cntS_leaf (by omega)
  have hl : (leafB es).length = (bodyTo es es.length).length + c * 2 + 2 := by
    rw [e1, List.length_append, List.length_append, wordsB_len, hc, show (wordB c).length = 2 from rfl]; omega
  unfold bodyS
  rw [hcn, hl, if_neg (by omega), if_neg (by omega), show (bodyTo es es.length).length + c * 2 + 2 - 2 - c * 2 = (bodyTo es es.length).length by omega]
  unfold leafB
  rw [List.take_left]

/-- WHAT IS BUILT IS READ AGAIN -/
theorem readL_leaf {es : List EnB} (h : chkLf es = 0) : readL (leafB es) = some es := by
  obtain ⟨h1, h2, h3⟩ := chkLf_ok.1 h
  unfold readL
  rw [bodyS_leaf h]
  simp only
  have := ents_all h2 es.length 0 64 (bodyTo es es.length) (by omega) h1 (by simp [bodyTo])
  rw [ahd] at this
  rw [this]
  simp only [List.drop_zero]
  rw [if_pos ⟨h, trivial⟩]

theorem readL_is {p : List UInt8} {es : List EnB} (h : readL p = some es) : chkLf es = 0 ∧ leafB es = p := by
  unfold readL at h
  split at h
  · cases h
  · split at h
    · cases h
    · split at h
      · rename_i hc
        cases h
        exact hc
      · cases h

end Go.Proofs.Ytekmlbbfipldoaa

/- leaf.num, word, common, formOf, packed. -/
namespace Go.Proofs.Ytekmlbbfipldoaa
set_option maxRecDepth 20000
open Go.RowKit
set_option linter.unusedVariables false

theorem byte_of (n : Nat) : ((UInt8.ofNat n).toNat : Int) = ((n % 256 : Nat) : Int) := by simp

end Go.Proofs.Ytekmlbbfipldoaa
