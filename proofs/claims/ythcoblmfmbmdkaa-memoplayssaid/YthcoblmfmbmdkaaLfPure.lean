/- A leaf, as plain bytes. -/
import Derived.Test.YthcoblmfmbmdkaaEnRow
import Derived.Test.YthcoblmfmbmdkaaKeyBytes
import Derived.Test.YthcoblmfmbmdkaaKeyCmp
namespace Go.Proofs.Ythcoblmfmbmdkaa
set_option maxRecDepth 20000
open Go.RowKit
set_option linter.unusedVariables false

/-- what is wrong with an entry -/
def chkEn (e : EnB) : Int := if chk e.1.length (e.2.1 : Int) (e.2.2.1.toNat : Int) = 0 then (if 512 < e.2.2.2.length then 3 else 0) else chk e.1.length (e.2.1 : Int) (e.2.2.1.toNat : Int)

def chkEs : List EnB → Int
  | [] => 0
  | e :: r => if chkEn e = 0 then chkEs r else chkEn e

/-- how two entries stand -/
def cmpE (a b : EnB) : Int := Mth.cmpK a.1 (a.2.1 : Int) (a.2.2.1.toNat : Int) b.1 (b.2.1 : Int) (b.2.2.1.toNat : Int)

def riseB : List EnB → Bool
  | [] => true
  | [_] => true
  | a :: b :: r => decide (cmpE a b < 0) && riseB (b :: r)

/-- what is wrong with entries, as a leaf -/
def chkLf (es : List EnB) : Int := if 64 < es.length then 3 else if chkEs es = 0 then (if riseB es = true then 0 else 10) else chkEs es

theorem chkEs_ok {es : List EnB} {j : Nat} (h : j < es.length) (he : chkEs es = chkEs (es.drop j)) (hn : chkEn es[j] = 0) : chkEs es = chkEs (es.drop (j + 1)) := by
  rw [he, List.drop_eq_getElem_cons h, chkEs, if_pos hn]

theorem chkEs_bad {es : List EnB} {j : Nat} (h : j < es.length) (he : chkEs es = chkEs (es.drop j)) (hn : ¬ chkEn es[j] = 0) : chkEs es = chkEn es[j] := by
  rw [he, List.drop_eq_getElem_cons h, chkEs, if_neg hn]

theorem chkEs_end {es : List EnB} {j : Nat} (h : ¬ j < es.length) (he : chkEs es = chkEs (es.drop j)) : chkEs es = 0 := by
  rw [he, List.drop_eq_nil_of_le (by omega), chkEs]

theorem chkEs_iff : ∀ (es : List EnB), chkEs es = 0 ↔ ∀ e ∈ es, chkEn e = 0
  | [] => by simp [chkEs]
  | e :: r => by
    rw [chkEs]
    by_cases h : chkEn e = 0
    · rw [if_pos h, chkEs_iff r]
      simp [h]
    · rw [if_neg h]
      simp [h]

theorem riseB_iff : ∀ (es : List EnB), riseB es = true ↔ ∀ i (h : i + 1 < es.length), cmpE es[i] es[i + 1] < 0
  | [] => by simp [riseB]
  | [_] => by simp [riseB]
  | a :: b :: r => by
    rw [riseB, Bool.and_eq_true, riseB_iff (b :: r), decide_eq_true_eq]
    constructor
    · rintro ⟨h1, h2⟩ i hi
      cases i with
      | zero => exact h1
      | succ i => exact h2 i (by simpa using hi)
    · intro h
      refine ⟨h 0 (by simp), fun i hi => ?_⟩
      exact h (i + 1) (by simpa using hi)

theorem chkLf_ok {es : List EnB} : chkLf es = 0 ↔ es.length ≤ 64 ∧ (∀ e ∈ es, chkEn e = 0) ∧ riseB es = true := by
  unfold chkLf
  by_cases h : 64 < es.length
  · rw [if_pos h]; simp; omega
  · rw [if_neg h]
    by_cases h2 : chkEs es = 0
    · rw [if_pos h2]
      have := (chkEs_iff es).1 h2
      cases riseB es with
      | false => simp
      | true => simp; exact ⟨by omega, fun a b c d => this (a, b, c, d)⟩
    · rw [if_neg h2]
      constructor
      · exact fun h3 => absurd h3 h2
      · exact fun h3 => absurd ((chkEs_iff es).2 h3.2.1) h2

theorem chkEn_ok {e : EnB} (h : chkEn e = 0) : 1 ≤ e.1.length ∧ e.1.length ≤ 64 ∧ e.2.1 ≤ 72057594037927935 ∧ (e.2.2.1.toNat = 1 ∨ e.2.2.1.toNat = 2) ∧ e.2.2.2.length ≤ 512 ∧ chk e.1.length (e.2.1 : Int) (e.2.2.1.toNat : Int) = 0 := by
  unfold chkEn at h
  split at h
  · rename_i hc
    split at h
    · cases h
    · refine ⟨?_, ?_, ?_, ?_, by omega, hc⟩
      all_goals (unfold chk at hc; repeat' split at hc)
      all_goals (first | omega | cases hc)
  · rename_i hc
    exact absurd h hc

/-- a version's form -/
def formB (e : EnB) : List UInt8 := e.1 ++ tailB e.2.1 e.2.2.1.toNat

theorem tailB_len (s k : Nat) : (tailB s k).length = 8 := rfl

theorem formB_len (e : EnB) : (formB e).length = e.1.length + 8 := by
  unfold formB; rw [List.length_append, tailB_len]

/-- how many first bytes are the same -/
def comN : List UInt8 → List UInt8 → Nat
  | a :: l, b :: m => if a = b then comN l m + 1 else 0
  | _, _ => 0

theorem comN_le : ∀ (l m : List UInt8), comN l m ≤ l.length ∧ comN l m ≤ m.length
  | [], m => by simp [comN]
  | a :: l, [] => by simp [comN]
  | a :: l, b :: m => by
    rw [comN]
    split
    · have := comN_le l m
      simp only [List.length_cons]; omega
    · simp

theorem comN_comm : ∀ (l m : List UInt8), comN l m = comN m l
  | [], [] => rfl
  | [], b :: m => by simp [comN]
  | a :: l, [] => by simp [comN]
  | a :: l, b :: m => by
    rw [comN, comN, comN_comm l m]
    by_cases h : a = b
    · rw [if_pos h, if_pos h.symm]
    · rw [if_neg h, if_neg (fun e => h e.symm)]

theorem comN_take : ∀ (l m : List UInt8), l.take (comN l m) = m.take (comN l m)
  | [], m => by simp [comN]
  | a :: l, [] => by simp [comN]
  | a :: l, b :: m => by
    rw [comN]
    split
    · rename_i h
      rw [List.take_succ_cons, List.take_succ_cons, comN_take l m, h]
    · simp

/-- n first bytes are the same, and no more -/
theorem comN_is : ∀ (n : Nat) (l m : List UInt8), n ≤ l.length → n ≤ m.length → (∀ i, i < n → l[i]? = m[i]?) → (n < l.length → n < m.length → l[n]? ≠ m[n]?) → comN l m = n
  | 0, [], m, _, _, _, _ => by simp [comN]
  | 0, a :: l, [], _, _, _, _ => by simp [comN]
  | 0, a :: l, b :: m, _, _, _, h => by
    rw [comN, if_neg]
    intro e
    exact h (by simp) (by simp) (by simp [e])
  | n + 1, [], m, h1, _, _, _ => by simp at h1
  | n + 1, a :: l, [], _, h2, _, _ => by simp at h2
  | n + 1, a :: l, b :: m, h1, h2, h3, h4 => by
    have e : a = b := by simpa using h3 0 (by omega)
    rw [comN, if_pos e, comN_is n l m (by simpa using h1) (by simpa using h2) (fun i hi => by simpa using h3 (i + 1) (by omega)) (fun k1 k2 => by simpa using h4 (by simpa using k1) (by simpa using k2))]

/-- an entry's bytes, the first n of its form left out -/
def packB (n : Nat) (f v : List UInt8) : List UInt8 := Mth.numB n ++ (Mth.numB (f.length - n) ++ (Mth.numB v.length ++ (f.drop n ++ v)))

/-- the form at a place -/
def frm (es : List EnB) (j : Nat) : List UInt8 := match es[j]? with | some e => formB e | none => []

/-- the form ahead of a place -/
def ahd (es : List EnB) : Nat → List UInt8
  | 0 => []
  | j + 1 => frm es j

def shN (es : List EnB) (j : Nat) : Nat := if j % 4 = 0 then 0 else comN (ahd es j) (frm es j)

def entB (es : List EnB) (j : Nat) : List UInt8 := match es[j]? with | some e => packB (shN es j) (formB e) e.2.2.2 | none => []

def bodyTo (es : List EnB) : Nat → List UInt8
  | 0 => []
  | j + 1 => bodyTo es j ++ entB es j

def startsTo (es : List EnB) : Nat → List Nat
  | 0 => []
  | j + 1 => if j % 4 = 0 then startsTo es j ++ [(bodyTo es j).length] else startsTo es j

def wordB (n : Nat) : List UInt8 := [UInt8.ofNat (n % 256), UInt8.ofNat (n / 256)]

def wordsB (l : List Nat) : List UInt8 := (l.map wordB).flatten

/-- the leaf -/
def leafB (es : List EnB) : List UInt8 := bodyTo es es.length ++ (wordsB (startsTo es es.length) ++ wordB (startsTo es es.length).length)

theorem frm_at {es : List EnB} {j : Nat} (h : j < es.length) : frm es j = formB es[j] := by
  unfold frm; rw [List.getElem?_eq_getElem h]

theorem entB_at {es : List EnB} {j : Nat} (h : j < es.length) : entB es j = packB (shN es j) (formB es[j]) es[j].2.2.2 := by
  unfold entB; rw [List.getElem?_eq_getElem h]

theorem shN_le (es : List EnB) (j : Nat) : shN es j ≤ (frm es j).length := by
  unfold shN; split
  · exact Nat.zero_le _
  · exact (comN_le _ _).2

theorem numB_few {n : Nat} (h : n ≤ 67823) : (Mth.numB n).length ≤ 3 := by
  rw [Mth.numB_length]; unfold Mth.numL; split
  · omega
  · split
    · omega
    · omega

theorem packB_len {n : Nat} {f v : List UInt8} (hn : n ≤ f.length) (hf : f.length ≤ 72) (hv : v.length ≤ 512) : (packB n f v).length ≤ f.length + v.length + 6 := by
  unfold packB
  simp only [List.length_append, List.length_drop, Mth.numB_length]
  have h1 : Mth.numL n = 1 := by unfold Mth.numL; rw [if_pos (by omega)]
  have h2 : Mth.numL (f.length - n) = 1 := by unfold Mth.numL; rw [if_pos (by omega)]
  have h3 : Mth.numL v.length ≤ 2 := by unfold Mth.numL; split; omega; rw [if_pos (by omega)]; exact Nat.le_refl _
  omega

theorem startsTo_len (es : List EnB) : ∀ j, (startsTo es j).length = (j + 3) / 4
  | 0 => rfl
  | j + 1 => by
    rw [startsTo]
    split
    · rw [List.length_append, startsTo_len es j]; simp; omega
    · rw [startsTo_len es j]; omega

/-- how many bytes a version and its value have, written out -/
def wideE (es : List EnB) : Nat → Nat
  | 0 => 0
  | j + 1 => wideE es j + (match es[j]? with | some e => e.1.length + 8 + e.2.2.2.length + 6 | none => 0)

theorem bodyTo_wide {es : List EnB} (h : ∀ e ∈ es, chkEn e = 0) : ∀ j, (bodyTo es j).length ≤ wideE es j
  | 0 => Nat.le_refl _
  | j + 1 => by
    have ih := bodyTo_wide h j
    rw [bodyTo, wideE, List.length_append]
    by_cases hj : j < es.length
    · obtain ⟨_, h64, _, _, h512, _⟩ := chkEn_ok (h _ (List.getElem_mem hj))
      have hsh := shN_le es j
      rw [frm_at hj] at hsh
      have := packB_len (v := es[j].2.2.2) hsh (by rw [formB_len]; omega) h512
      rw [entB_at hj, List.getElem?_eq_getElem hj]
      rw [formB_len] at this
      simp only
      omega
    · rw [entB, List.getElem?_eq_none (by omega)]
      simp only [List.length_nil]
      omega

theorem wideE_most {es : List EnB} (h : ∀ e ∈ es, chkEn e = 0) : ∀ j, wideE es j ≤ j * 590
  | 0 => Nat.le_refl _
  | j + 1 => by
    have ih := wideE_most h j
    rw [wideE]
    by_cases hj : j < es.length
    · obtain ⟨_, h64, _, _, h512, _⟩ := chkEn_ok (h _ (List.getElem_mem hj))
      rw [List.getElem?_eq_getElem hj]
      simp only
      omega
    · rw [List.getElem?_eq_none (by omega)]
      simp only
      omega

theorem bodyTo_most {es : List EnB} (h : ∀ e ∈ es, chkEn e = 0) (j : Nat) (hj : j ≤ 64) : (bodyTo es j).length ≤ 37760 :=
  Nat.le_trans (Nat.le_trans (bodyTo_wide h j) (wideE_most h j)) (by omega)

theorem wordsB_snoc (l : List Nat) (n : Nat) : wordsB (l ++ [n]) = wordsB l ++ wordB n := by unfold wordsB; simp

theorem wordsB_len : ∀ (l : List Nat), (wordsB l).length = 2 * l.length
  | [] => rfl
  | a :: l => by
    have := wordsB_len l
    unfold wordsB at this ⊢
    rw [List.map_cons, List.flatten_cons, List.length_append, this, show (wordB a).length = 2 from rfl, List.length_cons]
    omega

end Go.Proofs.Ythcoblmfmbmdkaa
