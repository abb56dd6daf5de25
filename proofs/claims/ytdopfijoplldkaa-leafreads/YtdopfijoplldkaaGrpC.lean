/- Several texts in one. -/
import Derived.Test.YtdopfijoplldkaaGrpA
import Derived.Test.YtdopfijoplldkaaGrpB
import Derived.Test.YtdopfijoplldkaaGrpD
import Derived.Test.YtdopfijoplldkaaTextAny
import Derived.Test.YtdopfijoplldkaaCut
import Derived.Test.YtdopfijoplldkaaSame
import Derived.BigQuiet
import Derived.Deep.RegionHeld3
import Derived.Deep.DeepCutAuto
import Derived.Deep.CutBlock
import Derived.Deep.LoopGhost

/- LeafBack answers true. -/
namespace Go.Proofs.Ytdopfijoplldkaa
set_option maxRecDepth 20000
open Go.RowKit
set_option linter.unusedVariables false

theorem leafB_most {es : List EnB} (h : chkLf es = 0) : (leafB es).length ≤ 40000 := by
  obtain ⟨h1, h2, h3⟩ := chkLf_ok.1 h
  unfold leafB
  rw [List.length_append, List.length_append, wordsB_len, startsTo_len, show (wordB ((es.length + 3) / 4)).length = 2 from rfl]
  have := bodyTo_most h2 es.length h1
  omega

theorem enB_short {es : List EnB} (h : chkLf es = 0) : ∀ e ∈ es, e.1.length ≤ 1000000 ∧ e.2.2.2.length ≤ 1000000 := fun e he => by
  obtain ⟨_, a, _, _, b, _⟩ := chkEn_ok ((chkLf_ok.1 h).2.1 e he)
  omega

/-- what is built is read as itself -/
theorem own_cel {B : Nat} {w : World} {g n c : Nat} {l : List UInt8} (h : Own B w (.slice (some ⟨g, 0, none⟩) n c) l) : Cel w g 0 l ∧ l.length ≤ c ∧ c ≤ 9223372036854775807 ∧ g < w.heap.size := by
  refine ⟨Own.spots h, ?_, ?_, h.lt.2⟩
  · obtain ⟨g', k', c', e, _, _, h1, h2, _⟩ := h
    simp only [Value.slice.injEq] at e
    obtain ⟨_, _, rfl⟩ := e
    exact h1
  · obtain ⟨g', k', c', e, _, _, h1, h2, _⟩ := h
    simp only [Value.slice.injEq] at e
    obtain ⟨_, _, rfl⟩ := e
    unfold maxLen at h2
    omega

set_option maxHeartbeats 4000000 in
theorem lback (w : World) (v : Value) (es : List EnB) (hv : ArgE w v es) :
    Calls Try.prog 5 #[v] w fun e w' => e = .returned (.bool true) ∧ Below w.heap.size w w' := by
  have HV : Hid (ArgE w v es) := hv
  obtain ⟨va, vc, rfl⟩ := hv.shape
  clear hv
  go_enter Try.func5, Try.ntmps5
  go_wp2_with fail
  refine (lawake_any w).mono ?_
  rintro e w1 ⟨rfl, hb1⟩
  have HB1 : Hid (Below w.heap.size w w1) := hb1
  have hfw := fewE_any w1 _ es 64 (argE_below HV.out hb1 (Nat.le_refl _)) (by decide)
  clear hb1
  go_wp2_with fail
  refine hfw.mono ?_
  rintro e w2 ⟨x2, rfl, o2, hb2⟩
  have HB2 : Hid (Below w.heap.size w w2) := bsplit HB1.out hb2
  obtain ⟨FE, hFE⟩ : ∃ F, fewE 64 es = F := ⟨_, rfl⟩
  have hFl : FE.length ≤ 64 := by rw [← hFE]; exact fewE_len _ _
  rw [hFE] at o2
  have hso := sort_any w2 x2 FE o2.rd (by omega)
  obtain ⟨xa2, xc2, rfl⟩ := o2.shape
  have hok := sortE_ok hFl
  clear hfw hb2 o2 hFE
  go_wp2_with fail
  refine hso.mono ?_
  rintro e w3 ⟨x3, rfl, o3, hb3⟩
  have HB3 : Hid (Below w.heap.size w w3) := bsplit HB2.out hb3
  obtain ⟨SE, hSE⟩ : ∃ S, sortE FE = S := ⟨_, rfl⟩
  rw [hSE] at o3 hok
  have HR3 : Hid (RdE w3 x3 SE) := o3.rd hb3
  have HOK : Hid (chkLf SE = 0) := hok
  have htw := twins_any w3 x3 SE (rdE_arg (o3.rd hb3)) (by have := (chkLf_ok.1 hok).1; omega) (enB_short hok)
  obtain ⟨xa3, xc3, rfl⟩ := (o3.rd hb3).shape
  obtain ⟨N, hN⟩ : ∃ N, SE.length = N := ⟨_, rfl⟩
  rw [hN] at HR3 htw ⊢
  clear hso hb3 o3 hSE hok
  go_wp2_with fail
  refine htw.mono ?_
  rintro e w4 ⟨x4, rfl, o4, hb4⟩
  have HB4 : Hid (Below w.heap.size w w4) := bsplit HB3.out hb4
  have HR4 : Hid (RdE w4 (.slice xa3 N xc3) SE) := rdE_below HR3.out hb4 (Nat.le_refl _)
  have hbu := lbuild_ok w4 x4 SE o4.rd HOK.out
  obtain ⟨xa4, xc4, rfl⟩ := o4.shape
  rw [hN] at hbu ⊢
  clear htw hb4 o4 hN
  go_wp2_with fail
  refine hbu.mono ?_
  rintro e w5 ⟨p, rfl, op, hb5⟩
  have HB5 : Hid (Below w.heap.size w w5) := bsplit HB4.out hb5
  have HR5 : Hid (RdE w5 (.slice xa3 N xc3) SE) := rdE_below HR4.out hb5 (Nat.le_refl _)
  obtain ⟨gp, cp, rfl⟩ := op.shape
  obtain ⟨k1, k2, k3, k4⟩ := own_cel op
  have hrd := lread_any w5 gp 0 cp (leafB SE) k1 k2 k3 (by have := leafB_most HOK.out; omega) k4
  unfold RdLPost at hrd
  rw [readL_leaf HOK.out] at hrd
  obtain ⟨QL, hQL⟩ : ∃ n, (leafB SE).length = n := ⟨_, rfl⟩
  rw [hQL] at hrd ⊢
  clear hbu hb5 op hQL k1 k2 k3 k4
  go_wp2_with fail
  refine hrd.mono ?_
  rintro e w6 ⟨hb6, x6, rfl, r6, _⟩
  have HB6 : Hid (Below w.heap.size w w6) := bsplit HB5.out hb6
  have hsm := sameens_any w6 x6 _ SE SE true r6 (rdE_below HR5.out hb6 (Nat.le_refl _)) ⟨fun _ => rfl, fun _ => rfl⟩
  obtain ⟨xa6, xc6, rfl⟩ := r6.shape
  clear hrd hb6 r6
  go_wp2_with fail
  refine hsm.mono ?_
  rintro e w7 ⟨rfl, hb7⟩
  have HB7 : Hid (Below w.heap.size w w7) := bsplit HB6.out hb7
  clear hsm hb7
  go_wp2
  go_ret
  exact ⟨rfl, HB7.out⟩

theorem leafBack_walk (a0 : Option Addr) (len0 cap0 : Nat) (z0 : List EnB) (w : World) (w0 : ArgE w (.slice a0 len0 cap0) z0 ∧ ∀ e ∈ z0, e.2.1 < 18446744073709551616) :
    Calls Try.prog 5 #[.slice a0 len0 cap0] w fun e w' => e = .returned (.bool true) ∧ Below w.heap.size w w' :=
  lback w _ z0 w0.1

end Go.Proofs.Ytdopfijoplldkaa

/- What bartizanref12.Read reads, where the bytes are a leaf. -/
namespace Go.Proofs.Ytdopfijoplldkaa
set_option maxRecDepth 20000
open Go.RowKit
set_option linter.unusedVariables false

/-- so many of the seven bytes behind place n, the last one first, as a number -/
def seqR (F : List UInt8) (n : Nat) : Nat → Nat
  | 0 => 0
  | k + 1 => seqR F n k * 256 + (F.getD (n + (7 - k)) 0).toNat

theorem seqR_lt (F : List UInt8) (n : Nat) : ∀ k, seqR F n k < 256 ^ k
  | 0 => by simp [seqR]
  | k + 1 => by
    have h := seqR_lt F n k
    have h2 := (F.getD (n + (7 - k)) 0).toNat_lt
    rw [seqR, Nat.pow_succ]
    omega

/-- the entry that a form and a value tell -/
def entR (F v : List UInt8) : EnB := (F.take (F.length - 8), seqR F (F.length - 8) 7, F.getD (F.length - 8) 0, v)

theorem getD_behind (a b : List UInt8) (i : Nat) : (a ++ b).getD (a.length + i) 0 = b.getD i 0 := by
  rw [List.getD_eq_getElem?_getD, List.getD_eq_getElem?_getD, List.getElem?_append_right (by omega), Nat.add_sub_cancel_left]

theorem entR_form {e : EnB} (h : chkEn e = 0) : entR (formB e) e.2.2.2 = e := by
  obtain ⟨_, a2, a3, a4, _, a6⟩ := chkEn_ok h
  obtain ⟨u, s, k, v⟩ := e
  simp only at a2 a3 a4 a6
  unfold entR
  have hl : (formB (u, s, k, v)).length - 8 = u.length := by rw [formB_len]; simp
  rw [hl]
  unfold formB
  simp only
  have e1 : (u ++ tailB s k.toNat).take u.length = u := List.take_left
  have e2 : (u ++ tailB s k.toNat).getD u.length 0 = k := by
    have := getD_behind u (tailB s k.toNat) 0
    rw [Nat.add_zero] at this
    rw [this]
    simp [tailB]
  have e3 : seqR (u ++ tailB s k.toNat) u.length 7 = s := by
    simp only [seqR, Nat.sub_zero, getD_behind, Nat.reduceSub]
    simp [tailB]
    omega
  rw [e1, e2, e3]

/-- where the reader stands, if the bytes are a leaf's -/
def AtR (p : List UInt8) (os : List EnB) (F R : List UInt8) (j : Nat) : Prop := ∀ es, readL p = some es → os = es.take j ∧ j ≤ es.length ∧ F = ahd es j ∧ bodyTo es es.length = bodyTo es j ++ R

theorem atR_take {es : List EnB} (h : ∀ e ∈ es, chkEn e = 0) {j : Nat} {R : List UInt8} (hjl : j < es.length) (hR : bodyTo es es.length = bodyTo es j ++ R) : R ≠ [] ∧ ∃ R', takS (ahd es j) R = some (es[j], formB es[j], R') ∧ bodyTo es es.length = bodyTo es (j + 1) ++ R' := by
  obtain ⟨R', hR'⟩ : ∃ R', R = entB es j ++ R' := by
    have : ∀ d i, i + d = es.length → ∃ T, bodyTo es es.length = bodyTo es i ++ T := fun d => by
      induction d with
      | zero => intro i hi; exact ⟨[], by rw [List.append_nil, ← hi]; rfl⟩
      | succ d ih => intro i hi; obtain ⟨T, hT⟩ := ih (i + 1) (by omega); exact ⟨entB es i ++ T, by rw [hT, bodyTo, List.append_assoc]⟩
    obtain ⟨T, hT⟩ := this (es.length - (j + 1)) (j + 1) (by omega)
    refine ⟨T, ?_⟩
    rw [bodyTo, List.append_assoc] at hT
    rw [hT] at hR
    exact (List.append_cancel_left hR).symm
  have he := h _ (List.getElem_mem hjl)
  have hsh := shN_le es j
  rw [frm_at hjl] at hsh
  have hcom : (ahd es j).take (shN es j) = (formB es[j]).take (shN es j) ∧ shN es j ≤ (ahd es j).length := by
    unfold shN
    rw [frm_at hjl]
    split
    · simp
    · exact ⟨comN_take _ _, (comN_le _ _).1⟩
  have htk := takS_ent (A := ahd es j) (R := R') rfl he rfl hsh hcom.1 hcom.2
  rw [← entB_at hjl, ← hR'] at htk
  refine ⟨?_, R', htk, by rw [hR, hR', bodyTo, List.append_assoc]⟩
  intro e
  rw [e] at hR'
  have := congrArg List.length hR'
  rw [List.length_append, entB_at hjl] at this
  unfold packB at this
  rw [List.length_append, Mth.numB_length] at this
  have := Mth.numL_bd (shN es j)
  simp at *
  omega

theorem behind_ok {l : List UInt8} {n s : Nat} (h : frontS l = (n, s, 0)) : behindS l = l.drop s := by unfold behindS; rw [h]; simp

theorem takS_conds {F R R1 R2 C : List UInt8} {n1 s1 e1 n2 s2 e2 n3 s3 e3 : Nat} {q : EnB × List UInt8 × List UInt8} (hf1 : frontS R = (n1, s1, e1)) (hR1 : behindS R = R1) (hf2 : frontS R1 = (n2, s2, e2)) (hR2 : behindS R1 = R2) (hf3 : frontS R2 = (n3, s3, e3)) (hC : behindS R2 = C) (h : takS F R = some q) :
    (e1 = 0 ∧ e2 = 0 ∧ e3 = 0 ∧ n1 ≤ F.length ∧ n2 ≤ C.length ∧ n3 ≤ C.length - n2 ∧ 8 ≤ n1 + n2) ∧ q.2.1 = F.take n1 ++ C.take n2 ∧ q.2.2 = (C.drop n2).drop n3 ∧ q.1.2.2.2 = (C.drop n2).take n3 := by
  by_cases he1 : e1 = 0
  · subst he1
    rw [behind_ok hf1] at hR1
    subst hR1
    by_cases hn1 : n1 ≤ F.length
    · rw [takS_good hf1 hn1] at h
      by_cases he2 : e2 = 0
      · subst he2
        rw [behind_ok hf2] at hR2
        subst hR2
        rw [tak1_good hf2] at h
        by_cases he3 : e3 = 0
        · subst he3
          rw [behind_ok hf3] at hC
          subst hC
          rw [tak2_good hf3] at h
          unfold tak3 at h
          split at h
          · rename_i hc
            split at h
            · rename_i r hr
              cases h
              refine ⟨⟨rfl, rfl, rfl, hn1, hc.1, hc.2, ?_⟩, rfl, rfl, rfl⟩
              unfold verS at hr
              split at hr
              · cases hr
              · rename_i h8
                rw [List.length_append, List.length_take, List.length_take] at h8
                omega
            · cases h
          · cases h
        · rw [tak2_bad hf3 he3] at h; cases h
      · rw [tak1_bad hf2 he2] at h; cases h
    · rw [takS_bad hf1 (.inr (by omega))] at h; cases h
  · rw [takS_bad hf1 (.inl he1)] at h; cases h

theorem atR_at {p : List UInt8} {os es : List EnB} {F R : List UInt8} {j : Nat} (h : AtR p os F R j) (hR : R ≠ []) (he : readL p = some es) : ∃ (hj : j < es.length) (R' : List UInt8), takS F R = some (es[j], formB es[j], R') ∧ bodyTo es es.length = bodyTo es (j + 1) ++ R' ∧ os = es.take j ∧ chkEn es[j] = 0 := by
  obtain ⟨h1, h2, h3, h4⟩ := h es he
  obtain ⟨hc, _⟩ := readL_is he
  obtain ⟨_, k2, _⟩ := chkLf_ok.1 hc
  have hj : j < es.length := by
    by_cases hj : j = es.length
    · exfalso
      subst hj
      have := congrArg List.length h4
      rw [List.length_append] at this
      exact hR (List.eq_nil_of_length_eq_zero (by omega))
    · omega
  obtain ⟨_, R', h5, h6⟩ := atR_take k2 hj h4
  rw [← h3] at h5
  exact ⟨hj, R', h5, h6, h1, k2 _ (List.getElem_mem hj)⟩

theorem atR_bad {p : List UInt8} {os : List EnB} {F R R1 R2 C : List UInt8} {j n1 s1 e1 n2 s2 e2 n3 s3 e3 : Nat} (h : AtR p os F R j) (hR : R ≠ []) (hf1 : frontS R = (n1, s1, e1)) (hR1 : behindS R = R1) (hf2 : frontS R1 = (n2, s2, e2)) (hR2 : behindS R1 = R2) (hf3 : frontS R2 = (n3, s3, e3)) (hC : behindS R2 = C)
    (hb : ¬ (e1 = 0 ∧ e2 = 0 ∧ e3 = 0 ∧ n1 ≤ F.length ∧ n2 ≤ C.length ∧ n3 ≤ C.length - n2 ∧ 8 ≤ n1 + n2)) : readL p = none := by
  cases he : readL p with
  | none => rfl
  | some es =>
    obtain ⟨hj, R', h5, _⟩ := atR_at h hR he
    exact absurd (takS_conds hf1 hR1 hf2 hR2 hf3 hC h5).1 hb

theorem atR_next {p : List UInt8} {os : List EnB} {F R R1 R2 C F' V R' : List UInt8} {j n1 s1 e1 n2 s2 e2 n3 s3 e3 : Nat} (h : AtR p os F R j) (hR : R ≠ []) (hf1 : frontS R = (n1, s1, e1)) (hR1 : behindS R = R1) (hf2 : frontS R1 = (n2, s2, e2)) (hR2 : behindS R1 = R2) (hf3 : frontS R2 = (n3, s3, e3)) (hC : behindS R2 = C)
    (hF : F.take n1 ++ C.take n2 = F') (hV : (C.drop n2).take n3 = V) (hR' : C.drop (n2 + n3) = R') : AtR p (os ++ [entR F' V]) F' R' (j + 1) := fun es he => by
  obtain ⟨hj, T, h5, h6, h7, h8⟩ := atR_at h hR he
  obtain ⟨_, k1, k2, k3⟩ := takS_conds hf1 hR1 hf2 hR2 hf3 hC h5
  simp only at k1 k2 k3
  rw [hF] at k1
  rw [hV] at k3
  rw [List.drop_drop, hR'] at k2
  refine ⟨?_, by omega, ?_, ?_⟩
  · rw [← k1, ← k3, entR_form h8, h7, List.take_succ_eq_append_getElem hj]
  · rw [ahd, frm_at hj, k1]
  · rw [← k2]; exact h6

theorem atR_done {p : List UInt8} {os : List EnB} {F R : List UInt8} {j : Nat} (h : AtR p os F R j) (hR : R = [] ∨ 65 ≤ j) : readL p = if chkLf os = 0 ∧ leafB os = p then some os else none := by
  by_cases hc : chkLf os = 0 ∧ leafB os = p
  · rw [if_pos hc, ← hc.2, readL_leaf hc.1]
  · rw [if_neg hc]
    cases he : readL p with
    | none => rfl
    | some es =>
      exfalso
      obtain ⟨h1, h2, h3, h4⟩ := h es he
      have hk := readL_is he
      obtain ⟨k1, k2, _⟩ := chkLf_ok.1 hk.1
      rcases hR with hR | hR
      · by_cases hj : j = es.length
        · rw [hj, List.take_length] at h1
          rw [h1] at hc
          exact hc hk
        · exact (atR_take k2 (by omega) h4).1 hR
      · omega

theorem atR_first {p B : List UInt8} (h : bodyS p = some B) : AtR p [] [] B 0 := fun es he => by
  obtain ⟨h1, h2⟩ := readL_is he
  have := bodyS_leaf h1
  rw [h2, h] at this
  cases this
  exact ⟨by simp, Nat.zero_le _, rfl, by simp [bodyTo]⟩

theorem cnt_small {p : List UInt8} (h : 16 < cntS p) : readL p = none := by
  cases he : readL p with
  | none => rfl
  | some es =>
    exfalso
    obtain ⟨h1, h2⟩ := readL_is he
    obtain ⟨k1, k2, _⟩ := chkLf_ok.1 h1
    have hsl := startsTo_len es es.length
    have : cntS p = (startsTo es es.length).length := by
      rw [← h2]
      unfold leafB
      rw [← List.append_assoc]
      exact cntS_leaf (by omega)
    omega

theorem body_none {p : List UInt8} (h : bodyS p = none) : readL p = none := by
  unfold readL; rw [h]

end Go.Proofs.Ytdopfijoplldkaa

/- bartizanref08's From and Before. -/
namespace Go.Proofs.Ytdopfijoplldkaa
set_option maxRecDepth 20000
open Go.RowKit
set_option linter.unusedVariables false
set_option linter.unusedSimpArgs false

/-- what lay there ahead of the call is read as before, whatever is stored into a box of the call's own -/
theorem rd_store4o {w W : World} {x : Value} {l : List UInt8} {b : Nat} (h : Rd w x l) (hW : Below w.heap.size w W) (hb : w.heap.size ≤ b) (u0 u1 u2 u3 : Value) : Rd ((((W.setCell ⟨b, 0, none⟩ u0).setCell ⟨b, 1, none⟩ u1).setCell ⟨b, 2, none⟩ u2).setCell ⟨b, 3, none⟩ u3) x l := by
  have h2 := below_store4 hW hb u0 u1 u2 u3
  exact h.below h2 (Nat.le_refl _)

/-- what bartizanref08's From and Before answer -/
def R8Post (q : Option EnB) (w w' : World) (o : Ending) : Prop :=
  Below w.heap.size w w' ∧ match q with
    | none => o = .returned (.tuple #[enZ, .bool false])
    | some e => ∃ x y, o = .returned (.tuple #[enV x (e.2.1 : Int) (e.2.2.1.toNat : Int) y, .bool true]) ∧ Rd w' x e.1 ∧ Rd w' y e.2.2.2

theorem rdE_at {w w' : World} {ao : Option Addr} {N cap : Nat} {es : List EnB} (h : RdE w (.slice ao N cap) es) (hb : Below w.heap.size w w') {j : Nat} (hj : j < es.length) : ∃ p o x1 x2 y1 y2, ao = some ⟨p, o, none⟩ ∧ w'.cell? ⟨p, o + j * 4, none⟩ = some (.slice x1 es[j].1.length x2) ∧ w'.cell? ⟨p, o + j * 4 + 1, none⟩ = some (.int .u64 (es[j].2.1 : Int)) ∧ w'.cell? ⟨p, o + j * 4 + 2, none⟩ = some (.int .u8 (es[j].2.2.1.toNat : Int)) ∧ w'.cell? ⟨p, o + j * 4 + 3, none⟩ = some (.slice y1 es[j].2.2.2.length y2) ∧ Rd w (.slice x1 es[j].1.length x2) es[j].1 ∧ Rd w (.slice y1 es[j].2.2.2.length y2) es[j].2.2.2 := by
  obtain ⟨_, _, e, _, _, h3⟩ := h
  cases e
  obtain ⟨p, o, rfl, xv, yv, c0, c1, c2, c3, rx, ry⟩ := h3 j hj
  obtain ⟨x1, x2, ex⟩ := rx.len
  obtain ⟨y1, y2, ey⟩ := ry.len
  subst ex ey
  have hl := World.block_lt_of_cell? w _ c0
  exact ⟨p, o, x1, x2, y1, y2, rfl, (hb.cell (p := ⟨p, o + j * 4, none⟩) hl).trans c0, (hb.cell (p := ⟨p, o + j * 4 + 1, none⟩) hl).trans c1, (hb.cell (p := ⟨p, o + j * 4 + 2, none⟩) hl).trans c2, (hb.cell (p := ⟨p, o + j * 4 + 3, none⟩) hl).trans c3, rx, ry⟩

set_option maxHeartbeats 4000000 in
theorem r8from_any (w : World) (v kv : Value) (es : List EnB) (K : EnB) (hv : RdE w v es) (hk : Rd w kv K.1) (hr : riseB es = true) (hl : es.length ≤ 1000) :
    Calls Try.prog 22 #[v, .agg #[kv, .int .u64 (K.2.1 : Int), .int .u8 (K.2.2.1.toNat : Int)]] w fun o w' => R8Post (es[cntE es K]?) w w' o := by
  have HV : Hid (RdE w v es) := hv
  obtain ⟨ka, kc, rfl⟩ := hk.len
  obtain ⟨ao, cap, rfl, hc1, hc2, _⟩ := hv
  unfold maxLen at hc2
  obtain ⟨kn, hkn⟩ : ∃ n, K.1.length = n := ⟨_, rfl⟩
  obtain ⟨N, hN⟩ : ∃ n, es.length = n := ⟨_, rfl⟩
  obtain ⟨ks, hks⟩ : ∃ z : Int, (K.2.1 : Int) = z := ⟨_, rfl⟩
  obtain ⟨kk, hkk⟩ : ∃ z : Int, (K.2.2.1.toNat : Int) = z := ⟨_, rfl⟩
  have HKS : Hid ((K.2.1 : Int) = ks ∧ (K.2.2.1.toNat : Int) = kk) := ⟨hks, hkk⟩
  have HN : Hid (es.length = N) := hN
  have HR : Hid (riseB es = true) := hr
  rw [hkn] at hk ⊢
  rw [hN] at HV hl hc1 ⊢
  rw [hks, hkk]
  have HK : Hid (Rd w (.slice ka kn kc) K.1) := hk
  have hb0 := below_box w #[.slice ka kn kc, .int .u64 ks, .int .u8 kk] 37
  have hb1 := below_box4 (w.alloc (.cells #[.slice ka kn kc, .int .u64 ks, .int .u8 kk] 37)) (.cells #[.slice none 0 0, .int .u64 0, .int .u8 0, .slice none 0 0] 45)
  have BK := (box_new w (.slice ka kn kc) (.int .u64 ks) (.int .u8 kk) 37).below hb1 (Nat.le_refl _)
  have BR := box4f_new (w.alloc (.cells #[.slice ka kn kc, .int .u64 ks, .int .u8 kk] 37)) (.slice none 0 0) (.int .u64 0) (.int .u8 0) (.slice none 0 0) 45
  have hsz : (w.alloc (.cells #[.slice ka kn kc, .int .u64 ks, .int .u8 kk] 37)).heap.size = w.heap.size + 1 := by simp
  rw [hsz] at BR
  obtain ⟨w1, hw1⟩ : ∃ W, (w.alloc (.cells #[.slice ka kn kc, .int .u64 ks, .int .u8 kk] 37)).alloc (.cells #[.slice none 0 0, .int .u64 0, .int .u8 0, .slice none 0 0] 45) = W := ⟨_, rfl⟩
  have hB1 := bsplit hb0 hb1
  rw [hw1] at BK BR hB1
  have HB1 : Hid (Below w.heap.size w w1) := hB1
  clear hk hr hkn hN hks hkk hb0 hb1 hB1 hsz
  go_enter Try.func22, Try.ntmps22
  go_wp2_with fail
  clear hw1
  go_loopg [10] N (fun gk iv wr => ∃ j : Nat, gk + j = N ∧ iv = .int .i64 (j : Int) ∧ Hid (∀ x (hx : x < es.length), x < j → ltE es[x] K = true) ∧ Hid (Below w1.heap.size w1 wr))
  case atStart => exact ⟨0, by omega, rfl, fun x hx h => absurd h (Nat.not_lt_zero _), Below.refl _ _⟩
  case round =>
    obtain ⟨j, hj, rfl, HS, HB⟩ := hrel
    have HBW : Hid (Below w.heap.size w wr) := bsplit HB1.out HB.out
    by_cases hlt : j < N
    · have hlt2 : j < es.length := by rw [HN.out]; exact hlt
      obtain ⟨p, o, x1, x2, y1, y2, rfl, d0, d1, d2, d3, rx, ry⟩ := rdE_at HV.out HBW.out hlt2
      obtain ⟨q1, q2⟩ := gk_nxt hj hlt
      obtain ⟨E, hE⟩ : ∃ e, es[j] = e := ⟨_, rfl⟩
      rw [hE] at d0 d1 d2 d3 rx ry
      obtain ⟨sq, hsq⟩ : ∃ z : Int, (E.2.1 : Int) = z := ⟨_, rfl⟩
      obtain ⟨ek, hek⟩ : ∃ z : Int, (E.2.2.1.toNat : Int) = z := ⟨_, rfl⟩
      obtain ⟨nl, hnl⟩ : ∃ z, E.1.length = z := ⟨_, rfl⟩
      obtain ⟨ml, hml⟩ : ∃ z, E.2.2.2.length = z := ⟨_, rfl⟩
      rw [hnl] at d0 rx
      rw [hsq] at d1
      rw [hek] at d2
      rw [hml] at d3 ry
      obtain ⟨lt, hltq⟩ : ∃ q, ltE E K = q := ⟨_, rfl⟩
      have HLT : Hid (decide (Mth.cmpK E.1 sq ek K.1 ks kk < 0) = lt) := by show _ = _; rw [← hltq, ← hsq, ← hek, ← HKS.out.1, ← HKS.out.2]; rfl
      have HE : Hid (es[j] = E ∧ ltE E K = lt ∧ (E.2.1 : Int) = sq ∧ (E.2.2.1.toNat : Int) = ek) := ⟨hE, hltq, hsq, hek⟩
      have hb5 := below_box4 wr (.cells #[.slice x1 nl x2, .int .u64 sq, .int .u8 ek, .slice y1 ml y2] 45)
      have BY := box4_new wr (.slice x1 nl x2) (.int .u64 sq) (.int .u8 ek) (.slice y1 ml y2) 45
      have HB5 : Hid (Below w1.heap.size w1 (wr.alloc (.cells #[.slice x1 nl x2, .int .u64 sq, .int .u8 ek, .slice y1 ml y2] 45))) := bsplit HB.out hb5
      have HBW5 : Hid (Below w.heap.size w (wr.alloc (.cells #[.slice x1 nl x2, .int .u64 sq, .int .u8 ek, .slice y1 ml y2] 45))) := bsplit HB1.out HB5.out
      have hls := keyless_any (wr.alloc (.cells #[.slice x1 nl x2, .int .u64 sq, .int .u8 ek, .slice y1 ml y2] 45)) _ _ E.1 K.1 sq ek ks kk lt (rx.below HBW5.out (Nat.le_refl _)) (HK.out.below HBW5.out (Nat.le_refl _)) HLT.out
      obtain ⟨c0, c1, c2, _⟩ := BK.below HB5.out (Nat.le_refl _)
      have BY' := BY
      obtain ⟨z0, z1, z2, z3⟩ := BY'
      have HRX : Hid (Rd w (.slice x1 nl x2) E.1 ∧ Rd w (.slice y1 ml y2) E.2.2.2) := ⟨rx, ry⟩
      clear rx ry hE hsq hek hnl hml hltq hb5
      go_wp2_with fail
      refine hls.mono ?_
      rintro e w6 ⟨rfl, hb6⟩
      clear c0 c1 c2 z0 z1 z2 z3 d0 d1 d2 d3
      have HB6 : Hid (Below w1.heap.size w1 w6) := bsplit HB5.out hb6
      have HBW6 : Hid (Below w.heap.size w w6) := bsplit HB1.out HB6.out
      obtain ⟨z0, z1, z2, z3⟩ := BY.below hb6 (Nat.le_refl _)
      clear hls hb6 BY
      cases lt with
      | true =>
        have HS2 : Hid (∀ x (hx : x < es.length), x < j + 1 → ltE es[x] K = true) := fun x hx hxj => by
          by_cases e : x = j
          · subst e; rw [HE.out.1]; exact HE.out.2.1
          · exact HS.out x hx (by omega)
        go_wp2_with fail
        go_roundg (gk - 1)
        case measure => exact q1
        case rel => exact ⟨j + 1, q2, by go_num, HS2, HB6⟩
      | false =>
        have HC : Hid (es[cntE es K]? = some E) := by
          show _ = _
          have hj2 : j < es.length := by rw [HN.out]; exact hlt
          have : cntE es K = j := cnt_split (by omega) HS.out (fun x hx hxj => behind_ge HR.out hx hxj (by rw [HE.out.1]; exact HE.out.2.1))
          rw [this, List.getElem?_eq_getElem hj2, HE.out.1]
        obtain ⟨⟨r0, r1, r2, r3⟩, f0, f1, f2, f3⟩ := BR.below HB6.out (Nat.le_refl _)
        go_wp2
        refine bodyPost_ret (v := .tuple #[enV (.slice x1 nl x2) sq ek (.slice y1 ml y2), .bool true]) (by simp [results, Try.results22, go_sem, r0, r1, r2, r3]) rfl ?_
        refine ⟨below_store4 HBW6.out (Nat.le_succ _) _ _ _ _, ?_⟩
        rw [HC.out]
        exact ⟨_, _, by rw [HE.out.2.2.1, HE.out.2.2.2], rd_store4o HRX.out.1 HBW6.out (Nat.le_succ _) _ _ _ _, rd_store4o HRX.out.2 HBW6.out (Nat.le_succ _) _ _ _ _⟩
    · have hjN : j = N := by omega
      subst hjN
      have hni : ¬ (j : Int) < (j : Int) := by omega
      have HC : Hid (es[cntE es K]? = none) := by
        show _ = _
        have : cntE es K = j := cnt_split (by rw [HN.out]; exact Nat.le_refl _) HS.out (fun x hx hxj => by rw [HN.out] at hx; omega)
        rw [this, List.getElem?_eq_none (by rw [HN.out]; exact Nat.le_refl _)]
      obtain ⟨⟨r0, r1, r2, r3⟩, f0, f1, f2, f3⟩ := BR.below HB.out (Nat.le_refl _)
      go_wp2
      refine bodyPost_ret (v := .tuple #[enZ, .bool false]) (by simp [results, Try.results22, go_sem, r0, r1, r2, r3]) rfl ?_
      refine ⟨below_store4 HBW.out (Nat.le_succ _) _ _ _ _, ?_⟩
      rw [HC.out]

theorem Box4f.stored {w : World} {b : Nat} {v0 v1 v2 v3 : Value} (h : Box4f w b v0 v1 v2 v3) (b' : Nat) (hne : b ≠ b') (u0 u1 u2 u3 : Value) : Box4f ((((w.setCell ⟨b', 0, none⟩ u0).setCell ⟨b', 1, none⟩ u1).setCell ⟨b', 2, none⟩ u2).setCell ⟨b', 3, none⟩ u3) b v0 v1 v2 v3 :=
  ⟨h.bx.stored b' hne u0 u1 u2 u3, by simp [go_sem, h.f0], by simp [go_sem, h.f1], by simp [go_sem, h.f2], by simp [go_sem, h.f3]⟩

theorem box4f_stored {w : World} {b : Nat} {v0 v1 v2 v3 : Value} (h : Box4f w b v0 v1 v2 v3) (u0 u1 u2 u3 : Value) : Box4f ((((w.setCell ⟨b, 0, none⟩ u0).setCell ⟨b, 1, none⟩ u1).setCell ⟨b, 2, none⟩ u2).setCell ⟨b, 3, none⟩ u3) b u0 u1 u2 u3 :=
  ⟨⟨by simp [go_sem, h.bx.c0, h.bx.c1, h.bx.c2, h.bx.c3], by simp [go_sem, h.bx.c0, h.bx.c1, h.bx.c2, h.bx.c3], by simp [go_sem, h.bx.c0, h.bx.c1, h.bx.c2, h.bx.c3], by simp [go_sem, h.bx.c0, h.bx.c1, h.bx.c2, h.bx.c3]⟩, by simp [go_sem, h.f0], by simp [go_sem, h.f1], by simp [go_sem, h.f2], by simp [go_sem, h.f3]⟩

/-- what was found so far: the last one ahead of a version -/
def BefO (w : World) (es : List EnB) (K : EnB) (j : Nat) (sb : Bool) (a1 : Option Addr) (n1 c1 : Nat) (s k : Int) (a2 : Option Addr) (n2 c2 : Nat) : Prop :=
  ∃ c, c ≤ j ∧ (∀ x (hx : x < es.length), x < c → ltE es[x] K = true) ∧ (∀ x (hx : x < es.length), c ≤ x → x < j → ltE es[x] K = false) ∧
    ((c = 0 ∧ sb = false ∧ Value.slice a1 n1 c1 = .slice none 0 0 ∧ s = 0 ∧ k = 0 ∧ Value.slice a2 n2 c2 = .slice none 0 0) ∨
     (0 < c ∧ sb = true ∧ ∃ e, es[c - 1]? = some e ∧ s = (e.2.1 : Int) ∧ k = (e.2.2.1.toNat : Int) ∧ Rd w (.slice a1 n1 c1) e.1 ∧ Rd w (.slice a2 n2 c2) e.2.2.2))

theorem BefO.stay {w : World} {es : List EnB} {K : EnB} {j : Nat} {sb : Bool} {a1 a2 : Option Addr} {n1 c1 n2 c2 : Nat} {s k : Int} (h : BefO w es K j sb a1 n1 c1 s k a2 n2 c2) (hj : j < es.length) (hlt : ltE es[j] K = false) : BefO w es K (j + 1) sb a1 n1 c1 s k a2 n2 c2 := by
  obtain ⟨c, h1, h2, h3, h4⟩ := h
  refine ⟨c, by omega, h2, fun x hx hc hxj => ?_, h4⟩
  by_cases e : x = j
  · subst e; exact hlt
  · exact h3 x hx hc (by omega)

theorem BefO.next {w : World} {es : List EnB} {K E : EnB} {j : Nat} {sb : Bool} {a1 a2 b1 b2 : Option Addr} {n1 c1 n2 c2 m1 d1 m2 d2 : Nat} {s k s' k' : Int} (h : BefO w es K j sb a1 n1 c1 s k a2 n2 c2) (hr : riseB es = true) (hj : j < es.length) (hE : es[j] = E) (hlt : ltE es[j] K = true) (hs : (E.2.1 : Int) = s') (hk : (E.2.2.1.toNat : Int) = k') (hx : Rd w (.slice b1 m1 d1) E.1) (hy : Rd w (.slice b2 m2 d2) E.2.2.2) : BefO w es K (j + 1) true b1 m1 d1 s' k' b2 m2 d2 := by
  refine ⟨j + 1, Nat.le_refl _, fun x hx hxj => ahead_lt hr hj (by omega) hlt, fun x hx hc hxj => by omega, .inr ⟨by omega, rfl, E, ?_, hs.symm, hk.symm, hx, hy⟩⟩
  rw [Nat.add_sub_cancel, List.getElem?_eq_getElem hj, hE]

theorem BefO.done {w : World} {es : List EnB} {K : EnB} {j : Nat} {sb : Bool} {a1 a2 : Option Addr} {n1 c1 n2 c2 : Nat} {s k : Int} (h : BefO w es K j sb a1 n1 c1 s k a2 n2 c2) (hj : j = es.length) :
    (((if cntE es K = 0 then none else es[cntE es K - 1]?) = none) ∧ sb = false ∧ Value.slice a1 n1 c1 = .slice none 0 0 ∧ s = 0 ∧ k = 0 ∧ Value.slice a2 n2 c2 = .slice none 0 0) ∨
    ∃ e, ((if cntE es K = 0 then none else es[cntE es K - 1]?) = some e) ∧ sb = true ∧ s = (e.2.1 : Int) ∧ k = (e.2.2.1.toNat : Int) ∧ Rd w (.slice a1 n1 c1) e.1 ∧ Rd w (.slice a2 n2 c2) e.2.2.2 := by
  obtain ⟨c, h1, h2, h3, h4⟩ := h
  have hc : cntE es K = c := cnt_split (by omega) h2 (fun x hx hcx => h3 x hx hcx (by omega))
  rw [hc]
  rcases h4 with ⟨e0, h5⟩ | ⟨e0, h5, e, h6, h7⟩
  · exact .inl ⟨if_pos e0, h5⟩
  · exact .inr ⟨e, by rw [if_neg (by omega)]; exact h6, h5, h7⟩

set_option maxHeartbeats 4000000 in
theorem r8before_any (w : World) (v kv : Value) (es : List EnB) (K : EnB) (hv : RdE w v es) (hk : Rd w kv K.1) (hr : riseB es = true) (hl : es.length ≤ 1000) :
    Calls Try.prog 24 #[v, .agg #[kv, .int .u64 (K.2.1 : Int), .int .u8 (K.2.2.1.toNat : Int)]] w fun o w' => R8Post (if cntE es K = 0 then none else es[cntE es K - 1]?) w w' o := by
  obtain ⟨Q, hQ⟩ : ∃ Q, (if cntE es K = 0 then none else es[cntE es K - 1]?) = Q := ⟨_, rfl⟩
  rw [hQ]
  have HQ : Hid ((if cntE es K = 0 then none else es[cntE es K - 1]?) = Q) := hQ
  clear hQ
  have HV : Hid (RdE w v es) := hv
  obtain ⟨ka, kc, rfl⟩ := hk.len
  obtain ⟨ao, cap, rfl, hc1, hc2, _⟩ := hv
  unfold maxLen at hc2
  obtain ⟨kn, hkn⟩ : ∃ n, K.1.length = n := ⟨_, rfl⟩
  obtain ⟨N, hN⟩ : ∃ n, es.length = n := ⟨_, rfl⟩
  obtain ⟨ks, hks⟩ : ∃ z : Int, (K.2.1 : Int) = z := ⟨_, rfl⟩
  obtain ⟨kk, hkk⟩ : ∃ z : Int, (K.2.2.1.toNat : Int) = z := ⟨_, rfl⟩
  have HKS : Hid ((K.2.1 : Int) = ks ∧ (K.2.2.1.toNat : Int) = kk) := ⟨hks, hkk⟩
  have HN : Hid (es.length = N) := hN
  have HR : Hid (riseB es = true) := hr
  rw [hkn] at hk ⊢
  rw [hN] at HV hl hc1 ⊢
  rw [hks, hkk]
  have HK : Hid (Rd w (.slice ka kn kc) K.1) := hk
  have hb0 := below_box w #[.slice ka kn kc, .int .u64 ks, .int .u8 kk] 37
  have hb1 := below_box4 (w.alloc (.cells #[.slice ka kn kc, .int .u64 ks, .int .u8 kk] 37)) (.cells #[.slice none 0 0, .int .u64 0, .int .u8 0, .slice none 0 0] 45)
  have hb2 := below_box4 ((w.alloc (.cells #[.slice ka kn kc, .int .u64 ks, .int .u8 kk] 37)).alloc (.cells #[.slice none 0 0, .int .u64 0, .int .u8 0, .slice none 0 0] 45)) (.cells #[.slice none 0 0, .int .u64 0, .int .u8 0, .slice none 0 0] 45)
  have BK := ((box_new w (.slice ka kn kc) (.int .u64 ks) (.int .u8 kk) 37).below hb1 (Nat.le_refl _)).below hb2 (Nat.le_refl _)
  have BR := (box4f_new (w.alloc (.cells #[.slice ka kn kc, .int .u64 ks, .int .u8 kk] 37)) (.slice none 0 0) (.int .u64 0) (.int .u8 0) (.slice none 0 0) 45).below hb2 (Nat.le_refl _)
  have BO := box4f_new ((w.alloc (.cells #[.slice ka kn kc, .int .u64 ks, .int .u8 kk] 37)).alloc (.cells #[.slice none 0 0, .int .u64 0, .int .u8 0, .slice none 0 0] 45)) (.slice none 0 0) (.int .u64 0) (.int .u8 0) (.slice none 0 0) 45
  have hsz : (w.alloc (.cells #[.slice ka kn kc, .int .u64 ks, .int .u8 kk] 37)).heap.size = w.heap.size + 1 := by simp
  have hsz2 : ((w.alloc (.cells #[.slice ka kn kc, .int .u64 ks, .int .u8 kk] 37)).alloc (.cells #[.slice none 0 0, .int .u64 0, .int .u8 0, .slice none 0 0] 45)).heap.size = w.heap.size + 2 := by simp
  rw [hsz] at BR
  rw [hsz2] at BO
  obtain ⟨w1, hw1⟩ : ∃ W, ((w.alloc (.cells #[.slice ka kn kc, .int .u64 ks, .int .u8 kk] 37)).alloc (.cells #[.slice none 0 0, .int .u64 0, .int .u8 0, .slice none 0 0] 45)).alloc (.cells #[.slice none 0 0, .int .u64 0, .int .u8 0, .slice none 0 0] 45) = W := ⟨_, rfl⟩
  have hB1 := bsplit (bsplit hb0 hb1) hb2
  have hs1 : (((w.alloc (.cells #[.slice ka kn kc, .int .u64 ks, .int .u8 kk] 37)).alloc (.cells #[.slice none 0 0, .int .u64 0, .int .u8 0, .slice none 0 0] 45)).alloc (.cells #[.slice none 0 0, .int .u64 0, .int .u8 0, .slice none 0 0] 45)).heap.size = w.heap.size + 3 := by simp
  rw [hw1] at BK BR BO hB1 hs1
  have HB1 : Hid (Below w.heap.size w w1) := hB1
  have HS1 : Hid (w1.heap.size = w.heap.size + 3) := hs1
  clear hk hr hkn hN hks hkk hb0 hb1 hb2 hB1 hsz hsz2 hs1
  go_enter Try.func24, Try.ntmps24
  go_wp2_with fail
  clear hw1
  have BKh : Hid (Box w1 w.heap.size (.slice ka kn kc) (.int .u64 ks) (.int .u8 kk)) := BK
  have BRh : Hid (Box4f w1 (w.heap.size + 1) (.slice none 0 0) (.int .u64 0) (.int .u8 0) (.slice none 0 0)) := BR
  have BOh : Hid (Box4f w1 (w.heap.size + 2) (.slice none 0 0) (.int .u64 0) (.int .u8 0) (.slice none 0 0)) := BO
  clear BK BR BO HS1
  go_loopg [7, 12] N (fun gk sv iv wr => ∃ (j : Nat) (sb : Bool) (a1 : Option Addr) (n1 c1 : Nat) (s k : Int) (a2 : Option Addr) (n2 c2 : Nat), gk + j = N ∧ iv = .int .i64 (j : Int) ∧ sv = .bool sb ∧ Hid (BefO w es K j sb a1 n1 c1 s k a2 n2 c2) ∧ Hid (Box wr w.heap.size (.slice ka kn kc) (.int .u64 ks) (.int .u8 kk)) ∧ Hid (Box4f wr (w.heap.size + 1) (.slice none 0 0) (.int .u64 0) (.int .u8 0) (.slice none 0 0)) ∧ Hid (Box4f wr (w.heap.size + 2) (.slice a1 n1 c1) (.int .u64 s) (.int .u8 k) (.slice a2 n2 c2)) ∧ Hid (Below w.heap.size w wr))
  case atStart => exact ⟨0, false, none, 0, 0, 0, 0, none, 0, 0, by omega, rfl, rfl, ⟨0, Nat.le_refl _, fun x hx h => absurd h (Nat.not_lt_zero _), fun x hx _ h => absurd h (Nat.not_lt_zero _), .inl ⟨rfl, rfl, rfl, rfl, rfl, rfl⟩⟩, BKh, BRh, BOh, HB1⟩
  case round =>
    obtain ⟨j, sb, a1, n1, cc1, s, k, a2, n2, cc2, hj, rfl, rfl, HI, BK, BR, BO, HBW⟩ := hrel
    by_cases hlt : j < N
    · have hlt2 : j < es.length := by rw [HN.out]; exact hlt
      obtain ⟨p, o, x1, x2, y1, y2, rfl, d0, d1, d2, d3, rx, ry⟩ := rdE_at HV.out HBW.out hlt2
      obtain ⟨q1, q2⟩ := gk_nxt hj hlt
      obtain ⟨E, hE⟩ : ∃ e, es[j] = e := ⟨_, rfl⟩
      rw [hE] at d0 d1 d2 d3 rx ry
      obtain ⟨sq, hsq⟩ : ∃ z : Int, (E.2.1 : Int) = z := ⟨_, rfl⟩
      obtain ⟨ek, hek⟩ : ∃ z : Int, (E.2.2.1.toNat : Int) = z := ⟨_, rfl⟩
      obtain ⟨nl, hnl⟩ : ∃ z, E.1.length = z := ⟨_, rfl⟩
      obtain ⟨ml, hml⟩ : ∃ z, E.2.2.2.length = z := ⟨_, rfl⟩
      rw [hnl] at d0 rx
      rw [hsq] at d1
      rw [hek] at d2
      rw [hml] at d3 ry
      obtain ⟨lt, hltq⟩ : ∃ q, ltE E K = q := ⟨_, rfl⟩
      have HLT : Hid (decide (Mth.cmpK E.1 sq ek K.1 ks kk < 0) = lt) := by show _ = _; rw [← hltq, ← hsq, ← hek, ← HKS.out.1, ← HKS.out.2]; rfl
      have HE : Hid (es[j] = E ∧ ltE E K = lt ∧ (E.2.1 : Int) = sq ∧ (E.2.2.1.toNat : Int) = ek) := ⟨hE, hltq, hsq, hek⟩
      have hb5 := below_box4 wr (.cells #[.slice x1 nl x2, .int .u64 sq, .int .u8 ek, .slice y1 ml y2] 45)
      have BY := box4_new wr (.slice x1 nl x2) (.int .u64 sq) (.int .u8 ek) (.slice y1 ml y2) 45
      have HBW5 : Hid (Below w.heap.size w (wr.alloc (.cells #[.slice x1 nl x2, .int .u64 sq, .int .u8 ek, .slice y1 ml y2] 45))) := bsplit HBW.out hb5
      have hls := keyless_any (wr.alloc (.cells #[.slice x1 nl x2, .int .u64 sq, .int .u8 ek, .slice y1 ml y2] 45)) _ _ E.1 K.1 sq ek ks kk lt (rx.below HBW5.out (Nat.le_refl _)) (HK.out.below HBW5.out (Nat.le_refl _)) HLT.out
      have BK5 := BK.out.below hb5 (Nat.le_refl _)
      have BR5 := BR.out.below hb5 (Nat.le_refl _)
      have BO5 := BO.out.below hb5 (Nat.le_refl _)
      obtain ⟨c0, c1, c2, _⟩ := BK.out.below hb5 (Nat.le_refl _)
      have BY' := BY
      obtain ⟨z0, z1, z2, z3⟩ := BY'
      have HRX : Hid (Rd w (.slice x1 nl x2) E.1 ∧ Rd w (.slice y1 ml y2) E.2.2.2) := ⟨rx, ry⟩
      clear rx ry hE hsq hek hnl hml hltq hb5
      go_wp2_with fail
      refine hls.mono ?_
      rintro e w6 ⟨rfl, hb6⟩
      clear c0 c1 c2 z0 z1 z2 z3 d0 d1 d2 d3
      have HBW6 : Hid (Below w.heap.size w w6) := bsplit HBW5.out hb6
      have BK6 : Hid (Box w6 w.heap.size (.slice ka kn kc) (.int .u64 ks) (.int .u8 kk)) := BK5.below hb6 (Nat.le_refl _)
      have BR6 : Hid (Box4f w6 (w.heap.size + 1) (.slice none 0 0) (.int .u64 0) (.int .u8 0) (.slice none 0 0)) := BR5.below hb6 (Nat.le_refl _)
      have BO6 := BO5.below hb6 (Nat.le_refl _)
      obtain ⟨z0, z1, z2, z3⟩ := BY.below hb6 (Nat.le_refl _)
      clear hls hb6 BY BK5 BR5 BO5
      have BO6' : Hid _ := BO6
      obtain ⟨⟨r0, r1, r2, r3⟩, f0, f1, f2, f3⟩ := BO6
      cases lt with
      | true =>
        have HI2 : Hid (BefO w es K (j + 1) true x1 nl x2 sq ek y1 ml y2) := HI.out.next HR.out (by rw [HN.out]; exact hlt) HE.out.1 (by rw [HE.out.1]; exact HE.out.2.1) HE.out.2.2.1 HE.out.2.2.2 HRX.out.1 HRX.out.2
        go_wp2_with fail
        go_roundg (gk - 1)
        case measure => exact q1
        case rel => exact ⟨j + 1, true, x1, nl, x2, sq, ek, y1, ml, y2, q2, by go_num, rfl, HI2, BK6.out.stored4 (w.heap.size + 2) (by omega) _ _ _ _, BR6.out.stored (w.heap.size + 2) (by omega) _ _ _ _, box4f_stored BO6'.out _ _ _ _, below_store4 HBW6.out (by omega) _ _ _ _⟩
      | false =>
        have HI2 : Hid (BefO w es K (j + 1) sb a1 n1 cc1 s k a2 n2 cc2) := HI.out.stay (by rw [HN.out]; exact hlt) (by rw [HE.out.1]; exact HE.out.2.1)
        go_wp2_with fail
        go_roundg (gk - 1)
        case measure => exact q1
        case rel => exact ⟨j + 1, sb, a1, n1, cc1, s, k, a2, n2, cc2, q2, by go_num, rfl, HI2, BK6, BR6, BO6', HBW6⟩
    · have hjN : j = N := by omega
      subst hjN
      have hni : ¬ (j : Int) < (j : Int) := by omega
      have HD := HI.out.done HN.out.symm
      obtain ⟨⟨r0, r1, r2, r3⟩, f0, f1, f2, f3⟩ := BR.out
      obtain ⟨⟨o0, o1, o2, o3⟩, _⟩ := BO.out
      rw [HQ.out] at HD
      have HDh : Hid _ := HD
      clear HD
      go_wp2
      refine bodyPost_ret (v := .tuple #[enV (.slice a1 n1 cc1) s k (.slice a2 n2 cc2), .bool sb]) (by simp [results, Try.results24, go_sem, r0, r1, r2, r3]) rfl ?_
      refine ⟨below_store4 HBW.out (Nat.le_succ _) _ _ _ _, ?_⟩
      rcases HDh.out with ⟨rfl, rfl, h3, rfl, rfl, h6⟩ | ⟨e, rfl, rfl, rfl, rfl, h5, h6⟩
      · rw [h3, h6]
      · exact ⟨_, _, rfl, rd_store4o h5 HBW.out (Nat.le_succ _) _ _ _ _, rd_store4o h6 HBW.out (Nat.le_succ _) _ _ _ _⟩

end Go.Proofs.Ytdopfijoplldkaa

/- bartizanref12's Read. -/
namespace Go.Proofs.Ytdopfijoplldkaa
set_option maxRecDepth 20000
open Go.RowKit
set_option linter.unusedVariables false
set_option linter.unusedSimpArgs false

/-- where the loop has come to -/
structure RdRI (w wr : World) (p : List UInt8) (ov fv rv : Value) (os : List EnB) (F R : List UInt8) (j : Nat) : Prop where
  ow : OwnE w.heap.size wr ov os
  fo : Rd wr fv F
  nf : NeB fv F ov
  ro : Rd wr rv R
  nr : NeB rv R ov
  st : AtR p os F R j
  nl : os.length = j
  fl : F.length + R.length ≤ 90000
  be : Below w.heap.size w wr

/-- what bartizanref12.Read answers -/
def RRLPost (p : List UInt8) (w w' : World) (o : Ending) : Prop :=
  Below w.heap.size w w' ∧ match readL p with
    | none => o = .returned (.tuple #[.slice none 0 0, .int .i64 4])
    | some es => ∃ x, o = .returned (.tuple #[x, .int .i64 0]) ∧ RdE w' x es

theorem rr_none {p : List UInt8} {w w' : World} (h : readL p = none) (hb : Below w.heap.size w w') : RRLPost p w w' (.returned (.tuple #[.slice none 0 0, .int .i64 4])) := by
  refine ⟨hb, ?_⟩
  rw [h]

theorem rr_wraps {x y C : Nat} (hx : x < 256) (hy : y < 256) (hC : x + 256 * y = C) : IntKind.i64.wrap ((256 : Int) * (y : Int)) = 256 * (y : Int) ∧ wrap64 ((256 : Int) * (y : Int)) = 256 * (y : Int) ∧ IntKind.i64.wrap (x : Int) = (x : Int) ∧ IntKind.i64.wrap (y : Int) = (y : Int) ∧ IntKind.i64.wrap ((x : Int) + 256 * (y : Int)) = (C : Int) ∧ wrap64 ((x : Int) + 256 * (y : Int)) = (C : Int) := by
  refine ⟨?_, ?_, ?_, ?_, ?_, ?_⟩
  · rw [IntKind.wrap_i64]; omega
  · unfold wrap64; omega
  · rw [IntKind.wrap_i64]; omega
  · rw [IntKind.wrap_i64]; omega
  · rw [IntKind.wrap_i64]; omega
  · unfold wrap64; omega

/-- the entry that was made: its box, what it holds -/
structure NewX (w wx : World) (b gu ku gv kv m n : Nat) (sq k : Int) (U V : List UInt8) : Prop where
  bx : Box4f wx b (.slice (some ⟨gu, 0, none⟩) m ku) (.int .u64 sq) (.int .u8 k) (.slice (some ⟨gv, 0, none⟩) n kv)
  lb : w.heap.size ≤ b
  nu : gu ≠ b
  nv : gv ≠ b
  lu : w.heap.size ≤ gu
  lv : w.heap.size ≤ gv
  ru : Rd wx (.slice (some ⟨gu, 0, none⟩) m ku) U
  rv : Rd wx (.slice (some ⟨gv, 0, none⟩) n kv) V
  be : Below w.heap.size w wx

theorem newX_last {w w6 w7 : World} {B gu ku gv kv m n : Nat} {k : Int} {U V : List UInt8} (h6 : Below w.heap.size w w6) (o6 : Own B w6 (.slice (some ⟨gu, 0, none⟩) m ku) U) (hB : w.heap.size ≤ B) (h7 : Below w6.heap.size w6 w7) (o7 : Own w6.heap.size w7 (.slice (some ⟨gv, 0, none⟩) n kv) V) :
    NewX w (w7.alloc (.cells #[.slice (some ⟨gu, 0, none⟩) m ku, .int .u64 0, .int .u8 k, .slice (some ⟨gv, 0, none⟩) n kv] 45)) w7.heap.size gu ku gv kv m n 0 k U V := by
  have hb := below_box4 w7 (.cells #[.slice (some ⟨gu, 0, none⟩) m ku, .int .u64 0, .int .u8 k, .slice (some ⟨gv, 0, none⟩) n kv] 45)
  have l6 := o6.lt
  have l7 := o7.lt
  have s6 := h6.size
  have s7 := h7.size
  exact ⟨box4f_new _ _ _ _ _ _, by omega, by omega, by omega, by omega, by omega, (o6.rd.below h7 (Nat.le_refl _)).below hb (Nat.le_refl _), o7.rd.below hb (Nat.le_refl _), bsplit (bsplit h6 h7) hb⟩

theorem newX_mid {w w6 w7 : World} {B gu ku gv kv m n : Nat} {k : Int} {U V : List UInt8} (h6 : Below w.heap.size w w6) (o6 : Own B w6 (.slice (some ⟨gu, 0, none⟩) m ku) U) (hB : w.heap.size ≤ B) (h7 : Below (w6.alloc (.cells #[.slice none 0 0, .int .u64 0, .int .u8 0, .slice none 0 0] 45)).heap.size (w6.alloc (.cells #[.slice none 0 0, .int .u64 0, .int .u8 0, .slice none 0 0] 45)) w7) (o7 : Own (w6.alloc (.cells #[.slice none 0 0, .int .u64 0, .int .u8 0, .slice none 0 0] 45)).heap.size w7 (.slice (some ⟨gv, 0, none⟩) n kv) V) :
    NewX w ((((w7.setCell ⟨w6.heap.size, 0, none⟩ (.slice (some ⟨gu, 0, none⟩) m ku)).setCell ⟨w6.heap.size, 1, none⟩ (.int .u64 0)).setCell ⟨w6.heap.size, 2, none⟩ (.int .u8 k)).setCell ⟨w6.heap.size, 3, none⟩ (.slice (some ⟨gv, 0, none⟩) n kv)) w6.heap.size gu ku gv kv m n 0 k U V := by
  have hb := below_box4 w6 (.cells #[.slice none 0 0, .int .u64 0, .int .u8 0, .slice none 0 0] 45)
  have hs : (w6.alloc (.cells #[.slice none 0 0, .int .u64 0, .int .u8 0, .slice none 0 0] 45)).heap.size = w6.heap.size + 1 := by simp
  have l6 := o6.lt
  have l7 := o7.lt
  have s6 := h6.size
  have h67 := bsplit hb h7
  rw [hs] at l7
  have nu : gu ≠ w6.heap.size := by omega
  have nv : gv ≠ w6.heap.size := by omega
  exact ⟨box4f_stored ((box4f_new w6 (.slice none 0 0) (.int .u64 0) (.int .u8 0) (.slice none 0 0) 45).below h7 (Nat.le_refl _)) _ _ _ _, by omega, nu, nv, by omega, by omega, rd_store4 (o6.rd.below h67 (Nat.le_refl _)) (fun g hg => by simp only [Value.ownBlock, Option.some.injEq] at hg; omega) _ _ _ _, rd_store4 o7.rd (fun g hg => by simp only [Value.ownBlock, Option.some.injEq] at hg; omega) _ _ _ _, below_store4 (bsplit h6 h67) s6 _ _ _ _⟩

theorem newX_first {w w6 w7 : World} {gu ku gv kv m n : Nat} {k : Int} {U V : List UInt8} (h6 : Below (w.alloc (.cells #[.slice none 0 0, .int .u64 0, .int .u8 0, .slice none 0 0] 45)).drew.heap.size (w.alloc (.cells #[.slice none 0 0, .int .u64 0, .int .u8 0, .slice none 0 0] 45)).drew w6) (o6 : Own (w.alloc (.cells #[.slice none 0 0, .int .u64 0, .int .u8 0, .slice none 0 0] 45)).drew.heap.size w6 (.slice (some ⟨gu, 0, none⟩) m ku) U) (h7 : Below w6.heap.size w6 w7) (o7 : Own w6.heap.size w7 (.slice (some ⟨gv, 0, none⟩) n kv) V) :
    NewX w ((((w7.setCell ⟨w.heap.size, 0, none⟩ (.slice (some ⟨gu, 0, none⟩) m ku)).setCell ⟨w.heap.size, 1, none⟩ (.int .u64 0)).setCell ⟨w.heap.size, 2, none⟩ (.int .u8 k)).setCell ⟨w.heap.size, 3, none⟩ (.slice (some ⟨gv, 0, none⟩) n kv)) w.heap.size gu ku gv kv m n 0 k U V := by
  have hs : (w.alloc (.cells #[.slice none 0 0, .int .u64 0, .int .u8 0, .slice none 0 0] 45)).drew.heap.size = w.heap.size + 1 := by simp
  have l6 := o6.lt
  have l7 := o7.lt
  have s6 := h6.size
  have hb := bsplit (below_box4 w (.cells #[.slice none 0 0, .int .u64 0, .int .u8 0, .slice none 0 0] 45)).drew h6
  rw [hs] at l6 s6
  have nu : gu ≠ w.heap.size := by omega
  have nv : gv ≠ w.heap.size := by omega
  have h9 := box4f_new w (.slice none 0 0) (.int .u64 0) (.int .u8 0) (.slice none 0 0) 45
  have h8 : Box4f (w.alloc (.cells #[.slice none 0 0, .int .u64 0, .int .u8 0, .slice none 0 0] 45)).drew w.heap.size (.slice none 0 0) (.int .u64 0) (.int .u8 0) (.slice none 0 0) := ⟨h9.bx.drew, h9.f0, h9.f1, h9.f2, h9.f3⟩
  exact ⟨box4f_stored ((h8.below h6 (Nat.le_refl _)).below h7 (Nat.le_refl _)) _ _ _ _, Nat.le_refl _, nu, nv, by omega, by omega, rd_store4 (o6.rd.below h7 (Nat.le_refl _)) (fun g hg => by simp only [Value.ownBlock, Option.some.injEq] at hg; omega) _ _ _ _, rd_store4 o7.rd (fun g hg => by simp only [Value.ownBlock, Option.some.injEq] at hg; omega) _ _ _ _, below_store4 (bsplit hb h7) (Nat.le_refl _) _ _ _ _⟩

theorem Box4f.seq {w : World} {b : Nat} {v0 v1 v2 v3 : Value} (h : Box4f w b v0 v1 v2 v3) (u : Value) : Box4f (w.setCell ⟨b, 1, none⟩ u) b v0 u v2 v3 :=
  ⟨⟨by simp [go_sem, h.bx.c0, h.bx.c1], by simp [go_sem, h.bx.c0, h.bx.c1], by simp [go_sem, h.bx.c2, h.bx.c1], by simp [go_sem, h.bx.c3, h.bx.c1]⟩, by simp [go_sem, h.f0], by simp [go_sem, h.f1], by simp [go_sem, h.f2], by simp [go_sem, h.f3]⟩

theorem NewX.seq {w wx : World} {b gu ku gv kv m n : Nat} {sq k : Int} {U V : List UInt8} (h : NewX w wx b gu ku gv kv m n sq k U V) (q : Int) : NewX w (wx.setCell ⟨b, 1, none⟩ (.int .u64 q)) b gu ku gv kv m n q k U V := by
  refine ⟨h.bx.seq _, h.lb, h.nu, h.nv, h.lu, h.lv, ?_, ?_, h.be.setCell (p := ⟨b, 1, none⟩) h.lb _⟩
  · rcases h.ru with ⟨e, rfl⟩ | ⟨b', off, cap, e, h1, h2, h3⟩
    · cases e
    · cases e
      exact (show Rd wx _ U from .inr ⟨_, _, _, rfl, h1, h2, h3⟩).other ⟨b, 1, none⟩ h.nu _
  · rcases h.rv with ⟨e, rfl⟩ | ⟨b', off, cap, e, h1, h2, h3⟩
    · cases e
    · cases e
      exact (show Rd wx _ V from .inr ⟨_, _, _, rfl, h1, h2, h3⟩).other ⟨b, 1, none⟩ h.nv _

theorem NewX.drew {w wx : World} {b gu ku gv kv m n : Nat} {sq k : Int} {U V : List UInt8} (h : NewX w wx b gu ku gv kv m n sq k U V) : NewX w wx.drew b gu ku gv kv m n sq k U V :=
  ⟨⟨h.bx.bx.drew, h.bx.f0, h.bx.f1, h.bx.f2, h.bx.f3⟩, h.lb, h.nu, h.nv, h.lu, h.lv, h.ru.drew, h.rv.drew, h.be.drew⟩

theorem neb_ge {ov : Value} {B g o n c : Nat} {l : List UInt8} (h : ∀ q, ov.ownBlock = some q → q < B) (hg : B ≤ g) : NeB (.slice (some ⟨g, o, none⟩) n c) l ov :=
  .inr ⟨g, o, n, c, rfl, fun e => by have := h g e.symm; omega⟩

theorem seqR_step {F : List UInt8} {m i : Nat} (h0 : ¬ i = 0) (h7 : i ≤ 7) : seqR F m (7 - (i - 1)) = seqR F m (7 - i) * 256 + (F.getD (m + i) 0).toNat := by
  rw [show 7 - (i - 1) = (7 - i) + 1 by omega, seqR, show 7 - (7 - i) = i by omega]

theorem seqR_small (F : List UInt8) (m i : Nat) (h0 : ¬ i = 0) (h7 : i ≤ 7) : seqR F m (7 - i) < 281474976710656 := by
  have h := seqR_lt F m (7 - i)
  have : 256 ^ (7 - i) ≤ 256 ^ 6 := Nat.pow_le_pow_right (by omega) (by omega)
  have e : 256 ^ 6 = 281474976710656 := by decide
  omega

theorem seq_wraps {q f : Nat} (hq : q < 281474976710656) (hf : f < 256) : IntKind.u64.wrap ((q : Int) * 256) = (q : Int) * 256 ∧ IntKind.u64.wrap (f : Int) = (f : Int) ∧ IntKind.u64.wrap ((q : Int) * 256 + (f : Int)) = ((q * 256 + f : Nat) : Int) := by
  refine ⟨?_, ?_, ?_⟩
  · rw [IntKind.wrap_u64]; omega
  · rw [IntKind.wrap_u64]; omega
  · rw [IntKind.wrap_u64]; omega

theorem behind_le (l : List UInt8) : (behindS l).length ≤ l.length := by
  unfold behindS
  split
  · rw [List.length_drop]; omega
  · simp

set_option maxHeartbeats 16000000 in
theorem rlread_any (w : World) (v : Value) (p : List UInt8) (hv : Rd w v p) (hp : p.length ≤ 90000) :
    Calls Try.prog 20 #[v] w fun o w' => RRLPost p w w' o := by
  obtain ⟨i5, hi5, hz50, hz51, hz52⟩ := info_parts info5
  obtain ⟨i0, hi, hz0, hz1, hz2⟩ := info_parts infoEn
  have HV : Hid (Rd w v p) := hv
  obtain ⟨va, vc, rfl⟩ := hv.len
  obtain ⟨L, hL⟩ : ∃ L, p.length = L := ⟨_, rfl⟩
  have HL : Hid (p.length = L) := hL
  rw [hL] at HV hp ⊢
  have hLI : (L : Int) ≤ 90000 := by omega
  have hLI0 : (0 : Int) ≤ (L : Int) := by omega
  by_cases hl2 : L < 2
  · have h8I : (L : Int) < 2 := by omega
    have HE : Hid (readL p = none) := body_none (by unfold bodyS; rw [HL.out, if_pos hl2])
    clear hv hL
    go_enter Try.func20, Try.ntmps20
    go_wp2
    go_ret2
    exact rr_none HE.out (Below.refl _ _)
  · have h8I : ¬ (L : Int) < 2 := by omega
    rcases hv with ⟨e, rfl⟩ | ⟨b, off, cap, e, h1, h2, hc⟩
    · exact absurd hL (by simp; omega)
    cases e
    unfold maxLen at h2
    rw [hL] at h1
    obtain ⟨M, hM⟩ : ∃ M, L - 2 = M := ⟨_, rfl⟩
    obtain ⟨M1, hM1⟩ : ∃ M1, L - 1 = M1 := ⟨_, rfl⟩
    have g0 := hc M _ (bv_get p M (by omega))
    have g1 := hc M1 _ (bv_get p M1 (by omega))
    obtain ⟨x, hx⟩ : ∃ x, (p[M]'(by omega)).toNat = x := ⟨_, rfl⟩
    obtain ⟨y, hy⟩ : ∃ y, (p[M1]'(by omega)).toNat = y := ⟨_, rfl⟩
    have hxb := (p[M]'(by omega)).toNat_lt
    have hyb := (p[M1]'(by omega)).toNat_lt
    rw [hx] at g0 hxb
    rw [hy] at g1 hyb
    obtain ⟨C, hC⟩ : ∃ C, x + 256 * y = C := ⟨_, rfl⟩
    have hcn : cntS p = C := by
      unfold cntS
      rw [HL.out, hM, hM1, List.getD_eq_getElem?_getD, List.getD_eq_getElem?_getD, List.getElem?_eq_getElem (by omega), List.getElem?_eq_getElem (by omega)]
      simp only [Option.getD_some]
      rw [hx, hy]
      omega
    have hBS : bodyS p = if M < C * 2 then none else some (p.take (M - C * 2)) := by
      unfold bodyS
      rw [HL.out, if_neg hl2, hcn, hM]
    have HBS : Hid _ := hBS
    have HCN : Hid (cntS p = C) := hcn
    have hMI : (L : Int) - 2 = (M : Int) := by omega
    have hM1I : (L : Int) - 1 = (M1 : Int) := by omega
    have hM0 : (0 : Int) ≤ (M : Int) := by omega
    have hML : (M : Int) < (L : Int) := by omega
    have hM1L : (M1 : Int) < (L : Int) := by omega
    have hM10 : (0 : Int) ≤ (M1 : Int) := by omega
    have hCI : (C : Int) ≤ 65536 := by omega
    have hCI0 : (0 : Int) ≤ (C : Int) := by omega
    have HW : Hid (x < 256 ∧ y < 256 ∧ x + 256 * y = C) := ⟨hxb, hyb, hC⟩
    have hlc : (L : Int) ≤ (vc : Int) := by omega
    have HC : Hid (Cel w b off p) := hc
    have HCAP : Hid (L ≤ vc ∧ vc ≤ 9223372036854775807) := ⟨h1, h2⟩
    clear hM hM1 hx hy hC hcn hc hL hBS
    go_enter Try.func20, Try.ntmps20
    go_wp2_with fail
    obtain ⟨k1, k2, k3, k4, k5, k6⟩ := rr_wraps HW.out.1 HW.out.2.1 HW.out.2.2
    go_quiet (fail)
    clear k1 k2 k3 k4 k5 k6
    by_cases hmc : M < C * 2
    · have hmI : (M : Int) - 2 * (C : Int) < 0 := by omega
      have HE : Hid (readL p = none) := body_none (by rw [HBS.out, if_pos hmc])
      go_wp2
      go_ret2
      exact rr_none HE.out (below_drewN (Below.refl _ _) _)
    by_cases hc16 : 16 < C
    · have hcI : (16 : Int) < (C : Int) := by omega
      have HE : Hid (readL p = none) := cnt_small (by rw [HCN.out]; exact hc16)
      obtain ⟨k, hk⟩ : ∃ k, M - C * 2 = k := ⟨_, rfl⟩
      have hmI : (M : Int) - 2 * (C : Int) = (k : Int) := by omega
      have hk0 : ¬ (k : Int) < 0 := by omega
      clear hk
      go_wp2
      go_ret2
      exact rr_none HE.out (below_drewN (Below.refl _ _) _)
    have hcI : ¬ (16 : Int) < (C : Int) := by omega
    obtain ⟨k, hk⟩ : ∃ k, M - C * 2 = k := ⟨_, rfl⟩
    have hmI : (M : Int) - 2 * (C : Int) = (k : Int) := by omega
    have hk0 : ¬ (k : Int) < 0 := by omega
    have hk0' : (0 : Int) ≤ (k : Int) := by omega
    have hkc : (k : Int) ≤ (vc : Int) := by omega
    have HA : Hid (AtR p [] [] (p.take k) 0) := atR_first (by rw [HBS.out, if_neg hmc, hk])
    have HKL : Hid ((p.take k).length = k) := by show _ = _; rw [List.length_take, HL.out]; omega
    clear hk
    go_upto_block 0 with fail
    go_cut [7] (fun ov wx => ∃ (os : List EnB) (oa : Option Addr) (oc : Nat), ov = .slice oa os.length oc ∧ Hid (RdE wx ov os) ∧ Hid (readL p = if chkLf os = 0 ∧ leafB os = p then some os else none) ∧ Hid (Below w.heap.size w wx))
    case first =>
      go_wp2_with fail
      go_loopg [6, 7, 8] 65 (fun gk rv ov fv wr => ∃ (j : Nat) (os : List EnB) (F R : List UInt8) (oa fa ra : Option Addr) (oc fc rc : Nat), gk + j = 65 ∧ ov = .slice oa j oc ∧ fv = .slice fa F.length fc ∧ rv = .slice ra R.length rc ∧ Hid (RdRI w wr p ov fv rv os F R j))
      case atStart =>
        refine ⟨0, [], [], p.take k, none, none, _, 0, 0, _, rfl, rfl, rfl, by rw [HKL.out], ?_⟩
        exact ⟨OwnE.nil _ _, .inl ⟨rfl, rfl⟩, .inl rfl, Cel.rd HC.out (by rw [HL.out]; exact HCAP.out.1) HCAP.out.2 (by rw [HL.out]; omega), .inr ⟨_, _, _, _, rfl, by simp [Value.ownBlock]⟩, HA.out, rfl, by rw [HKL.out]; simp; omega, below_drewN (Below.refl _ _) _⟩
      case round =>
        obtain ⟨j, os, F, R, oa, fa, ra, oc, fc, rc, hj, rfl, rfl, rfl, HI⟩ := hrel
        obtain ⟨RL, hRL⟩ : ∃ n, R.length = n := ⟨_, rfl⟩
        obtain ⟨FL, hFL⟩ : ∃ n, F.length = n := ⟨_, rfl⟩
        have HRL : Hid (R.length = RL) := hRL
        have HFL : Hid (F.length = FL) := hFL
        rw [hRL, hFL] at HI ⊢
        have hfr : FL + RL ≤ 90000 := by have := HI.out.fl; rw [hRL, hFL] at this; exact this
        clear hRL hFL
        by_cases hR : R = []
        · have HE : Hid (readL p = if chkLf os = 0 ∧ leafB os = p then some os else none) := atR_done HI.out.st (.inl hR)
          have hR0 : RL = 0 := by rw [← HRL.out, hR]; rfl
          subst hR0
          go_wp2_with fail
          go_meet
          exact ⟨os, oa, oc, by rw [HI.out.nl], HI.out.ow.rd, HE, HI.out.be⟩
        by_cases hj65 : j = 65
        · subst hj65
          have HE : Hid (readL p = if chkLf os = 0 ∧ leafB os = p then some os else none) := atR_done HI.out.st (.inr (Nat.le_refl _))
          have hRp : 0 < RL := by rw [← HRL.out]; exact List.length_pos_iff.2 hR
          have hRI : (0 : Int) < (RL : Int) := by omega
          go_wp2_with fail
          go_meet
          exact ⟨os, oa, oc, by rw [HI.out.nl], HI.out.ow.rd, HE, HI.out.be⟩
        have hRp : 0 < RL := by rw [← HRL.out]; exact List.length_pos_iff.2 hR
        have hRI : (0 : Int) < (RL : Int) := by omega
        have hjI : (j : Int) < 65 := by omega
        obtain ⟨⟨n1, s1, e1⟩, hf1⟩ : ∃ y, frontS R = y := ⟨_, rfl⟩
        obtain ⟨R1, hR1⟩ : ∃ l, behindS R = l := ⟨_, rfl⟩
        obtain ⟨⟨n2, s2, e2⟩, hf2⟩ : ∃ y, frontS R1 = y := ⟨_, rfl⟩
        obtain ⟨R2, hR2⟩ : ∃ l, behindS R1 = l := ⟨_, rfl⟩
        obtain ⟨⟨n3, s3, e3⟩, hf3⟩ : ∃ y, frontS R2 = y := ⟨_, rfl⟩
        obtain ⟨D, hD⟩ : ∃ l, behindS R2 = l := ⟨_, rfl⟩
        have HB : Hid (¬ (e1 = 0 ∧ e2 = 0 ∧ e3 = 0 ∧ n1 ≤ F.length ∧ n2 ≤ D.length ∧ n3 ≤ D.length - n2 ∧ 8 ≤ n1 + n2) → readL p = none) := fun h => atR_bad HI.out.st hR hf1 hR1 hf2 hR2 hf3 hD h
        have HNX : Hid (∀ F' V R', F.take n1 ++ D.take n2 = F' → (D.drop n2).take n3 = V → D.drop (n2 + n3) = R' → AtR p (os ++ [entR F' V]) F' R' (j + 1)) := fun F' V R' a1 a2 a3 => atR_next HI.out.st hR hf1 hR1 hf2 hR2 hf3 hD a1 a2 a3
        have HV1 : Hid (∀ x, takeV R x = .tuple #[.int .u64 (n1 : Int), x, .int .i64 (e1 : Int)]) := by intro x; unfold takeV; rw [hf1]
        have HV2 : Hid (∀ x, takeV R1 x = .tuple #[.int .u64 (n2 : Int), x, .int .i64 (e2 : Int)]) := by intro x; unfold takeV; rw [hf2]
        have HV3 : Hid (∀ x, takeV R2 x = .tuple #[.int .u64 (n3 : Int), x, .int .i64 (e3 : Int)]) := by intro x; unfold takeV; rw [hf3]
        have HR1 : Hid (behindS R = R1) := hR1
        have HR2 : Hid (behindS R1 = R2) := hR2
        have HD : Hid (behindS R2 = D) := hD
        have HF3 : Hid (frontS R2 = (n3, s3, e3)) := hf3
        have hl1 : R1.length ≤ RL := by rw [← hR1, ← HRL.out]; exact behind_le _
        have hl2 : R2.length ≤ RL := by rw [← hR2]; exact Nat.le_trans (behind_le _) hl1
        have hl3 : D.length ≤ RL := by rw [← hD]; exact Nat.le_trans (behind_le _) hl2
        have htk := reftake_any wr _ R HI.out.ro (by rw [HRL.out]; omega)
        obtain ⟨CL, hCL⟩ : ∃ n, D.length = n := ⟨_, rfl⟩
        have HCL : Hid (D.length = CL) := hCL
        have HLL : Hid (R1.length ≤ 90000 ∧ R2.length ≤ 90000) := ⟨by omega, by omega⟩
        have hCL2 : CL ≤ RL := by rw [← hCL]; exact hl3
        clear hf1 hf2 hf3 hR1 hR2 hD hCL hl1 hl2 hl3
        go_wp2_with fail
        refine htk.mono ?_
        rintro o w1 ⟨x1, rfl, hp1, hb1⟩
        rw [HV1.out]
        have r1 := hp1.rd
        rw [HR1.out] at r1
        have HW1 : Hid (Below wr.heap.size wr w1) := hb1
        obtain ⟨xa1, xc1, rfl⟩ := r1.len
        have htk2 := reftake_any w1 _ R1 r1 (by have := HLL.out; omega)
        clear htk hb1 hp1 r1
        go_wp2_with fail
        refine htk2.mono ?_
        rintro o w2 ⟨x2, rfl, hp2, hb2⟩
        rw [HV2.out]
        have r2 := hp2.rd
        rw [HR2.out] at r2
        have HW2 : Hid (Below wr.heap.size wr w2) := bsplit HW1.out hb2
        obtain ⟨xa2, xc2, rfl⟩ := r2.len
        have htk3 := reftake_any w2 _ R2 r2 (by have := HLL.out; omega)
        clear htk2 hb2 hp2 r2
        go_wp2_with fail
        refine htk3.mono ?_
        rintro o w3 ⟨x3, rfl, hp3, hb3⟩
        rw [HV3.out]
        have r3 := hp3.rd
        rw [HD.out] at r3
        have HW3 : Hid (Below wr.heap.size wr w3) := bsplit HW2.out hb3
        have HBW3 : Hid (Below w.heap.size w w3) := bsplit HI.out.be HW3.out
        obtain ⟨xa3, xc3, hx3⟩ := r3.len
        rw [HCL.out] at hx3
        have HTP : Hid (TakePost R2 w2.heap.size w3 x3 ∧ wr.heap.size ≤ w2.heap.size) := ⟨hp3, HW2.out.size⟩
        subst hx3
        clear htk3 hb3 hp3 r3
        have hwF := u64_len FL (by omega)
        have hwC := u64_len CL (by omega)
        by_cases he1 : ¬ e1 = 0
        · have heI : ¬ (e1 : Int) = 0 := by omega
          have heb : ((e1 : Int) == 0) = false := by simpa using heI
          have HE : Hid (readL p = none) := HB.out (fun h => he1 h.1)
          go_wp2
          go_ret2
          exact rr_none HE.out HBW3.out
        obtain rfl := Decidable.not_not.1 he1
        clear he1
        by_cases he2 : ¬ e2 = 0
        · have heI : ¬ (e2 : Int) = 0 := by omega
          have heb : ((e2 : Int) == 0) = false := by simpa using heI
          have HE : Hid (readL p = none) := HB.out (fun h => he2 h.2.1)
          go_wp2
          go_ret2
          exact rr_none HE.out HBW3.out
        obtain rfl := Decidable.not_not.1 he2
        clear he2
        by_cases he3 : ¬ e3 = 0
        · have heI : ¬ (e3 : Int) = 0 := by omega
          have heb : ((e3 : Int) == 0) = false := by simpa using heI
          have HE : Hid (readL p = none) := HB.out (fun h => he3 h.2.2.1)
          go_wp2
          go_ret2
          exact rr_none HE.out HBW3.out
        obtain rfl := Decidable.not_not.1 he3
        clear he3
        by_cases hn1 : ¬ n1 ≤ FL
        · have heI : (FL : Int) < (n1 : Int) := by omega
          have heb : decide ((FL : Int) < (n1 : Int)) = true := decide_eq_true heI
          have HE : Hid (readL p = none) := HB.out (fun h => hn1 (by rw [← HFL.out]; exact h.2.2.2.1))
          go_wp2
          go_ret2
          exact rr_none HE.out HBW3.out
        have hn1 := Decidable.not_not.1 hn1
        have hn1I : ¬ (FL : Int) < (n1 : Int) := by omega
        have hn1b : decide ((FL : Int) < (n1 : Int)) = false := decide_eq_false hn1I
        by_cases hn2 : ¬ n2 ≤ CL
        · have heI : (CL : Int) < (n2 : Int) := by omega
          have heb : decide ((CL : Int) < (n2 : Int)) = true := decide_eq_true heI
          have HE : Hid (readL p = none) := HB.out (fun h => hn2 (by rw [← HCL.out]; exact h.2.2.2.2.1))
          go_wp2
          go_ret2
          exact rr_none HE.out HBW3.out
        have hn2 := Decidable.not_not.1 hn2
        have hn2I : ¬ (CL : Int) < (n2 : Int) := by omega
        have hn2b : decide ((CL : Int) < (n2 : Int)) = false := decide_eq_false hn2I
        obtain ⟨T, hT⟩ : ∃ T, CL - n2 = T := ⟨_, rfl⟩
        have hTI : (CL : Int) - (n2 : Int) = (T : Int) := by omega
        have hwT := u64_len T (by omega)
        have HT : Hid (CL - n2 = T) := hT
        by_cases hn3 : ¬ n3 ≤ T
        · have heI : (T : Int) < (n3 : Int) := by omega
          have heb : decide ((T : Int) < (n3 : Int)) = true := decide_eq_true heI
          have HE : Hid (readL p = none) := HB.out (fun h => hn3 (by rw [← HT.out, ← HCL.out]; exact h.2.2.2.2.2.1))
          clear hT
          go_wp2
          go_ret2
          exact rr_none HE.out HBW3.out
        have hn3 := Decidable.not_not.1 hn3
        have hn3I : ¬ (T : Int) < (n3 : Int) := by omega
        have hn3b : decide ((T : Int) < (n3 : Int)) = false := decide_eq_false hn3I
        obtain ⟨Z, hZ⟩ : ∃ Z, n1 + n2 = Z := ⟨_, rfl⟩
        have hZI : (n1 : Int) + (n2 : Int) = (Z : Int) := by omega
        have hwZ := u64_len Z (by omega)
        have HZ : Hid (n1 + n2 = Z) := hZ
        by_cases hz8 : Z < 8
        · have heI : (Z : Int) < 8 := by omega
          have heb : decide ((Z : Int) < 8) = true := decide_eq_true heI
          have HE : Hid (readL p = none) := HB.out (fun h => by have := h.2.2.2.2.2.2; omega)
          clear hT hZ
          go_wp2
          go_ret2
          exact rr_none HE.out HBW3.out
        have hz8I : ¬ (Z : Int) < 8 := by omega
        have hz8b : decide ((Z : Int) < 8) = false := decide_eq_false hz8I
        have HBD : Hid (n1 ≤ FL ∧ n2 ≤ CL ∧ n3 ≤ T ∧ ¬ Z < 8 ∧ FL + RL ≤ 90000 ∧ CL ≤ RL) := ⟨hn1, hn2, hn3, hz8, hfr, hCL2⟩
        obtain ⟨F', hF'⟩ : ∃ l, F.take n1 ++ D.take n2 = l := ⟨_, rfl⟩
        have HF' : Hid (F.take n1 ++ D.take n2 = F') := hF'
        have HTL : Hid ((F.take n1).length = n1) := by show _ = _; rw [List.length_take, HFL.out]; omega
        have HDL : Hid ((D.take n2).length = n2) := by show _ = _; rw [List.length_take, HCL.out]; omega
        have HZL : Hid (F'.length = Z) := by show _ = _; rw [← hF', List.length_append, HTL.out, HDL.out]; exact hZ
        have oD : Own w2.heap.size w3 (.slice xa3 CL xc3) D := by
          have h9 := HTP.out.1
          unfold TakePost at h9
          rw [HF3.out, if_pos rfl] at h9
          rw [← HD.out, behind_ok HF3.out]
          exact h9
        obtain ⟨g3, c3, ex3⟩ := oD.shape
        rw [HCL.out] at ex3
        cases ex3
        obtain ⟨u1', u2', u3', u4'⟩ := own_cel oD
        rw [HCL.out] at u2'
        have HCC : Hid (CL ≤ xc3 ∧ xc3 ≤ 9223372036854775807 ∧ w2.heap.size ≤ g3 ∧ g3 < w3.heap.size) := ⟨u2', u3', oD.lt.1, u4'⟩
        have HCD : Hid (Cel w3 g3 0 D) := u1'
        have hcapC : (CL : Int) ≤ (xc3 : Int) := by omega
        obtain ⟨_, _, efa, hfa1, _, _⟩ := Rd.spots HI.out.fo
        rw [HFL.out] at hfa1 efa
        cases efa
        have hcp := copy_any w3.drew (.slice fa n1 fc) (F.take n1) (Rd.drew (rd_front (HI.out.fo.below HW3.out (Nat.le_refl _)) (by rw [HFL.out]; exact hn1))).arg (by rw [HTL.out]; omega)
        have k0 : (0 : Int) ≤ (n1 : Int) := by omega
        have k1 : (n1 : Int) ≤ (fc : Int) := by omega
        have k2 : (0 : Int) ≤ (n2 : Int) := by omega
        have k3 : (n2 : Int) ≤ (xc3 : Int) := by omega
        clear hF' oD u1' u2' u3' u4' hT hZ
        go_wp2_with fail
        go_region_held3 (fun _ => True) (exact trivial)
          (first
            | (go_at_call 18; refine hcp.mono ?_; rintro e w4 ⟨x4, rfl, o4, hb4⟩
               obtain ⟨g4, c4, hx4⟩ := o4.shape
               rw [HTL.out] at hx4
               subst hx4
               have hrow4 := o4.row
               rw [HTL.out] at hrow4
               have hB4 : Below w3.heap.size w3 w4 := bsplit (Below.drew (Below.refl _ _)) hb4
               have hsrc4 : SrcOf w4 1 (.slice (some ⟨g3, 0, none⟩) n2 xc3) n2 (bv (D.take n2)) := src_rd ((Cel.rd HCD.out (by rw [HCL.out]; exact HCC.out.1) HCC.out.2.1 (by rw [HCL.out]; exact HBD.out.2.1)).below hB4 (Nat.le_refl _)) HDL.out
               clear hcp o4 hb4)
            | (refine step_append_src rfl (.tmp 125) (.tmp 128) 26 rfl w3.heap.size 5 i5 (.int .u8 0) 1 1 Try.underlying26 hi5 hz50 hz51 hz52 rfl (by decide) g4 n1 c4 (bv (F.take n1)) rfl hrow4 _ rfl n2 (bv (D.take n2)) hsrc4 (bv_one _) (by have := HBD.out; unfold maxLen; omega) (by have := HBD.out; omega) hB4.size w4.heap.size rfl Z HZ.out ?_
               intro g5 c5 w5 hw5 hg5 ha5
               have HB5 : Hid (Below w3.heap.size w3 w5) := hB4.grown hg5 hB4.size (fun k' e => by cases e; exact (hrow4.lt _ rfl).1)
               have HO5 : Hid (Own w3.heap.size w5 (.slice (some ⟨g5, 0, none⟩) Z c5) F') := by
                 have h9 := hw5
                 rw [← HZ.out] at h9 ⊢
                 rw [← HF'.out]
                 exact own_grew HTL.out HDL.out h9
               clear hrow4 hsrc4 hB4 hw5 hg5 ha5)
            | fail)
        clear k0 k1 k2 k3
        obtain ⟨M8, hM8⟩ : ∃ m, Z - 8 = m := ⟨_, rfl⟩
        have hM8I : (Z : Int) - 8 = (M8 : Int) := by omega
        have HM8 : Hid (Z - 8 = M8 ∧ 8 ≤ Z) := ⟨hM8, by omega⟩
        obtain ⟨kd, hkd⟩ : ∃ u, F'.getD M8 0 = u := ⟨_, rfl⟩
        have HKD : Hid (F'.getD M8 0 = kd) := hkd
        obtain ⟨KD, hKD⟩ : ∃ n, kd.toNat = n := ⟨_, rfl⟩
        have HKN : Hid (kd.toNat = KD) := hKD
        have hFc := own_cel HO5.out
        have HFC : Hid (Cel w5 g5 0 F' ∧ Z ≤ c5 ∧ c5 ≤ 9223372036854775807 ∧ g5 < w5.heap.size) := ⟨hFc.1, by have := hFc.2.1; rw [HZL.out] at this; exact this, hFc.2.2.1, hFc.2.2.2⟩
        have HS : Hid (∀ W, Below w5.heap.size w5 W → W.cell? ⟨g5, M8, none⟩ = some (.int .u8 (KD : Int))) := fun W hW => by
          have h9 := HFC.out.1 M8 (.int .u8 (KD : Int)) (by
            have h8 : M8 < F'.length := by rw [HZL.out]; have := HM8.out; omega
            rw [bv_get F' M8 h8, ← HKN.out, ← HKD.out, List.getD_eq_getElem?_getD, List.getElem?_eq_getElem h8]
            rfl)
          rw [Nat.zero_add] at h9
          exact (hW.cell (p := ⟨g5, M8, none⟩) HFC.out.2.2.2).trans h9
        have HUL : Hid ((F'.take M8).length = M8) := by show _ = _; rw [List.length_take, HZL.out]; have := HM8.out; omega
        have HA1 : Hid (∀ W, Below w5.heap.size w5 W → Arg W (.slice (some ⟨g5, 0, none⟩) M8 c5) (F'.take M8)) := fun W hW => ((Cel.rd HFC.out.1 (by rw [HZL.out]; exact HFC.out.2.1) HFC.out.2.2.1 (by rw [HZL.out]; have := HM8.out; omega)).below hW (Nat.le_refl _)).arg
        obtain ⟨V, hV⟩ : ∃ l, (D.drop n2).take n3 = l := ⟨_, rfl⟩
        have HV9 : Hid ((D.drop n2).take n3 = V) := hV
        have HVL : Hid (V.length = n3) := by show _ = _; rw [← hV, List.length_take, List.length_drop, HCL.out, HT.out]; omega
        have hW0 : Below w5.heap.size w5 w5.drew := (Below.refl _ _).drew
        have hW1 : Below w5.heap.size w5 (w5.alloc (.cells #[.slice none 0 0, .int .u64 0, .int .u8 0, .slice none 0 0] 45)).drew := ((Below.refl _ _).alloc (Nat.le_refl _) _).drew
        have HBX1 : Hid (Box4f (w5.alloc (.cells #[.slice none 0 0, .int .u64 0, .int .u8 0, .slice none 0 0] 45)).drew w5.heap.size (.slice none 0 0) (.int .u64 0) (.int .u8 0) (.slice none 0 0)) := by
          have h9 := box4f_new w5 (.slice none 0 0) (.int .u64 0) (.int .u8 0) (.slice none 0 0) 45
          exact ⟨h9.bx.drew, h9.f0, h9.f1, h9.f2, h9.f3⟩
        have HBX2 : Hid (∀ W : World, Box4f (W.alloc (.cells #[.slice none 0 0, .int .u64 0, .int .u8 0, .slice none 0 0] 45)) W.heap.size (.slice none 0 0) (.int .u64 0) (.int .u8 0) (.slice none 0 0)) := fun W => box4f_new W (.slice none 0 0) (.int .u64 0) (.int .u8 0) (.slice none 0 0) 45
        have HBD3 : Hid (Cel w5 g3 0 D) := HCD.out.below HB5.out
        clear hM8 hkd hKD hFc hV
        go_upto_region 18 with fail
        go_cut [19] (fun xv wx => ∃ (bx gu ku gv kv : Nat), xv = .pointer (some ⟨bx, 0, none⟩) ∧ Hid (NewX w5 wx bx gu ku gv kv M8 n3 0 (KD : Int) (F'.take M8) V))
        case first =>
          obtain ⟨S2, hS2⟩ : ∃ S2, n2 + n3 = S2 := ⟨_, rfl⟩
          have hS2I : (n2 : Int) + (n3 : Int) = (S2 : Int) := by omega
          have hwS2 := u64_len S2 (by have := HBD.out; have := HT.out; omega)
          have k1 : (M8 : Int) ≤ (c5 : Int) := by have := HFC.out; have := HM8.out; omega
          have k2 : (0 : Int) ≤ (M8 : Int) := by omega
          have k3 : (M8 : Int) < (Z : Int) := by have := HM8.out; omega
          have k4 : (n2 : Int) ≤ (S2 : Int) := by omega
          have k5 : (S2 : Int) ≤ (xc3 : Int) := by have := HBD.out; have := HT.out; have := HCC.out; omega
          have k6 : (0 : Int) ≤ (n2 : Int) := by omega
          have k7 : (S2 : Int) - (n2 : Int) = (n3 : Int) := by omega
          by_cases hcn : xc3 = n2
          · have hn30 : n3 = 0 := by have := HBD.out; have := HT.out; have := HCC.out; omega
            have hV0 : V = [] := List.eq_nil_of_length_eq_zero (by rw [HVL.out, hn30])
            have HA2 : Hid (∀ W, Below w5.heap.size w5 W → Arg W (.slice (some ⟨g3, 0, none⟩) (S2 - n2) 0) V) := fun W hW => by
              rw [hV0, show S2 - n2 = 0 by omega]
              exact (rd_none _ _ _ (by unfold maxLen; omega)).arg
            clear hcapC hn2I hn2b hn30
            subst hcn
            clear hV0
            clear hS2
            go_region_held3 (fun w' => w'.cell? ⟨g5, M8, none⟩ = some (.int .u8 (KD : Int)))
              (first | with_reducible exact HS.out _ HB7.out | with_reducible exact HS.out _ (below_store4 HB7.out HB6.out.size _ _ _ _) | with_reducible exact HS.out _ (below_store4 HB7.out (Nat.le_refl _) _ _ _ _) | with_reducible exact HS.out _ (below_store4 (HB7.out.alloc HB7.out.size _) HB7.out.size _ _ _ _) | with_reducible exact HS.out _ (HB7.out.alloc HB7.out.size _) | with_reducible exact HS.out _ HB6.out | with_reducible exact HS.out _ (HB6.out.alloc HB6.out.size _) | with_reducible exact HS.out _ hW0 | with_reducible exact HS.out _ hW1 | fail "keep")
              (first
                | (go_at_call 18
                   refine (copy_any _ _ (F'.take M8) (by first | with_reducible exact HA1.out _ hW0 | with_reducible exact HA1.out _ hW1) (by rw [HUL.out]; have := HBD.out; omega)).mono ?_
                   rintro e w6 ⟨x6, rfl, o6, hb6⟩
                   obtain ⟨gu, ku, hx6⟩ := o6.shape
                   rw [HUL.out] at hx6
                   subst hx6
                   have HB6 : Hid (Below w5.heap.size w5 w6) := by first | exact bsplit hW0 hb6 | exact bsplit hW1 hb6
                   clear HA1)
                | (go_at_call 18
                   refine (copy_any _ _ V (by first | with_reducible exact HA2.out _ HB6.out | with_reducible exact HA2.out _ (HB6.out.alloc HB6.out.size _)) (by rw [HVL.out]; have := HBD.out; omega)).mono ?_
                   rintro e w7 ⟨x7, rfl, o7, hb7⟩
                   obtain ⟨gv, kv, hx7⟩ := o7.shape
                   rw [HVL.out] at hx7
                   subst hx7
                   have HB7 : Hid (Below w5.heap.size w5 w7) := by first | exact bsplit HB6.out hb7 | exact bsplit (HB6.out.alloc HB6.out.size _) hb7
                   first
                     | (obtain ⟨⟨c0, c1, c2, c3⟩, f0, f1, f2, f3⟩ := (HBX1.out.below hb6 (Nat.le_refl _)).below hb7 (Nat.le_refl _))
                     | (obtain ⟨⟨c0, c1, c2, c3⟩, f0, f1, f2, f3⟩ := (HBX2.out w6).below hb7 (Nat.le_refl _))
                     | skip)
                | fail "arm")
            all_goals (go_wp2_with fail; go_meet; first | exact ⟨_, gu, ku, gv, kv, rfl, newX_last HB6.out o6 (Nat.le_refl _) hb7 o7⟩ | exact ⟨_, gu, ku, gv, kv, rfl, newX_mid HB6.out o6 (Nat.le_refl _) hb7 o7⟩ | exact ⟨_, gu, ku, gv, kv, rfl, newX_first hb6 o6 hb7 o7⟩)
          · have hcnI : ¬ (xc3 : Int) = (n2 : Int) := by omega
            have HA2 : Hid (∀ W, Below w5.heap.size w5 W → Arg W (.slice (some ⟨g3, n2, none⟩) (S2 - n2) (xc3 - n2)) V) := fun W hW => by
              rw [show S2 - n2 = n3 by omega]
              have h9 := rd_sub HBD3.out n2 n3 (xc3 - n2) (by have := HBD.out; have := HT.out; have := HCC.out; omega) (by have := HCC.out; unfold maxLen; omega) (by rw [HCL.out]; have := HBD.out; have := HT.out; omega)
              rw [Nat.zero_add, HV9.out] at h9
              exact (h9.below hW (Nat.le_refl _)).arg
            clear hS2
            go_region_held3 (fun w' => w'.cell? ⟨g5, M8, none⟩ = some (.int .u8 (KD : Int)))
              (first | with_reducible exact HS.out _ HB7.out | with_reducible exact HS.out _ (below_store4 HB7.out HB6.out.size _ _ _ _) | with_reducible exact HS.out _ (below_store4 HB7.out (Nat.le_refl _) _ _ _ _) | with_reducible exact HS.out _ (below_store4 (HB7.out.alloc HB7.out.size _) HB7.out.size _ _ _ _) | with_reducible exact HS.out _ (HB7.out.alloc HB7.out.size _) | with_reducible exact HS.out _ HB6.out | with_reducible exact HS.out _ (HB6.out.alloc HB6.out.size _) | with_reducible exact HS.out _ hW0 | with_reducible exact HS.out _ hW1 | fail "keep")
              (first
                | (go_at_call 18
                   refine (copy_any _ _ (F'.take M8) (by first | with_reducible exact HA1.out _ hW0 | with_reducible exact HA1.out _ hW1) (by rw [HUL.out]; have := HBD.out; omega)).mono ?_
                   rintro e w6 ⟨x6, rfl, o6, hb6⟩
                   obtain ⟨gu, ku, hx6⟩ := o6.shape
                   rw [HUL.out] at hx6
                   subst hx6
                   have HB6 : Hid (Below w5.heap.size w5 w6) := by first | exact bsplit hW0 hb6 | exact bsplit hW1 hb6
                   clear HA1)
                | (go_at_call 18
                   refine (copy_any _ _ V (by first | with_reducible exact HA2.out _ HB6.out | with_reducible exact HA2.out _ (HB6.out.alloc HB6.out.size _)) (by rw [HVL.out]; have := HBD.out; omega)).mono ?_
                   rintro e w7 ⟨x7, rfl, o7, hb7⟩
                   obtain ⟨gv, kv, hx7⟩ := o7.shape
                   rw [HVL.out] at hx7
                   subst hx7
                   have HB7 : Hid (Below w5.heap.size w5 w7) := by first | exact bsplit HB6.out hb7 | exact bsplit (HB6.out.alloc HB6.out.size _) hb7
                   first
                     | (obtain ⟨⟨c0, c1, c2, c3⟩, f0, f1, f2, f3⟩ := (HBX1.out.below hb6 (Nat.le_refl _)).below hb7 (Nat.le_refl _))
                     | (obtain ⟨⟨c0, c1, c2, c3⟩, f0, f1, f2, f3⟩ := (HBX2.out w6).below hb7 (Nat.le_refl _))
                     | skip)
                | fail "arm")
            all_goals (go_wp2_with fail; go_meet; first | exact ⟨_, gu, ku, gv, kv, rfl, newX_last HB6.out o6 (Nat.le_refl _) hb7 o7⟩ | exact ⟨_, gu, ku, gv, kv, rfl, newX_mid HB6.out o6 (Nat.le_refl _) hb7 o7⟩ | exact ⟨_, gu, ku, gv, kv, rfl, newX_first hb6 o6 hb7 o7⟩)
        case rest =>
          obtain ⟨bx, gu, ku, gv, kv, rfl, HNW⟩ := hcut
          have HFB : Hid (∀ (W : World) (i : Nat), Below w5.heap.size w5 W → i < 8 → W.cell? ⟨g5, M8 + i, none⟩ = some (.int .u8 ((F'.getD (M8 + i) 0).toNat : Int))) := fun W i hW hi => by
            have h8 : M8 + i < F'.length := by rw [HZL.out]; have := HM8.out; omega
            have h9 := HFC.out.1 (M8 + i) _ (bv_get F' (M8 + i) h8)
            rw [Nat.zero_add] at h9
            rw [List.getD_eq_getElem?_getD, List.getElem?_eq_getElem h8]
            exact (hW.cell (p := ⟨g5, M8 + i, none⟩) HFC.out.2.2.2).trans h9
          obtain ⟨q1, q2⟩ := gk_nxt hj (show j < 65 by omega)
          go_wp2_with fail
          obtain ⟨G, hG⟩ : ∃ G, G = gk := ⟨_, rfl⟩
          subst hG
          obtain ⟨wo, hwo⟩ : ∃ wo, wo = wr := ⟨_, rfl⟩
          subst hwo
          go_loopg [20] 7 (fun gk iv wr => ∃ i : Nat, i = gk ∧ i ≤ 7 ∧ iv = .int .i64 (i : Int) ∧ Hid (NewX w5 wr bx gu ku gv kv M8 n3 (seqR F' M8 (7 - i) : Int) (KD : Int) (F'.take M8) V))
          case atStart => exact ⟨7, rfl, Nat.le_refl _, rfl, HNW.out⟩
          case round =>
            obtain ⟨i, hgi, hi7, rfl, HY⟩ := hrel
            subst hgi
            by_cases hi0 : i = 0
            · subst hi0
              obtain ⟨Q7, hQ7⟩ : ∃ q, seqR F' M8 (7 - 0) = q := ⟨_, rfl⟩
              rw [hQ7] at HY
              have HENT : Hid (entR F' V = (F'.take M8, Q7, kd, V)) := by
                show _ = _
                unfold entR
                rw [HZL.out, HM8.out.1, HKD.out, ← hQ7]
              obtain ⟨⟨c0, c1, c2, c3⟩, _⟩ := HY.out.bx
              obtain ⟨S2, hS2⟩ : ∃ S2, n2 + n3 = S2 := ⟨_, rfl⟩
              obtain ⟨R', hR'⟩ : ∃ l, D.drop (n2 + n3) = l := ⟨_, rfl⟩
              have HST : Hid (AtR p (os ++ [entR F' V]) F' R' (j + 1)) := HNX.out F' V R' HF'.out HV9.out hR'
              have HRL2 : Hid (R'.length = CL - S2) := by show _ = _; rw [← hR', List.length_drop, HCL.out, hS2]
              have HFLR : Hid (F'.length + R'.length ≤ 90000) := by show _ ≤ _; rw [HZL.out, HRL2.out]; have := HBD.out; have := HT.out; have := HZ.out; omega
              have hlit := laid4 wr (.slice (some ⟨gu, 0, none⟩) M8 ku) (.int .u64 (Q7 : Int)) (.int .u8 (KD : Int)) (.slice (some ⟨gv, 0, none⟩) n3 kv) 45
              have hbe := below_box4 wr (.cells #[.slice (some ⟨gu, 0, none⟩) M8 ku, .int .u64 (Q7 : Int), .int .u8 (KD : Int), .slice (some ⟨gv, 0, none⟩) n3 kv] 45)
              have HB35 : Hid (Below wo.heap.size wo w5) := bsplit HW3.out HB5.out
              have HBR2 : Hid (Below wo.heap.size wo (wr.alloc (.cells #[.slice (some ⟨gu, 0, none⟩) M8 ku, .int .u64 (Q7 : Int), .int .u8 (KD : Int), .slice (some ⟨gv, 0, none⟩) n3 kv] 45))) := bsplit (bsplit HB35.out HY.out.be) hbe
              have HBE : Hid (Below w.heap.size w (wr.alloc (.cells #[.slice (some ⟨gu, 0, none⟩) M8 ku, .int .u64 (Q7 : Int), .int .u8 (KD : Int), .slice (some ⟨gv, 0, none⟩) n3 kv] 45))) := bsplit HI.out.be HBR2.out
              have hse := HBE.out.size
              have HB5E : Hid (Below w5.heap.size w5 (wr.alloc (.cells #[.slice (some ⟨gu, 0, none⟩) M8 ku, .int .u64 (Q7 : Int), .int .u8 (KD : Int), .slice (some ⟨gv, 0, none⟩) n3 kv] 45))) := bsplit HY.out.be hbe
              obtain ⟨cs, hrow, hel⟩ := HI.out.ow.below HBR2.out (Nat.le_refl _)
              rw [HI.out.nl] at hrow
              have HLW : Hid (∀ q, (Value.slice oa j oc).ownBlock = some q → q < wo.heap.size) := fun q hq => (HI.out.ow.lt q hq).2
              have HSZ5 : Hid (wo.heap.size ≤ w5.heap.size) := HB35.out.size
              have HMK : Hid (∀ (g4 c4 : Nat) (w4 : World), w4.ownsRow w.heap.size 45 4 (.slice (some ⟨g4, 0, none⟩) (j + 1) c4) (j + 1) (cs ++ [.slice (some ⟨gu, 0, none⟩) M8 ku, .int .u64 (Q7 : Int), .int .u8 (KD : Int), .slice (some ⟨gv, 0, none⟩) n3 kv]) → (wr.alloc (.cells #[.slice (some ⟨gu, 0, none⟩) M8 ku, .int .u64 (Q7 : Int), .int .u8 (KD : Int), .slice (some ⟨gv, 0, none⟩) n3 kv] 45)).grownBy w4 (Value.slice oa j oc).ownBlock → ((Value.slice oa j oc).ownBlock = some g4 ∨ g4 = (wr.alloc (.cells #[.slice (some ⟨gu, 0, none⟩) M8 ku, .int .u64 (Q7 : Int), .int .u8 (KD : Int), .slice (some ⟨gv, 0, none⟩) n3 kv] 45)).heap.size) → ∀ rv, (∃ ro rn rc, rv = .slice (some ⟨g3, ro, none⟩) rn rc ∧ Rd w3 rv R') → RdRI w w4 p (.slice (some ⟨g4, 0, none⟩) (j + 1) c4) (.slice (some ⟨g5, 0, none⟩) Z c5) rv (os ++ [entR F' V]) F' R' (j + 1)) := by
                intro g4 c4 w4 hown hgrow hat rv hrv
                obtain ⟨ro, rn, rc', rfl, hrd⟩ := hrv
                rw [← HKN.out] at hown
                have hst := HST.out
                rw [HENT.out] at hst ⊢
                have hnf : NeB (.slice (some ⟨g5, 0, none⟩) Z c5) F' (.slice oa j oc) := neb_ge HLW.out (Nat.le_trans HW3.out.size HO5.out.lt.1)
                have hnr : NeB (.slice (some ⟨g3, ro, none⟩) rn rc') R' (.slice oa j oc) := neb_ge HLW.out (Nat.le_trans HTP.out.2 HCC.out.2.2.1)
                have hrf : Rd (wr.alloc (.cells #[.slice (some ⟨gu, 0, none⟩) M8 ku, .int .u64 (Q7 : Int), .int .u8 (KD : Int), .slice (some ⟨gv, 0, none⟩) n3 kv] 45)) (.slice (some ⟨g5, 0, none⟩) Z c5) F' := HO5.out.rd.below HB5E.out (Nat.le_refl _)
                have hrr : Rd (wr.alloc (.cells #[.slice (some ⟨gu, 0, none⟩) M8 ku, .int .u64 (Q7 : Int), .int .u8 (KD : Int), .slice (some ⟨gv, 0, none⟩) n3 kv] 45)) (.slice (some ⟨g3, ro, none⟩) rn rc') R' := hrd.below (bsplit HB5.out HB5E.out) (Nat.le_refl _)
                refine ⟨own_pushE (F'.take M8, Q7, kd, V) HI.out.nl hrow hel ⟨HY.out.ru.below hbe (Nat.le_refl _), neb_ge HLW.out (Nat.le_trans HSZ5.out HY.out.lu)⟩ ⟨HY.out.rv.below hbe (Nat.le_refl _), neb_ge HLW.out (Nat.le_trans HSZ5.out HY.out.lv)⟩ hown hgrow hat, rd_grown hrf hgrow hnf, neb_step hnf hrf hat, rd_grown hrr hgrow hnr, neb_step hnr hrr hat, hst, by rw [List.length_append, HI.out.nl]; rfl, HFLR.out, HBE.out.grown hgrow hse (fun k' e => (hrow.lt k' e).1)⟩
              have HJ : Hid (j < 65) := by show j < 65; omega
              have hS2I : (n2 : Int) + (n3 : Int) = (S2 : Int) := by omega
              have hwS2 := u64_len S2 (by have := HBD.out; have := HT.out; omega)
              have k5 : (S2 : Int) ≤ (CL : Int) := by have := HBD.out; have := HT.out; omega
              have k6 : (0 : Int) ≤ (S2 : Int) := by omega
              have k7 : (S2 : Int) ≤ (xc3 : Int) := by have := HCC.out; omega
              by_cases hcn : xc3 = S2
              · have hCS : CL = S2 := by have := HCC.out; omega
                have RVAL : Hid (∃ ro rn rc, Value.slice (some ⟨g3, 0, none⟩) (CL - S2) 0 = .slice (some ⟨g3, ro, none⟩) rn rc ∧ Rd w3 (Value.slice (some ⟨g3, 0, none⟩) (CL - S2) 0) R') := by
                  refine ⟨0, _, _, rfl, ?_⟩
                  have : R' = [] := List.eq_nil_of_length_eq_zero (by rw [HRL2.out]; omega)
                  rw [this, show CL - S2 = 0 by omega]
                  exact rd_none _ _ _ (by unfold maxLen; omega)
                clear hS2 hR' hel hbe hQ7 hCS hcapC
                subst hcn
                go_wp2_with (first | (at_builtin; refine wpList_append_lies _ rfl (.tmp 168) (.tmp 170) 22 rfl w.heap.size 45 i0 (.agg #[.slice none 0 0, .int .u64 0, .int .u8 0, .slice none 0 0]) 4 64 Try.underlying22 hi hz0 hz1 hz2 rfl (by decide) (.slice oa j oc) j cs rfl hrow ⟨wr.heap.size, 0, none⟩ 1 1 [.slice (some ⟨gu, 0, none⟩) M8 ku, .int .u64 (Q7 : Int), .int .u8 (KD : Int), .slice (some ⟨gv, 0, none⟩) n3 kv] rfl rfl hlit (oneE _ _ _ _ _ _ _ _) (by decide) (by have := HJ.out; simp only [maxLen]; omega) (by have := HJ.out; omega) hse _ rfl ?_; intro g4 c4 w4 hown hgrow hat hlt4; have HI4 : Hid (RdRI w w4 p (.slice (some ⟨g4, 0, none⟩) (j + 1) c4) (.slice (some ⟨g5, 0, none⟩) Z c5) (.slice (some ⟨g3, 0, none⟩) (CL - xc3) 0) (os ++ [entR F' V]) F' R' (j + 1)) := (HMK.out g4 c4 w4 hown hgrow hat (.slice (some ⟨g3, 0, none⟩) (CL - xc3) 0) (by exact RVAL.out)); clear hown hgrow hat hlt4) | fail)
                clear hrow hlit hse c0 c1 c2 c3
                go_roundg (G - 1)
                case measure => exact q1
                case rel => exact ⟨j + 1, os ++ [entR F' V], F', R', _, _, _, _, _, _, q2, rfl, by rw [HZL.out], by rw [HRL2.out], HI4⟩
              · have hcnI : ¬ (xc3 : Int) = (S2 : Int) := by omega
                have RVAL : Hid (∃ ro rn rc, Value.slice (some ⟨g3, S2, none⟩) (CL - S2) (xc3 - S2) = .slice (some ⟨g3, ro, none⟩) rn rc ∧ Rd w3 (Value.slice (some ⟨g3, S2, none⟩) (CL - S2) (xc3 - S2)) R') := by
                  refine ⟨_, _, _, rfl, ?_⟩
                  have h9 := rd_sub HCD.out S2 (CL - S2) (xc3 - S2) (by have := HCC.out; omega) (by have := HCC.out; unfold maxLen; omega) (by rw [HCL.out]; omega)
                  rw [Nat.zero_add, List.take_of_length_le (by rw [List.length_drop, HCL.out]; exact Nat.le_refl _), ← hS2, hR'] at h9
                  rw [← hS2]
                  exact h9
                clear hS2 hR' hel hbe hQ7
                go_wp2_with (first | (at_builtin; refine wpList_append_lies _ rfl (.tmp 168) (.tmp 170) 22 rfl w.heap.size 45 i0 (.agg #[.slice none 0 0, .int .u64 0, .int .u8 0, .slice none 0 0]) 4 64 Try.underlying22 hi hz0 hz1 hz2 rfl (by decide) (.slice oa j oc) j cs rfl hrow ⟨wr.heap.size, 0, none⟩ 1 1 [.slice (some ⟨gu, 0, none⟩) M8 ku, .int .u64 (Q7 : Int), .int .u8 (KD : Int), .slice (some ⟨gv, 0, none⟩) n3 kv] rfl rfl hlit (oneE _ _ _ _ _ _ _ _) (by decide) (by have := HJ.out; simp only [maxLen]; omega) (by have := HJ.out; omega) hse _ rfl ?_; intro g4 c4 w4 hown hgrow hat hlt4; have HI4 : Hid (RdRI w w4 p (.slice (some ⟨g4, 0, none⟩) (j + 1) c4) (.slice (some ⟨g5, 0, none⟩) Z c5) (.slice (some ⟨g3, S2, none⟩) (CL - S2) (xc3 - S2)) (os ++ [entR F' V]) F' R' (j + 1)) := (HMK.out g4 c4 w4 hown hgrow hat (.slice (some ⟨g3, S2, none⟩) (CL - S2) (xc3 - S2)) (by exact RVAL.out)); clear hown hgrow hat hlt4) | fail)
                clear hrow hlit hse c0 c1 c2 c3
                go_roundg (G - 1)
                case measure => exact q1
                case rel => exact ⟨j + 1, os ++ [entR F' V], F', R', _, _, _, _, _, _, q2, rfl, by rw [HZL.out], by rw [HRL2.out], HI4⟩
            · obtain ⟨q, hq⟩ : ∃ q, seqR F' M8 (7 - i) = q := ⟨_, rfl⟩
              obtain ⟨f, hf⟩ : ∃ f, (F'.getD (M8 + i) 0).toNat = f := ⟨_, rfl⟩
              have hcl := HFB.out wr i HY.out.be (by omega)
              rw [hf] at hcl
              rw [hq] at HY
              obtain ⟨X, hX⟩ : ∃ X, M8 + i = X := ⟨_, rfl⟩
              have hqs := seqR_small F' M8 i hi0 hi7
              rw [hq] at hqs
              have hst := seqR_step (F := F') (m := M8) hi0 hi7
              rw [hq, hf] at hst
              have hfl := (F'.getD (M8 + i) 0).toNat_lt
              rw [hf] at hfl
              have HWR : Hid (q < 281474976710656 ∧ f < 256) := ⟨hqs, hfl⟩
              obtain ⟨q', hq'⟩ : ∃ q', q * 256 + f = q' := ⟨_, rfl⟩
              have HQ' : Hid (q * 256 + f = q') := hq'
              rw [hq'] at hst
              have HST : Hid (seqR F' M8 (7 - (i - 1)) = q') := hst
              rw [hX] at hcl
              have hXI : (M8 : Int) + (i : Int) = (X : Int) := by omega
              have hX0 : (0 : Int) ≤ (X : Int) := by omega
              have hXZ : (X : Int) < (Z : Int) := by have := HM8.out; omega
              have hiI : (0 : Int) < (i : Int) := by omega
              have hi8 : (i : Int) ≤ 7 := by omega
              have q3 : i - 1 < i := by omega
              have q4 : i - 1 ≤ 7 := by omega
              have hi1 : (i : Int) - 1 = ((i - 1 : Nat) : Int) := by omega
              obtain ⟨⟨c0, c1, c2, c3⟩, f0, f1, f2, f3⟩ := HY.out.bx
              clear hq hf hX hqs hst hfl hq'
              go_wp2_with fail
              obtain ⟨v1, v2, v3⟩ := seq_wraps HWR.out.1 HWR.out.2
              rw [HQ'.out] at v3
              go_region
              clear v1 v2 v3
              go_wp2_with fail
              go_roundg (i - 1)
              case measure => exact q3
              case rel => exact ⟨i - 1, rfl, q4, rfl, by show NewX _ _ _ _ _ _ _ _ _ _ _ _ _; rw [HST.out]; exact (HY.out.seq (q' : Int)).drew⟩
    case rest =>
      obtain ⟨os, oa, oc, rfl, HX, HR, HB⟩ := hcut
      have HXx := HX.out
      obtain ⟨N, hN⟩ : ∃ n, os.length = n := ⟨_, rfl⟩
      rw [hN] at HXx HX ⊢
      clear hN
      by_cases hck : chkLf os = 0
      · have hbu := rlbuild_ok wc _ os HXx hck
        clear HXx
        go_wp2_with fail
        refine hbu.mono ?_
        rintro o w2 ⟨q, rfl, oq, hb2⟩
        have HB2 : Hid (Below w.heap.size w w2) := bsplit HB.out hb2
        obtain ⟨gq, cq, rfl⟩ := oq.shape
        obtain ⟨r, hr⟩ : ∃ r, (leafB os == p) = r := ⟨_, rfl⟩
        have heq := same_b w2 _ _ (leafB os) p r oq.rd (HV.out.below HB2.out (Nat.le_refl _)) hr
        have HX2 : Hid (RdE w2 (.slice oa N oc) os) := rdE_below HX.out hb2 (Nat.le_refl _)
        obtain ⟨QL, hQL⟩ : ∃ n, (leafB os).length = n := ⟨_, rfl⟩
        rw [hQL] at heq ⊢
        clear hbu hb2 oq hQL
        cases r with
        | true =>
          have HE : Hid (readL p = some os) := by show _ = _; rw [HR.out, if_pos ⟨hck, by simpa using hr⟩]
          go_wp2_with fail
          refine heq.mono ?_
          rintro o w3 ⟨rfl, rfl⟩
          clear heq
          go_wp2
          go_ret2
          refine ⟨HB2.out, ?_⟩
          rw [HE.out]
          exact ⟨_, rfl, HX2.out⟩
        | false =>
          have HE : Hid (readL p = none) := by show _ = _; rw [HR.out, if_neg]; rintro ⟨_, h⟩; rw [h] at hr; simp at hr
          go_wp2_with fail
          refine heq.mono ?_
          rintro o w3 ⟨rfl, rfl⟩
          clear heq
          go_wp2
          go_ret2
          exact rr_none HE.out HB2.out
      · obtain ⟨c, hcc⟩ : ∃ c, chkLf os = c := ⟨_, rfl⟩
        have hc0 : ¬ c = 0 := by rw [← hcc]; exact hck
        have hcb : (c == 0) = false := by simpa using hc0
        have hbu := rlbuild_err wc _ os c HXx hcc hc0
        have HE : Hid (readL p = none) := by show _ = _; rw [HR.out, if_neg]; exact fun h => hck h.1
        clear HXx hcc
        go_wp2_with fail
        refine hbu.mono ?_
        rintro o w2 ⟨rfl, hb2⟩
        have HB2 : Hid (Below w.heap.size w w2) := bsplit HB.out hb2
        clear hbu hb2
        go_wp2
        go_ret2
        exact rr_none HE.out HB2.out

end Go.Proofs.Ytdopfijoplldkaa

/- LeafReads answers true: all bytes are a leaf, or none; at every place the next entry and the one ahead are told; bytes come back untouched. -/
namespace Go.Proofs.Ytdopfijoplldkaa
set_option maxRecDepth 20000
open Go.RowKit
set_option linter.unusedVariables false
set_option linter.unusedSimpArgs false

/-- one cell -/
structure C1 (w : World) (b i : Nat) (v : Value) : Prop where
  c : w.cell? ⟨b, i, none⟩ = some v

theorem C1.below {B : Nat} {w w' : World} {b i : Nat} {v : Value} (h : C1 w b i v) (hb : Below B w w') (hB : w.heap.size ≤ B) : C1 w' b i v :=
  ⟨by rw [hb.cell (p := ⟨b, i, none⟩) (Nat.lt_of_lt_of_le (World.block_lt_of_cell? w _ h.c) hB)]; exact h.c⟩

abbrev eZ : EnB := ([], 0, 0, [])

/-- what was read, as a list and a number -/
def theL (q : Option (List EnB)) : List EnB := match q with | some es => es | none => []
def theC (q : Option (List EnB)) : Nat := match q with | some _ => 0 | none => 4
def theO (q : Option EnB) : EnB := match q with | some e => e | none => eZ
def isO (q : Option EnB) : Bool := match q with | some _ => true | none => false
def fromO (es : List EnB) (K : EnB) : Option EnB := es[cntE es K]?
def befO (es : List EnB) (K : EnB) : Option EnB := if cntE es K = 0 then none else es[cntE es K - 1]?

theorem RdLPost.all {p : List UInt8} {w w' : World} {o : Ending} (h : RdLPost p w w' o) : ∃ xa xc, o = .returned (.tuple #[.slice xa (theL (readL p)).length xc, .int .i64 (theC (readL p) : Int)]) ∧ RdE w' (.slice xa (theL (readL p)).length xc) (theL (readL p)) ∧ Below w.heap.size w w' := by
  obtain ⟨hb, h⟩ := h
  cases hr : readL p with
  | none => rw [hr] at h; exact ⟨none, 0, h, LsE.nil _ _, hb⟩
  | some es =>
    rw [hr] at h
    obtain ⟨x, rfl, rx, _⟩ := h
    obtain ⟨xa, xc, rfl⟩ := rx.shape
    exact ⟨xa, xc, rfl, rx, hb⟩

theorem RRLPost.all {p : List UInt8} {w w' : World} {o : Ending} (h : RRLPost p w w' o) : ∃ xa xc, o = .returned (.tuple #[.slice xa (theL (readL p)).length xc, .int .i64 (theC (readL p) : Int)]) ∧ RdE w' (.slice xa (theL (readL p)).length xc) (theL (readL p)) ∧ Below w.heap.size w w' := by
  obtain ⟨hb, h⟩ := h
  cases hr : readL p with
  | none => rw [hr] at h; exact ⟨none, 0, h, LsE.nil _ _, hb⟩
  | some es =>
    rw [hr] at h
    obtain ⟨x, rfl, rx⟩ := h
    obtain ⟨xa, xc, rfl⟩ := rx.shape
    exact ⟨xa, xc, rfl, rx, hb⟩

theorem FndPost.all {q : Option (Option EnB)} {E : EnB} {B : Bool} {C : Nat} {w w' : World} {o : Ending} (h : FndPost q w w' o) (hq : q = if C = 0 then some (if B = true then some E else none) else none) (hC : C = 0 ∨ (C = 4 ∧ B = false)) (hE : B = false → E = eZ) : ∃ xa xc ya yc, o = .returned (.tuple #[enV (.slice xa E.1.length xc) (E.2.1 : Int) (E.2.2.1.toNat : Int) (.slice ya E.2.2.2.length yc), .bool B, .int .i64 (C : Int)]) ∧ Rd w' (.slice xa E.1.length xc) E.1 ∧ Rd w' (.slice ya E.2.2.2.length yc) E.2.2.2 ∧ Below w.heap.size w w' := by
  obtain ⟨hb, h⟩ := h
  subst hq
  rcases hC with rfl | ⟨rfl, rfl⟩
  · rw [if_pos rfl] at h
    cases B with
    | false =>
      have := hE rfl
      subst this
      exact ⟨none, 0, none, 0, h, .inl ⟨rfl, rfl⟩, .inl ⟨rfl, rfl⟩, hb⟩
    | true =>
      obtain ⟨x, y, rfl, rx, ry⟩ := h
      obtain ⟨xa, xc, rfl⟩ := rx.len
      obtain ⟨ya, yc, rfl⟩ := ry.len
      exact ⟨xa, xc, ya, yc, rfl, rx, ry, hb⟩
  · have := hE rfl
    subst this
    exact ⟨none, 0, none, 0, h, .inl ⟨rfl, rfl⟩, .inl ⟨rfl, rfl⟩, hb⟩

theorem R8Post.all {q : Option EnB} {w w' : World} {o : Ending} (h : R8Post q w w' o) : ∃ xa xc ya yc, o = .returned (.tuple #[enV (.slice xa (theO q).1.length xc) ((theO q).2.1 : Int) ((theO q).2.2.1.toNat : Int) (.slice ya (theO q).2.2.2.length yc), .bool (isO q)]) ∧ Rd w' (.slice xa (theO q).1.length xc) (theO q).1 ∧ Rd w' (.slice ya (theO q).2.2.2.length yc) (theO q).2.2.2 ∧ Below w.heap.size w w' := by
  obtain ⟨hb, h⟩ := h
  cases q with
  | none => exact ⟨none, 0, none, 0, h, .inl ⟨rfl, rfl⟩, .inl ⟨rfl, rfl⟩, hb⟩
  | some e =>
    obtain ⟨x, y, rfl, rx, ry⟩ := h
    obtain ⟨xa, xc, rfl⟩ := rx.len
    obtain ⟨ya, yc, rfl⟩ := ry.len
    exact ⟨xa, xc, ya, yc, rfl, rx, ry, hb⟩

theorem isO_some (q : Option EnB) : q = if isO q = true then some (theO q) else none := by cases q <;> rfl
theorem isO_none (q : Option EnB) : isO q = false → theO q = eZ := by cases q with | none => intro _; rfl | some e => intro h; cases h

theorem from_all (p : List UInt8) (K : EnB) : fromL p K = if theC (readL p) = 0 then some (if isO (fromO (theL (readL p)) K) = true then some (theO (fromO (theL (readL p)) K)) else none) else none := by
  rw [← isO_some]
  unfold fromL fromO
  cases readL p <;> rfl

theorem bef_all (p : List UInt8) (K : EnB) : befL p K = if theC (readL p) = 0 then some (if isO (befO (theL (readL p)) K) = true then some (theO (befO (theL (readL p)) K)) else none) else none := by
  rw [← isO_some]
  unfold befL befO
  cases readL p with
  | none => rfl
  | some es =>
    simp only [theL, theC, if_true]
    by_cases h : cntE es K = 0 <;> simp [h]

theorem theC_or (p : List UInt8) (q : List EnB → Option EnB) (hq : q [] = none) : theC (readL p) = 0 ∨ (theC (readL p) = 4 ∧ isO (q (theL (readL p))) = false) := by
  cases readL p with
  | none => exact .inr ⟨rfl, by show isO (q []) = false; rw [hq]; rfl⟩
  | some es => exact .inl rfl

theorem theL_rise (p : List UInt8) : riseB (theL (readL p)) = true ∧ (theL (readL p)).length ≤ 64 := by
  cases hr : readL p with
  | none => exact ⟨rfl, Nat.zero_le _⟩
  | some es =>
    obtain ⟨h1, _⟩ := readL_is hr
    obtain ⟨k1, _, k3⟩ := chkLf_ok.1 h1
    exact ⟨k3, k1⟩

set_option maxHeartbeats 8000000 in
theorem lreads (w : World) (vx vk : Value) (x cx lk ck : List UInt8) (CX : Hid (x.take 900 = cx)) (CK : Hid (lk.take 80 = ck)) (hcx : cx.length ≤ 900) (hck : ck.length ≤ 80) (s k : Nat) (hk : k < 256) (hx : Arg w vx x) (hkA : Arg w vk lk) :
    Calls Try.prog 4 #[vx, .agg #[vk, .int .u64 (s : Int), .int .u8 (k : Int)]] w fun e w' => e = .returned (.bool true) ∧ Below w.heap.size w w' := by
  obtain ⟨i0, hi, hz0, hz1, hz2⟩ := info_parts info5
  obtain ⟨ka, kc, rfl⟩ := Arg.shape hkA
  obtain ⟨kn, hkn⟩ : ∃ n, lk.length = n := ⟨_, rfl⟩
  rw [hkn] at hkA ⊢
  have hb0 := below_box w #[.slice ka kn kc, .int .u64 (s : Int), .int .u8 (k : Int)] 37
  have BK0 := box_new w (.slice ka kn kc) (.int .u64 (s : Int)) (.int .u8 (k : Int)) 37
  have HB0 : Hid (Below w.heap.size w (w.alloc (.cells #[.slice ka kn kc, .int .u64 (s : Int), .int .u8 (k : Int)] 37))) := hb0
  have HX0 : Hid (Arg (w.alloc (.cells #[.slice ka kn kc, .int .u64 (s : Int), .int .u8 (k : Int)] 37)) vx x) := hx.below hb0 (Nat.le_refl _)
  have HK0 : Hid (Arg (w.alloc (.cells #[.slice ka kn kc, .int .u64 (s : Int), .int .u8 (k : Int)] 37)) (.slice ka kn kc) lk) := hkA.below hb0 (Nat.le_refl _)
  obtain ⟨xa, xc, hxs⟩ := Arg.shape hx
  subst hxs
  clear hx hkA hkn hb0
  go_enter Try.func4, Try.ntmps4
  go_wp2_with fail
  refine (lawake_any _).mono ?_
  rintro e w1 ⟨rfl, hb1⟩
  have HB1 : Hid (Below w.heap.size w w1) := bsplit HB0.out hb1
  have BK1 := BK0.below hb1 (Nat.le_refl _)
  have hcu := cut_any w1 _ x 900 (HX0.out.below hb1 (Nat.le_refl _)) (by decide)
  have HK1 : Hid (Arg w1 (.slice ka kn kc) lk) := HK0.out.below hb1 (Nat.le_refl _)
  have HL1 : Hid (w.heap.size < w1.heap.size) := BK1.lt
  clear hb1 BK0
  go_wp2_with fail
  refine hcu.mono ?_
  rintro e w2 ⟨vp, rfl, op, hb2⟩
  rw [CX.out] at op
  have HB2 : Hid (Below w.heap.size w w2) := bsplit HB1.out hb2
  obtain ⟨gp, kp, rfl⟩ := op.shape
  have HGP : Hid (w.heap.size < gp) := Nat.lt_of_lt_of_le HL1.out op.lt.1
  have BK2 := BK1.below hb2 (Nat.le_refl _)
  have hck2 := cut_any w2 _ lk 80 (HK1.out.below hb2 (Nat.le_refl _)) (by decide)
  have HP2 : Hid (Rd w2 (.slice (some ⟨gp, 0, none⟩) cx.length kp) cx) := op.rd
  have HL2 : Hid (w.heap.size < w2.heap.size) := BK2.lt
  obtain ⟨c0, c1, c2, _⟩ := BK2
  have BK2 := BK1.below hb2 (Nat.le_refl _)
  clear hcu hb2 op BK1
  go_wp2_with fail
  refine hck2.mono ?_
  rintro e w3 ⟨vu, rfl, ou, hb3⟩
  rw [CK.out] at ou
  clear c0 c1 c2
  have HB3 : Hid (Below w.heap.size w w3) := bsplit HB2.out hb3
  obtain ⟨gu, ku, rfl⟩ := ou.shape
  have HGU : Hid (w.heap.size < gu) := Nat.lt_of_lt_of_le HL2.out ou.lt.1
  have BK3 := BK2.below hb3 (Nat.le_refl _)
  obtain ⟨N, hN⟩ : ∃ n, cx.length = n := ⟨_, rfl⟩
  have HN : Hid (cx.length = N) := hN
  obtain ⟨U, hU⟩ : ∃ n, ck.length = n := ⟨_, rfl⟩
  rw [hN] at HP2 hcx ⊢
  rw [hU] at ou ⊢
  obtain ⟨W3, hW3⟩ : ∃ W, w3.setCell ⟨w.heap.size, 0, none⟩ (.slice (some ⟨gu, 0, none⟩) U ku) = W := ⟨_, rfl⟩
  have HP3 : Hid (Rd W3 (.slice (some ⟨gp, 0, none⟩) N kp) cx) := by
    have h9 := (HP2.out.below hb3 (Nat.le_refl _))
    rw [← HN.out] at h9 ⊢
    rw [← hW3]
    exact h9.other ⟨w.heap.size, 0, none⟩ (Nat.ne_of_gt HGP.out) _
  have HU3 : Hid (Rd W3 (.slice (some ⟨gu, 0, none⟩) U ku) ck) := by
    have h9 := ou.rd
    rw [← hU] at h9 ⊢
    rw [← hW3]
    exact h9.other ⟨w.heap.size, 0, none⟩ (Nat.ne_of_gt HGU.out) _
  have HB3' : Hid (Below w.heap.size w W3) := by rw [← hW3]; exact HB3.out.setCell (p := ⟨w.heap.size, 0, none⟩) (Nat.le_refl _) _
  obtain ⟨c0, c1, c2, f0, f1, f2⟩ := BK3
  have d0 : W3.cell? ⟨w.heap.size, 0, none⟩ = some (.slice (some ⟨gu, 0, none⟩) U ku) := by rw [← hW3]; simp [go_sem, c0]
  have d1 : W3.cell? ⟨w.heap.size, 1, none⟩ = some (.int .u64 (s : Int)) := by rw [← hW3]; simp [go_sem, c0, c1]
  have d2 : W3.cell? ⟨w.heap.size, 2, none⟩ = some (.int .u8 (k : Int)) := by rw [← hW3]; simp [go_sem, c0, c2]
  have HKB3 : Hid (C1 W3 w.heap.size 0 (.slice (some ⟨gu, 0, none⟩) U ku) ∧ C1 W3 w.heap.size 1 (.int .u64 (s : Int)) ∧ C1 W3 w.heap.size 2 (.int .u8 (k : Int))) := ⟨⟨d0⟩, ⟨d1⟩, ⟨d2⟩⟩
  have hcp := copy_any W3 _ cx HP3.out.arg (by rw [HN.out]; omega)
  clear hck2 hb3 ou hN hU BK2 d0 d1 d2
  go_wp2_with fail
  refine hcp.mono ?_
  rintro e w4 ⟨vq, rfl, oq, hb4⟩
  obtain ⟨gq, kq, hvq⟩ := oq.shape
  rw [HN.out] at hvq
  subst hvq
  have HWS : Hid (W3.heap.size ≤ w4.heap.size) := hb4.size
  have hqa := oq.row.alloc (.cells #[.int .u8 165] 5)
  rw [HN.out] at hqa
  have hlit := lit_row w4 w4.heap.size (Nat.le_refl _) 165
  have hb165 : ((165 : UInt8).toNat : Int) = 165 := by decide
  rw [hb165] at hlit
  have HBa : Hid (Below W3.heap.size W3 (w4.alloc (.cells #[.int .u8 165] 5))) := bsplit hb4 (below_box4 w4 _)
  have HWs : Hid (W3.heap.size ≤ (w4.alloc (.cells #[.int .u8 165] 5)).heap.size) := HBa.out.size
  clear hcp hb4 oq c0 c1 c2 f0 f1 f2 hW3 hb165
  go_wp2_with (first | (at_builtin; refine wpList_append_own _ rfl (.tmp 29) (.tmp 30) 26 rfl W3.heap.size 5 i0 (.int .u8 0) 1 1 Try.underlying26 hi hz0 hz1 hz2 rfl (by decide) (.slice (some ⟨gq, 0, none⟩) N kq) N (bv cx) rfl hqa ⟨w4.heap.size, 0, none⟩ 1 1 (bv [165]) rfl rfl (hlit.cells rfl) (bv_one _) (by simp only [maxLen]; omega) (by omega) HWs.out ?_; intro v' w5 ho' hgr' hn'; obtain ⟨gv, kv, hvv, hk1, hk2, ov⟩ := app_shape ho' HN.out rfl (fun e => by have := (hn'.1 e).1; cases this); subst hvv; have hkI : (N : Int) + 1 ≤ (kv : Int) := (by omega); have hkI2 : (N : Int) ≤ (kv : Int) := (by omega)) | fail)
  have HB35 : Hid (Below W3.heap.size W3 w5) := HBa.out.grown hgr' HWs.out (fun k' e => (hqa.lt k' e).1)
  have HB5 : Hid (Below w.heap.size w w5) := bsplit HB3'.out HB35.out
  have HP5 : Hid (Rd w5 (.slice (some ⟨gp, 0, none⟩) N kp) cx) := HP3.out.below HB35.out (Nat.le_refl _)
  have HU5 : Hid (Rd w5 (.slice (some ⟨gu, 0, none⟩) U ku) ck) := HU3.out.below HB35.out (Nat.le_refl _)
  have HKB5 : Hid (C1 w5 w.heap.size 0 (.slice (some ⟨gu, 0, none⟩) U ku) ∧ C1 w5 w.heap.size 1 (.int .u64 (s : Int)) ∧ C1 w5 w.heap.size 2 (.int .u8 (k : Int))) := ⟨HKB3.out.1.below HB35.out (Nat.le_refl _), HKB3.out.2.1.below HB35.out (Nat.le_refl _), HKB3.out.2.2.below HB35.out (Nat.le_refl _)⟩
  obtain ⟨u1, u2, u3, u4⟩ := own_cel ov
  have HQ5 : Hid (Cel w5 gv 0 cx ∧ cx.length ≤ kv ∧ kv ≤ 9223372036854775807 ∧ cx.length ≤ 90000 ∧ gv < w5.heap.size) := by
    refine ⟨fun j u hu => u1 j u ?_, by rw [HN.out]; omega, u3, by rw [HN.out]; omega, u4⟩
    rw [bv_append, List.getElem?_append_left (by have := (List.getElem?_eq_some_iff.1 hu).1; exact this)]
    exact hu
  have HCA : Hid (C1 w5 gv N (.int .u8 165)) := by
    have h9 := u1 N (.int .u8 165) (by rw [bv_append, List.getElem?_append_right (by rw [bv_length, HN.out]; exact Nat.le_refl _), bv_length, HN.out, Nat.sub_self]; rfl)
    rw [Nat.zero_add] at h9
    exact ⟨h9⟩
  have HQR : Hid (Rd w5 (.slice (some ⟨gv, 0, none⟩) N kv) cx) := by
    have h9 := Cel.rd HQ5.out.1 HQ5.out.2.1 HQ5.out.2.2.1 (Nat.le_refl cx.length)
    rw [List.take_length, HN.out] at h9
    exact h9
  have hrd := lread_any w5 gv 0 kv cx HQ5.out.1 HQ5.out.2.1 HQ5.out.2.2.1 HQ5.out.2.2.2.1 HQ5.out.2.2.2.2
  rw [HN.out] at hrd
  obtain ⟨K, hK⟩ : ∃ K : EnB, K = (ck, s, UInt8.ofNat k, []) := ⟨_, rfl⟩
  have HK : Hid (K.1 = ck ∧ (K.2.1 : Int) = (s : Int) ∧ (K.2.2.1.toNat : Int) = (k : Int)) := by
    rw [hK]
    refine ⟨rfl, rfl, ?_⟩
    show ((UInt8.ofNat k).toNat : Int) = (k : Int)
    simp
    omega
  obtain ⟨ES, hES⟩ : ∃ q, theL (readL cx) = q := ⟨_, rfl⟩
  obtain ⟨CC, hCC⟩ : ∃ q, theC (readL cx) = q := ⟨_, rfl⟩
  have hri := theL_rise cx
  have hfa := from_all cx K
  have hba := bef_all cx K
  have hfo := theC_or cx (fun es => fromO es K) (by unfold fromO; simp)
  have hbo := theC_or cx (fun es => befO es K) (by unfold befO; simp [cntE])
  rw [hES] at hri hfa hba hfo hbo
  rw [hCC] at hfa hba hfo hbo
  have HRI : Hid (riseB ES = true ∧ ES.length ≤ 64) := hri
  obtain ⟨E1, hE1⟩ : ∃ e, theO (fromO ES K) = e := ⟨_, rfl⟩
  obtain ⟨B1, hB1⟩ : ∃ e, isO (fromO ES K) = e := ⟨_, rfl⟩
  obtain ⟨E2, hE2⟩ : ∃ e, theO (befO ES K) = e := ⟨_, rfl⟩
  obtain ⟨B2, hB2⟩ : ∃ e, isO (befO ES K) = e := ⟨_, rfl⟩
  have hz1 := isO_none (fromO ES K)
  have hz2 := isO_none (befO ES K)
  rw [hE1, hB1] at hfa hz1
  rw [hB1] at hfo
  rw [hE2, hB2] at hba hz2
  rw [hB2] at hbo
  have HFA : Hid (fromL cx K = (if CC = 0 then some (if B1 = true then some E1 else none) else none) ∧ (CC = 0 ∨ (CC = 4 ∧ B1 = false)) ∧ (B1 = false → E1 = eZ)) := ⟨hfa, hfo, hz1⟩
  have HBA : Hid (befL cx K = (if CC = 0 then some (if B2 = true then some E2 else none) else none) ∧ (CC = 0 ∨ (CC = 4 ∧ B2 = false)) ∧ (B2 = false → E2 = eZ)) := ⟨hba, hbo, hz2⟩
  have HE : Hid (theL (readL cx) = ES ∧ theC (readL cx) = CC) := ⟨hES, hCC⟩
  have HO1 : Hid (theO (fromO ES K) = E1 ∧ isO (fromO ES K) = B1) := ⟨hE1, hB1⟩
  have HO2 : Hid (theO (befO ES K) = E2 ∧ isO (befO ES K) = B2) := ⟨hE2, hB2⟩
  obtain ⟨LN, hLN⟩ : ∃ n, ES.length = n := ⟨_, rfl⟩
  have HLN : Hid (ES.length = LN) := hLN
  clear ho' hgr' hn' hqa ov hlit u1 u2 u3 u4 hK hES hCC hri hfa hba hfo hbo hE1 hB1 hE2 hB2 hz1 hz2 hLN hk1 hk2
  go_wp2_with fail
  refine hrd.mono ?_
  intro e w6 hpost
  obtain ⟨xa1, xc1, rfl, rx1, hb6⟩ := hpost.all
  rw [HE.out.1, HLN.out] at rx1
  rw [HE.out.1, HE.out.2, HLN.out]
  have HB56 : Hid (Below w5.heap.size w5 w6) := hb6
  have hrr := rlread_any w6 _ cx (HP5.out.below hb6 (Nat.le_refl _)) (by rw [HN.out]; omega)
  have HRX1 : Hid (RdE w6 (.slice xa1 LN xc1) ES) := rx1
  clear hrd hpost hb6 rx1
  go_wp2_with fail
  refine hrr.mono ?_
  intro e w7 hpost
  obtain ⟨xa2, xc2, rfl, rx2, hb7⟩ := hpost.all
  rw [HE.out.1, HLN.out] at rx2
  rw [HE.out.1, HE.out.2, HLN.out]
  have HB57 : Hid (Below w5.heap.size w5 w7) := bsplit HB56.out hb7
  have hsm := sameens_any w7 _ _ ES ES true (rdE_below HRX1.out hb7 (Nat.le_refl _)) rx2 ⟨fun _ => rfl, fun _ => rfl⟩
  have HRX2 : Hid (RdE w7 (.slice xa2 LN xc2) ES) := rx2
  clear hrr hpost hb7 rx2
  go_wp2_with fail
  refine hsm.mono ?_
  rintro e w8 ⟨rfl, hb8⟩
  have HB58 : Hid (Below w5.heap.size w5 w8) := bsplit HB57.out hb8
  have HM8 : Hid (RdE w8 (.slice xa2 LN xc2) ES) := rdE_below HRX2.out hb8 (Nat.le_refl _)
  have hfr := lfrom_any w8 gv 0 kv cx (.slice (some ⟨gu, 0, none⟩) U ku) K (HQ5.out.1.below HB58.out) HQ5.out.2.1 HQ5.out.2.2.1 HQ5.out.2.2.2.1 (Nat.lt_of_lt_of_le HQ5.out.2.2.2.2 HB58.out.size) (by rw [HK.out.1]; exact HU5.out.below HB58.out (Nat.le_refl _))
  rw [HN.out, HK.out.2.1, HK.out.2.2] at hfr
  obtain ⟨d0⟩ := HKB5.out.1.below HB58.out (Nat.le_refl _)
  obtain ⟨d1⟩ := HKB5.out.2.1.below HB58.out (Nat.le_refl _)
  obtain ⟨d2⟩ := HKB5.out.2.2.below HB58.out (Nat.le_refl _)
  clear hsm hb8
  go_wp2_with fail
  refine hfr.mono ?_
  intro e w9 hpost
  obtain ⟨xa3, xc3, ya3, yc3, rfl, rx3, ry3, hb9⟩ := hpost.all HFA.out.1 HFA.out.2.1 HFA.out.2.2
  clear hfr hpost d0 d1 d2
  obtain ⟨l1, hl1⟩ : ∃ n, E1.1.length = n := ⟨_, rfl⟩
  obtain ⟨m1, hm1⟩ : ∃ n, E1.2.2.2.length = n := ⟨_, rfl⟩
  obtain ⟨s1, hs1⟩ : ∃ z : Int, (E1.2.1 : Int) = z := ⟨_, rfl⟩
  obtain ⟨k1, hk1⟩ : ∃ z : Int, (E1.2.2.1.toNat : Int) = z := ⟨_, rfl⟩
  have HS1 : Hid (E1.1.length = l1 ∧ E1.2.2.2.length = m1 ∧ (E1.2.1 : Int) = s1 ∧ (E1.2.2.1.toNat : Int) = k1) := ⟨hl1, hm1, hs1, hk1⟩
  rw [hl1] at rx3
  rw [hm1] at ry3
  rw [hl1, hm1, hs1, hk1]
  clear hl1 hm1 hs1 hk1
  have hba := below_box4 w9 (.cells #[.slice xa3 l1 xc3, .int .u64 s1, .int .u8 k1, .slice ya3 m1 yc3] 45)
  obtain ⟨W9, hW9⟩ : ∃ W, w9.alloc (.cells #[.slice xa3 l1 xc3, .int .u64 s1, .int .u8 k1, .slice ya3 m1 yc3] 45) = W := ⟨_, rfl⟩
  have BA9 := box4_new w9 (.slice xa3 l1 xc3) (.int .u64 s1) (.int .u8 k1) (.slice ya3 m1 yc3) 45
  rw [hW9] at hba BA9
  obtain ⟨ba, hbaN⟩ : ∃ b, w9.heap.size = b := ⟨_, rfl⟩
  rw [hbaN] at BA9
  have HB59 : Hid (Below w5.heap.size w5 W9) := bsplit (bsplit HB58.out hb9) hba
  have HM9 : Hid (RdE W9 (.slice xa2 LN xc2) ES) := rdE_below (rdE_below HM8.out hb9 (Nat.le_refl _)) hba (Nat.le_refl _)
  have HA9 : Hid (Box4 W9 ba (.slice xa3 l1 xc3) (.int .u64 s1) (.int .u8 k1) (.slice ya3 m1 yc3) ∧ Rd W9 (.slice xa3 l1 xc3) E1.1 ∧ Rd W9 (.slice ya3 m1 yc3) E1.2.2.2) := ⟨BA9, rx3.below hba (Nat.le_refl _), ry3.below hba (Nat.le_refl _)⟩
  have hf8 := r8from_any W9 _ (.slice (some ⟨gu, 0, none⟩) U ku) ES K HM9.out (by rw [HK.out.1]; exact HU5.out.below HB59.out (Nat.le_refl _)) HRI.out.1 (by have := HRI.out.2; omega)
  rw [HK.out.2.1, HK.out.2.2] at hf8
  obtain ⟨d0⟩ := HKB5.out.1.below HB59.out (Nat.le_refl _)
  obtain ⟨d1⟩ := HKB5.out.2.1.below HB59.out (Nat.le_refl _)
  obtain ⟨d2⟩ := HKB5.out.2.2.below HB59.out (Nat.le_refl _)
  clear hba BA9 rx3 ry3 hb9
  go_wp2_with fail
  refine hf8.mono ?_
  intro e w10 hpost
  have hpost2 : R8Post (fromO ES K) W9 w10 e := hpost
  obtain ⟨xa4, xc4, ya4, yc4, rfl, rx4, ry4, hb10⟩ := hpost2.all
  rw [HO1.out.1, HS1.out.1] at rx4
  rw [HO1.out.1, HS1.out.2.1] at ry4
  rw [HO1.out.1, HO1.out.2, HS1.out.1, HS1.out.2.1, HS1.out.2.2.1, HS1.out.2.2.2]
  clear hf8 hpost hpost2 d0 d1 d2 hW9 hbaN
  have hba := below_box4 w10 (.cells #[.slice xa4 l1 xc4, .int .u64 s1, .int .u8 k1, .slice ya4 m1 yc4] 45)
  obtain ⟨W10, hW10⟩ : ∃ W, w10.alloc (.cells #[.slice xa4 l1 xc4, .int .u64 s1, .int .u8 k1, .slice ya4 m1 yc4] 45) = W := ⟨_, rfl⟩
  have BA10 := box4_new w10 (.slice xa4 l1 xc4) (.int .u64 s1) (.int .u8 k1) (.slice ya4 m1 yc4) 45
  rw [hW10] at hba BA10
  obtain ⟨bb, hbaN⟩ : ∃ b, w10.heap.size = b := ⟨_, rfl⟩
  rw [hbaN] at BA10
  have HB510 : Hid (Below w5.heap.size w5 W10) := bsplit (bsplit HB59.out hb10) hba
  have HM10 : Hid (RdE W10 (.slice xa2 LN xc2) ES) := rdE_below (rdE_below HM9.out hb10 (Nat.le_refl _)) hba (Nat.le_refl _)
  have HA10 : Hid (Box4 W10 ba (.slice xa3 l1 xc3) (.int .u64 s1) (.int .u8 k1) (.slice ya3 m1 yc3) ∧ Rd W10 (.slice xa3 l1 xc3) E1.1 ∧ Rd W10 (.slice ya3 m1 yc3) E1.2.2.2) := ⟨(HA9.out.1.below hb10 (Nat.le_refl _)).below hba (Nat.le_refl _), (HA9.out.2.1.below hb10 (Nat.le_refl _)).below hba (Nat.le_refl _), (HA9.out.2.2.below hb10 (Nat.le_refl _)).below hba (Nat.le_refl _)⟩
  have HB10 : Hid (Box4 W10 bb (.slice xa4 l1 xc4) (.int .u64 s1) (.int .u8 k1) (.slice ya4 m1 yc4) ∧ Rd W10 (.slice xa4 l1 xc4) E1.1 ∧ Rd W10 (.slice ya4 m1 yc4) E1.2.2.2) := ⟨BA10, rx4.below hba (Nat.le_refl _), ry4.below hba (Nat.le_refl _)⟩
  have hbf := lbefore_any W10 gv 0 kv cx (.slice (some ⟨gu, 0, none⟩) U ku) K (HQ5.out.1.below HB510.out) HQ5.out.2.1 HQ5.out.2.2.1 HQ5.out.2.2.2.1 (Nat.lt_of_lt_of_le HQ5.out.2.2.2.2 HB510.out.size) (by rw [HK.out.1]; exact HU5.out.below HB510.out (Nat.le_refl _))
  rw [HN.out, HK.out.2.1, HK.out.2.2] at hbf
  obtain ⟨d0⟩ := HKB5.out.1.below HB510.out (Nat.le_refl _)
  obtain ⟨d1⟩ := HKB5.out.2.1.below HB510.out (Nat.le_refl _)
  obtain ⟨d2⟩ := HKB5.out.2.2.below HB510.out (Nat.le_refl _)
  clear hba BA10 rx4 ry4 hb10
  go_wp2_with fail
  refine hbf.mono ?_
  intro e w11 hpost
  obtain ⟨xa5, xc5, ya5, yc5, rfl, rx5, ry5, hb11⟩ := hpost.all HBA.out.1 HBA.out.2.1 HBA.out.2.2
  clear hbf hpost d0 d1 d2 hW10 hbaN
  obtain ⟨l2, hl1⟩ : ∃ n, E2.1.length = n := ⟨_, rfl⟩
  obtain ⟨m2, hm1⟩ : ∃ n, E2.2.2.2.length = n := ⟨_, rfl⟩
  obtain ⟨s2, hs1⟩ : ∃ z : Int, (E2.2.1 : Int) = z := ⟨_, rfl⟩
  obtain ⟨k2, hk1⟩ : ∃ z : Int, (E2.2.2.1.toNat : Int) = z := ⟨_, rfl⟩
  have HS2 : Hid (E2.1.length = l2 ∧ E2.2.2.2.length = m2 ∧ (E2.2.1 : Int) = s2 ∧ (E2.2.2.1.toNat : Int) = k2) := ⟨hl1, hm1, hs1, hk1⟩
  rw [hl1] at rx5
  rw [hm1] at ry5
  rw [hl1, hm1, hs1, hk1]
  clear hl1 hm1 hs1 hk1
  have hba := below_box4 w11 (.cells #[.slice xa5 l2 xc5, .int .u64 s2, .int .u8 k2, .slice ya5 m2 yc5] 45)
  obtain ⟨W11, hW11⟩ : ∃ W, w11.alloc (.cells #[.slice xa5 l2 xc5, .int .u64 s2, .int .u8 k2, .slice ya5 m2 yc5] 45) = W := ⟨_, rfl⟩
  have BA11 := box4_new w11 (.slice xa5 l2 xc5) (.int .u64 s2) (.int .u8 k2) (.slice ya5 m2 yc5) 45
  rw [hW11] at hba BA11
  obtain ⟨bc, hbaN⟩ : ∃ b, w11.heap.size = b := ⟨_, rfl⟩
  rw [hbaN] at BA11
  have HB511 : Hid (Below w5.heap.size w5 W11) := bsplit (bsplit HB510.out hb11) hba
  have HM11 : Hid (RdE W11 (.slice xa2 LN xc2) ES) := rdE_below (rdE_below HM10.out hb11 (Nat.le_refl _)) hba (Nat.le_refl _)
  have HA11 : Hid (Box4 W11 ba (.slice xa3 l1 xc3) (.int .u64 s1) (.int .u8 k1) (.slice ya3 m1 yc3) ∧ Rd W11 (.slice xa3 l1 xc3) E1.1 ∧ Rd W11 (.slice ya3 m1 yc3) E1.2.2.2) := ⟨(HA10.out.1.below hb11 (Nat.le_refl _)).below hba (Nat.le_refl _), (HA10.out.2.1.below hb11 (Nat.le_refl _)).below hba (Nat.le_refl _), (HA10.out.2.2.below hb11 (Nat.le_refl _)).below hba (Nat.le_refl _)⟩
  have HB11 : Hid (Box4 W11 bb (.slice xa4 l1 xc4) (.int .u64 s1) (.int .u8 k1) (.slice ya4 m1 yc4) ∧ Rd W11 (.slice xa4 l1 xc4) E1.1 ∧ Rd W11 (.slice ya4 m1 yc4) E1.2.2.2) := ⟨(HB10.out.1.below hb11 (Nat.le_refl _)).below hba (Nat.le_refl _), (HB10.out.2.1.below hb11 (Nat.le_refl _)).below hba (Nat.le_refl _), (HB10.out.2.2.below hb11 (Nat.le_refl _)).below hba (Nat.le_refl _)⟩
  have HC11 : Hid (Box4 W11 bc (.slice xa5 l2 xc5) (.int .u64 s2) (.int .u8 k2) (.slice ya5 m2 yc5) ∧ Rd W11 (.slice xa5 l2 xc5) E2.1 ∧ Rd W11 (.slice ya5 m2 yc5) E2.2.2.2) := ⟨BA11, rx5.below hba (Nat.le_refl _), ry5.below hba (Nat.le_refl _)⟩
  have hb8 := r8before_any W11 _ (.slice (some ⟨gu, 0, none⟩) U ku) ES K HM11.out (by rw [HK.out.1]; exact HU5.out.below HB511.out (Nat.le_refl _)) HRI.out.1 (by have := HRI.out.2; omega)
  rw [HK.out.2.1, HK.out.2.2] at hb8
  obtain ⟨d0⟩ := HKB5.out.1.below HB511.out (Nat.le_refl _)
  obtain ⟨d1⟩ := HKB5.out.2.1.below HB511.out (Nat.le_refl _)
  obtain ⟨d2⟩ := HKB5.out.2.2.below HB511.out (Nat.le_refl _)
  clear hba BA11 rx5 ry5 hb11
  go_wp2_with fail
  refine hb8.mono ?_
  intro e w12 hpost
  have hpost2 : R8Post (befO ES K) W11 w12 e := hpost
  obtain ⟨xa6, xc6, ya6, yc6, rfl, rx6, ry6, hb12⟩ := hpost2.all
  rw [HO2.out.1, HS2.out.1] at rx6
  rw [HO2.out.1, HS2.out.2.1] at ry6
  rw [HO2.out.1, HO2.out.2, HS2.out.1, HS2.out.2.1, HS2.out.2.2.1, HS2.out.2.2.2]
  clear hb8 hpost hpost2 d0 d1 d2 hW11 hbaN
  have hba := below_box4 w12 (.cells #[.slice xa6 l2 xc6, .int .u64 s2, .int .u8 k2, .slice ya6 m2 yc6] 45)
  obtain ⟨W12, hW12⟩ : ∃ W, w12.alloc (.cells #[.slice xa6 l2 xc6, .int .u64 s2, .int .u8 k2, .slice ya6 m2 yc6] 45) = W := ⟨_, rfl⟩
  have BA12 := box4_new w12 (.slice xa6 l2 xc6) (.int .u64 s2) (.int .u8 k2) (.slice ya6 m2 yc6) 45
  rw [hW12] at hba BA12
  obtain ⟨bd, hbaN⟩ : ∃ b, w12.heap.size = b := ⟨_, rfl⟩
  rw [hbaN] at BA12
  have HB512 : Hid (Below w5.heap.size w5 W12) := bsplit (bsplit HB511.out hb12) hba
  have HA12 : Hid (Box4 W12 ba (.slice xa3 l1 xc3) (.int .u64 s1) (.int .u8 k1) (.slice ya3 m1 yc3) ∧ Rd W12 (.slice xa3 l1 xc3) E1.1 ∧ Rd W12 (.slice ya3 m1 yc3) E1.2.2.2) := ⟨(HA11.out.1.below hb12 (Nat.le_refl _)).below hba (Nat.le_refl _), (HA11.out.2.1.below hb12 (Nat.le_refl _)).below hba (Nat.le_refl _), (HA11.out.2.2.below hb12 (Nat.le_refl _)).below hba (Nat.le_refl _)⟩
  have HB12 : Hid (Box4 W12 bb (.slice xa4 l1 xc4) (.int .u64 s1) (.int .u8 k1) (.slice ya4 m1 yc4) ∧ Rd W12 (.slice xa4 l1 xc4) E1.1 ∧ Rd W12 (.slice ya4 m1 yc4) E1.2.2.2) := ⟨(HB11.out.1.below hb12 (Nat.le_refl _)).below hba (Nat.le_refl _), (HB11.out.2.1.below hb12 (Nat.le_refl _)).below hba (Nat.le_refl _), (HB11.out.2.2.below hb12 (Nat.le_refl _)).below hba (Nat.le_refl _)⟩
  have HC12 : Hid (Box4 W12 bc (.slice xa5 l2 xc5) (.int .u64 s2) (.int .u8 k2) (.slice ya5 m2 yc5) ∧ Rd W12 (.slice xa5 l2 xc5) E2.1 ∧ Rd W12 (.slice ya5 m2 yc5) E2.2.2.2) := ⟨(HC11.out.1.below hb12 (Nat.le_refl _)).below hba (Nat.le_refl _), (HC11.out.2.1.below hb12 (Nat.le_refl _)).below hba (Nat.le_refl _), (HC11.out.2.2.below hb12 (Nat.le_refl _)).below hba (Nat.le_refl _)⟩
  have HD12 : Hid (Box4 W12 bd (.slice xa6 l2 xc6) (.int .u64 s2) (.int .u8 k2) (.slice ya6 m2 yc6) ∧ Rd W12 (.slice xa6 l2 xc6) E2.1 ∧ Rd W12 (.slice ya6 m2 yc6) E2.2.2.2) := ⟨BA12, rx6.below hba (Nat.le_refl _), ry6.below hba (Nat.le_refl _)⟩
  have hs1 := sameen_any W12 _ _ _ _ E1.1 E1.2.2.2 E1.1 E1.2.2.2 s1 k1 s1 k1 true HA12.out.2.1 HA12.out.2.2 HB12.out.2.1 HB12.out.2.2 (by simp)
  obtain ⟨y0, y1, y2, y3⟩ := HA12.out.1
  obtain ⟨z0, z1, z2, z3⟩ := HB12.out.1
  clear hba BA12 rx6 ry6 hb12
  go_wp2_with fail
  refine hs1.mono ?_
  rintro e w13 ⟨rfl, hb13⟩
  have HB513 : Hid (Below w5.heap.size w5 w13) := bsplit HB512.out hb13
  have hs2 := sameen_any w13 _ _ _ _ E2.1 E2.2.2.2 E2.1 E2.2.2.2 s2 k2 s2 k2 true (HC12.out.2.1.below hb13 (Nat.le_refl _)) (HC12.out.2.2.below hb13 (Nat.le_refl _)) (HD12.out.2.1.below hb13 (Nat.le_refl _)) (HD12.out.2.2.below hb13 (Nat.le_refl _)) (by simp)
  clear y0 y1 y2 y3 z0 z1 z2 z3 hW12 hbaN
  obtain ⟨y0, y1, y2, y3⟩ := HC12.out.1.below hb13 (Nat.le_refl _)
  obtain ⟨z0, z1, z2, z3⟩ := HD12.out.1.below hb13 (Nat.le_refl _)
  clear hs1 hb13
  go_wp2_with fail
  refine hs2.mono ?_
  rintro e w14 ⟨rfl, hb14⟩
  have HB514 : Hid (Below w5.heap.size w5 w14) := bsplit HB513.out hb14
  have hsm := same_b w14 _ _ cx cx true (HQR.out.below HB514.out (Nat.le_refl _)) (HP5.out.below HB514.out (Nat.le_refl _)) (beq_self_eq_true cx)
  obtain ⟨ca⟩ := HCA.out.below HB514.out (Nat.le_refl _)
  have HBF : Hid (Below w.heap.size w w14) := bsplit HB5.out HB514.out
  clear hs2 hb14 y0 y1 y2 y3 z0 z1 z2 z3
  go_wp2_with fail
  refine hsm.mono ?_
  rintro e w15 ⟨rfl, rfl⟩
  clear hsm
  go_wp2
  go_ret
  exact ⟨rfl, HBF.out⟩

theorem leafReads_walk (a0 : Option Addr) (len0 cap0 : Nat) (z0 : List Int) (a1 : Option Addr) (len1 cap1 : Nat) (z1 : List Int) (s1 k1 : Int) (w : World) (w0 : IsRow .u8 w a0 len0 cap0 z0) (w1 : IsRow .u8 w a1 len1 cap1 z1) (ws1 : (Lit.int .u64 s1).wf = true) (wk1 : (Lit.int .u8 k1).wf = true) :
    Calls Try.prog 4 #[.slice a0 len0 cap0, .agg #[.slice a1 len1 cap1, .int .u64 s1, .int .u8 k1]] w fun e w' => e = .returned (.bool true) ∧ Below w.heap.size w w' := by
  have hs := bounds_u64 ws1
  have hk := bounds_u8 wk1
  obtain ⟨s, rfl⟩ : ∃ s : Nat, s1 = (s : Int) := ⟨s1.toNat, by omega⟩
  obtain ⟨k, rfl⟩ : ∃ k : Nat, k1 = (k : Int) := ⟨k1.toNat, by omega⟩
  exact lreads w _ _ _ _ _ _ rfl rfl (List.length_take_le _ _) (List.length_take_le _ _) s k (by omega) (arg_of w0) (arg_of w1)

end Go.Proofs.Ytdopfijoplldkaa
