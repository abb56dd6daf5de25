/- entry.Bytes. -/
import Derived.Test.YtmgofohaoppajaaDoorHeld
import Derived.Test.YtmgofohaoppajaaDoorEntRight
import Derived.Deep.RegionHeld3
namespace Go.Proofs.YtmgofohaoppajaaDoor
open Go.RowKit
set_option linter.unusedVariables false

/-- an entry's bytes -/
def noteB (k s : Nat) (name : List UInt8) (os : List OpB) : List UInt8 := Mth.numB k ++ (Mth.numB s ++ (textB name ++ batB os))

theorem rdl_four (w : World) (v1 v2 v3 v4 : Value) (a b c d : List UInt8) (ha : Rd w v1 a) (hb : Rd w v2 b) (hc : Rd w v3 c) (hd : Rd w v4 d) (t : TypeId) :
    RdL (w.alloc (.cells #[v1, v2, v3, v4] t)) (.slice (some ⟨w.heap.size, 0, none⟩) 4 4) [a, b, c, d] := by
  have bl := below_box4 w (.cells #[v1, v2, v3, v4] t)
  have bx := box4_new w v1 v2 v3 v4 t
  refine .inr ⟨w.heap.size, 0, 4, rfl, Nat.le_refl _, by unfold maxLen; omega, fun j hj => ?_⟩
  match j, hj with
  | 0, _ => exact ⟨v1, bx.c0, ha.below bl (Nat.le_refl _)⟩
  | 1, _ => exact ⟨v2, bx.c1, hb.below bl (Nat.le_refl _)⟩
  | 2, _ => exact ⟨v3, bx.c2, hc.below bl (Nat.le_refl _)⟩
  | 3, _ => exact ⟨v4, bx.c3, hd.below bl (Nat.le_refl _)⟩

set_option maxRecDepth 20000 in
set_option maxHeartbeats 2000000 in
theorem ebytes_wrong (w : World) (k s : Int) (na : Option Addr) (nl nc : Nat) (oa : Option Addr) (ol oc : Nat) (hs0 : 0 ≤ s) (hr : rightB k s nl ol = false) :
    Calls Tryd.prog 20 #[noteV k s na nl nc oa ol oc] w fun e w' => e = .returned (.tuple #[.slice none 0 0, .int .i64 4]) ∧ Below w.heap.size w w' := by
  have hb := below_box4 w (.cells #[.int .u8 k, .int .u64 s, .slice na nl nc, .slice oa ol oc] 54)
  have hri := right_any (w.alloc (.cells #[.int .u8 k, .int .u64 s, .slice na nl nc, .slice oa ol oc] 54)) k s na nl nc oa ol oc hs0
  rw [hr] at hri
  clear hr
  go_enter Tryd.func20, Tryd.ntmps20
  go_wp2_with fail
  refine hri.mono ?_
  rintro e w1 ⟨rfl, hb1⟩
  have hB1 := hb.trans (hb1.mono hb.size)
  go_wp2
  go_ret2
  exact ⟨rfl, hB1⟩

set_option maxRecDepth 20000 in
set_option maxHeartbeats 2000000 in
theorem ebytes_bad (w : World) (k s : Int) (na : Option Addr) (nl nc : Nat) (oa : Option Addr) (ol oc : Nat) (os : List OpB) (c : Int) (hs0 : 0 ≤ s) (hr : rightB k s nl ol = true) (ho : RdO w (.slice oa ol oc) os) (hc : chkL os = c) (hc0 : ¬ c = 0) :
    Calls Tryd.prog 20 #[noteV k s na nl nc oa ol oc] w fun e w' => e = .returned (.tuple #[.slice none 0 0, .int .i64 4]) ∧ Below w.heap.size w w' := by
  have hb := below_box4 w (.cells #[.int .u8 k, .int .u64 s, .slice na nl nc, .slice oa ol oc] 54)
  have bx := box4_new w (.int .u8 k) (.int .u64 s) (.slice na nl nc) (.slice oa ol oc) 54
  have hri := right_any (w.alloc (.cells #[.int .u8 k, .int .u64 s, .slice na nl nc, .slice oa ol oc] 54)) k s na nl nc oa ol oc hs0
  rw [hr] at hri
  have HC : Hid _ := hc
  have HO : Hid (RdO w (.slice oa ol oc) os) := ho
  have hcb : (c == 0) = false := by simpa using hc0
  clear hr hc ho
  go_enter Tryd.func20, Tryd.ntmps20
  go_wp2_with fail
  refine hri.mono ?_
  rintro e w1 ⟨rfl, hb1⟩
  have hB1 := hb.trans (hb1.mono hb.size)
  have c3 := (bx.below hb1 (Nat.le_refl _)).c3
  have hby := bytes_err w1 _ os c (HO.out.below hB1 (Nat.le_refl _)) HC.out hc0
  clear hb1 hb bx hri
  go_wp2_with fail
  refine hby.mono ?_
  rintro e w2 ⟨rfl, hb2⟩
  have hB2 := hB1.trans (hb2.mono hB1.size)
  go_wp2
  go_ret2
  exact ⟨rfl, hB2⟩

set_option maxRecDepth 20000 in
set_option maxHeartbeats 3000000 in
theorem ebytes_ok (w : World) (k s : Nat) (na : Option Addr) (nl nc : Nat) (oa : Option Addr) (ol oc : Nat) (name : List UInt8) (os : List OpB) (hk : k < 256) (hs : s < 18446744073709551616) (hr : rightB (k : Int) (s : Int) nl ol = true) (hn : Rd w (.slice na nl nc) name) (hnl : name.length ≤ 1000) (ho : RdO w (.slice oa ol oc) os) (hc : chkL os = 0) (hol : os.length ≤ 64) (hsz : sizeO os ≤ 1000000) :
    Calls Tryd.prog 20 #[noteV (k : Int) (s : Int) na nl nc oa ol oc] w fun e w' => ∃ x, e = .returned (.tuple #[x, .int .i64 0]) ∧ Own w.heap.size w' x (noteB k s name os) ∧ Below w.heap.size w w' := by
  have hb := below_box4 w (.cells #[.int .u8 (k : Int), .int .u64 (s : Int), .slice na nl nc, .slice oa ol oc] 54)
  have bx := box4_new w (.int .u8 (k : Int)) (.int .u64 (s : Int)) (.slice na nl nc) (.slice oa ol oc) 54
  have hri := right_any (w.alloc (.cells #[.int .u8 (k : Int), .int .u64 (s : Int), .slice na nl nc, .slice oa ol oc] 54)) (k : Int) (s : Int) na nl nc oa ol oc (by omega)
  rw [hr] at hri
  have HO : Hid (RdO w (.slice oa ol oc) os) := ho
  have HN : Hid (Rd w (.slice na nl nc) name) := hn
  have HC : Hid (chkL os = 0 ∧ os.length ≤ 64 ∧ sizeO os ≤ 1000000) := ⟨hc, hol, hsz⟩
  have HNL : Hid (name.length ≤ 1000) := hnl
  have HNK : Hid (∀ w', Calls Tryd.prog 36 #[.int .u64 (k : Int)] w' fun e w'' => ∃ v, e = .returned v ∧ Own w'.heap.size w'' v (Mth.numB k) ∧ Below w'.heap.size w' w'') := fun w' => num_any k w' (by omega)
  have HNS : Hid (∀ w', Calls Tryd.prog 36 #[.int .u64 (s : Int)] w' fun e w'' => ∃ v, e = .returned v ∧ Own w'.heap.size w'' v (Mth.numB s) ∧ Below w'.heap.size w' w'') := fun w' => num_any s w' hs
  obtain ⟨A, hA⟩ : ∃ A, Mth.numB k = A := ⟨_, rfl⟩
  obtain ⟨B, hB⟩ : ∃ B, Mth.numB s = B := ⟨_, rfl⟩
  obtain ⟨C, hC⟩ : ∃ C, textB name = C := ⟨_, rfl⟩
  obtain ⟨D, hD⟩ : ∃ D, batB os = D := ⟨_, rfl⟩
  have hAl : A.length ≤ 9 := by rw [← hA, Mth.numB_length]; exact (Mth.numL_bd k).2
  have hBl : B.length ≤ 9 := by rw [← hB, Mth.numB_length]; exact (Mth.numL_bd s).2
  have hCl : C.length ≤ 2000 := by rw [← hC]; unfold textB; rw [List.length_append, Mth.numB_length]; have := (Mth.numL_bd name.length).2; omega
  have hDl : D.length ≤ 2000000 := by rw [← hD]; unfold batB; have h1 := parts_len os.length os; have := hol; have := hsz; omega
  have HFL : Hid ([A, B, C, D].flatten = noteB k s name os ∧ [A, B, C, D].flatten.length ≤ 1099511627776) := by
    refine ⟨by unfold noteB; rw [hA, hB, hC, hD]; simp, ?_⟩
    simp only [List.flatten_cons, List.flatten_nil, List.append_nil, List.length_append]
    omega
  obtain ⟨NB, hNB⟩ : ∃ NB, noteB k s name os = NB := ⟨_, rfl⟩
  rw [hNB] at HFL ⊢
  rw [hA] at HNK
  rw [hB] at HNS
  have HCD : Hid (textB name = C ∧ batB os = D) := ⟨hC, hD⟩
  clear hr hc ho hn hnl hol hsz hs hA hB hC hD hAl hBl hCl hDl hNB
  have hkI : (k : Int) ≤ 255 := by omega
  have hkI0 : (0 : Int) ≤ (k : Int) := by omega
  have HKU : Hid (IntKind.u64.wrap (k : Int) = (k : Int)) := by show _ = _; rw [IntKind.wrap_u64]; omega
  clear hk
  go_enter Tryd.func20, Tryd.ntmps20
  go_wp2_with fail
  refine hri.mono ?_
  rintro e w1 ⟨rfl, hb1⟩
  have HB1 : Hid (Below w.heap.size w w1) := hb.trans (hb1.mono hb.size)
  have bx1 := bx.below hb1 (Nat.le_refl _)
  have c3 := bx1.c3
  have hby := bytes_ok w1 _ os (HO.out.below HB1.out (Nat.le_refl _)) HC.out.1 HC.out.2.1 HC.out.2.2
  rw [HCD.out.2] at hby
  clear hb1 hb bx hri
  go_wp2_with fail
  refine hby.mono ?_
  rintro e w2 ⟨xd, rfl, od, hb2⟩
  obtain ⟨gd, kd, rfl⟩ := od.shape
  have HB2 : Hid (Below w.heap.size w w2) := HB1.out.trans (hb2.mono HB1.out.size)
  have bx2 := bx1.below hb2 (Nat.le_refl _)
  have HOD : Hid (Own w1.heap.size w2 (.slice (some ⟨gd, 0, none⟩) D.length kd) D) := od
  have HB12 : Hid (w.heap.size ≤ w1.heap.size) := HB1.out.size
  have S0 : w2.cell? ⟨w.heap.size, 0, none⟩ = some (.int .u8 (k : Int)) ∧ w2.cell? ⟨w.heap.size, 1, none⟩ = some (.int .u64 (s : Int)) ∧ w2.cell? ⟨w.heap.size, 2, none⟩ = some (.slice na nl nc) := ⟨bx2.c0, bx2.c1, bx2.c2⟩
  have HX2 : Hid (Box4 w2 w.heap.size (.int .u8 (k : Int)) (.int .u64 (s : Int)) (.slice na nl nc) (.slice oa ol oc)) := bx2
  have hn2 := HN.out.below HB2.out (Nat.le_refl _)
  have HN2 : Hid (Rd w2 (.slice na nl nc) name) := hn2
  have hk1 := HNK.out
  have hs1 := HNS.out
  clear c3 hby hb2 od bx1 bx2 hn2
  go_wp2_with fail
  have hku := HKU.out
  go_region_held3 (fun w' => w'.cell? ⟨w.heap.size, 0, none⟩ = some (.int .u8 (k : Int)) ∧ w'.cell? ⟨w.heap.size, 1, none⟩ = some (.int .u64 (s : Int)) ∧ w'.cell? ⟨w.heap.size, 2, none⟩ = some (.slice na nl nc))
    (first | exact S5 | exact S3 | exact S2 | exact S1 | exact S0 | exact And.intro (XC.alloc _).c0 (And.intro (XC.alloc _).c1 (XC.alloc _).c2))
    (first
      | (go_at_call 36; refine (hk1 _).mono ?_; rintro e wa ⟨xa, rfl, oa', hba⟩; obtain ⟨ga, ka, rfl⟩ := oa'.shape; have XA := HX2.out.drew.below hba (Nat.le_refl _); have S1 := And.intro XA.c0 (And.intro XA.c1 XA.c2); have RNA := HN2.out.drew.below hba (Nat.le_refl _); have RDA := HOD.out.rd.drew.below hba (Nat.le_refl _); have HA : Hid (Own w2.heap.size wa (.slice (some ⟨ga, 0, none⟩) A.length ka) A ∧ Below w.heap.size w wa) := ⟨oa', HB2.out.drew.trans (hba.mono HB2.out.size)⟩; clear oa' hba hk1)
      | (go_at_call 36; refine (hs1 _).mono ?_; rintro e wb ⟨xb, rfl, ob', hbb⟩; obtain ⟨gb, kb, rfl⟩ := ob'.shape; have XB := XA.below hbb (Nat.le_refl _); have S2 := And.intro XB.c0 (And.intro XB.c1 XB.c2); have RNB := RNA.below hbb (Nat.le_refl _); have RDB := RDA.below hbb (Nat.le_refl _); have HB : Hid (Rd wb (.slice (some ⟨ga, 0, none⟩) A.length ka) A ∧ Rd wb (.slice (some ⟨gb, 0, none⟩) B.length kb) B ∧ Below w.heap.size w wb) := ⟨HA.out.1.rd.below hbb (Nat.le_refl _), ob'.rd, HA.out.2.trans (hbb.mono HA.out.2.size)⟩; clear ob' hbb hs1)
      | (go_at_call 37; refine (text_own _ _ name RNB (by have := HNL.out; omega)).mono ?_; rintro e wc ⟨xc, rfl, oc', hbc⟩; rw [HCD.out.1] at oc'; obtain ⟨gc, kc, rfl⟩ := oc'.shape; have XC := XB.below hbc (Nat.le_refl _); have S3 := And.intro XC.c0 (And.intro XC.c1 XC.c2); have HC4 : Hid (Rd wc (.slice (some ⟨ga, 0, none⟩) A.length ka) A ∧ Rd wc (.slice (some ⟨gb, 0, none⟩) B.length kb) B ∧ Rd wc (.slice (some ⟨gc, 0, none⟩) C.length kc) C ∧ Rd wc (.slice (some ⟨gd, 0, none⟩) D.length kd) D ∧ Below w.heap.size w wc) := ⟨HB.out.1.below hbc (Nat.le_refl _), HB.out.2.1.below hbc (Nat.le_refl _), oc'.rd, RDB.below hbc (Nat.le_refl _), HB.out.2.2.trans (hbc.mono HB.out.2.2.size)⟩; clear oc' hbc)
      | (go_at_call 35; refine (join_any _ _ [A, B, C, D] (rdl_four _ _ _ _ _ _ _ _ _ HC4.out.1 HC4.out.2.1 HC4.out.2.2.1 HC4.out.2.2.2.1 _) HFL.out.2).mono ?_; rintro e wj ⟨xj, rfl, oj, hbj⟩; rw [HFL.out.1] at oj; have XJ := (XC.alloc _).below hbj (Nat.le_refl _); have S5 := And.intro XJ.c0 (And.intro XJ.c1 XJ.c2))
      | fail)
  all_goals
    have hBc := HC4.out.2.2.2.2
    have hBj := (hBc.alloc hBc.size _).trans (hbj.mono (Nat.le_trans hBc.size (by simp)))
    have hoj := oj.mono (C := w.heap.size) (Nat.le_trans hBc.size (by simp))
    clear hbj oj
    go_wp2
    go_ret2
    exact ⟨_, rfl, hoj, hBj⟩

end Go.Proofs.YtmgofohaoppajaaDoor
