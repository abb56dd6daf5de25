/- BatchParts answers true: a batch done in two parts is the batch: the map behind both is the map behind it. -/
import Derived.Test.YtlkfdiiapcipoaaBChecksWalk
import Derived.Test.YtlkfdiiapcipoaaPairAll
import Derived.Test.YtlkfdiiapcipoaaPairSame
import Derived.Test.YtlkfdiiapcipoaaOpBCopy
import Derived.Test.YtlkfdiiapcipoaaOpSize
import Derived.Deep.RegionHeld3
namespace Go.Proofs.Ytlkfdiiapcipoaa
open Go.RowKit

theorem all_append (m : List PrB) (a b : List OpB) : applyAllO (applyAllO m a) b = applyAllO m (a ++ b) := by unfold applyAllO; rw [List.foldl_append]

/-- the first ops -/
theorem lso_take {w : World} {ao : Option Addr} {n cap : Nat} {os : List OpB} (h : RdO w (.slice ao n cap) os) (k : Nat) (hk : k ≤ os.length) : RdO w (.slice ao k cap) (os.take k) := by
  obtain ⟨a, c, e, h1, h2, h3⟩ := h
  cases e
  have hl : (os.take k).length = k := by rw [List.length_take]; omega
  refine ⟨ao, cap, by rw [hl], by omega, h2, fun j hj => ?_⟩
  obtain ⟨b, off, e, ho⟩ := h3 j (by omega)
  exact ⟨b, off, e, by rw [List.getElem_take]; exact ho⟩

/-- the ops behind -/
theorem lso_drop {w : World} {b off n cap : Nat} {os : List OpB} (h : RdO w (.slice (some ⟨b, off, none⟩) n cap) os) (k off' : Nat) (hk : k ≤ os.length) (ho : k < cap → off' = off + k * 3) : RdO w (.slice (some ⟨b, off', none⟩) (os.length - k) (cap - k)) (os.drop k) := by
  obtain ⟨a, c, e, h1, h2, h3⟩ := h
  cases e
  refine ⟨_, cap - k, by rw [List.length_drop], by rw [List.length_drop]; omega, by omega, fun j hj => ?_⟩
  rw [List.length_drop] at hj
  obtain ⟨b', off2, e, x, y, c0, c1, c2, r1, r2⟩ := h3 (k + j) (by omega)
  cases e
  have e := ho (by omega)
  subst e
  have e3 : ∀ i, off + k * 3 + j * 3 + i = off + (k + j) * 3 + i := by intro i; omega
  refine ⟨b, off + k * 3, rfl, x, y, ?_, ?_, ?_, ?_, ?_⟩
  · rw [List.getElem_drop]; have := e3 0; simp only [Nat.add_zero] at this; rw [this]; exact c0
  · rw [e3 1]; exact c1
  · rw [e3 2]; exact c2
  · rw [List.getElem_drop]; exact r1
  · rw [List.getElem_drop]; exact r2

set_option maxHeartbeats 3000000 in
set_option maxRecDepth 20000 in
theorem bparts_walk (w : World) (v vm : Value) (os fs ns ms : List OpB) (z : Int) (hz : 0 ≤ z) (hz2 : z ≤ 255) (HF : Hid (fewO 40 os = fs)) (HN : Hid (fewO 20 ns = ms)) (hv : ArgO w v os) (hm : ArgO w vm ns) :
    Calls Try.prog 8 #[v, .int .u8 z, vm] w fun e w' => e = .returned (.bool true) ∧ Below w.heap.size w w' := by
  have HA : Hid _ := hm
  go_enter Try.func8, Try.ntmps8
  go_wp2_with fail
  refine (bawake_any _).mono ?_
  rintro e w1 ⟨rfl, hb1⟩
  have hv1 := hv.belowA hb1 (Nat.le_refl _)
  clear hv hm
  go_wp2_with fail
  refine (fewop_any _ _ os 40 hv1 (by omega)).mono ?_
  rintro e w2 ⟨x, rfl, ox, hb2⟩
  rw [HF.out] at ox
  have hB2 := hb1.trans (hb2.mono hb1.size)
  have hlen : fs.length ≤ 40 := by rw [← HF.out]; exact fewO_length _ _
  have HBD : Hid (∀ o ∈ fs, o.2.1.length ≤ 1000000 ∧ o.2.2.length ≤ 1000000) := by
    intro o ho
    rw [← HF.out] at ho
    have := fewO_bound _ _ o ho
    omega
  have hsz : sizeO fs ≤ 100000 := by
    have := sizeO_bound fs (by rw [← HF.out]; exact fewO_bound _ _)
    omega
  obtain ⟨la, lc, hx⟩ := ox.shape
  subst hx
  have hlow := ox
  have rl2 := ox.rd
  have hm2 : ArgO w2 vm ns := LsO.belowA (show ArgO w vm ns from HA.out) hB2 (Nat.le_refl _)
  have hla : la = none ∨ ∃ g, la = some ⟨g, 0, none⟩ := by
    obtain ⟨cs, hr, _⟩ := hlow
    rcases hr.2 with ⟨e, _⟩ | ⟨g, c, cur, e, _⟩
    · simp only [Value.slice.injEq] at e; exact .inl e.1
    · simp only [Value.slice.injEq] at e; exact .inr ⟨g, e.1⟩
  have hlz : la = none → fs.length = 0 ∧ lc = 0 := by
    obtain ⟨cs, hr, _⟩ := hlow
    rcases hr.2 with ⟨e, e2⟩ | ⟨g, c, cur, e, _⟩
    · simp only [Value.slice.injEq] at e; exact fun _ => ⟨e.2.1, e.2.2⟩
    · simp only [Value.slice.injEq] at e; intro h; rw [e.1] at h; cases h
  clear hb1 hb2 hv1 ox hlow
  go_wp2_with fail
  refine (fewop_any _ _ ns 20 hm2 (by omega)).mono ?_
  rintro e w3 ⟨y, rfl, oy, hb⟩
  rw [HN.out] at oy
  have rm3 := oy.rd
  have rl3 := rl2.below hb (Nat.le_refl _)
  have hB3 := hB2.trans (hb.mono hB2.size)
  have hml : ms.length ≤ 20 := by rw [← HN.out]; exact fewO_length _ _
  have HBM : Hid (∀ o ∈ ms, o.2.1.length ≤ 1000000 ∧ o.2.2.length ≤ 1000000) := by
    intro o ho
    rw [← HN.out] at ho
    have := fewO_bound _ _ o ho
    omega
  have hlc : fs.length ≤ lc ∧ lc ≤ 9223372036854775807 := by obtain ⟨_, _, e, h1, h2, _⟩ := rl3; cases e; unfold maxLen at h2; omega
  obtain ⟨hlc1, hlc2⟩ := hlc
  obtain ⟨k, hk⟩ : ∃ k, z.toNat % (fs.length + 1) = k := ⟨_, rfl⟩
  have hkl : k ≤ fs.length := by have := Nat.mod_lt z.toNat (show 0 < fs.length + 1 by omega); omega
  have hkt : z.tmod ((fs.length : Int) + 1) = (k : Int) := by
    rw [Int.tmod_eq_emod_of_nonneg hz, ← hk]
    obtain ⟨zn, rfl⟩ : ∃ zn : Nat, z = (zn : Int) := ⟨z.toNat, by omega⟩
    simp
  have hwz : IntKind.i64.wrap z = z := by rw [IntKind.wrap_i64]; omega
  clear rl2 hB2 hb hm2 oy hk
  go_wp2_with fail
  refine (applyall_any _ _ _ [] _ ms (RdP.nil _) rm3 (by omega) (by simp) HBM.out rfl).mono ?_
  rintro e w4 ⟨bs, rfl, rb, hb⟩
  obtain ⟨base, hbase⟩ : ∃ b, applyAllO [] ms = b := ⟨_, rfl⟩
  have hbl : base.length ≤ 20 := by rw [← hbase]; have := applyAll_len [] ms; simp at this; omega
  rw [hbase] at rb
  have rl4 := rl3.below hb (Nat.le_refl _)
  have hB4 := hB3.trans (hb.mono hB3.size)
  clear rl3 hB3 hb rm3 hbase hkt hwz
  go_wp2_with fail
  refine (bcopy_any _ _ fs rl4 (by omega) HBD.out).mono ?_
  rintro e w5 ⟨c5, rfl, o5, hb⟩
  have rb5 := rb.below hb (Nat.le_refl _)
  have rl5 := rl4.below hb (Nat.le_refl _)
  have hB5 := hB4.trans (hb.mono hB4.size)
  have r5 := o5.rd
  clear rb rl4 hB4 hb o5
  obtain ⟨whole, hwh⟩ : ∃ b, applyAllO base fs = b := ⟨_, rfl⟩
  have HW : Hid _ := hwh
  clear hwh
  go_wp2_with fail
  refine (applyall_any _ _ _ base whole fs rb5 r5 (by omega) (by omega) HBD.out HW.out).mono ?_
  rintro e w6 ⟨vw, rfl, rw6, hb⟩
  have rb6 := rb5.below hb (Nat.le_refl _)
  have rl6 := rl5.below hb (Nat.le_refl _)
  have hB6 := hB5.trans (hb.mono hB5.size)
  clear rb5 rl5 hB5 hb r5
  obtain ⟨fa, hfa⟩ : ∃ b, fs.take k = b := ⟨_, rfl⟩
  obtain ⟨fb, hfb⟩ : ∃ b, fs.drop k = b := ⟨_, rfl⟩
  obtain ⟨pa, hpa⟩ : ∃ b, applyAllO base fa = b := ⟨_, rfl⟩
  have HPA : Hid _ := hpa
  have HPB : Hid (applyAllO pa fb = whole) := by show _ = _; rw [← hpa, all_append, ← hfa, ← hfb, List.take_append_drop]; exact HW.out
  have hfal : fa.length = k := by rw [← hfa, List.length_take]; omega
  have hfbl : fb.length = fs.length - k := by rw [← hfb, List.length_drop]
  have hpal : pa.length ≤ 100 := by rw [← hpa]; have := applyAll_len base fa; omega
  have HBA : Hid (∀ o ∈ fa, o.2.1.length ≤ 1000000 ∧ o.2.2.length ≤ 1000000) := by intro o ho; rw [← hfa] at ho; exact HBD.out o (List.mem_of_mem_take ho)
  have HBB : Hid (∀ o ∈ fb, o.2.1.length ≤ 1000000 ∧ o.2.2.length ≤ 1000000) := by intro o ho; rw [← hfb] at ho; exact HBD.out o (List.mem_of_mem_drop ho)
  have hsum : sizeO fa + sizeO fb = sizeO fs := by rw [← hfa, ← hfb, ← sizeO_append, List.take_append_drop]
  obtain ⟨sa, hsa⟩ : ∃ s, sizeO fa = s := ⟨_, rfl⟩
  obtain ⟨sb, hsb⟩ : ∃ s, sizeO fb = s := ⟨_, rfl⟩
  obtain ⟨ss, hss⟩ : ∃ s, sizeO fs = s := ⟨_, rfl⟩
  rw [hsa, hsb, hss] at hsum
  rw [hss] at hsz
  have HSA : Hid _ := hsa
  have HSB : Hid _ := hsb
  have HSS : Hid _ := hss
  have HSUM : Hid _ := hsum
  have hsab : sa ≤ 100000 := by omega
  have hsbb : sb ≤ 100000 := by omega
  have ta6 := lso_take rl6 k hkl
  rw [hfa] at ta6
  clear hpa hsa hsb hss hfa hsum
  have hki : (0 : Int) ≤ (k : Int) := by omega
  have hki2 : (k : Int) ≤ (lc : Int) := by omega
  have hki3 : (k : Int) ≤ (fs.length : Int) := by omega
  have rb6d := rb6.drew
  have rw6d := rw6.drew
  have rl6d := rl6.drew
  have ta6d := ta6.drew
  have hB6d := hB6.drew
  rcases hla with hl0 | ⟨g, hl0⟩
  · subst hl0
    obtain ⟨h0, h1⟩ := hlz rfl
    subst h1
    obtain rfl : fs = [] := List.eq_nil_of_length_eq_zero h0
    obtain rfl : k = 0 := by simp at hkl; exact hkl
    have hwb : whole = base := by rw [← HW.out]; rfl
    subst hwb
    have rbx := rb6d
    have rwx := rw6d
    have Bx := hB6d
    clear hlz ta6 rl6 rb6 rw6 hB6 hfb rl6d ta6d h0 HPA HPB HW HBA HBB HSA HSB HSS HSUM
    go_wp2_with fail
    go_region_held3 (fun _ => True) (trivial)
      (first
        | (go_at_call 29; refine (bcopy_any _ _ [] (LsO.nil _) (by simp) (by simp)).mono ?_; rintro e u ⟨c, rfl, o, h⟩; have rcx := o.rd; have rbx := rbx.below h (Nat.le_refl _); have rwx := rwx.below h (Nat.le_refl _); (try have rax := rax.below h (Nat.le_refl _)); have Bx := Bx.trans (h.mono Bx.size))
        | (go_at_call_of 27 bs; refine (applyall_any _ _ _ whole whole [] rbx rcx (by simp) (by omega) (by simp) rfl).mono ?_; rintro e u ⟨va, rfl, rax, h⟩; have rwx := rwx.below h (Nat.le_refl _); have rbx := rbx.below h (Nat.le_refl _); have Bx := Bx.trans (h.mono Bx.size))
        | (go_at_call_of 27 va; refine (applyall_any _ _ _ whole whole [] rax rcx (by simp) (by omega) (by simp) rfl).mono ?_; rintro e u ⟨vb, rfl, rax, h⟩; have rwx := rwx.below h (Nat.le_refl _); have rbx := rbx.below h (Nat.le_refl _); have Bx := Bx.trans (h.mono Bx.size))
        | (go_at_call 31; refine (samepairs_any _ _ _ whole whole true rax rwx (by simp)).mono ?_; rintro e u5 ⟨rfl, nq5, hu5⟩; have h5 : Below u.heap.size u u5 := (by rw [hu5]; exact below_drewN (Below.refl _ _) _); have Bx := Bx.trans (h5.mono Bx.size); clear hu5)
        | (go_at_call 30; refine (bsize_any _ _ [] (LsO.nil _) (by simp [sizeO])).mono ?_; rintro e u6 ⟨rfl, h6⟩; have Bx := Bx.trans (h6.mono Bx.size))
        | fail)
    all_goals
      go_wp2
      go_ret
      exact ⟨ret_bool (by simp [sizeO]; try rfl), Bx⟩
  · subst hl0
    clear hlz
    by_cases hck : lc = k
    · subst hck
      have hfk : fs.length = lc := by omega
      have tb6 := lso_drop rl6 lc 0 hkl (fun h => absurd h (Nat.lt_irrefl _))
      rw [hfb, hfk, Nat.sub_self] at tb6
      have tb6d := tb6.drew
      have hfbl0 : fb.length = 0 := by omega
      rw [hfk] at rl6d
      have hci : ((lc : Int) == (lc : Int)) = true := by simp
      have HFK : Hid _ := hfk
      clear tb6 ta6 rl6 rb6 rw6 hB6 hfb
      go_wp2_with fail
      go_region_held3 (fun _ => True) (trivial)
        (first
          | (have _g7 := h7; go_at_call 30; refine (bsize_any _ _ fs (((((((rl6d.below h1 (Nat.le_refl _)).below h2 (Nat.le_refl _)).below h3 (Nat.le_refl _)).below h4 (Nat.le_refl _)).below h5 (Nat.le_refl _)).below h6 (Nat.le_refl _)).below h7 (Nat.le_refl _)) (by rw [HSS.out]; omega)).mono ?_; rintro e u8 ⟨rfl, h8⟩; rw [HSS.out]; have B8 := B7.trans (h8.mono B7.size))
          | (go_at_call_of 29 (Value.slice (some ⟨g, 0, none⟩) lc lc); refine (bcopy_any _ _ fa ta6d (by omega) HBA.out).mono ?_; rintro e u1 ⟨ca, rfl, oa, h1⟩; have rca := oa.rd; have B1 := hB6d.trans (h1.mono hB6d.size))
          | (go_at_call_of 27 bs; refine (applyall_any _ _ _ base pa fa (rb6d.below h1 (Nat.le_refl _)) rca (by omega) (by omega) HBA.out HPA.out).mono ?_; rintro e u2 ⟨va, rfl, ra, h2⟩; have B2 := B1.trans (h2.mono B1.size))
          | (go_at_call_of 29 (Value.slice (some ⟨g, 0, none⟩) 0 0); refine (bcopy_any _ _ fb ((tb6d.below h1 (Nat.le_refl _)).below h2 (Nat.le_refl _)) (by omega) HBB.out).mono ?_; rintro e u3 ⟨cb, rfl, ob, h3⟩; have rcb := ob.rd; have B3 := B2.trans (h3.mono B2.size))
          | (go_at_call_of 27 va; refine (applyall_any _ _ _ pa whole fb (ra.below h3 (Nat.le_refl _)) rcb (by omega) (by omega) HBB.out HPB.out).mono ?_; rintro e u4 ⟨vb, rfl, rb4, h4⟩; have B4 := B3.trans (h4.mono B3.size))
          | (go_at_call 31; refine (samepairs_any _ _ _ whole whole true rb4 ((((rw6d.below h1 (Nat.le_refl _)).below h2 (Nat.le_refl _)).below h3 (Nat.le_refl _)).below h4 (Nat.le_refl _)) (by simp)).mono ?_; rintro e u5 ⟨rfl, nq5, hu5⟩; have h5 : Below u4.heap.size u4 u5 := (by rw [hu5]; exact below_drewN (Below.refl _ _) _); have B5 := B4.trans (h5.mono B4.size); clear hu5)
          | (go_at_call_of 30 (Value.slice (some ⟨g, 0, none⟩) lc lc); refine (bsize_any _ _ fa (((((ta6d.below h1 (Nat.le_refl _)).below h2 (Nat.le_refl _)).below h3 (Nat.le_refl _)).below h4 (Nat.le_refl _)).below h5 (Nat.le_refl _)) (by rw [HSA.out]; omega)).mono ?_; rintro e u6 ⟨rfl, h6⟩; rw [HSA.out]; have B6 := B5.trans (h6.mono B5.size))
          | (go_at_call_of 30 (Value.slice (some ⟨g, 0, none⟩) 0 0); refine (bsize_any _ _ fb ((((((tb6d.below h1 (Nat.le_refl _)).below h2 (Nat.le_refl _)).below h3 (Nat.le_refl _)).below h4 (Nat.le_refl _)).below h5 (Nat.le_refl _)).below h6 (Nat.le_refl _)) (by rw [HSB.out]; omega)).mono ?_; rintro e u7 ⟨rfl, h7⟩; rw [HSB.out]; have B7 := B6.trans (h7.mono B6.size))
          | fail)
      all_goals
        go_wp2
        go_ret
        exact ⟨ret_bool (by rw [show IntKind.i64.wrap ((sa : Int) + (sb : Int)) = (ss : Int) by have := HSUM.out; rw [IntKind.wrap_i64]; omega]; simp), B8⟩
    · have tb6 := lso_drop rl6 k (0 + k * 3) hkl (fun _ => rfl)
      rw [hfb, Nat.zero_add] at tb6
      have tb6d := tb6.drew
      have hci : ¬ (lc : Int) = (k : Int) := by omega
      clear tb6 ta6 rl6 rb6 rw6 hB6 hfb
      go_wp2_with fail
      go_region_held3 (fun _ => True) (trivial)
        (first
          | (go_at_call_of 29 (Value.slice (some ⟨g, 0, none⟩) k lc); refine (bcopy_any _ _ fa ta6d (by omega) HBA.out).mono ?_; rintro e u1 ⟨ca, rfl, oa, h1⟩; have rca := oa.rd; have B1 := hB6d.trans (h1.mono hB6d.size))
          | (go_at_call_of 27 bs; refine (applyall_any _ _ _ base pa fa (rb6d.below h1 (Nat.le_refl _)) rca (by omega) (by omega) HBA.out HPA.out).mono ?_; rintro e u2 ⟨va, rfl, ra, h2⟩; have B2 := B1.trans (h2.mono B1.size))
          | (go_at_call_of 29 (Value.slice (some ⟨g, k * 3, none⟩) (fs.length - k) (lc - k)); refine (bcopy_any _ _ fb ((tb6d.below h1 (Nat.le_refl _)).below h2 (Nat.le_refl _)) (by omega) HBB.out).mono ?_; rintro e u3 ⟨cb, rfl, ob, h3⟩; have rcb := ob.rd; have B3 := B2.trans (h3.mono B2.size))
          | (go_at_call_of 27 va; refine (applyall_any _ _ _ pa whole fb (ra.below h3 (Nat.le_refl _)) rcb (by omega) (by omega) HBB.out HPB.out).mono ?_; rintro e u4 ⟨vb, rfl, rb4, h4⟩; have B4 := B3.trans (h4.mono B3.size))
          | (go_at_call 31; refine (samepairs_any _ _ _ whole whole true rb4 ((((rw6d.below h1 (Nat.le_refl _)).below h2 (Nat.le_refl _)).below h3 (Nat.le_refl _)).below h4 (Nat.le_refl _)) (by simp)).mono ?_; rintro e u5 ⟨rfl, nq5, hu5⟩; have h5 : Below u4.heap.size u4 u5 := (by rw [hu5]; exact below_drewN (Below.refl _ _) _); have B5 := B4.trans (h5.mono B4.size); clear hu5)
          | (go_at_call_of 30 (Value.slice (some ⟨g, 0, none⟩) k lc); refine (bsize_any _ _ fa (((((ta6d.below h1 (Nat.le_refl _)).below h2 (Nat.le_refl _)).below h3 (Nat.le_refl _)).below h4 (Nat.le_refl _)).below h5 (Nat.le_refl _)) (by rw [HSA.out]; omega)).mono ?_; rintro e u6 ⟨rfl, h6⟩; rw [HSA.out]; have B6 := B5.trans (h6.mono B5.size))
          | (go_at_call_of 30 (Value.slice (some ⟨g, k * 3, none⟩) (fs.length - k) (lc - k)); refine (bsize_any _ _ fb ((((((tb6d.below h1 (Nat.le_refl _)).below h2 (Nat.le_refl _)).below h3 (Nat.le_refl _)).below h4 (Nat.le_refl _)).below h5 (Nat.le_refl _)).below h6 (Nat.le_refl _)) (by rw [HSB.out]; omega)).mono ?_; rintro e u7 ⟨rfl, h7⟩; rw [HSB.out]; have B7 := B6.trans (h7.mono B6.size))
          | (go_at_call_of 30 (Value.slice (some ⟨g, 0, none⟩) fs.length lc); refine (bsize_any _ _ fs (((((((rl6d.below h1 (Nat.le_refl _)).below h2 (Nat.le_refl _)).below h3 (Nat.le_refl _)).below h4 (Nat.le_refl _)).below h5 (Nat.le_refl _)).below h6 (Nat.le_refl _)).below h7 (Nat.le_refl _)) (by rw [HSS.out]; omega)).mono ?_; rintro e u8 ⟨rfl, h8⟩; rw [HSS.out]; have B8 := B7.trans (h8.mono B7.size))
          | fail)
      all_goals
        go_wp2
        go_ret
        exact ⟨ret_bool (by rw [show IntKind.i64.wrap ((sa : Int) + (sb : Int)) = (ss : Int) by have := HSUM.out; rw [IntKind.wrap_i64]; omega]; simp), B8⟩

theorem batchParts_walk (a0 : Option Addr) (len0 cap0 : Nat) (z0 : List OpB) (a1 : Int) (a2 : Option Addr) (len2 cap2 : Nat) (z2 : List OpB) (w : World) (w0 : ArgO w (.slice a0 len0 cap0) z0) (w1 : (Lit.int .u8 a1).wf = true) (w2 : ArgO w (.slice a2 len2 cap2) z2) :
    Calls Try.prog 8 #[.slice a0 len0 cap0, .int .u8 a1, .slice a2 len2 cap2] w fun e w' => e = .returned (.bool true) ∧ Below w.heap.size w w' :=
  bparts_walk w _ _ z0 _ z2 _ a1 (bounds_u8 w1).1 (by have := (bounds_u8 w1).2; omega) rfl rfl w0 w2

end Go.Proofs.Ytlkfdiiapcipoaa
