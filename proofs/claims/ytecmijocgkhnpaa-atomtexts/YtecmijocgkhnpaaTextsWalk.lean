/- AtomTexts answers true: texts one behind the other are read one by one, to the end. -/
import Derived.Test.YtecmijocgkhnpaaLists
namespace Go.Proofs.Ytecmijocgkhnpaa
open Go.ChangeShapes Go.WideShapes Go.ChangeAt Go.RowKit

/-- the texts from the k-th on, one behind the other -/
def suf (ls : List (List UInt8)) (k : Nat) : List UInt8 := (ls.drop k).flatten
theorem suf_zero (ls : List (List UInt8)) : suf ls 0 = ls.flatten := rfl
theorem suf_end (ls : List (List UInt8)) : suf ls ls.length = [] := by simp [suf]
theorem suf_cons (ls : List (List UInt8)) (k : Nat) (h : k < ls.length) : suf ls k = ls[k] ++ suf ls (k + 1) := by
  unfold suf
  rw [List.drop_eq_getElem_cons h, List.flatten_cons]
theorem suf_le (ls : List (List UInt8)) (k : Nat) : (suf ls k).length ≤ ls.flatten.length := by
  have e : ls.flatten = (ls.take k).flatten ++ suf ls k := by
    conv => lhs; rw [← List.take_append_drop k ls]
    rw [List.flatten_append]; rfl
  rw [e, List.length_append]; omega

/-- the texts that are told: at most thirty, of at most 300 bytes each -/
def cuts (ls : List (List UInt8)) : List (List UInt8) := (ls.take 30).map fun t => t.take 300
def told (ls : List (List UInt8)) : List (List UInt8) := (cuts ls).map textB
theorem cuts_length (ls : List (List UInt8)) : (cuts ls).length = min ls.length 30 := by simp [cuts, Nat.min_comm]
theorem told_length (ls : List (List UInt8)) : (told ls).length = min ls.length 30 := by simp [told, cuts_length]
theorem told_get (ls : List (List UInt8)) (k : Nat) (h : k < (told ls).length) (h' : k < ls.length) : (told ls)[k] = textB ((ls[k]).take 300) := by simp [told, cuts]
theorem textB_le (t : List UInt8) : (textB t).length ≤ 9 + t.length := by
  have := Mth.numL_bd t.length
  simp only [textB, List.length_append, Mth.numB_length]; omega
theorem flat_bound (l : List (List UInt8)) (c : Nat) (h : ∀ x ∈ l, x.length ≤ c) : l.flatten.length ≤ c * l.length := by
  induction l with
  | nil => simp
  | cons x l ih =>
    have h1 := h x (by simp)
    have h2 := ih (fun y hy => h y (by simp [hy]))
    rw [List.flatten_cons, List.length_append, List.length_cons, Nat.mul_add]
    omega
theorem told_flat (ls : List (List UInt8)) : (told ls).flatten.length ≤ 9270 := by
  have := flat_bound (told ls) 309 (fun x hx => by
    simp only [told, cuts, List.mem_map] at hx
    obtain ⟨_, ⟨y, _, rfl⟩, rfl⟩ := hx
    have := textB_le (y.take 300)
    have h3 : (y.take 300).length ≤ 300 := List.length_take_le _ _
    omega)
  have hl := told_length ls
  have : (told ls).length ≤ 30 := by omega
  omega

theorem front_textB (c r : List UInt8) (hc : c.length < 18446744073709551616) : frontS (textB c ++ r) = (c.length, (Mth.numB c.length).length, 0) := by
  rw [textB, List.append_assoc]
  exact front_numB c.length hc (c ++ r)
theorem textB_drop (c r : List UInt8) : (textB c ++ r).drop (Mth.numB c.length).length = c ++ r := by
  rw [textB, List.append_assoc]; simp
theorem textB_take (c r : List UInt8) : ((textB c ++ r).drop (Mth.numB c.length).length).take c.length = c := by rw [textB_drop]; simp
theorem textB_rest (c r : List UInt8) : (textB c ++ r).drop ((Mth.numB c.length).length + c.length) = r := by rw [← List.drop_drop, textB_drop]; simp

set_option maxHeartbeats 4000000 in
set_option maxRecDepth 20000 in
theorem texts_walk (w : World) (b off cap : Nat) (ls : List (List UInt8)) (M : Nat) (hM : M < 256) (h0 : 0 < ls.length) (h1 : ls.length ≤ cap) (_h2 : cap ≤ maxLen) (h3 : ∀ j (h : j < ls.length), ∃ u, w.cell? ⟨b, off + j, none⟩ = some u ∧ Arg w u (ls[j])) :
    Calls Try.prog 6 #[.slice (some ⟨b, off, none⟩) ls.length cap, .int .u8 (M : Int)] w fun e w' => e = .returned (.bool true) ∧ Below w.heap.size w w' := by
  obtain ⟨m, hm⟩ : ∃ m, min ls.length 30 = m := ⟨_, rfl⟩
  have hml : m ≤ ls.length := by omega
  have hm30 : m ≤ 30 := by omega
  have hmin : min (ls.length : Int) 30 = (m : Int) := by omega
  have HTL : Hid ((told ls).length = m) := by show _ = _; rw [told_length, hm]
  have hfl := told_flat ls
  obtain ⟨T, hT⟩ : ∃ T, told ls = T := ⟨_, rfl⟩
  have HTG : Hid (∀ k (h : k < T.length) (h' : k < ls.length), T[k] = textB ((ls[k]).take 300)) := by
    subst hT; exact fun k h h' => told_get ls k h h'
  rw [hT] at HTL hfl
  clear hm hT
  unfold maxLen at _h2
  go_enter Try.func6, Try.ntmps6
  go_wp2_with fail
  refine (awake_any _).mono ?_
  rintro e w1 ⟨rfl, hb1⟩
  have h31 : ∀ j (h : j < ls.length), ∃ u, w1.cell? ⟨b, off + j, none⟩ = some u ∧ Arg w1 u (ls[j]) := fun j hj => by
    obtain ⟨u, hc, ha⟩ := h3 j hj
    refine ⟨u, ?_, ha.below hb1 (Nat.le_refl _)⟩
    rw [hb1.cell (p := ⟨b, off + j, none⟩) (World.block_lt_of_cell? w _ hc)]; exact hc
  have hsz := hb1.size
  clear h3
  go_wp2
  go_loopw [5, 25] (fun pv iv wr => ∃ k : Nat, k ≤ m ∧ iv = .int .i64 (k : Int) ∧ Rd wr pv (pre T k) ∧ Below w1.heap.size w1 wr) (fun _ iv _ => m - (intOf iv).toNat)
  case atStart => exact ⟨0, Nat.zero_le _, rfl, by rw [pre_zero]; exact .inl ⟨rfl, rfl⟩, Below.refl _ _⟩
  case round =>
    obtain ⟨k, hk, rfl, hrd, hbl⟩ := hrel
    by_cases hlt : k < m
    · obtain ⟨u, hc, ha⟩ := h31 k (by omega)
      have hc2 : wr.cell? ⟨b, off + k, none⟩ = some u := by rw [hbl.cell (p := ⟨b, off + k, none⟩) (World.block_lt_of_cell? w1 _ hc)]; exact hc
      have ha2 := ha.below hbl (Nat.le_refl _)
      have HPS : Hid (pre T (k + 1) = pre T k ++ textB ((ls[k]).take 300)) := by
        show _ = _
        have hkT : k < T.length := by rw [HTL.out]; exact hlt
        rw [pre_succ T k hkT, HTG.out k hkT (by omega)]
      have hpl := pre_le T (k + 1)
      rw [HPS.out] at hpl
      obtain ⟨c, hcc⟩ : ∃ c, (ls[k]).take 300 = c := ⟨_, rfl⟩
      have hcl : c.length ≤ 300 := by rw [← hcc]; exact List.length_take_le _ _
      have HC : Hid ((ls[k]).take 300 = c) := hcc
      rw [hcc] at HPS hpl
      have hfl2 : ([pre T k, textB c].flatten).length ≤ 1099511627776 := by
        simp only [List.flatten_cons, List.flatten_nil, List.append_nil]; omega
      have hfl3 : Hid ([pre T k, textB c].flatten = pre T (k + 1)) := by show _ = _; rw [HPS.out]; simp
      obtain ⟨ao, cp, hpv⟩ := hrd.len
      subst hpv
      obtain ⟨uo, uc, huv⟩ := ha2.shape
      subst huv
      clear h31 ha hc hcc hpl HPS
      go_wp2_with fail
      refine (cut_any _ _ _ 300 ha2 (by omega)).mono ?_
      rintro e w2 ⟨vc, rfl, oc, hb2⟩
      rw [HC.out] at oc
      have hrd2 := hrd.below hb2 (Nat.le_refl _)
      have hB2 := hbl.trans (hb2.mono hbl.size)
      clear hbl hb2 hrd ha2 hc2
      go_wp2_with fail
      refine (text_own _ _ c oc.rd (by omega)).mono ?_
      rintro e w3 ⟨vt, rfl, ot, hb3⟩
      have hrd3 := hrd2.below hb3 (Nat.le_refl _)
      have hB3 := hB2.trans (hb3.mono hB2.size)
      have rt3 := ot.rd
      obtain ⟨gt, kt, hvt⟩ := ot.shape
      subst hvt
      clear hb3 hB2 hrd2 ot oc
      go_wp2_with fail
      refine (join_any _ _ [pre T k, textB c] (rdl_two _ _ _ _ _ hrd3 rt3) hfl2).mono ?_
      rintro e w4 ⟨vj, rfl, oj, hb4⟩
      rw [hfl3.out] at oj
      have hB4 := (hB3.alloc hB3.size _).trans (hb4.mono (Nat.le_trans hB3.size (by simp)))
      have rj := oj.rd
      clear hb4 hB3 oj hrd3 rt3
      go_wp2
      go_roundw
      case rel => exact ⟨k + 1, by omega, by go_num, rj, hB4⟩
      case measure => simp [intOf]; omega
    · have hke : k = m := by omega
      subst hke
      have hrd' : Rd wr u5 (suf T 0) := by rw [suf_zero, ← pre_end, HTL.out]; exact hrd
      clear hrd
      go_wp2
      go_loopw [5, 38] (fun pv iv wr => ∃ j : Nat, j ≤ k ∧ iv = .int .i64 (j : Int) ∧ Rd wr pv (suf T j) ∧ Below w1.heap.size w1 wr) (fun _ iv _ => k - (intOf iv).toNat)
      case atStart => exact ⟨0, Nat.zero_le _, rfl, hrd', hbl⟩
      case round =>
        clear hrd' hbl
        obtain ⟨j, hj, rfl, hrd, hbl⟩ := hrel
        by_cases hlt2 : j < k
        · obtain ⟨u, hc, ha⟩ := h31 j (by omega)
          have hc2 : wr.cell? ⟨b, off + j, none⟩ = some u := by rw [hbl.cell (p := ⟨b, off + j, none⟩) (World.block_lt_of_cell? w1 _ hc)]; exact hc
          have ha2 := ha.below hbl (Nat.le_refl _)
          have hjT : j < T.length := by rw [HTL.out]; exact hlt2
          have hsl := suf_le T j
          obtain ⟨c, hcc⟩ : ∃ c, (ls[j]).take 300 = c := ⟨_, rfl⟩
          have hcl : c.length ≤ 300 := by rw [← hcc]; exact List.length_take_le _ _
          have HC : Hid ((ls[j]).take 300 = c) := hcc
          have hse : suf T j = textB c ++ suf T (j + 1) := by rw [suf_cons T j hjT, HTG.out j hjT (by omega), hcc]
          obtain ⟨r, hr⟩ : ∃ r, suf T (j + 1) = r := ⟨_, rfl⟩
          rw [hr] at hse
          rw [hse] at hrd hsl
          have hf := front_textB c r (by omega)
          have hSl : (textB c ++ r).length = (Mth.numB c.length).length + c.length + r.length := by simp only [textB, List.length_append]
          have hlong : (textB c ++ r).length ≤ 1099511627776 := by omega
          obtain ⟨ao, cp, hpv⟩ := hrd.len
          subst hpv
          obtain ⟨uo, uc, huv⟩ := ha2.shape
          subst huv
          have HR : Hid (suf T (j + 1) = r) := hr
          have HF : Hid _ := hf
          have hroom : c.length ≤ (textB c ++ r).length - (Mth.numB c.length).length := by omega
          have HT : Hid (((textB c ++ r).drop (Mth.numB c.length).length).take c.length = c) := textB_take c r
          have HS : Hid ((textB c ++ r).drop ((Mth.numB c.length).length + c.length) = r) := textB_rest c r
          obtain ⟨S, hS⟩ : ∃ S, textB c ++ r = S := ⟨_, rfl⟩
          rw [hS] at hrd HF hroom HT HS hlong
          rw [hS]
          obtain ⟨nb, hnb⟩ : ∃ nb, (Mth.numB c.length).length = nb := ⟨_, rfl⟩
          rw [hnb] at HF hroom HT HS
          clear h31 ha hc hcc hse hr hf hSl hS hnb hsl
          go_wp2_with fail
          refine (cut_any _ _ _ 300 ha2 (by omega)).mono ?_
          rintro e w2 ⟨vc, rfl, oc, hb2⟩
          rw [HC.out] at oc
          have hrd2 := hrd.below hb2 (Nat.le_refl _)
          have hB2 := hbl.trans (hb2.mono hbl.size)
          have rc2 := oc.rd
          obtain ⟨gc, kc, hvc⟩ := oc.shape
          subst hvc
          clear hbl hb2 hrd ha2 hc2 oc
          go_wp2_with fail
          by_cases hcM : c.length ≤ M
          · refine (tt_ok _ _ _ _ _ (M : Int) c.length nb (by omega) hrd2 HF.out (by omega) hroom hlong rfl rfl).mono ?_
            rintro e w3 ⟨x3, y3, rfl, _ox3, _oy3, hb3⟩
            have hrd4 := hrd2.below hb3 (Nat.le_refl _)
            have rc4 := rc2.below hb3 (Nat.le_refl _)
            have hB4 := hB2.trans (hb3.mono hB2.size)
            clear hb3 hB2 hrd2 rc2 _ox3 _oy3
            go_wp2_with fail
            refine (tt_ok _ _ _ c r 300 c.length nb (by omega) hrd4 HF.out (by omega) hroom hlong HT.out HS.out).mono ?_
            rintro e w5 ⟨x5, y5, rfl, ox5, oy5, hb5⟩
            rw [← HR.out] at oy5
            have rx := ox5.rd
            have ry := oy5.rd
            have rc5 := rc4.below hb5 (Nat.le_refl _)
            have hB5 := hB4.trans (hb5.mono hB4.size)
            clear hb5 hB4 ox5 oy5 rc4 hrd4
            go_wp2_with fail
            refine (same_b _ _ _ _ _ true rx rc5 (by simp)).mono ?_
            rintro e w6 ⟨rfl, hw⟩
            subst hw
            go_wp2
            go_roundw
            case rel => exact ⟨j + 1, by omega, by go_num, ry, hB5⟩
            case measure => simp [intOf]; omega
          · refine (tt_long _ _ _ (M : Int) c.length nb (by omega) hrd2 HF.out (.inr (by omega))).mono ?_
            rintro e w3 ⟨rfl, hb3⟩
            have hrd4 := hrd2.below hb3 (Nat.le_refl _)
            have rc4 := rc2.below hb3 (Nat.le_refl _)
            have hB4 := hB2.trans (hb3.mono hB2.size)
            clear hb3 hB2 hrd2 rc2
            go_wp2_with fail
            refine (tt_ok _ _ _ c r 300 c.length nb (by omega) hrd4 HF.out (by omega) hroom hlong HT.out HS.out).mono ?_
            rintro e w5 ⟨x5, y5, rfl, ox5, oy5, hb5⟩
            rw [← HR.out] at oy5
            have rx := ox5.rd
            have ry := oy5.rd
            have rc5 := rc4.below hb5 (Nat.le_refl _)
            have hB5 := hB4.trans (hb5.mono hB4.size)
            clear hb5 hB4 ox5 oy5 rc4 hrd4
            go_wp2_with fail
            refine (same_b _ _ _ _ _ true rx rc5 (by simp)).mono ?_
            rintro e w6 ⟨rfl, hw⟩
            subst hw
            go_wp2
            go_roundw
            case rel => exact ⟨j + 1, by omega, by go_num, ry, hB5⟩
            case measure => simp [intOf]; omega
        · have hje : j = k := by omega
          subst hje
          have hse : suf T j = [] := by rw [← HTL.out]; exact suf_end T
          rw [hse] at hrd
          obtain ⟨ao, cp, hpv⟩ := hrd.len
          rw [List.length_nil] at hpv
          subst hpv
          go_wp2
          go_ret
          exact ⟨rfl, hb1.trans (hbl.mono hsz)⟩

set_option maxHeartbeats 1000000 in
set_option maxRecDepth 20000 in
theorem texts_none (w : World) (ao : Option Addr) (cap M : Nat) (h : ao = none → cap = 0) (h2 : cap ≤ maxLen) :
    Calls Try.prog 6 #[.slice ao 0 cap, .int .u8 (M : Int)] w fun e w' => e = .returned (.bool true) ∧ Below w.heap.size w w' := by
  have hmin : min (0 : Int) 30 = 0 := by omega
  unfold maxLen at h2
  cases ao with
  | none =>
    have := h rfl
    subst this
    go_enter Try.func6, Try.ntmps6
    go_wp2_with fail
    refine (awake_any _).mono ?_
    rintro e w1 ⟨rfl, hb1⟩
    go_wp2
    refine wp_loop_rounds 1 ?_
    rw [rounds_succ]
    go_wp2
    refine wp_loop_rounds 1 ?_
    rw [rounds_succ]
    go_wp2
    go_ret
    exact ⟨rfl, hb1⟩
  | some a =>
    go_enter Try.func6, Try.ntmps6
    go_wp2_with fail
    refine (awake_any _).mono ?_
    rintro e w1 ⟨rfl, hb1⟩
    go_wp2
    refine wp_loop_rounds 1 ?_
    rw [rounds_succ]
    go_wp2
    refine wp_loop_rounds 1 ?_
    rw [rounds_succ]
    go_wp2
    go_ret
    exact ⟨rfl, hb1⟩

theorem atomTexts_walk (a0 : Option Addr) (len0 cap0 : Nat) (l0 : List (List UInt8)) (a1 : Int) (w : World) (w0 : ArgL w (.slice a0 len0 cap0) l0) (w1 : (Lit.int .u8 a1).wf = true) :
    Calls Try.prog 6 #[.slice a0 len0 cap0, .int .u8 a1] w fun e w' => e = .returned (.bool true) ∧ Below w.heap.size w w' := by
  have hb := bounds_u8 w1
  obtain ⟨M, rfl⟩ : ∃ M : Nat, a1 = (M : Int) := ⟨a1.toNat, by omega⟩
  rcases w0 with ⟨rfl, ao, cap, e, h, h2⟩ | ⟨b, off, cap, e, h0, h1, h2, h3⟩
  · rw [e]
    exact texts_none w ao cap M h h2
  · rw [e]
    exact texts_walk w b off cap l0 M (by omega) h0 h1 h2 h3

end Go.Proofs.Ytecmijocgkhnpaa
