/- bartizanref18.Out: for whom one waits, rising. -/
import Derived.Test.YtgkgdbdapkgkgaaGrpH
import Derived.Test.YtgkgdbdapkgkgaaGrpG
import Derived.Test.YtgkgdbdapkgkgaaStepSrc
namespace Go.Proofs.Ytgkgdbdapkgkgaa
set_option maxRecDepth 100000
open Go.RowKit Go.Maps
set_option linter.unusedVariables false
set_option linter.unusedSimpArgs false

/-- between two links -/
def RoI (w : World) (ls : List (Nat × Nat)) (a j : Nat) (ov : Value) (OU : List Nat) (wr : World) : Prop :=
  OwnU w.heap.size wr ov OU ∧ OU.length ≤ j ∧ OU.Pairwise (· < ·) ∧ (∀ z, z ∈ OU ↔ (a, z) ∈ ls.take j) ∧ Below w.heap.size w wr

/-- how many of a row are less -/
def ltC (ns : List Nat) (y : Nat) : Nat := (ns.filter fun n => decide (n < y)).length

theorem ltC_snoc (ns : List Nat) (n y : Nat) : ltC (ns ++ [n]) y = ltC ns y + if n < y then 1 else 0 := by
  unfold ltC
  rw [List.filter_append, List.length_append]
  by_cases h : n < y <;> simp [h]

theorem ltC_le (ns : List Nat) (y : Nat) : ltC ns y ≤ ns.length := List.length_filter_le _ _

theorem ltC_take : ∀ (ns : List Nat) (y : Nat), ns.Pairwise (· < ·) → (∀ x ∈ ns.take (ltC ns y), x < y) ∧ ∀ x ∈ ns.drop (ltC ns y), y ≤ x
  | [], y, _ => by simp
  | a :: r, y, h => by
    obtain ⟨h1, h2⟩ := List.pairwise_cons.1 h
    obtain ⟨k1, k2⟩ := ltC_take r y h2
    by_cases ha : a < y
    · have e : ltC (a :: r) y = ltC r y + 1 := by unfold ltC; simp [ha]
      rw [e]
      simp only [List.take_succ_cons, List.drop_succ_cons]
      refine ⟨fun x hx => ?_, k2⟩
      rcases List.mem_cons.1 hx with rfl | hx
      · exact ha
      · exact k1 x hx
    · have e : ltC (a :: r) y = 0 := by
        unfold ltC
        rw [List.length_eq_zero_iff, List.filter_eq_nil_iff]
        intro x hx
        rcases List.mem_cons.1 hx with rfl | hx
        · simpa using ha
        · have := h1 x hx
          simp
          omega
      rw [e]
      refine ⟨by simp, fun x hx => ?_⟩
      rw [List.drop_zero] at hx
      rcases List.mem_cons.1 hx with rfl | hx
      · omega
      · have := h1 x hx
        omega

/-- one more in a row that rises -/
theorem ins_rises {ns : List Nat} {y : Nat} (h : ns.Pairwise (· < ·)) (hy : y ∉ ns) : (ns.take (ltC ns y) ++ [y] ++ ns.drop (ltC ns y)).Pairwise (· < ·) ∧ ∀ z, z ∈ ns.take (ltC ns y) ++ [y] ++ ns.drop (ltC ns y) ↔ z ∈ ns ∨ z = y := by
  obtain ⟨k1, k2⟩ := ltC_take ns y h
  have hs : ns.take (ltC ns y) ++ ns.drop (ltC ns y) = ns := List.take_append_drop _ _
  have hp := h
  rw [← hs] at hp
  obtain ⟨p1, p2, p3⟩ := List.pairwise_append.1 hp
  have hdy : ∀ x ∈ ns.drop (ltC ns y), y < x := fun x hx => by
    have := k2 x hx
    have : x ≠ y := fun e => hy (by rw [← e]; exact List.mem_of_mem_drop hx)
    omega
  refine ⟨?_, fun z => ?_⟩
  · rw [List.append_assoc]
    refine List.pairwise_append.2 ⟨p1, ?_, fun a ha b hb => ?_⟩
    · exact List.pairwise_cons.2 ⟨hdy, p2⟩
    · rcases List.mem_cons.1 hb with rfl | hb
      · exact k1 a ha
      · exact p3 a ha b hb
  · have e : z ∈ ns ↔ z ∈ ns.take (ltC ns y) ∨ z ∈ ns.drop (ltC ns y) := by
      rw [← List.mem_append, hs]
    rw [e]
    simp only [List.mem_append, List.mem_singleton]
    constructor
    · rintro ((h | h) | h)
      · exact .inl (.inl h)
      · exact .inr h
      · exact .inl (.inr h)
    · rintro ((h | h) | h)
      · exact .inl (.inl h)
      · exact .inr h
      · exact .inl (.inr h)

theorem srcU {w : World} {g on oc : Nat} {OU : List Nat} (h : RdU w (.slice (some ⟨g, 0, none⟩) on oc) OU) (lo m c : Nat) (hm : lo + m ≤ OU.length) : SrcOf w 1 (.slice (some ⟨g, lo, none⟩) m c) m (((OU.drop lo).take m).map encN) := by
  have hl : ((OU.drop lo).take m).length = m := by rw [List.length_take, List.length_drop]; omega
  refine .inr ⟨_, c, rfl, by rw [List.length_map, hl]; omega, fun j u hu => ?_⟩
  rw [List.getElem?_map] at hu
  by_cases hj : j < m
  · rw [List.getElem?_take, if_pos hj, List.getElem?_drop, List.getElem?_eq_getElem (by omega)] at hu
    simp at hu
    subst hu
    obtain ⟨b, c', e, _, hc⟩ := h.at (lo + j) (by omega)
    cases e
    rw [Addr.add_lit]
    exact hc
  · rw [List.getElem?_eq_none (by rw [hl]; omega)] at hu
    cases hu

theorem own_zero (w : World) (B : Nat) (hB : B ≤ w.heap.size) : OwnU B (w.alloc (.cells #[] 30)) (.slice (some ⟨w.heap.size, 0, none⟩) 0 0) [] := ⟨rfl, .inr ⟨w.heap.size, 0, _, rfl, hB, World.alloc_heap_new w _, Nat.le_refl _, by decide, rfl, rfl⟩⟩

theorem step_appU {w : World} {ops : Array Oper} {o : Oper} {a : Act} {K : Act → World → Prop} {Q : Exit → Act → World → Prop} {E : Prop} (hgd : o.guard = none) (s x : Operand)
    (ho : o.op = .call { callee := .builtin .append, args := #[s, x], argTypes := #[28, 28] })
    (B g0 n c0 : Nat) (xs : List Nat) (hs : a.eval s = .slice (some ⟨g0, 0, none⟩) n c0) (hown : OwnU B w (.slice (some ⟨g0, 0, none⟩) n c0) xs) (hn : xs.length = n)
    (vx : Value) (hx : a.eval x = vx) (m : Nat) (ms : List Nat) (hml : ms.length = m) (hsrc : SrcOf w 1 vx m (ms.map encN)) (hsm : n + m ≤ 1000000) (hB : B ≤ w.heap.size) (N : Nat) (hN : n + m = N)
    (h : ∀ g c w', OwnU B w' (.slice (some ⟨g, 0, none⟩) N c) (xs ++ ms) → Keeps (fun q => q = g0) w w' → K (a.put o.dst (.slice (some ⟨g, 0, none⟩) N c)) w') :
    if Region.wanted o (yielded ops a.tmps) = true then Oper.wp Try.prog o a w K Q else E := by
  obtain ⟨i0, hi, hz0, hz1, hz2⟩ := info_parts infoU64
  subst hn
  subst hml
  subst hN
  refine step_append_src hgd s x 28 ho B 30 i0 (.int .u64 0) 1 8 Try.underlying28 hi hz0 hz1 hz2 rfl (by decide) g0 xs.length c0 (xs.map encN) hs hown vx hx ms.length (ms.map encN) hsrc (by intro u hu; obtain ⟨z, _, rfl⟩ := List.mem_map.1 hu; rfl) (by simp only [maxLen]; omega) (by omega) hB _ rfl _ rfl (fun g c w' h1 h2 _ => h g c w' ?_ (keeps_grown h2 (fun q e => by cases e; rfl)))
  unfold OwnU
  rw [List.length_append, List.map_append]
  exact h1

/-- a row that is made while another one lies still -/
structure InsF (V u : World) (g n c : Nat) (xs : List Nat) : Prop where
  own : OwnU V.heap.size u (.slice (some ⟨g, 0, none⟩) n c) xs
  hb : Below V.heap.size V u

theorem InsF.next {V u u' : World} {g n c g' n' c' : Nat} {xs xs' : List Nat} (H : InsF V u g n c xs) (h1 : OwnU V.heap.size u' (.slice (some ⟨g', 0, none⟩) n' c') xs') (h2 : Keeps (fun q => q = g) u u') : InsF V u' g' n' c' xs' :=
  ⟨h1, H.hb.trans (h2.below (fun q e => by rw [e]; exact (H.own.lts g rfl).1) H.hb.size)⟩

theorem InsF.alloc {V u : World} {g n c : Nat} {xs : List Nat} (H : InsF V u g n c xs) (o : Obj) (ho : Below u.heap.size u (u.alloc o)) : InsF V (u.alloc o) g n c xs := ⟨row_below H.own ho, bsplit H.hb ho⟩

theorem InsF.drew {V u : World} {g n c : Nat} {xs : List Nat} (H : InsF V u g n c xs) : InsF V u.drew g n c xs := ⟨H.own, H.hb.drew⟩

theorem srcOne {u : World} {ya y : Nat} (h : u.cell? ⟨ya, 0, none⟩ = some (.int .u64 (y : Int))) : SrcOf u 1 (.slice (some ⟨ya, 0, none⟩) 1 1) 1 ([y].map encN) := by
  refine .inr ⟨_, 1, rfl, rfl, fun j v hv => ?_⟩
  match j, hv with
  | 0, hv => simp at hv; subst hv; rw [Addr.add_lit]; exact h
  | j + 1, hv => simp at hv

set_option maxHeartbeats 4000000 in
theorem refout_any (w : World) (v : Value) (ls : List (Nat × Nat)) (a : Nat) (h : RdK w v ls) (hl : ls.length ≤ 1000) :
    Calls Try.prog 16 #[v, .int .u64 (a : Int)] w fun e w' => ∃ v' ys, e = .returned v' ∧ OwnU w.heap.size w' v' ys ∧ ys.Pairwise (· < ·) ∧ (∀ z, z ∈ ys ↔ (a, z) ∈ ls) ∧ Below w.heap.size w w' := by
  obtain ⟨va, vc, rfl, hvc, hvc2⟩ := row_slice9 h
  obtain ⟨N, hN⟩ : ∃ N, ls.length = N := ⟨_, rfl⟩
  have HV : Hid (RdK w (.slice va ls.length vc) ls) := h
  have HN : Hid (ls.length = N ∧ N ≤ 1000) := ⟨hN, by omega⟩
  have yN : N < 1152921504606846976 := by omega
  rw [hN] at HV hvc ⊢
  obtain ⟨i0, hi, hz0, hz1, hz2⟩ := info_parts infoU64
  have HI0 : Hid (RoI w ls a 0 (.slice none 0 0) [] w) := ⟨World.ownsRow_nil _ _ _ _, by simp, by simp, fun z => by simp, Below.refl _ _⟩
  clear h hN hl
  go_enter Try.func16, Try.ntmps16
  go_wp2_with fail
  go_loopg [5, 14] N (fun gk ov iv wr => ∃ (j on oc : Nat) (oa : Option Addr) (OU : List Nat), gk + j = N ∧ iv = .int .i64 (j : Int) ∧ ov = .slice oa on oc ∧ Hid (on = OU.length) ∧ Hid (RoI w ls a j (.slice oa on oc) OU wr))
  case atStart => exact ⟨0, 0, 0, none, [], by omega, rfl, rfl, rfl, HI0.out⟩
  case round =>
    clear HI0
    obtain ⟨j, on, oc, oa, OU, hj, rfl, rfl, HL, HI⟩ := hrel
    obtain ⟨wo, hwo⟩ : ∃ wo, wo = wr := ⟨_, rfl⟩
    subst hwo
    obtain ⟨l1, l2, l3, l4, l5⟩ := HI.out
    by_cases hlt : j < N
    · have hlt2 : j < ls.length := by rw [HN.out.1]; exact hlt
      obtain ⟨bq, c, e, _, c0, c1⟩ := RdK.at (row_below HV.out l5) j hlt2
      rw [HN.out.1] at e
      cases e
      obtain ⟨q1, q2⟩ := gk_nxt hj hlt
      have htk : ls.take (j + 1) = ls.take j ++ [ls[j]] := by rw [List.take_succ_eq_append_getElem hlt2]
      obtain ⟨l, hll⟩ : ∃ l, ls[j] = l := ⟨_, rfl⟩
      rw [hll] at c0 c1 htk
      obtain ⟨x, y⟩ := l
      have hb0 := below_box4 wo (.cells #[.int .u64 (x : Int), .int .u64 (y : Int)] 49)
      obtain ⟨z0, z1⟩ := box2_new wo (.int .u64 (x : Int)) (.int .u64 (y : Int)) 49
      have HT : Hid (ls.take (j + 1) = ls.take j ++ [(x, y)]) := htk
      have yj : j < 1152921504606846976 := by omega
      have hjI : (j : Int) < (N : Int) := by omega
      have yon : on < 1152921504606846976 := by have := HL.out; omega
      have HGK : Hid (gk - 1 < gk ∧ gk - 1 + (j + 1) = N ∧ j < N) := ⟨q1, q2, hlt⟩
      by_cases hx : x = a
      · subst hx
        obtain ⟨W1, hW1⟩ : ∃ W1, wo.alloc (.cells #[.int .u64 (x : Int), .int .u64 (y : Int)] 49) = W1 := ⟨_, rfl⟩
        have HW1 : Hid (wo.alloc (.cells #[.int .u64 (x : Int), .int .u64 (y : Int)] 49) = W1) := hW1
        have y1 := z1
        rw [hW1] at y1 hb0
        have HO : Hid (OwnU w.heap.size W1 (.slice oa on oc) OU ∧ OU.length ≤ j ∧ OU.Pairwise (· < ·) ∧ (∀ z, z ∈ OU ↔ (x, z) ∈ ls.take j) ∧ Below w.heap.size w W1 ∧ wo.heap.size < W1.heap.size ∧ w.heap.size ≤ wo.heap.size) := ⟨row_below l1 hb0, l2, l3, l4, bsplit l5 hb0, by rw [← hW1]; simp, l5.size⟩
        obtain ⟨G, hG⟩ : ∃ G, gk - 1 = G := ⟨_, rfl⟩
        rw [hG] at HGK
        clear l1 l2 l3 l4 l5 HI q1 q2 htk hll hlt hlt2 hj hW1 hb0 hG
        go_wp2_with fail
        go_loopg [8, 9, 24] on (fun gk av tv iv wx => ∃ (i at0 : Nat) (tw : Bool), gk + i = on ∧ iv = .int .i64 (i : Int) ∧ av = .int .i64 (at0 : Int) ∧ tv = .bool tw ∧ at0 ≤ i ∧ Hid (at0 = ltC (OU.take i) y ∧ tw = decide (y ∈ OU.take i)) ∧ wx = W1)
        case atStart => exact ⟨0, 0, false, by omega, rfl, rfl, rfl, by omega, ⟨by simp [ltC], by simp⟩, HW1.out⟩
        case round =>
          clear z0 z1 c0 c1 HW1
          obtain ⟨i, at0, tw, hi, rfl, rfl, rfl, hat, HB, rfl⟩ := hrel
          by_cases hlti : i < on
          · have hiR : i < OU.length := by rw [← HL.out]; exact hlti
            obtain ⟨rb, rc', e9, hcap9, t1⟩ := HO.out.1.rd.at i hiR
            rw [← HL.out] at e9
            cases e9
            have htk : OU.take (i + 1) = OU.take i ++ [OU[i]] := by rw [List.take_succ_eq_append_getElem hiR]
            obtain ⟨r, hr⟩ : ∃ r, OU[i] = r := ⟨_, rfl⟩
            rw [hr] at t1 htk
            obtain ⟨g1, g2⟩ := gk_nxt hi hlti
            have hiI : (i : Int) < (on : Int) := by omega
            have yi : i < 1152921504606846976 := by omega
            have yat : at0 < 1152921504606846976 := by omega
            have HT2 : Hid (ltC (OU.take (i + 1)) y = at0 + (if r < y then 1 else 0) ∧ decide (y ∈ OU.take (i + 1)) = (tw || decide (y = r)) ∧ at0 ≤ i) := by
              refine ⟨by rw [htk, ltC_snoc, HB.out.1], ?_, hat⟩
              rw [htk, HB.out.2]
              simp only [List.mem_append, List.mem_singleton, Bool.decide_or]
            clear htk hr hiR hlti hi hat hcap9
            by_cases hry : r < y
            · have hrI : (r : Int) < (y : Int) := by omega
              have hneI : ((r : Int) == (y : Int)) = false := beq_eq_false_iff_ne.2 (by omega)
              have HF : Hid (at0 + 1 = ltC (OU.take (i + 1)) y ∧ tw = decide (y ∈ OU.take (i + 1))) := by
                rw [if_pos hry, decide_eq_false (show ¬ y = r by omega), Bool.or_false] at HT2
                exact ⟨HT2.out.1.symm, HT2.out.2.1.symm⟩
              clear hry
              cases tw
              · go_wp2_with fail
                go_roundg (gk - 1)
                case measure => exact g1
                case rel => exact ⟨i + 1, at0 + 1, false, g2, by go_num, by go_num, by first | rfl | rw [hneI], by have := HT2.out.2.2; omega, HF.out, rfl⟩
              · go_wp2_with fail
                go_roundg (gk - 1)
                case measure => exact g1
                case rel => exact ⟨i + 1, at0 + 1, true, g2, by go_num, by go_num, rfl, by have := HT2.out.2.2; omega, HF.out, rfl⟩
            · have hrI : ¬ (r : Int) < (y : Int) := by omega
              by_cases hey : y = r
              · subst hey
                have HF : Hid (at0 = ltC (OU.take (i + 1)) y ∧ true = decide (y ∈ OU.take (i + 1))) := by
                  rw [if_neg hry, decide_eq_true rfl, Bool.or_true] at HT2
                  exact ⟨HT2.out.1.symm, HT2.out.2.1.symm⟩
                clear hry
                cases tw
                · go_wp2_with fail
                  go_roundg (gk - 1)
                  case measure => exact g1
                  case rel => exact ⟨i + 1, at0, true, g2, by go_num, rfl, rfl, by have := HT2.out.2.2; omega, HF.out, rfl⟩
                · go_wp2_with fail
                  go_roundg (gk - 1)
                  case measure => exact g1
                  case rel => exact ⟨i + 1, at0, true, g2, by go_num, rfl, rfl, by have := HT2.out.2.2; omega, HF.out, rfl⟩
              · have hneI : ((r : Int) == (y : Int)) = false := beq_eq_false_iff_ne.2 (by omega)
                have HF : Hid (at0 = ltC (OU.take (i + 1)) y ∧ tw = decide (y ∈ OU.take (i + 1))) := by
                  rw [if_neg hry, decide_eq_false hey, Bool.or_false] at HT2
                  exact ⟨HT2.out.1.symm, HT2.out.2.1.symm⟩
                clear hry hey
                cases tw
                · go_wp2_with fail
                  go_roundg (gk - 1)
                  case measure => exact g1
                  case rel => exact ⟨i + 1, at0, false, g2, by go_num, rfl, by first | rfl | rw [hneI], by have := HT2.out.2.2; omega, HF.out, rfl⟩
                · go_wp2_with fail
                  go_roundg (gk - 1)
                  case measure => exact g1
                  case rel => exact ⟨i + 1, at0, true, g2, by go_num, rfl, rfl, by have := HT2.out.2.2; omega, HF.out, rfl⟩
          · have hiN : i = on := by omega
            have hnI : ¬ (i : Int) < (on : Int) := by omega
            have HB2 : Hid (at0 = ltC OU y ∧ tw = decide (y ∈ OU)) := by
              have h9 := HB.out
              rw [List.take_of_length_le (by rw [← HL.out]; omega)] at h9
              exact h9
            have hat2 : at0 ≤ on := by omega
            clear HB hlti hi hiN hat
            cases tw with
            | true =>
              have HF : Hid (RoI w ls x (j + 1) (.slice oa on oc) OU wr) := by
                obtain ⟨o1, o2, o3, o4, o5, o6⟩ := HO.out
                refine ⟨o1, by omega, o3, fun z => ?_, o5⟩
                rw [HT.out, List.mem_append, ← o4 z, List.mem_singleton]
                constructor
                · exact .inl
                · rintro (h9 | h9)
                  · exact h9
                  · cases h9
                    exact of_decide_eq_true HB2.out.2.symm
              go_wp2_with fail
              go_roundg G
              case measure => exact HGK.out.1
              case rel => exact ⟨j + 1, on, oc, oa, OU, HGK.out.2.1, by go_num, rfl, HL.out, HF.out⟩
            | false =>
              have hatI : (at0 : Int) ≤ (on : Int) := by omega
              obtain ⟨o1, o2, o3, o4, o5, o6, o7⟩ := HO.out
              rcases o1.2 with ⟨e9, hn0⟩ | ⟨ob, cap, cur, e9, p1, p2, p3, p4, p5, p6⟩
              · cases e9
                have hOU : OU = [] := List.eq_nil_of_length_eq_zero (by have := HL.out; omega)
                have hat0 : at0 = 0 := by omega
                subst hOU
                subst hat0
                clear o1 o2 o3 o4 o5 o6 o7
                have srcA : ∀ u, Below wr.heap.size wr u → SrcOf u 1 (.slice none 0 0) 0 ((([] : List Nat).take 0).map encN) := fun u hu => .inl ⟨rfl, rfl, rfl⟩
                have srcB : ∀ u, Below wr.heap.size wr u → SrcOf u 1 (.slice none 0 0) (0) ((([] : List Nat).drop 0).map encN) := fun u hu => .inl ⟨rfl, rfl, rfl⟩
                have hA0 := below_box4 wr (.cells #[] 30)
                have hY0 := below_box4 wr (.cells #[.int .u64 (y : Int)] 30)
                have hA0Y := below_box4 (wr.alloc (.cells #[] 30)) (.cells #[.int .u64 (y : Int)] 30)
                have hY0A := below_box4 (wr.alloc (.cells #[.int .u64 (y : Int)] 30)) (.cells #[] 30)
                have hAY := bsplit hA0 hA0Y
                have hYA := bsplit hY0 hY0A
                have hbx := HO.out.2.2.2.2.2.1
                have yA := (hA0.cell (p := ⟨wo.heap.size, 1, none⟩) hbx).trans y1
                have yY := (hY0.cell (p := ⟨wo.heap.size, 1, none⟩) hbx).trans y1
                have yAY := (hAY.cell (p := ⟨wo.heap.size, 1, none⟩) hbx).trans y1
                have yYA := (hYA.cell (p := ⟨wo.heap.size, 1, none⟩) hbx).trans y1
                have hsA : (wr.alloc (.cells #[] 30)).heap.size = wr.heap.size + 1 := by simp
                have hsY : (wr.alloc (.cells #[.int .u64 (y : Int)] 30)).heap.size = wr.heap.size + 1 := by simp
                have F0 : InsF wr (wr.alloc (.cells #[] 30)) wr.heap.size 0 0 [] := ⟨own_zero wr _ (Nat.le_refl _), hA0⟩
                have F2a : InsF wr ((wr.alloc (.cells #[] 30)).alloc (.cells #[.int .u64 (y : Int)] 30)) wr.heap.size 0 0 [] := F0.alloc _ hA0Y
                have F3a : InsF wr ((wr.alloc (.cells #[.int .u64 (y : Int)] 30)).alloc (.cells #[] 30)) (wr.heap.size + 1) 0 0 [] := by
                  have h9 := own_zero (wr.alloc (.cells #[.int .u64 (y : Int)] 30)) wr.heap.size hY0.size
                  rw [hsY] at h9
                  exact ⟨h9, hYA⟩
                have yy2 := oneU_new (wr.alloc (.cells #[] 30)) y
                rw [hsA] at yy2
                have yy3 := (hY0A.cell (p := ⟨wr.heap.size, 0, none⟩) (show wr.heap.size < (wr.alloc (.cells #[.int .u64 (y : Int)] 30)).heap.size by rw [hsY]; omega)).trans (oneU_new wr y)
                have F1 := F0.drew
                have F2 := F2a.drew
                have F3 := F3a.drew
                have yy2d : ((wr.alloc (.cells #[] 30)).alloc (.cells #[.int .u64 (y : Int)] 30)).drew.cell? ⟨wr.heap.size + 1, 0, none⟩ = some (.int .u64 (y : Int)) := yy2
                have yy3d : ((wr.alloc (.cells #[.int .u64 (y : Int)] 30)).alloc (.cells #[] 30)).drew.cell? ⟨wr.heap.size, 0, none⟩ = some (.int .u64 (y : Int)) := yy3
                have hm0 : 0 + 0 ≤ 1000000 := by have := HL.out; have := HO.out.2.1; have := HGK.out.2.2; have := HN.out.2; omega
                have hm1 : 0 + 1 ≤ 1000000 := by have := HL.out; have := HO.out.2.1; have := HGK.out.2.2; have := HN.out.2; omega
                have hm2 : 0 + 1 + (0) ≤ 1000000 := by have := HL.out; have := HO.out.2.1; have := HGK.out.2.2; have := HN.out.2; omega
                have hm3 : 0 + 1 + (0) = 0 + 1 := by omega
                have hl1 : (([] : List Nat).take 0).length = 0 := by rw [List.length_take]; have := HL.out; omega
                have hl2 : (([] : List Nat).take 0 ++ [y]).length = 0 + 1 := by rw [List.length_append, hl1]; rfl
                have hl3 : (([] : List Nat).drop 0).length = 0 := by rw [List.length_drop]; have := HL.out; omega
                have hg2 : ¬ wr.heap.size + 1 = wr.heap.size := by omega
                have hg3 : ¬ wr.heap.size = wr.heap.size + 1 := by omega
                clear hA0 hY0 hA0Y hY0A hAY hYA hsA hsY F0 F2a F3a yy2 yy3
                go_wp2_with fail
                go_region_held3 (fun w' => w'.cell? ⟨wo.heap.size, 1, none⟩ = some (.int .u64 (y : Int)))
                  (first | exact s3 | exact s2 | exact s1a | exact s1 | exact y1 | exact yA | exact yY | exact yAY | exact yYA)
                  (first
                    | (refine step_appU rfl (.tmp 44) (.tmp 47) rfl wr.heap.size wr.heap.size 0 0 [] rfl F1.own rfl (.slice none 0 0) rfl 0 (([] : List Nat).take 0) hl1 (srcA _ F1.hb) hm0 F1.hb.size 0 (Nat.zero_add _) ?_
                       intro g1 c1 w1 k1 k2
                       have F := F1.next k1 k2
                       have hbw := below_box4 w1 (.cells #[.int .u64 (y : Int)] 30)
                       have s1 := (F.hb.cell (p := ⟨wo.heap.size, 1, none⟩) hbx).trans y1
                       have s1a := ((bsplit F.hb hbw).cell (p := ⟨wo.heap.size, 1, none⟩) hbx).trans y1
                       have Fa := F.alloc _ hbw
                       have yc := oneU_new w1 y
                       clear F1 F2 F3)
                    | (refine step_appU rfl (.tmp 44) (.tmp 47) rfl wr.heap.size wr.heap.size 0 0 [] rfl F2.own rfl (.slice none 0 0) rfl 0 (([] : List Nat).take 0) hl1 (srcA _ F2.hb) hm0 F2.hb.size 0 (Nat.zero_add _) ?_
                       intro g1 c1 w1 k1 k2
                       have Fa := F2.next k1 k2
                       have s1 := (Fa.hb.cell (p := ⟨wo.heap.size, 1, none⟩) hbx).trans y1
                       have yc := k2.cell (p := ⟨wr.heap.size + 1, 0, none⟩) hg2 yy2d
                       clear F1 F2 F3)
                    | (refine step_appU rfl (.tmp 44) (.tmp 47) rfl wr.heap.size (wr.heap.size + 1) 0 0 [] rfl F3.own rfl (.slice none 0 0) rfl 0 (([] : List Nat).take 0) hl1 (srcA _ F3.hb) hm0 F3.hb.size 0 (Nat.zero_add _) ?_
                       intro g1 c1 w1 k1 k2
                       have Fa := F3.next k1 k2
                       have s1 := (Fa.hb.cell (p := ⟨wo.heap.size, 1, none⟩) hbx).trans y1
                       have yc := k2.cell (p := ⟨wr.heap.size, 0, none⟩) hg3 yy3d
                       clear F1 F2 F3)
                    | (refine step_appU rfl (.tmp 48) (.tmp 51) rfl wr.heap.size g1 0 c1 (([] : List Nat).take 0) rfl Fa.own hl1 _ rfl 1 [y] rfl (srcOne yc) hm1 Fa.hb.size (0 + 1) rfl ?_
                       intro g2 c2 w2 k3 k4
                       have F4 := Fa.next k3 k4
                       have s2 := (F4.hb.cell (p := ⟨wo.heap.size, 1, none⟩) hbx).trans y1)
                    | (refine step_appU rfl (.tmp 52) (.tmp 55) rfl wr.heap.size g2 (0 + 1) c2 (([] : List Nat).take 0 ++ [y]) rfl F4.own hl2 (.slice none 0 0) rfl (0) (([] : List Nat).drop 0) hl3 (srcB _ F4.hb) hm2 F4.hb.size (0 + 1) rfl ?_
                       intro g3 c3 w3 k5 k6
                       have F5 := F4.next k5 k6
                       have s3 := (F5.hb.cell (p := ⟨wo.heap.size, 1, none⟩) hbx).trans y1)
                    | fail)
                all_goals
                  have HF : Hid (RoI w ls x (j + 1) (.slice (some ⟨g3, 0, none⟩) (0 + 1) c3) (([] : List Nat).take 0 ++ [y] ++ ([] : List Nat).drop 0) w3 ∧ 0 + 1 = (([] : List Nat).take 0 ++ [y] ++ ([] : List Nat).drop 0).length) := by
                    obtain ⟨o1, o2, o3, o4, o5, o6, o7⟩ := HO.out
                    have hnin : y ∉ ([] : List Nat) := of_decide_eq_false HB2.out.2.symm
                    obtain ⟨r1, r2⟩ := ins_rises o3 hnin
                    rw [← HB2.out.1] at r1 r2
                    have hll : (([] : List Nat).take 0 ++ [y] ++ ([] : List Nat).drop 0).length = 0 + 1 := by first | (rw [List.length_append, hl2, hl3]; omega) | rw [List.length_append, hl2, hl3]
                    refine ⟨⟨row_mono9 F5.own o5.size, by rw [hll]; have := HL.out; omega, r1, fun z => ?_, o5.trans (F5.hb.mono o5.size)⟩, hll.symm⟩
                    rw [r2 z, HT.out, List.mem_append, ← o4 z, List.mem_singleton]
                    constructor
                    · rintro (h9 | h9)
                      · exact .inl h9
                      · rw [h9]; exact .inr rfl
                    · rintro (h9 | h9)
                      · exact .inl h9
                      · cases h9; exact .inr rfl
                  go_wp2_with fail
                  go_roundg G
                  case measure => exact HGK.out.1
                  case rel => exact ⟨j + 1, 0 + 1, c3, _, _, HGK.out.2.1, by go_num, rfl, HF.out.2, HF.out.1⟩
              · rw [← HL.out] at e9
                cases e9
                have hooI : (on : Int) ≤ (oc : Int) := by have := HL.out; omega
                have yoc : oc < 9223372036854775808 := by unfold maxLen at p4; omega
                have h0at : (0 : Int) ≤ (at0 : Int) := by omega
                have hatc : (at0 : Int) ≤ (oc : Int) := by omega
                have hrd : ∀ u, Below wr.heap.size wr u → RdU u (.slice (some ⟨ob, 0, none⟩) on oc) OU := fun u hu => row_below HO.out.1.rd hu
                have hLo := HL.out
                have srcA0 : ∀ u, Below wr.heap.size wr u → SrcOf u 1 (.slice (some ⟨ob, 0, none⟩) at0 oc) at0 ((OU.take at0).map encN) := fun u hu => by
                  have h9 := srcU (hrd u hu) 0 at0 oc (by omega)
                  rw [List.drop_zero] at h9
                  exact h9
                have hbb : on ≤ oc := by omega
                have srcB0 : ∀ u, Below wr.heap.size wr u → SrcOf u 1 (.slice (if oc = at0 then some ⟨ob, 0, none⟩ else some ⟨ob, at0, none⟩) (on - at0) (oc - at0)) (on - at0) ((OU.drop at0).map encN) := fun u hu => by
                  by_cases h8 : oc = at0
                  · rw [if_pos h8]
                    have hm9 : on - at0 = 0 := by omega
                    have hdr : OU.drop at0 = [] := List.drop_eq_nil_of_le (by omega)
                    rw [hdr, hm9]
                    exact .inr ⟨_, _, rfl, rfl, fun j u hu => by simp at hu⟩
                  · rw [if_neg h8]
                    have h9 := srcU (hrd u hu) at0 (on - at0) (oc - at0) (by omega)
                    rw [List.take_of_length_le (by rw [List.length_drop]; omega)] at h9
                    exact h9
                clear o1 o2 o3 o4 o5 o6 o7 p1 p2 p3 p4 p5 p6 hrd hLo
                have srcA : ∀ u, Below wr.heap.size wr u → SrcOf u 1 (.slice (some ⟨ob, 0, none⟩) at0 oc) at0 ((OU.take at0).map encN) := fun u hu => srcA0 u hu
                have srcB : ∀ u, Below wr.heap.size wr u → SrcOf u 1 (.slice (if oc = at0 then some ⟨ob, 0, none⟩ else some ⟨ob, at0, none⟩) (on - at0) (oc - at0)) (on - at0) ((OU.drop at0).map encN) := fun u hu => srcB0 u hu
                have hA0 := below_box4 wr (.cells #[] 30)
                have hY0 := below_box4 wr (.cells #[.int .u64 (y : Int)] 30)
                have hA0Y := below_box4 (wr.alloc (.cells #[] 30)) (.cells #[.int .u64 (y : Int)] 30)
                have hY0A := below_box4 (wr.alloc (.cells #[.int .u64 (y : Int)] 30)) (.cells #[] 30)
                have hAY := bsplit hA0 hA0Y
                have hYA := bsplit hY0 hY0A
                have hbx := HO.out.2.2.2.2.2.1
                have yA := (hA0.cell (p := ⟨wo.heap.size, 1, none⟩) hbx).trans y1
                have yY := (hY0.cell (p := ⟨wo.heap.size, 1, none⟩) hbx).trans y1
                have yAY := (hAY.cell (p := ⟨wo.heap.size, 1, none⟩) hbx).trans y1
                have yYA := (hYA.cell (p := ⟨wo.heap.size, 1, none⟩) hbx).trans y1
                have hsA : (wr.alloc (.cells #[] 30)).heap.size = wr.heap.size + 1 := by simp
                have hsY : (wr.alloc (.cells #[.int .u64 (y : Int)] 30)).heap.size = wr.heap.size + 1 := by simp
                have F0 : InsF wr (wr.alloc (.cells #[] 30)) wr.heap.size 0 0 [] := ⟨own_zero wr _ (Nat.le_refl _), hA0⟩
                have F2a : InsF wr ((wr.alloc (.cells #[] 30)).alloc (.cells #[.int .u64 (y : Int)] 30)) wr.heap.size 0 0 [] := F0.alloc _ hA0Y
                have F3a : InsF wr ((wr.alloc (.cells #[.int .u64 (y : Int)] 30)).alloc (.cells #[] 30)) (wr.heap.size + 1) 0 0 [] := by
                  have h9 := own_zero (wr.alloc (.cells #[.int .u64 (y : Int)] 30)) wr.heap.size hY0.size
                  rw [hsY] at h9
                  exact ⟨h9, hYA⟩
                have yy2 := oneU_new (wr.alloc (.cells #[] 30)) y
                rw [hsA] at yy2
                have yy3 := (hY0A.cell (p := ⟨wr.heap.size, 0, none⟩) (show wr.heap.size < (wr.alloc (.cells #[.int .u64 (y : Int)] 30)).heap.size by rw [hsY]; omega)).trans (oneU_new wr y)
                have F1 := F0.drew
                have F2 := F2a.drew
                have F3 := F3a.drew
                have yy2d : ((wr.alloc (.cells #[] 30)).alloc (.cells #[.int .u64 (y : Int)] 30)).drew.cell? ⟨wr.heap.size + 1, 0, none⟩ = some (.int .u64 (y : Int)) := yy2
                have yy3d : ((wr.alloc (.cells #[.int .u64 (y : Int)] 30)).alloc (.cells #[] 30)).drew.cell? ⟨wr.heap.size, 0, none⟩ = some (.int .u64 (y : Int)) := yy3
                have hm0 : 0 + at0 ≤ 1000000 := by have := HL.out; have := HO.out.2.1; have := HGK.out.2.2; have := HN.out.2; omega
                have hm1 : at0 + 1 ≤ 1000000 := by have := HL.out; have := HO.out.2.1; have := HGK.out.2.2; have := HN.out.2; omega
                have hm2 : at0 + 1 + (on - at0) ≤ 1000000 := by have := HL.out; have := HO.out.2.1; have := HGK.out.2.2; have := HN.out.2; omega
                have hm3 : at0 + 1 + (on - at0) = on + 1 := by omega
                have hl1 : (OU.take at0).length = at0 := by rw [List.length_take]; have := HL.out; omega
                have hl2 : (OU.take at0 ++ [y]).length = at0 + 1 := by rw [List.length_append, hl1]; rfl
                have hl3 : (OU.drop at0).length = on - at0 := by rw [List.length_drop]; have := HL.out; omega
                have hg2 : ¬ wr.heap.size + 1 = wr.heap.size := by omega
                have hg3 : ¬ wr.heap.size = wr.heap.size + 1 := by omega
                clear hA0 hY0 hA0Y hY0A hAY hYA hsA hsY F0 F2a F3a yy2 yy3
                go_wp2_with fail
                go_region_held3 (fun w' => w'.cell? ⟨wo.heap.size, 1, none⟩ = some (.int .u64 (y : Int)))
                  (first | exact s3 | exact s2 | exact s1a | exact s1 | exact y1 | exact yA | exact yY | exact yAY | exact yYA)
                  (first
                    | (refine step_appU rfl (.tmp 44) (.tmp 47) rfl wr.heap.size wr.heap.size 0 0 [] rfl F1.own rfl (.slice (some ⟨ob, 0, none⟩) at0 oc) rfl at0 (OU.take at0) hl1 (srcA _ F1.hb) hm0 F1.hb.size at0 (Nat.zero_add _) ?_
                       intro g1 c1 w1 k1 k2
                       have F := F1.next k1 k2
                       have hbw := below_box4 w1 (.cells #[.int .u64 (y : Int)] 30)
                       have s1 := (F.hb.cell (p := ⟨wo.heap.size, 1, none⟩) hbx).trans y1
                       have s1a := ((bsplit F.hb hbw).cell (p := ⟨wo.heap.size, 1, none⟩) hbx).trans y1
                       have Fa := F.alloc _ hbw
                       have yc := oneU_new w1 y
                       clear F1 F2 F3)
                    | (refine step_appU rfl (.tmp 44) (.tmp 47) rfl wr.heap.size wr.heap.size 0 0 [] rfl F2.own rfl (.slice (some ⟨ob, 0, none⟩) at0 oc) rfl at0 (OU.take at0) hl1 (srcA _ F2.hb) hm0 F2.hb.size at0 (Nat.zero_add _) ?_
                       intro g1 c1 w1 k1 k2
                       have Fa := F2.next k1 k2
                       have s1 := (Fa.hb.cell (p := ⟨wo.heap.size, 1, none⟩) hbx).trans y1
                       have yc := k2.cell (p := ⟨wr.heap.size + 1, 0, none⟩) hg2 yy2d
                       clear F1 F2 F3)
                    | (refine step_appU rfl (.tmp 44) (.tmp 47) rfl wr.heap.size (wr.heap.size + 1) 0 0 [] rfl F3.own rfl (.slice (some ⟨ob, 0, none⟩) at0 oc) rfl at0 (OU.take at0) hl1 (srcA _ F3.hb) hm0 F3.hb.size at0 (Nat.zero_add _) ?_
                       intro g1 c1 w1 k1 k2
                       have Fa := F3.next k1 k2
                       have s1 := (Fa.hb.cell (p := ⟨wo.heap.size, 1, none⟩) hbx).trans y1
                       have yc := k2.cell (p := ⟨wr.heap.size, 0, none⟩) hg3 yy3d
                       clear F1 F2 F3)
                    | (refine step_appU rfl (.tmp 48) (.tmp 51) rfl wr.heap.size g1 at0 c1 (OU.take at0) rfl Fa.own hl1 _ rfl 1 [y] rfl (srcOne yc) hm1 Fa.hb.size (at0 + 1) rfl ?_
                       intro g2 c2 w2 k3 k4
                       have F4 := Fa.next k3 k4
                       have s2 := (F4.hb.cell (p := ⟨wo.heap.size, 1, none⟩) hbx).trans y1)
                    | (refine step_appU rfl (.tmp 52) (.tmp 55) rfl wr.heap.size g2 (at0 + 1) c2 (OU.take at0 ++ [y]) rfl F4.own hl2 (.slice (if oc = at0 then some ⟨ob, 0, none⟩ else some ⟨ob, at0, none⟩) (on - at0) (oc - at0)) rfl (on - at0) (OU.drop at0) hl3 (srcB _ F4.hb) hm2 F4.hb.size (on + 1) hm3 ?_
                       intro g3 c3 w3 k5 k6
                       have F5 := F4.next k5 k6
                       have s3 := (F5.hb.cell (p := ⟨wo.heap.size, 1, none⟩) hbx).trans y1)
                    | fail)
                all_goals
                  have HF : Hid (RoI w ls x (j + 1) (.slice (some ⟨g3, 0, none⟩) (on + 1) c3) (OU.take at0 ++ [y] ++ OU.drop at0) w3 ∧ on + 1 = (OU.take at0 ++ [y] ++ OU.drop at0).length) := by
                    obtain ⟨o1, o2, o3, o4, o5, o6, o7⟩ := HO.out
                    have hnin : y ∉ OU := of_decide_eq_false HB2.out.2.symm
                    obtain ⟨r1, r2⟩ := ins_rises o3 hnin
                    rw [← HB2.out.1] at r1 r2
                    have hll : (OU.take at0 ++ [y] ++ OU.drop at0).length = on + 1 := by first | (rw [List.length_append, hl2, hl3]; omega) | rw [List.length_append, hl2, hl3]
                    refine ⟨⟨row_mono9 F5.own o5.size, by rw [hll]; have := HL.out; omega, r1, fun z => ?_, o5.trans (F5.hb.mono o5.size)⟩, hll.symm⟩
                    rw [r2 z, HT.out, List.mem_append, ← o4 z, List.mem_singleton]
                    constructor
                    · rintro (h9 | h9)
                      · exact .inl h9
                      · rw [h9]; exact .inr rfl
                    · rintro (h9 | h9)
                      · exact .inl h9
                      · cases h9; exact .inr rfl
                  go_wp2_with fail
                  all_goals
                    go_roundg G
                    case measure => exact HGK.out.1
                    case rel => exact ⟨j + 1, on + 1, c3, _, _, HGK.out.2.1, by go_num, rfl, HF.out.2, HF.out.1⟩
      · have hxI : ¬ (x : Int) = (a : Int) := by omega
        have HF : Hid (RoI w ls a (j + 1) (.slice oa on oc) OU (wo.alloc (.cells #[.int .u64 (x : Int), .int .u64 (y : Int)] 49))) := by
          refine ⟨row_below l1 hb0, by omega, l3, fun z => ?_, bsplit l5 hb0⟩
          rw [HT.out, List.mem_append, ← l4 z, List.mem_singleton]
          constructor
          · exact .inl
          · rintro (h9 | h9)
            · exact h9
            · cases h9
              exact absurd rfl hx
        clear l1 l2 l3 l4 l5 HI hb0 htk hll
        go_wp2_with fail
        go_roundg (gk - 1)
        case measure => exact q1
        case rel => exact ⟨j + 1, on, oc, oa, OU, q2, by go_num, rfl, HL.out, HF.out⟩
    · have hjN : j = N := by omega
      subst hjN
      have HE : Hid (OwnU w.heap.size wo (.slice oa on oc) OU ∧ OU.Pairwise (· < ·) ∧ (∀ z, z ∈ OU ↔ (a, z) ∈ ls) ∧ Below w.heap.size w wo) := ⟨l1, l3, fun z => by rw [l4 z, List.take_of_length_le (by rw [HN.out.1]; omega)], l5⟩
      clear l1 l2 l3 l4 l5 HI
      go_wp2
      go_ret
      exact ⟨_, OU, rfl, HE.out⟩

end Go.Proofs.Ytgkgdbdapkgkgaa
