/- bartizanlaw18.run on a graph that is nil. -/
import Derived.Test.YtgkgdbdapkgkgaaGrNil
namespace Go.Proofs.Ytgkgdbdapkgkgaa
set_option maxRecDepth 100000
open Go.RowKit Go.Maps
set_option linter.unusedVariables false
set_option linter.unusedSimpArgs false

/-- in the place of what a graph holds: nothing but that a block is there -/
def GrN (B : Nat) (w : World) (g n : Nat) (e : Nat → List Nat) : Prop := g < w.heap.size

theorem GrN.below {B : Nat} {w w' : World} {g n : Nat} {e : Nat → List Nat} (H : GrN B w g n e) (hb : Below w.heap.size w w') : GrN B w' g n e := Nat.lt_of_lt_of_le H hb.size
theorem GrN.keepsC {B : Nat} {F : Nat → Prop} {w w' : World} {g n : Nat} {e : Nat → List Nat} (H : GrN B w g n e) (hk : Keeps F w w') (hg : ¬ F g) (hF : ∀ q, F q → ¬ IsMp w q) : GrN B w' g n e := Nat.lt_of_lt_of_le H hk.size
theorem GrN.old {B : Nat} {w : World} {g n : Nat} {e : Nat → List Nat} (H : GrN B w g n e) : g < w.heap.size := H

def RunPostN (B : Nat) (w : World) (g : Nat) (e' : Ending) (w' : World) : Prop :=
  ∃ v ls e n, e' = .returned v ∧ OwnK w.heap.size w' v ls ∧ GL e ls ∧ GrN B w' g n e ∧ n ≤ 200 ∧ ls.length ≤ 100 ∧ NumK ls ∧ Below B w w'

theorem linkN9 (B : Nat) (w : World) (g n k : Nat) (e : Nat → List Nat) (v : Value) (ns : List Nat) (h : GrN B w g n e) (hv : RdU w v ns) (hk : k < 18446744073709551616) (hns : ∀ n ∈ ns, n < 18446744073709551616) (hl : n + ns.length + 1 ≤ 100000) :
    Calls Try.prog 20 #[.pointer none, .int .u64 (k : Int), v] w fun e' w' => e' = .returned (.tuple #[]) ∧ GrN B w' g (n + ns.length + 1) (lnkE e k ns) ∧ Keeps (fun q => B ≤ q ∧ IsMp w q) w w' :=
  (linkN_any w k v).mono fun e' w' ⟨h1, h2⟩ => by subst h2; exact ⟨h1, h, Keeps.refl _ _⟩

theorem cutN9 (B : Nat) (w : World) (g n : Nat) (e : Nat → List Nat) (v : Value) (ns : List Nat) (h : GrN B w g n e) (hv : RdU w v ns) (hns : ∀ n ∈ ns, n < 18446744073709551616) (hl : ns.length ≤ 100000) :
    Calls Try.prog 19 #[.pointer none, v] w fun e' w' => e' = .returned (.tuple #[]) ∧ GrN B w' g n (cutE e ns) ∧ Keeps (fun q => B ≤ q ∧ IsMp w q) w w' :=
  (cutN_any w v).mono fun e' w' ⟨h1, h2⟩ => by subst h2; exact ⟨h1, h, Keeps.refl _ _⟩

set_option maxHeartbeats 1000000 in
theorem runN_any (B : Nat) (w0 w : World) (g : Nat) (v : Value) (os : List GOp) (h0 : w0.heap.size = B) (ha : ArgGO w0 v os) (hb : Below B w0 w) (hg : GrN B w g 0 (fun _ => [])) :
    Calls Try.prog 9 #[.pointer none, v] w (RunPostN B w g) := by
  obtain ⟨va, vc, rfl, hvc, hvc2, _⟩ := id ha
  obtain ⟨N, hN⟩ : ∃ N, os.length = N := ⟨_, rfl⟩
  have HA : Hid (ArgGO w0 (.slice va os.length vc) os ∧ w0.heap.size = B ∧ Below B w0 w ∧ GrN B w g 0 (fun _ => [])) := ⟨ha, h0, hb, hg⟩
  have HN : Hid (os.length = N) := hN
  have HBW : Hid (B ≤ w.heap.size) := by
    show _ ≤ _
    have := hb.size
    omega
  rw [hN] at hvc HA ⊢
  clear ha hN h0 hb hg
  go_enter Try.func9, Try.ntmps9
  go_wp2_with fail
  go_loopg [5, 15] N (fun gk lv iv wr => ∃ (j n' c' : Nat) (a' : Option Addr), gk + j = N ∧ iv = .int .i64 (j : Int) ∧ lv = .slice a' n' c' ∧ j ≤ 24 ∧ Hid (∃ ls e nn, ls.length = n' ∧ OwnK w.heap.size wr (.slice a' n' c') ls ∧ GL e ls ∧ GrN B wr g nn e ∧ nn ≤ j * 5 ∧ n' ≤ j * 4 ∧ NumK ls ∧ Below B w wr))
  case atStart => exact ⟨0, 0, 0, none, by omega, rfl, rfl, by omega, [], _, 0, rfl, World.ownsRow_nil _ _ _ _, fun k x => by simp, HA.out.2.2.2, by omega, by omega, fun l hl => (by cases hl), Below.refl _ _⟩
  case round =>
    obtain ⟨j, n', c', a', hj, rfl, rfl, hj24, HB⟩ := hrel
    by_cases hlt : j < N
    · have hltI : (j : Int) < (N : Int) := by omega
      have hb0 : Below B w0 wr := by
        obtain ⟨_, _, _, _, _, _, _, _, _, _, h9⟩ := HB.out
        exact HA.out.2.2.1.trans h9
      obtain ⟨va', vc', e9, _, _, hat⟩ := HA.out.1.below hb0 (by rw [HA.out.2.1]; exact Nat.le_refl _)
      rw [HN.out] at e9
      cases e9
      obtain ⟨ob, off, rfl, x, hx⟩ := hat j (by rw [HN.out]; exact hlt)
      obtain ⟨o, ho⟩ : ∃ o, os[j]'(by rw [HN.out]; exact hlt) = o := ⟨_, rfl⟩
      rw [ho] at hx
      obtain ⟨c0, c1, c2, hax, hok⟩ := hx
      obtain ⟨xa, xn, xc, rfl⟩ : ∃ a n c, x = .slice a n c := by
        rcases hax with ⟨h9, _⟩ | ⟨a, cap, h9, _⟩
        · exact ⟨_, _, _, h9⟩
        · exact ⟨_, _, _, h9⟩
      obtain ⟨z0, z1, z2⟩ := box3_new wr (.int .u8 (o.dop.toNat : Int)) (.int .u64 (o.k : Int)) (.slice xa xn xc) 47
      obtain ⟨W1, hW1⟩ : ∃ W1, wr.alloc (.cells #[.int .u8 (o.dop.toNat : Int), .int .u64 (o.k : Int), .slice xa xn xc] 47) = W1 := ⟨_, rfl⟩
      have hs1 : W1.heap.size = wr.heap.size + 1 := by rw [← hW1]; simp
      have hb1 : Below wr.heap.size wr W1 := by rw [← hW1]; exact below_box4 wr _
      obtain ⟨W2, hW2⟩ : ∃ W2, W1.alloc (.cells #[] 30) = W2 := ⟨_, rfl⟩
      have hs2 : W2.heap.size = wr.heap.size + 2 := by rw [← hW2]; simp; omega
      have hb2 : Below W1.heap.size W1 W2 := by rw [← hW2]; exact below_box4 W1 _
      have hb02 := bsplit (Below.refl wr.heap.size wr |>.trans hb1) hb2
      obtain ⟨M, hM⟩ : ∃ M, min xn 4 = M := ⟨_, rfl⟩
      have hMI : min (xn : Int) 4 = (M : Int) := by omega
      have hxl : xn = o.ts.length := by
        rcases hax with ⟨h9, h8⟩ | ⟨a, cap, h9, _⟩
        · cases h9; rw [h8]; rfl
        · cases h9; rfl
      have hMl : M ≤ o.ts.length := by omega
      have hns : (o.ts.take M).length = M := by rw [List.length_take]; omega
      have haxM : ArgU W2 (.slice xa M xc) (o.ts.take M) := by
        have h7 : ArgU W2 (.slice xa xn xc) o.ts := hax.below hb02 (Nat.le_refl _)
        rcases h7 with ⟨h9, h8⟩ | ⟨a, cap, h9, h8⟩
        · cases h9
          have : M = 0 := by omega
          subst this
          exact .inl ⟨rfl, by simp⟩
        · cases h9
          exact (ArgU.take (.inr ⟨a, xc, rfl, h8⟩) M hMl).2
      have hnum : ∀ x ∈ o.ts.take M, x < 18446744073709551616 := fun x hx => by
        rcases hax with ⟨_, h8⟩ | ⟨_, _, _, _, _, _, h8⟩
        · rw [h8] at hx; simp at hx
        · exact h8 x (List.mem_of_mem_take hx)
      have hBw : B ≤ wr.heap.size := by
        have := hb0.size
        rw [HA.out.2.1] at this
        exact this
      have ho0 : OwnU B W2 (.slice (some ⟨W1.heap.size, 0, none⟩) 0 0) [] := ⟨rfl, .inr ⟨W1.heap.size, 0, _, rfl, by omega, by rw [← hW2]; exact World.alloc_heap_new W1 _, Nat.le_refl _, by decide, rfl, rfl⟩⟩
      obtain ⟨g9, c9, w3, hrun, ho3, hk3⟩ := ho0.runA rfl haxM 28 (by omega) (by omega)
      rw [hns, Nat.zero_add] at hrun ho3
      rw [List.nil_append] at ho3
      rw [hs1, ← hW2, ← hW1] at hrun
      have hMc : M ≤ xc := by
        rcases hax with ⟨h9, _⟩ | ⟨a, cap, h9, h8, _⟩
        · cases h9; omega
        · cases h9; omega
      have hMcI : (M : Int) ≤ (xc : Int) := by omega
      have yM : M < 1152921504606846976 := by omega
      have HM4 : Hid (M ≤ 4) := by
        show _ ≤ _
        omega
      have HX : Hid (xn = o.ts.length ∧ (o.ts.take M).length = M) := ⟨hxl, hns⟩
      have hcell : ∀ (i : Nat) (u : Value), W1.cell? ⟨wr.heap.size, i, none⟩ = some u → w3.cell? ⟨wr.heap.size, i, none⟩ = some u := fun i u hu =>
        hk3.cell (show ¬ wr.heap.size = W1.heap.size by omega) ((hb2.cell (p := ⟨wr.heap.size, i, none⟩) (show wr.heap.size < W1.heap.size by omega)).trans hu)
      have y0 := hcell 0 _ (by rw [← hW1]; exact z0)
      have y1 := hcell 1 _ (by rw [← hW1]; exact z1)
      have hob : w3.heap[wr.heap.size]? = some (.cells #[.int .u8 (o.dop.toNat : Int), .int .u64 (o.k : Int), .slice xa xn xc] 47) := by
        rw [hk3.block _ (by omega) (show ¬ wr.heap.size = W1.heap.size by omega), hb2.block _ (by omega), ← hW1]
        exact World.alloc_heap_new wr _
      have hbz : Below wr.heap.size wr w3 := hb02.trans (hk3.below (fun i e => by rw [e]; omega) (by omega))
      have HZ : Hid (Below wr.heap.size wr w3 ∧ OwnU B w3 (.slice (some ⟨g9, 0, none⟩) M c9) (o.ts.take M) ∧ (∀ x ∈ o.ts.take M, x < 18446744073709551616) ∧ o.k < 18446744073709551616 ∧ Keeps (fun q => q = W1.heap.size) W2 w3 ∧ Below wr.heap.size wr W2) := ⟨hbz, ho3, hnum, hok, hk3, hb02⟩
      have HB1 : Hid (Below wr.heap.size wr W1 ∧ B ≤ wr.heap.size) := ⟨hb1, hBw⟩
      clear hcell hbz ho3 hnum hok hk3 hb02 hb1 hb2 ho0 haxM hBw
      clear hat ho hW2 hxl hns hM hMl hs1 hs2
      by_cases h24 : j = 24
      · subst h24
        clear hob
        have HE : Hid (RunPostN B w g (.returned (.slice a' n' c')) (wr.alloc (.cells #[.int .u8 (o.dop.toNat : Int), .int .u64 (o.k : Int), .slice xa xn xc] 47))) := by
          obtain ⟨ls, e, nn, r1, r2, r3, r4, r5, r6, r7, r8⟩ := HB.out
          rw [hW1]
          exact ⟨_, ls, e, nn, rfl, row_below r2 HB1.out.1, r3, r4.below HB1.out.1, by omega, by omega, r7, r8.trans (HB1.out.1.mono HB1.out.2)⟩
        clear hW1 HB
        go_wp2_with fail
        go_ret
        exact HE.out
      · have hI24 : ¬ (24 : Int) ≤ (j : Int) := by omega
        obtain ⟨d0, hd0⟩ : ∃ z : Int, (o.dop.toNat : Int) = z := ⟨_, rfl⟩
        rw [hd0] at z0 y0 hrun c0 hob
        obtain ⟨ns, hns⟩ : ∃ ns, o.ts.take M = ns := ⟨_, rfl⟩
        rw [hns] at HX HZ
        obtain ⟨k, hk⟩ : ∃ k, o.k = k := ⟨_, rfl⟩
        rw [hk] at z1 y1 hrun c1 HZ hob
        have HOB : Hid (w3.heap[wr.heap.size]? = some (.cells #[.int .u8 d0, .int .u64 (k : Int), .slice xa xn xc] 47)) := hob
        clear hob
        obtain ⟨ls, e, nn, r1, r2, r3, r4, r5, r6, r7, r8⟩ := HB.out
        have HS : Hid (ls.length = n' ∧ OwnK w.heap.size w3 (.slice a' n' c') ls ∧ GL e ls ∧ GrN B w3 g nn e ∧ nn ≤ j * 5 ∧ n' ≤ j * 4 ∧ NumK ls ∧ Below B w w3 ∧ gk + j = N ∧ j < N ∧ j ≤ 24) := ⟨r1, row_below r2 HZ.out.1, r3, r4.below HZ.out.1, r5, r6, r7, r8.trans (HZ.out.1.mono HB1.out.2), hj, hlt, hj24⟩
        clear hW1 hd0 hns hk r1 r2 r3 r4 r5 r6 r7 r8 HB hj
        have hlk := linkN9 B w3 g nn k e _ ns HS.out.2.2.2.1 HZ.out.2.1.rd HZ.out.2.2.2.1 HZ.out.2.2.1 (by have := HS.out; have := HX.out; omega)
        have hct := cutN9 B w3 g nn e _ ns HS.out.2.2.2.1 HZ.out.2.1.rd HZ.out.2.2.1 (by have := HX.out; omega)
        go_wp2_with (first | (at_builtin; refine wpList_appU rfl _ _ _ rfl _ _ _ rfl rfl hrun ?_) | fail)
        · refine hlk.mono ?_
          rintro e4 w4 ⟨rfl, hg4, hk4⟩
          obtain ⟨G, hG⟩ : ∃ G, gk - 1 = G := ⟨_, rfl⟩
          have H4 : Hid (OwnK w.heap.size w4 (.slice a' n' c') ls ∧ OwnU B w4 (.slice (some ⟨g9, 0, none⟩) M c9) ns ∧ GrN B w4 g (nn + ns.length + 1) (lnkE e k ns) ∧ Below B w w4 ∧ G < gk ∧ G + (j + 1) = N ∧ j + 1 ≤ 24 ∧ w4.heap[wr.heap.size]? = some (.cells #[.int .u8 d0, .int .u64 (k : Int), .slice xa xn xc] 47)) := by
            obtain ⟨q1, q2, q3, q4, q5, q6, q7, q8, q9, q10, q11⟩ := HS.out
            refine ⟨row_keepsM q2 hk4, row_keepsM HZ.out.2.1 hk4, hg4, q8.trans (hk4.below (fun i h => h.1) (Nat.le_trans HBW.out q8.size)), by omega, by omega, by omega, by
              rw [hk4.block _ (Array.getElem?_eq_some_iff.1 HOB.out).1 (fun h9 => by
                obtain ⟨_, es, cl, hm⟩ := h9
                rw [HOB.out] at hm
                cases hm)]
              exact HOB.out⟩
          clear hlk hct hg4 hk4 hG y0 z0 z1 z2 c0 c1 c2 hrun y1
          go_wp2_with fail
          go_loopg [5, 42] M (fun gk lv iv wr9 => ∃ (i n2 c2 : Nat) (a2 : Option Addr), gk + i = M ∧ iv = .int .i64 (i : Int) ∧ lv = .slice a2 n2 c2 ∧ Hid ((addL ls k (ns.take i)).length = n2 ∧ OwnK w.heap.size wr9 (.slice a2 n2 c2) (addL ls k (ns.take i)) ∧ Below B w4 wr9 ∧ GrN B wr9 g (nn + ns.length + 1) (lnkE e k ns) ∧ OwnU B wr9 (.slice (some ⟨g9, 0, none⟩) M c9) ns ∧ wr9.heap[wr.heap.size]? = some (.cells #[.int .u8 d0, .int .u64 (k : Int), .slice xa xn xc] 47)))
          case atStart => exact ⟨0, n', c', a', by omega, rfl, rfl, by rw [List.take_zero]; exact HS.out.1, by rw [List.take_zero]; exact H4.out.1, Below.refl _ _, H4.out.2.2.1, H4.out.2.1, H4.out.2.2.2.2.2.2.2⟩
          case round =>
            obtain ⟨i, n2, c2, a2, hi, rfl, rfl, HC⟩ := hrel
            by_cases hlti : i < M
            · have hil : i < ns.length := by rw [HX.out.2]; exact hlti
              obtain ⟨tb, tc, e9, _, t0⟩ := RdU.at HC.out.2.2.2.2.1.rd i hil
              rw [HX.out.2] at e9
              cases e9
              have yb := box3_mid HC.out.2.2.2.2.2
              obtain ⟨q1, q2⟩ := gk_nxt hi hlti
              have htk : ns.take (i + 1) = ns.take i ++ [ns[i]] := by rw [List.take_succ_eq_append_getElem hil]
              obtain ⟨x, hx⟩ : ∃ x, ns[i] = x := ⟨_, rfl⟩
              rw [hx] at t0 htk
              have HT : Hid (addL ls k (ns.take (i + 1)) = if (k, x) ∈ addL ls k (ns.take i) then addL ls k (ns.take i) else addL ls k (ns.take i) ++ [(k, x)]) := by
                show _ = _
                rw [htk, addL_snoc]
              have hal : (addL ls k (ns.take i)).length ≤ 1000 := Nat.le_trans (addL_len _ _ _) (by rw [List.length_take]; have := HS.out; have := HX.out.2; omega)
              have hcl := refhas_any wr _ _ k x (OwnK.rd HC.out.2.1) (by omega)
              have HAL : Hid ((addL ls k (ns.take i)).length ≤ 1000) := hal
              clear htk hx hal
              by_cases hin : (k, x) ∈ addL ls k (ns.take i)
              · rw [decide_eq_true hin] at hcl
                rw [if_pos hin] at HT
                go_wp2_with fail
                refine hcl.mono ?_
                rintro e5 w5 ⟨rfl, hb5⟩
                have HF : Hid ((addL ls k (ns.take (i + 1))).length = n2 ∧ OwnK w.heap.size w5 (.slice a2 n2 c2) (addL ls k (ns.take (i + 1))) ∧ Below B w4 w5 ∧ GrN B w5 g (nn + ns.length + 1) (lnkE e k ns) ∧ OwnU B w5 (.slice (some ⟨g9, 0, none⟩) M c9) ns) := by
                  obtain ⟨p1, p2, p3, p4, p5, p6⟩ := HC.out
                  rw [HT.out]
                  exact ⟨p1, row_below p2 hb5, p3.trans (hb5.mono (by have := p3.size; have := H4.out.2.2.2.1.size; have := HBW.out; omega)), p4.below hb5, row_below p5 hb5⟩
                have H6 := (hb5.block _ (Array.getElem?_eq_some_iff.1 HC.out.2.2.2.2.2).1).trans HC.out.2.2.2.2.2
                clear hcl hb5 t0 yb
                go_wp2_with fail
                go_roundg (gk - 1)
                case measure => exact q1
                case rel => exact ⟨i + 1, n2, c2, a2, q2, by go_num, rfl, HF.out.1, HF.out.2.1, HF.out.2.2.1, HF.out.2.2.2.1, HF.out.2.2.2.2, H6⟩
              · rw [decide_eq_false hin] at hcl
                rw [if_neg hin] at HT
                go_wp2_with fail
                refine hcl.mono ?_
                rintro e5 w5 ⟨rfl, hb5⟩
                have H6 := (hb5.block _ (Array.getElem?_eq_some_iff.1 HC.out.2.2.2.2.2).1).trans HC.out.2.2.2.2.2
                have yb5 := box3_mid H6
                have hb6 := below_box4 w5 (.cells #[.int .u64 (k : Int), .int .u64 (x : Int)] 49)
                obtain ⟨u0, u1⟩ := box2_new w5 (.int .u64 (k : Int)) (.int .u64 (x : Int)) 49
                have ho6 : OwnK w.heap.size (w5.alloc (.cells #[.int .u64 (k : Int), .int .u64 (x : Int)] 49)) (.slice a2 n2 c2) (addL ls k (ns.take i)) := row_below (row_below HC.out.2.1 hb5) hb6
                have hw5 : w.heap.size ≤ w5.heap.size := Nat.le_trans (Nat.le_trans H4.out.2.2.2.1.size HC.out.2.2.1.size) hb5.size
                obtain ⟨g7, c7, w7, hrun7, ho7, hk7⟩ := OwnK.run ho6 (k, x) w5.heap.size 26 u0 u1 (by have := HAL.out; omega) (Nat.le_trans hw5 hb6.size)
                rw [HC.out.1] at hrun7 ho7
                have hrow : ∀ q, (Value.slice a2 n2 c2).ownBlock = some q → ∃ cur, (w5.alloc (.cells #[.int .u64 (k : Int), .int .u64 (x : Int)] 49)).heap[q]? = some (.cells cur 49 (0, 0)) := fun q hq => row_tag ho6 hq
                have H6a := (hb6.block _ (Array.getElem?_eq_some_iff.1 H6).1).trans H6
                have H7 := (hk7.block _ (Array.getElem?_eq_some_iff.1 H6a).1 (fun h9 => by
                  obtain ⟨cur, hc⟩ := hrow _ h9
                  rw [H6a] at hc
                  cases hc)).trans H6a
                have hto : OwnU B (w5.alloc (.cells #[.int .u64 (k : Int), .int .u64 (x : Int)] 49)) (.slice (some ⟨g9, 0, none⟩) M c9) ns := row_below (row_below HC.out.2.2.2.2.1 hb5) hb6
                have HF : Hid ((addL ls k (ns.take (i + 1))).length = n2 + 1 ∧ OwnK w.heap.size w7 (.slice (some ⟨g7, 0, none⟩) (n2 + 1) c7) (addL ls k (ns.take (i + 1))) ∧ Below B w4 w7 ∧ GrN B w7 g (nn + ns.length + 1) (lnkE e k ns) ∧ OwnU B w7 (.slice (some ⟨g9, 0, none⟩) M c9) ns) := by
                  obtain ⟨p1, p2, p3, p4, p5, p6⟩ := HC.out
                  rw [HT.out]
                  have hgw : g < w.heap.size := HA.out.2.2.2.old
                  have hB4 : B ≤ w5.heap.size := Nat.le_trans HBW.out hw5
                  refine ⟨by rw [List.length_append, p1]; rfl, ho7, ?_, ((p4.below hb5).below hb6).keepsC hk7 (fun h9 => ?_) (fun q hq => row_notMp ho6 hq), own_same hto (fun q hq => hk7.block q (hto.lts q hq).2 (fun h9 => ?_))⟩
                  · have hB9 : B ≤ wr.heap.size := Nat.le_trans (Nat.le_trans HBW.out H4.out.2.2.2.1.size) p3.size
                    exact ((p3.trans (hb5.mono hB9)).trans (hb6.mono hB4)).trans (hk7.below (fun q hq => Nat.le_trans HBW.out (World.ownsRow.lt ho6 q hq).1) (Nat.le_trans hB4 hb6.size))
                  · have := (World.ownsRow.lt ho6 g h9).1
                    omega
                  · obtain ⟨cur, hc⟩ := hrow q h9
                    obtain ⟨cur2, hc2⟩ := row_tag hto hq
                    rw [hc] at hc2
                    cases hc2
                clear hcl hb5 t0 yb H6 hb6 u0 u1 ho6 hw5 ho7 hk7 hrow H6a hto
                go_wp2_with (first | (at_builtin; refine wpList_appU rfl _ _ _ rfl _ _ _ rfl rfl hrun7 ?_) | fail)
                go_roundg (gk - 1)
                case measure => exact q1
                case rel => exact ⟨i + 1, n2 + 1, c7, _, q2, by go_num, rfl, HF.out.1, HF.out.2.1, HF.out.2.2.1, HF.out.2.2.2.1, HF.out.2.2.2.2, H7⟩
            · have hiM : i = M := by omega
              have hnI : ¬ (i : Int) < (M : Int) := by omega
              have HF : Hid (∃ ls e nn, ls.length = n2 ∧ OwnK w.heap.size wr (.slice a2 n2 c2) ls ∧ GL e ls ∧ GrN B wr g nn e ∧ nn ≤ (j + 1) * 5 ∧ n2 ≤ (j + 1) * 4 ∧ NumK ls ∧ Below B w wr) := by
                obtain ⟨p1, p2, p3, p4, p5, p6⟩ := HC.out
                have htk : ns.take i = ns := List.take_of_length_le (by rw [HX.out.2]; omega)
                rw [htk] at p1 p2
                obtain ⟨q1, q2, q3, q4, q5, q6, q7, q8, q9, q10, q11⟩ := HS.out
                have h9 := addL_len k ns ls
                have hM4 : M ≤ 4 := HM4.out
                have hnl := HX.out.2
                exact ⟨_, _, _, p1, p2, q3.link k ns, p4, by omega, by omega, fun l hl => by
                  rcases (addL_mem k ns ls l).1 hl with h8 | ⟨h8, h7⟩
                  · exact q7 l h8
                  · rw [h8]; exact ⟨HZ.out.2.2.2.1, HZ.out.2.2.1 _ h7⟩, H4.out.2.2.2.1.trans p3⟩
              clear HC hi hiM
              go_wp2_with fail
              go_roundg G
              case measure => exact H4.out.2.2.2.2.1
              case rel => exact ⟨j + 1, n2, c2, a2, H4.out.2.2.2.2.2.1, by go_num, rfl, H4.out.2.2.2.2.2.2.1, HF.out⟩
        · refine hct.mono ?_
          rintro e4 w4 ⟨rfl, hg4, hk4⟩
          obtain ⟨G, hG⟩ : ∃ G, gk - 1 = G := ⟨_, rfl⟩
          have H4 : Hid (OwnK w.heap.size w4 (.slice a' n' c') ls ∧ OwnU B w4 (.slice (some ⟨g9, 0, none⟩) M c9) ns ∧ GrN B w4 g nn (cutE e ns) ∧ Below B w w4 ∧ G < gk ∧ G + (j + 1) = N ∧ j + 1 ≤ 24) := by
            obtain ⟨q1, q2, q3, q4, q5, q6, q7, q8, q9, q10, q11⟩ := HS.out
            exact ⟨row_keepsM q2 hk4, row_keepsM HZ.out.2.1 hk4, hg4, q8.trans (hk4.below (fun i h => h.1) (Nat.le_trans HBW.out q8.size)), by omega, by omega, by omega⟩
          clear hlk hct hg4 hk4 hG y0 y1 z0 z1 z2 c0 c1 c2 hrun
          go_wp2_with fail
          go_loopg [5, 65] M (fun gk lv iv wr => ∃ (i n2 c2 : Nat) (a2 : Option Addr), gk + i = M ∧ iv = .int .i64 (i : Int) ∧ lv = .slice a2 n2 c2 ∧ Hid ((cutL ls (ns.take i)).length = n2 ∧ OwnK w.heap.size wr (.slice a2 n2 c2) (cutL ls (ns.take i)) ∧ Below w4.heap.size w4 wr))
          case atStart => exact ⟨0, n', c', a', by omega, rfl, rfl, by rw [List.take_zero]; exact HS.out.1, by rw [List.take_zero]; exact H4.out.1, Below.refl _ _⟩
          case round =>
            obtain ⟨i, n2, c2, a2, hi, rfl, rfl, HC⟩ := hrel
            by_cases hlti : i < M
            · have hil : i < ns.length := by rw [HX.out.2]; exact hlti
              obtain ⟨tb, tc, e9, _, t0⟩ := RdU.at (row_below H4.out.2.1.rd HC.out.2.2) i hil
              rw [HX.out.2] at e9
              cases e9
              obtain ⟨q1, q2⟩ := gk_nxt hi hlti
              have htk : ns.take (i + 1) = ns.take i ++ [ns[i]] := by rw [List.take_succ_eq_append_getElem hil]
              obtain ⟨x, hx⟩ : ∃ x, ns[i] = x := ⟨_, rfl⟩
              rw [hx] at t0 htk
              have HT : Hid (cutL ls (ns.take (i + 1)) = (cutL ls (ns.take i)).filter (offK x)) := by
                show _ = _
                rw [htk, cutL_snoc]
              have hcl := refcut_any wr _ _ x (OwnK.rd HC.out.2.1) (Nat.le_trans (cutL_len _ _) (by have := HS.out; omega))
              clear htk hx
              go_wp2_with fail
              refine hcl.mono ?_
              rintro e5 w5 ⟨v5, rfl, ho5, hb5⟩
              obtain ⟨a5, c5, ev, _⟩ := row_slice9 ho5
              obtain ⟨n5, hn5⟩ : ∃ n5, ((cutL ls (ns.take i)).filter (offK x)).length = n5 := ⟨_, rfl⟩
              rw [hn5] at ev
              subst ev
              have HF : Hid ((cutL ls (ns.take (i + 1))).length = n5 ∧ OwnK w.heap.size w5 (.slice a5 n5 c5) (cutL ls (ns.take (i + 1))) ∧ Below w4.heap.size w4 w5) := by
                rw [HT.out]
                exact ⟨hn5, row_mono9 ho5 (by have := HBW.out; have := HC.out.2.2.size; have := H4.out.2.2.2.1.size; omega), bsplit HC.out.2.2 hb5⟩
              clear hcl ho5 hb5 hn5 t0
              go_wp2_with fail
              go_roundg (gk - 1)
              case measure => exact q1
              case rel => exact ⟨i + 1, n5, c5, a5, q2, by go_num, rfl, HF.out⟩
            · have hiM : i = M := by omega
              have hnI : ¬ (i : Int) < (M : Int) := by omega
              have HF : Hid (∃ ls e nn, ls.length = n2 ∧ OwnK w.heap.size wr (.slice a2 n2 c2) ls ∧ GL e ls ∧ GrN B wr g nn e ∧ nn ≤ (j + 1) * 5 ∧ n2 ≤ (j + 1) * 4 ∧ NumK ls ∧ Below B w wr) := by
                obtain ⟨p1, p2, p3⟩ := HC.out
                have htk : ns.take i = ns := List.take_of_length_le (by rw [HX.out.2]; omega)
                rw [htk] at p1 p2
                obtain ⟨q1, q2, q3, q4, q5, q6, q7, q8, q9, q10, q11⟩ := HS.out
                have := cutL_len ns ls
                exact ⟨_, _, nn, p1, p2, q3.cut ns, H4.out.2.2.1.below p3, by omega, by omega, fun l hl => q7 l ((cutL_mem ns ls l).1 hl).1, H4.out.2.2.2.1.trans (p3.mono (by have := H4.out.2.2.2.1.size; have := HBW.out; omega))⟩
              clear HC hi hiM
              go_wp2_with fail
              go_roundg G
              case measure => exact H4.out.2.2.2.2.1
              case rel => exact ⟨j + 1, n2, c2, a2, H4.out.2.2.2.2.2.1, by go_num, rfl, H4.out.2.2.2.2.2.2, HF.out⟩
    · have hjN : j = N := by omega
      subst hjN
      have HE : Hid (RunPostN B w g (.returned (.slice a' n' c')) wr) := by
        obtain ⟨ls, e, nn, r1, r2, r3, r4, r5, r6, r7, r8⟩ := HB.out
        exact ⟨_, ls, e, nn, rfl, r2, r3, r4, by omega, by omega, r7, r8⟩
      clear HB
      go_wp2
      go_ret
      exact HE.out

end Go.Proofs.Ytgkgdbdapkgkgaa
