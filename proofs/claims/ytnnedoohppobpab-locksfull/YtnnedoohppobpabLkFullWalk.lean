/- LocksFull answers true. -/
import Derived.Test.YtnnedoohppobpabLkFullPure
import Derived.Test.YtnnedoohppobpabLkGranted
namespace Go.Proofs.Ytnnedoohppobpab
set_option maxRecDepth 100000
open Go.RowKit Go.Maps
set_option linter.unusedVariables false
set_option linter.unusedSimpArgs false

theorem rd_key2 (w : World) (a b : Nat) (ca cb : UInt8) (ha : ca.toNat = a) (hb : cb.toNat = b) : Rd (w.alloc (.cells #[.int .u8 (a : Int), .int .u8 (b : Int)] 5)) (.slice (some ⟨w.heap.size, 0, none⟩) 2 2) [ca, cb] :=
  rd_lit w [ca, cb] (by simp [maxLen]) _ (by simp [bv, ha, hb])

theorem rd_key3 (w : World) (a b : Nat) (ca cb : UInt8) (ha : ca.toNat = a) (hb : cb.toNat = b) : Rd (w.alloc (.cells #[.int .u8 (a : Int), .int .u8 (b : Int), .int .u8 0] 5)) (.slice (some ⟨w.heap.size, 0, none⟩) 3 3) [ca, cb, 0] :=
  rd_lit w [ca, cb, 0] (by simp [maxLen]) _ (by simp [bv, ha, hb])

theorem rd_one9 (w : World) (b : UInt8) (i : Int) (hi : (b.toNat : Int) = i) : Rd (w.alloc (.cells #[.int .u8 i] 5 (1, 2))) (.slice (some ⟨w.heap.size, 0, none⟩) 1 1) [b] := by
  refine .inr ⟨w.heap.size, 0, 1, rfl, by simp, by simp [maxLen], fun j u hu => ?_⟩
  rw [World.cell?_alloc_mark]
  subst hi
  have hj : j = 0 := by have := (List.getElem?_eq_some_iff.1 hu).1; simp [bv] at this; omega
  subst hj
  simpa [bv] using hu

theorem conv_one9 (w : World) (i : Int) (g : Nat) (hg : g = w.heap.size) : (convert 30 30 (.slice (some ⟨g, 0, none⟩) 1 1)).run Try.prog (w.alloc (.cells #[.int .u8 i] 5)) = .ok (.slice (some ⟨g, 0, none⟩) 1 1) (w.alloc (.cells #[.int .u8 i] 5 (1, 2))) :=
  Joins.run_convert_bytes_const_at w 30 5 _ 1 1 g hg Try.underlying30 Try.underlying5

set_option maxHeartbeats 2000000 in
theorem lfull (x y m e : Nat) (w : World) (hx : x < 256) (hy : y < 256) (hm : 1 + x % 40 = m) (he : 1 + y % 12 = e) :
    Calls Try.prog 3 #[.int .u8 (x : Int), .int .u8 (y : Int)] w fun e w' => e = .returned (.bool true) ∧ Below w.heap.size w w' := by
  have hm1 : 1 ≤ m ∧ m ≤ 40 := by omega
  have he1 : 1 ≤ e ∧ e ≤ 12 := by omega
  have HM : Hid (1 + x % 40 = m ∧ 1 + y % 12 = e) := ⟨hm, he⟩
  clear hm he
  go_enter Try.func3, Try.ntmps3
  have hw := lkawake_any w
  go_wp2_with fail
  refine hw.mono ?_
  rintro e0 w1 ⟨rfl, hb1⟩
  have HB1 : Hid (Below w.heap.size w w1) := hb1
  clear hw hb1
  go_wp2_with fail
  have e7 : 1 + (x : Int) % 40 = (m : Int) := by have := HM.out.1; omega
  have e8 : 1 + (y : Int) % 12 = (e : Int) := by have := HM.out.2; omega
  rw [e7, e8]
  clear e7 e8
  have hnw := lknew_any w1 m e (by omega) (by omega) (by omega) (by omega)
  refine hnw.mono ?_
  rintro e0 w2 ⟨t, rfl, hp, ht, hs, hb⟩
  have HB2 : Hid (Below w1.heap.size w1 w2) := hb
  have HP2 : Hid (LkQ w1.heap.size w2 t m e [] []) := ⟨hb.size, _, hp, fun b hb => by rw [hb, ht]; exact Nat.le_refl _⟩
  clear hnw hp ht hs hb
  go_wp2_with fail
  go_loopg [9, 10] 50 (fun gk nv av wr => ∃ a n : Nat, gk + a = 51 ∧ 1 ≤ a ∧ n ≤ m ∧ nv = .int .i64 (n : Int) ∧ av = .int .u64 (a : Int) ∧ Hid (Below w1.heap.size w1 wr ∧ ∃ gs, gs.length = n ∧ LkQ w1.heap.size wr t m e gs [] ∧ FullI m e a 0 gs))
  case atStart => exact ⟨1, 0, by omega, by omega, by omega, rfl, rfl, HB2.out, [], rfl, HP2.out, FullI.start m e⟩
  case round =>
    obtain ⟨a, n, hga, ha1, hnm, rfl, rfl, HI⟩ := hrel
    by_cases hlt : a ≤ 50
    · have q1 : gk - 1 < gk := by omega
      have q2 : gk - 1 + (a + 1) = 51 := by omega
      obtain ⟨G, hG⟩ : ∃ G, gk = G := ⟨_, rfl⟩
      obtain ⟨G1, hG1⟩ : ∃ G, gk - 1 = G := ⟨_, rfl⟩
      rw [hG1] at q1 q2
      rw [hG] at q1
      go_wp2_with fail
      rw [show decide ((a : Int) ≤ 50) = true from decide_eq_true (by omega)]
      go_loopg [9, 36] (e + 1) (fun gk nv bv wr => ∃ b n : Nat, gk + b = e + 1 ∧ n ≤ m ∧ nv = .int .i64 (n : Int) ∧ bv = .int .i64 (b : Int) ∧ Hid (Below w1.heap.size w1 wr ∧ ∃ gs, gs.length = n ∧ LkQ w1.heap.size wr t m e gs [] ∧ FullI m e a b gs))
      case atStart => exact ⟨0, n, by omega, hnm, rfl, rfl, HI.out⟩
      case round =>
        obtain ⟨b, n, hgb, hnm, rfl, rfl, HJ⟩ := hrel
        by_cases hltb : b ≤ e
        · have q3 : gk - 1 < gk := by omega
          have q4 : gk - 1 + (b + 1) = e + 1 := by omega
          obtain ⟨hbw, gs, hgs, hq, hfi⟩ := HJ.out
          have hw1 : IntKind.u8.wrap (a : Int) = (a : Int) := by rw [IntKind.wrap_u8]; omega
          have hw2 : IntKind.u8.wrap (b : Int) = (b : Int) := by rw [IntKind.wrap_u8]; omega
          have hca : (UInt8.ofNat a).toNat = a := by simp; omega
          have hcb : (UInt8.ofNat b).toNat = b := by simp; omega
          have hk2 := rd_key2 wr a b _ _ hca hcb
          have hk3 := rd_key3 (wr.alloc (.cells #[.int .u8 (a : Int), .int .u8 (b : Int)] 5)) a b _ _ hca hcb
          rw [show (wr.alloc (.cells #[.int .u8 (a : Int), .int .u8 (b : Int)] 5)).heap.size = wr.heap.size + 1 by simp] at hk3
          have hbl := below_two wr (.cells #[.int .u8 (a : Int), .int .u8 (b : Int)] 5) (.cells #[.int .u8 (a : Int), .int .u8 (b : Int), .int .u8 0] 5)
          have hask : Calls Try.prog 6 #[.pointer (some ⟨t, 0, none⟩), lkV (a : Int) (.slice (some ⟨wr.heap.size, 0, none⟩) 2 2) (.slice (some ⟨wr.heap.size + 1, 0, none⟩) 3 3) 3, .int .u64 9] _ _ := askq_any w1.heap.size _ t m e gs [] a 3 _ _ _ _ 9 (hq.below hbl) (by simp; omega) (hk2.below (below_box4 _ _) (Nat.le_refl _)) hk3 (by omega) (by decide)
          have HB3 : Hid (Below w1.heap.size w1 ((wr.alloc (.cells #[.int .u8 (a : Int), .int .u8 (b : Int)] 5)).alloc (.cells #[.int .u8 (a : Int), .int .u8 (b : Int), .int .u8 0] 5))) := hbw.trans (hbl.mono hbw.size)
          have HFI : Hid (gs.length = n ∧ FullI m e a b gs) := ⟨hgs, hfi⟩
          have HCC : Hid ((UInt8.ofNat a).toNat = a ∧ (UInt8.ofNat b).toNat = b) := ⟨hca, hcb⟩
          unfold lkV at hask
          clear hbw hgs hq hfi hk2 hk3 hbl hca hcb HJ
          go_wp2_with fail
          refine Calls.mono hask ?_
          rintro e5 w5 ⟨x', y', he5, hb5, hq5⟩
          have HB5 : Hid (Below w1.heap.size w1 w5) := HB3.out.trans hb5
          have hA := HFI.out.2.ask ha1 he1.1 hm1.1 hltb ⟨a, [UInt8.ofNat a, UInt8.ofNat b], [UInt8.ofNat a, UInt8.ofNat b, 0], 3, .slice (some ⟨wr.heap.size, 0, none⟩) 2 2, .slice (some ⟨wr.heap.size + 1, 0, none⟩) 3 3⟩ ⟨a, [UInt8.ofNat a, UInt8.ofNat b], [UInt8.ofNat a, UInt8.ofNat b, 0], 3, x', y'⟩ 9 ⟨rfl, rfl, _, _, rfl, rfl, HCC.out.1, HCC.out.2⟩ ⟨rfl, rfl, _, _, rfl, rfl, HCC.out.1, HCC.out.2⟩
          rw [HFI.out.1] at hA
          clear hb5
          by_cases hc : b < e ∧ n < m
          · replace hA := hA.1 hc
            rw [hA.1] at he5 hq5
            simp only at he5 hq5
            subst he5
            obtain ⟨hc1, hc2⟩ := hc
            have HN : Hid (∀ k, Below w1.heap.size w1 (w5.drewN k) ∧ ∃ gs, gs.length = n + 1 ∧ LkQ w1.heap.size (w5.drewN k) t m e gs [] ∧ FullI m e a (b + 1) gs) := fun k => ⟨below_drewN HB5.out k, _, by rw [List.length_append, HFI.out.1]; rfl, hq5.below (below_drewN (Below.refl _ _) k), hA.2⟩
            clear hask hA hq5
            go_wp2_with fail
            go_roundg (gk - 1)
            case measure => exact q3
            case rel => exact ⟨b + 1, n + 1, q4, by omega, by go_num, by go_num, HN.out 0⟩
          · replace hA := hA.2 hc
            rw [hA.1] at he5 hq5
            simp only at he5 hq5
            subst he5
            by_cases hc1 : b < e
            · have hc2 : ¬ n < m := fun h9 => hc ⟨hc1, h9⟩
              clear hc
              have HN : Hid (∀ k, Below w1.heap.size w1 (w5.drewN k) ∧ ∃ gs, gs.length = n ∧ LkQ w1.heap.size (w5.drewN k) t m e gs [] ∧ FullI m e a (b + 1) gs) := fun k => ⟨below_drewN HB5.out k, _, HFI.out.1, hq5.below (below_drewN (Below.refl _ _) k), hA.2⟩
              clear hask hA hq5
              go_wp2_with fail
              go_roundg (gk - 1)
              case measure => exact q3
              case rel => exact ⟨b + 1, n, q4, by omega, by go_num, by go_num, HN.out 0⟩
            · clear hc
              have HN : Hid (∀ k, Below w1.heap.size w1 (w5.drewN k) ∧ ∃ gs, gs.length = n ∧ LkQ w1.heap.size (w5.drewN k) t m e gs [] ∧ FullI m e a (b + 1) gs) := fun k => ⟨below_drewN HB5.out k, _, HFI.out.1, hq5.below (below_drewN (Below.refl _ _) k), hA.2⟩
              clear hask hA hq5
              go_wp2_with fail
              go_roundg (gk - 1)
              case measure => exact q3
              case rel => exact ⟨b + 1, n, q4, by omega, by go_num, by go_num, HN.out 0⟩
        · have hbe : b = e + 1 := by omega
          subst hbe
          obtain ⟨hbw, gs, hgs, hq, hfi⟩ := HJ.out
          have HN : Hid (∀ k, Below w1.heap.size w1 (wr.drewN k) ∧ ∃ gs, gs.length = n ∧ LkQ w1.heap.size (wr.drewN k) t m e gs [] ∧ FullI m e (a + 1) 0 gs) := fun k => ⟨below_drewN hbw k, gs, hgs, hq.below (below_drewN (Below.refl _ _) k), hfi.next ha1⟩
          have hfin : ¬ (((e + 1 : Nat) : Int) < (e : Int) + 1) := by omega
          clear hbw hgs hq hfi HJ hltb
          go_wp2_with fail
          go_roundg G1
          case measure => exact q1
          case rel => exact ⟨a + 1, n, q2, by omega, hnm, by go_num, by go_num, HN.out 0⟩
    · have ha51 : a = 51 := by omega
      subst ha51
      obtain ⟨hbw, gs, hgs, hq, hfi⟩ := HI.out
      have HB5 : Hid (Below w1.heap.size w1 wr) := hbw
      obtain ⟨f1, f2, f3, f4, f5⟩ := hfi.fin he1.1 hm1.2
      have HF : Hid ((rlB gs 1).length + (ofB gs 1).length = m ∧ ∀ (l l' : Lk) (u : Nat), l.n = 99 → l.f = [122] → l.t = [] → l.m = 1 → (askB (m : Int) (e : Int) (rlB gs 1) [] l l' u).1 = 0) := ⟨f3, f5⟩
      have hgr := grantq_any _ wr t m e gs [] 1 hq (by omega)
      have HQ : Hid (LkQ w1.heap.size wr t m e gs [] ∧ advB (lvB [] 1) (rlB gs 1) [] [] = (rlB gs 1, [], []) ∧ gs.length = m) := ⟨hq, f2, f1⟩
      clear hbw hq hfi f1 f2 f3 f5 HI hgs
      go_wp2_with fail
      refine hgr.mono ?_
      rintro e6 w6 ⟨v, ls, rfl, hgi, hb6⟩
      obtain ⟨va, vc, rfl, _, _⟩ := row_slice9 hgi.row
      rw [hgi.len]
      obtain ⟨had, hhad⟩ : ∃ k, (ofB gs 1).length = k := ⟨_, rfl⟩
      rw [hhad] at HF f4 ⊢
      have HB6 : Hid (Below w1.heap.size w1 w6) := HB5.out.trans (hb6.mono HB5.out.size)
      have hrl := relq_any _ w6 t m e gs [] 1 (HQ.out.1.below hb6) (by rw [HQ.out.2.2]; simp; omega)
      rw [HQ.out.2.1] at hrl
      clear hgr hgi hb6 hhad
      go_wp2_with fail
      refine Calls.mono hrl ?_
      rintro e7 w7 ⟨v7, rfl, hv7, hb7, hq7⟩
      obtain ⟨a7, c7, ev7, _⟩ := row_slice9 hv7
      subst ev7
      have HQ7 : Hid (LkQ w1.heap.size w7 t m e (rlB gs 1) []) := hq7
      have HB7 : Hid (Below w1.heap.size w1 w7) := HB6.out.trans hb7
      obtain ⟨_, G7, hp7, _⟩ := hq7
      have hln := lklen_any G7 w7 t m e _ [] hp7
      obtain ⟨nl, hnl⟩ : ∃ k, (rlB gs 1).length = k := ⟨_, rfl⟩
      rw [hnl] at hln HF
      have hml : (m : Int) - (had : Int) = (nl : Int) := by have := HF.out.1; omega
      have HNL : Hid ((rlB gs 1).length = nl ∧ nl ≤ 40) := ⟨hnl, by have := HF.out.1; omega⟩
      clear hrl hv7 hb7 hp7 hnl
      go_wp2_with fail
      refine hln.mono ?_
      rintro e8 w8 ⟨rfl, rfl⟩
      have hcv := conv_one9 w8 122 w8.heap.size rfl
      have hrd := rd_one9 w8 122 122 rfl
      have hbm := below_box4 w8 (.cells #[.int .u8 122] 5 (1, 2))
      have hask : Calls Try.prog 6 #[.pointer (some ⟨t, 0, none⟩), lkV 99 (.slice (some ⟨w8.heap.size, 0, none⟩) 1 1) (.slice none 0 0) 1, .int .u64 9] _ _ := askq_any w1.heap.size _ t m e (rlB gs 1) [] 99 1 _ _ _ [] 9 (HQ7.out.below hbm) (by have := HNL.out; rw [this.1]; simp; omega) hrd (.inl ⟨rfl, rfl⟩) (by decide) (by decide)
      have HB8 : Hid (Below w1.heap.size w1 (w8.alloc (.cells #[.int .u8 122] 5 (1, 2)))) := HB7.out.trans (hbm.mono HB7.out.size)
      unfold lkV at hask
      clear hln hrd hbm
      go_wp2_with fail
      refine Calls.mono hask ?_
      rintro e9 w9 ⟨x', y', he9, hb9, hq9⟩
      have he9' : e9 = .returned (.int .i64 0) := by rw [he9, HF.out.2 _ _ _ rfl rfl rfl rfl]
      subst he9'
      have HB9 : Hid (Below w.heap.size w w9) := bsplit HB1.out (HB8.out.trans hb9)
      clear hask he9 hb9 hq9
      go_wp2
      go_ret
      exact ⟨rfl, HB9.out⟩

theorem locksFull_walk (x y : Int) (w : World) (hx : (Lit.int .u8 x).wf = true) (hy : (Lit.int .u8 y).wf = true) :
    Calls Try.prog 3 #[.int .u8 x, .int .u8 y] w fun e w' => e = .returned (.bool true) ∧ Below w.heap.size w w' := by
  have h1 : 0 ≤ x ∧ x < 256 := by have h := bounds_u8 hx; omega
  have h2 : 0 ≤ y ∧ y < 256 := by have h := bounds_u8 hy; omega
  obtain ⟨p, rfl⟩ := Int.eq_ofNat_of_zero_le h1.1
  obtain ⟨q, rfl⟩ := Int.eq_ofNat_of_zero_le h2.1
  exact lfull p q _ _ w (by omega) (by omega) rfl rfl

end Go.Proofs.Ytnnedoohppobpab
