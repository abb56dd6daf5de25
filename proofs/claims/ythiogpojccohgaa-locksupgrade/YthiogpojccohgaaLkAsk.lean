/- (*locks.Table).Ask. -/
import Derived.Test.YthiogpojccohgaaLkFull
import Derived.Deep.RegionLaw
import Derived.Deep.DeepCutAuto
namespace Go.Proofs.Ythiogpojccohgaa
set_option maxRecDepth 100000
open Go.RowKit Go.Maps
set_option linter.unusedVariables false
set_option linter.unusedSimpArgs false

/-- what is asked for, in pure terms -/
def askB (mo ea : Int) (gs : List Lk) (qs : List Rq) (l l' : Lk) (u : Nat) : Int × List Lk × List Rq :=
  if rightB l = false then (9, gs, qs) else if (qs.any fun q => decide (q.l.n = l.n)) = true then (4, gs, qs) else if hasB gs l = true then (0, gs, qs) else if fullB mo ea gs qs l.n = true then (7, gs, qs)
  else if (blkB gs qs l).length = 0 then (0, gs ++ [l'], qs) else (3, gs, qs ++ [⟨l', u⟩])

theorem blkB_same (gs : List Lk) (qs : List Rq) (l : Lk) (x y : Value) : blkB gs qs ⟨l.n, l.f, l.t, l.m, x, y⟩ = blkB gs qs l := rfl

def AskPost (G : Nat → Prop) (w : World) (t : Nat) (mo ea : Int) (gs : List Lk) (qs : List Rq) (l : Lk) (u : Nat) (e : Ending) (w' : World) : Prop :=
  ∃ l' : Lk, (l'.n = l.n ∧ l'.f = l.f ∧ l'.t = l.t ∧ l'.m = l.m) ∧ e = .returned (.int .i64 (askB mo ea gs qs l l' u).1) ∧ Keeps G w w' ∧ ∃ G', LkP G' w' t mo ea (askB mo ea gs qs l l' u).2.1 (askB mo ea gs qs l l' u).2.2 ∧ ∀ b, G' b → G b ∨ w.heap.size ≤ b

theorem AskPost.no {G : Nat → Prop} {w w' : World} {t : Nat} {mo ea c : Int} {gs : List Lk} {qs : List Rq} {l : Lk} {u : Nat} (h : LkP G w t mo ea gs qs) (hb : Below w.heap.size w w') (hc : ∀ l', askB mo ea gs qs l l' u = (c, gs, qs)) : AskPost G w t mo ea gs qs l u (.returned (.int .i64 c)) w' := by
  refine ⟨l, ⟨rfl, rfl, rfl, rfl⟩, by rw [hc], Below.keeps hb _, G, ?_, fun b hb => .inl hb⟩
  rw [hc]
  exact h.below hb

set_option maxHeartbeats 8000000 in
theorem ask_any (G : Nat → Prop) (w : World) (t : Nat) (mo ea : Int) (gs : List Lk) (qs : List Rq) (l : Lk) (u : Nat) (h : LkP G w t mo ea gs qs) (hn : gs.length + qs.length ≤ 900) (hx : Rd w l.x l.f) (hy : Rd w l.y l.t) (hln : l.n < 18446744073709551616) (hun : u < 18446744073709551616) :
    Calls Try.prog 9 #[.pointer (some ⟨t, 0, none⟩), lkV (l.n : Int) l.x l.y (l.m.toNat : Int), .int .u64 (u : Int)] w (AskPost G w t mo ea gs qs l u) := by
  obtain ⟨i0, hi, hz0, hz1, hz2⟩ := info_parts infoLk
  obtain ⟨j0, hj0, hy0, hy1, hy2⟩ := info_parts infoRq
  have he := eqT t
  have HP : Hid (LkP G w t mo ea gs qs) := h
  obtain ⟨gv, qv, h⟩ := h
  have HL : Hid (LkAt G w t mo ea gs qs gv qv) := h
  obtain ⟨x1, x3, ex⟩ := hx.len
  obtain ⟨y1, y3, ey⟩ := hy.len
  have HX : Hid (∀ W, Below w.heap.size w W → Rd W l.x l.f ∧ Rd W l.y l.t) := fun W hW => ⟨hx.below hW (Nat.le_refl _), hy.below hW (Nat.le_refl _)⟩
  have HNS : Hid (gs.length + qs.length ≤ 900 ∧ l.n < 18446744073709551616 ∧ u < 18446744073709551616) := ⟨hn, hln, hun⟩
  have hb0 := below_box4 w (.cells #[.int .u64 (l.n : Int), l.x, l.y, .int .u8 (l.m.toNat : Int)] 32)
  have HB0 : Hid (Below w.heap.size w (w.alloc (.cells #[.int .u64 (l.n : Int), l.x, l.y, .int .u8 (l.m.toNat : Int)] 32))) := hb0
  obtain ⟨r1, hr1⟩ : ∃ r, rightB l = r := ⟨_, rfl⟩
  have hri := right_any (w.alloc (.cells #[.int .u64 (l.n : Int), l.x, l.y, .int .u8 (l.m.toNat : Int)] 32)) l.x l.y l.f l.t (l.n : Int) (l.m.toNat : Int) r1 (HX.out _ hb0).1 (HX.out _ hb0).2 (by rw [← rightB_is]; exact hr1)
  have HR1 : Hid (rightB l = r1) := hr1
  have BX : Hid (Box4f (w.alloc (.cells #[.int .u64 (l.n : Int), l.x, l.y, .int .u8 (l.m.toNat : Int)] 32)) w.heap.size (.int .u64 (l.n : Int)) l.x l.y (.int .u8 (l.m.toNat : Int))) := box4f_new w _ _ _ _ _
  have HPL : Hid (∀ W, Below w.heap.size w W → Calls Try.prog 22 #[.pointer (some ⟨t, 0, none⟩), .int .u64 (l.n : Int)] W fun e w' => e = .returned (.int .i64 (idxB (fun q : Rq => decide (q.l.n = l.n)) qs)) ∧ Below W.heap.size W w') := fun W hW => place_any G W t mo ea gs qs gv qv l.n (h.below hW) (by omega)
  obtain ⟨r2, hr2⟩ : ∃ r, hasB gs l = r := ⟨_, rfl⟩
  have HHA : Hid (∀ W, Below w.heap.size w W → Calls Try.prog 23 #[.pointer (some ⟨t, 0, none⟩), lkV (l.n : Int) l.x l.y (l.m.toNat : Int)] W fun e w' => e = .returned (.bool r2) ∧ Below W.heap.size W w') := fun W hW => has_any G W t mo ea gs qs gv qv l r2 (h.below hW) (by omega) (HX.out _ hW).1 (HX.out _ hW).2 hr2
  have HR2 : Hid (hasB gs l = r2) := hr2
  obtain ⟨r3, hr3⟩ : ∃ r, fullB mo ea gs qs l.n = r := ⟨_, rfl⟩
  have HFU : Hid (∀ W, Below w.heap.size w W → Calls Try.prog 24 #[.pointer (some ⟨t, 0, none⟩), .int .u64 (l.n : Int)] W fun e w' => e = .returned (.bool r3) ∧ Below W.heap.size W w') := fun W hW => full_any G W t mo ea gs qs gv qv l.n r3 (h.below hW) (by omega) hr3
  have HR3 : Hid (fullB mo ea gs qs l.n = r3) := hr3
  have HPI : Hid (decide (0 ≤ idxB (fun q : Rq => decide (q.l.n = l.n)) qs) = qs.any fun q => decide (q.l.n = l.n)) := idxB_any _ _
  obtain ⟨pi, hpi⟩ : ∃ z, idxB (fun q : Rq => decide (q.l.n = l.n)) qs = z := ⟨_, rfl⟩
  obtain ⟨ln, hlnq⟩ : ∃ z : Int, (l.n : Int) = z := ⟨_, rfl⟩
  obtain ⟨lm, hlm⟩ : ∃ z : Int, (l.m.toNat : Int) = z := ⟨_, rfl⟩
  obtain ⟨U, hU⟩ : ∃ z : Int, (u : Int) = z := ⟨_, rfl⟩
  have HLV : Hid ((l.n : Int) = ln ∧ (l.m.toNat : Int) = lm ∧ (u : Int) = U ∧ l.x = .slice x1 l.f.length x3 ∧ l.y = .slice y1 l.t.length y3) := ⟨hlnq, hlm, hU, ex, ey⟩
  rw [hpi] at HPL HPI
  rw [ex, ey, hlnq, hlm] at HB0 hri BX HHA
  rw [hlnq] at HPL HFU
  rw [ex, ey, hlnq, hlm, hU]
  have BX' := BX.out.bx
  obtain ⟨z0, z1, z2, z3⟩ := BX'
  clear h hx hy hln hun hn hb0 hr1 hr2 hr3 hpi ex ey hlnq hlm hU
  unfold lkV at hri HHA ⊢
  go_enter Try.func9, Try.ntmps9
  go_wp2_with fail
  refine hri.mono ?_
  rintro e w1 ⟨rfl, hb1⟩
  have HB1 : Hid (Below w.heap.size w w1) := bsplit HB0.out hb1
  have BX1 : Hid (Box4f w1 w.heap.size (.int .u64 ln) (.slice x1 l.f.length x3) (.slice y1 l.t.length y3) (.int .u8 lm)) := BX.out.below hb1 (Nat.le_refl _)
  clear hri hb1 z0 z1 z2 z3
  obtain ⟨⟨z0, z1, z2, z3⟩, _, _, _, _⟩ := BX1.out
  cases r1 with
  | false =>
    go_wp2
    go_ret
    exact AskPost.no HP.out HB1.out (fun l' => by unfold askB; rw [if_pos HR1.out])
  | true =>
    have hpl := HPL.out w1 HB1.out
    go_wp2_with fail
    refine hpl.mono ?_
    rintro e w2 ⟨rfl, hb2⟩
    have HB2 : Hid (Below w.heap.size w w2) := bsplit HB1.out hb2
    have BX2 : Hid (Box4f w2 w.heap.size (.int .u64 ln) (.slice x1 l.f.length x3) (.slice y1 l.t.length y3) (.int .u8 lm)) := BX1.out.below hb2 (Nat.le_refl _)
    clear hpl hb2 z0 z1 z2 z3
    obtain ⟨⟨z0, z1, z2, z3⟩, _, _, _, _⟩ := BX2.out
    by_cases hp0 : 0 ≤ pi
    · have HQ : Hid ((qs.any fun q => decide (q.l.n = l.n)) = true) := by show _ = _; rw [← HPI.out]; exact decide_eq_true hp0
      go_wp2
      go_ret
      exact AskPost.no HP.out HB2.out (fun l' => by unfold askB; rw [if_neg (by rw [HR1.out]; decide), if_pos HQ.out])
    · have HQ : Hid ((qs.any fun q => decide (q.l.n = l.n)) = false) := by show _ = _; rw [← HPI.out]; exact decide_eq_false hp0
      have hha := HHA.out w2 HB2.out
      go_wp2_with fail
      refine hha.mono ?_
      rintro e w3 ⟨rfl, hb3⟩
      have HB3 : Hid (Below w.heap.size w w3) := bsplit HB2.out hb3
      have BX3 : Hid (Box4f w3 w.heap.size (.int .u64 ln) (.slice x1 l.f.length x3) (.slice y1 l.t.length y3) (.int .u8 lm)) := BX2.out.below hb3 (Nat.le_refl _)
      clear hha hb3 z0 z1 z2 z3
      obtain ⟨⟨z0, z1, z2, z3⟩, _, _, _, _⟩ := BX3.out
      cases r2 with
      | true =>
        go_wp2
        go_ret
        exact AskPost.no HP.out HB3.out (fun l' => by unfold askB; rw [if_neg (by rw [HR1.out]; decide), if_neg (by rw [HQ.out]; decide), if_pos HR2.out])
      | false =>
        have hfu := HFU.out w3 HB3.out
        go_wp2_with fail
        refine hfu.mono ?_
        rintro e w4 ⟨rfl, hb4⟩
        have HB4 : Hid (Below w.heap.size w w4) := bsplit HB3.out hb4
        have BX4 : Hid (Box4f w4 w.heap.size (.int .u64 ln) (.slice x1 l.f.length x3) (.slice y1 l.t.length y3) (.int .u8 lm)) := BX3.out.below hb4 (Nat.le_refl _)
        clear hfu hb4 z0 z1 z2 z3
        obtain ⟨⟨z0, z1, z2, z3⟩, g0, g1, g2, g3⟩ := BX4.out
        cases r3 with
        | true =>
          go_wp2
          go_ret
          exact AskPost.no HP.out HB4.out (fun l' => by unfold askB; rw [if_neg (by rw [HR1.out]; decide), if_neg (by rw [HQ.out]; decide), if_neg (by rw [HR2.out]; decide), if_pos HR3.out])
        | false =>
          have HASK : Hid (∀ l', askB mo ea gs qs l l' u = if (blkB gs qs l).length = 0 then (0, gs ++ [l'], qs) else (3, gs, qs ++ [⟨l', u⟩])) := fun l' => by unfold askB; rw [if_neg (by rw [HR1.out]; decide), if_neg (by rw [HQ.out]; decide), if_neg (by rw [HR2.out]; decide), if_neg (by rw [HR3.out]; decide)]
          have hrb : l.f.length ≤ 65 ∧ l.t.length ≤ 65 := by
            have h9 := HR1.out
            unfold rightB at h9
            simp only [Bool.and_eq_true, decide_eq_true_eq] at h9
            exact ⟨h9.1.1.2, h9.1.2⟩
          have hap := apart_any w4 (.slice x1 l.f.length x3) (.slice y1 l.t.length y3) l.f l.t ln lm (by have := (HX.out _ HB4.out).1; rw [HLV.out.2.2.2.1] at this; exact this) (by have := (HX.out _ HB4.out).2; rw [HLV.out.2.2.2.2] at this; exact this) hrb.1 hrb.2
          have HRB : Hid (l.f.length ≤ 65 ∧ l.t.length ≤ 65) := hrb
          unfold lkV at hap
          clear hrb
          go_wp2_with fail
          refine hap.mono ?_
          rintro e w5 ⟨x', y', rfl, ox, oy, hb5⟩
          obtain ⟨x4, x5, ex'⟩ := ox.rd.len
          obtain ⟨y4, y5, ey'⟩ := oy.rd.len
          subst ex' ey'
          have HB5 : Hid (Below w.heap.size w w5) := bsplit HB4.out hb5
          obtain ⟨⟨c0, c1, c2, c3⟩, k0, k1, k2, k3⟩ := BX4.out.below hb5 (Nat.le_refl _)
          have hbx4 : w.heap.size < w4.heap.size := BX4.out.bx.lt
          have HOX : Hid (OwnN w4.heap.size w5 (.slice x4 l.f.length x5) l.f ∧ OwnN w4.heap.size w5 (.slice y4 l.t.length y5) l.t) := ⟨ox, oy⟩
          clear hap ox oy hb5 z0 z1 z2 z3 g0 g1 g2 g3
          go_upto_region 10 with fail
          obtain ⟨FL, hFL⟩ : ∃ z, l.f.length = z := ⟨_, rfl⟩
          obtain ⟨TL, hTL⟩ : ∃ z, l.t.length = z := ⟨_, rfl⟩
          have HFT : Hid (l.f.length = FL ∧ l.t.length = TL) := ⟨hFL, hTL⟩
          have B6' : Box4 ((((w5.setCell ⟨w.heap.size, 0, none⟩ (.int .u64 ln)).setCell ⟨w.heap.size, 1, none⟩ (.slice x4 l.f.length x5)).setCell ⟨w.heap.size, 2, none⟩ (.slice y4 l.t.length y5)).setCell ⟨w.heap.size, 3, none⟩ (.int .u8 lm)) w.heap.size (.int .u64 ln) (.slice x4 l.f.length x5) (.slice y4 l.t.length y5) (.int .u8 lm) := by
            constructor <;> simp [go_sem, c0, c1, c2, c3, k0, k1, k2, k3]
          have HB6' : Below w.heap.size w ((((w5.setCell ⟨w.heap.size, 0, none⟩ (.int .u64 ln)).setCell ⟨w.heap.size, 1, none⟩ (.slice x4 l.f.length x5)).setCell ⟨w.heap.size, 2, none⟩ (.slice y4 l.t.length y5)).setCell ⟨w.heap.size, 3, none⟩ (.int .u8 lm)) := below_store4 HB5.out (Nat.le_refl _) _ _ _ _
          have ho1 := ownN_stored4 (b := w.heap.size) HOX.out.1 (fun g hg => by have := (ownN_lt9 HOX.out.1 g hg).1; omega) (.int .u64 ln) (.slice x4 l.f.length x5) (.slice y4 l.t.length y5) (.int .u8 lm)
          have ho2 := ownN_stored4 (b := w.heap.size) HOX.out.2 (fun g hg => by have := (ownN_lt9 HOX.out.2 g hg).1; omega) (.int .u64 ln) (.slice x4 l.f.length x5) (.slice y4 l.t.length y5) (.int .u8 lm)
          obtain ⟨W6, hW6⟩ : ∃ W6, (((w5.setCell ⟨w.heap.size, 0, none⟩ (.int .u64 ln)).setCell ⟨w.heap.size, 1, none⟩ (.slice x4 l.f.length x5)).setCell ⟨w.heap.size, 2, none⟩ (.slice y4 l.t.length y5)).setCell ⟨w.heap.size, 3, none⟩ (.int .u8 lm) = W6 := ⟨_, rfl⟩
          rw [hW6] at B6' HB6' ho1 ho2 ⊢
          have HB6 : Hid (Below w.heap.size w W6) := HB6'
          have HOK6 : Hid (LkOk W6 ⟨l.n, l.f, l.t, l.m, .slice x4 l.f.length x5, .slice y4 l.t.length y5⟩ ∧ OwnN w.heap.size W6 (.slice x4 l.f.length x5) l.f ∧ OwnN w.heap.size W6 (.slice y4 l.t.length y5) l.t) := ⟨⟨ho1.mono (Nat.zero_le _), ho2.mono (Nat.zero_le _), HNS.out.2.1, HRB.out.1, HRB.out.2⟩, ho1.mono (by omega), ho2.mono (by omega)⟩
          rw [hFL, hTL] at B6' ⊢
          rw [hFL, hTL] at HOK6
          have HB6B : Hid (Box4 W6 w.heap.size (.int .u64 ln) (.slice x4 FL x5) (.slice y4 TL y5) (.int .u8 lm)) := B6'
          have hat6 := HL.out.below HB6'
          obtain ⟨qa, qc, eq, hqc, _⟩ := row_slice9 hat6.rq
          obtain ⟨ga, gc, eg, hgc, _⟩ := row_slice9 hat6.rg
          obtain ⟨NG, hNG⟩ : ∃ N, gs.length = N := ⟨_, rfl⟩
          obtain ⟨NQ, hNQ⟩ : ∃ N, qs.length = N := ⟨_, rfl⟩
          rw [hNQ] at eq hqc
          rw [hNG] at eg hgc
          subst eq eg
          have HNGQ : Hid (gs.length = NG ∧ qs.length = NQ) := ⟨hNG, hNQ⟩
          have HAT6 : Hid (LkAt G W6 t mo ea gs qs (.slice ga NG gc) (.slice qa NQ qc)) := hat6
          have hbd : Below W6.heap.size W6 W6.drew := (Below.refl _ _).drew
          have hat6d := hat6.below hbd
          have hbk := blk_any G W6.drew t mo ea gs qs (.slice ga NG gc) (.slice qa NQ qc) ⟨l.n, l.f, l.t, l.m, .slice x4 FL x5, .slice y4 TL y5⟩ (.slice qa NQ qc) qs hat6d (by have := HNS.out.1; omega) (HOK6.out.1.below hbd).1.rd (HOK6.out.1.below hbd).2.1.rd hat6d.rq hat6d.oq (by have := HNS.out.1; omega)
          rw [blkB_same] at hbk
          simp only [HLV.out.1, HLV.out.2.1] at hbk
          unfold lkV at hbk
          have hS0 : W6.drew.cell? ⟨w.heap.size, 0, none⟩ = some (.int .u64 ln) ∧ W6.drew.cell? ⟨w.heap.size, 1, none⟩ = some (.slice x4 FL x5) ∧ W6.drew.cell? ⟨w.heap.size, 2, none⟩ = some (.slice y4 TL y5) ∧ W6.drew.cell? ⟨w.heap.size, 3, none⟩ = some (.int .u8 lm) ∧ W6.drew.cell? ⟨t, 3, none⟩ = some (.slice qa NQ qc) := ⟨B6'.c0, B6'.c1, B6'.c2, B6'.c3, hat6.bx.c3⟩
          obtain ⟨XS, hXS⟩ : ∃ XS, blkB gs qs l = XS := ⟨_, rfl⟩
          rw [hXS] at hbk
          have HXS : Hid (blkB gs qs l = XS) := hXS
          have hszz : XS.length = 0 ↔ sizU XS = 0 := (sizU_zero XS).symm
          obtain ⟨SZ, hSZ⟩ : ∃ s, sizU XS = s := ⟨_, rfl⟩
          have HSZ : Hid (XS.length = 0 ↔ SZ = 0) := by show _ ↔ _; rw [← hSZ]; exact hszz
          have HSE : Hid (Maps.size (setOf (DataW.agg (H := Unit) []) (XS.map litU)) = SZ) := hSZ
          clear hW6 ho1 ho2 hat6 hat6d hFL hTL hNG hNQ B6' HB6' c0 c1 c2 c3 k0 k1 k2 k3 hXS hszz hSZ HOX
          go_cut [40] (fun bv wx => ∃ rb : Bool, bv = .bool rb ∧ Hid (rb = true ↔ ¬ SZ = 0) ∧ Hid (Below W6.heap.size W6 wx))
          case first =>
            refine wp_region_held_drew (S := (fun w' => w'.cell? ⟨w.heap.size, 0, none⟩ = some (.int .u64 ln) ∧ w'.cell? ⟨w.heap.size, 1, none⟩ = some (.slice x4 FL x5) ∧ w'.cell? ⟨w.heap.size, 2, none⟩ = some (.slice y4 TL y5) ∧ w'.cell? ⟨w.heap.size, 3, none⟩ = some (.int .u8 lm) ∧ w'.cell? ⟨t, 3, none⟩ = some (.slice qa NQ qc))) (by kernel_rfl) ?_ (fun hHeld => ?_)
            · exact hS0
            refine wpAnyH_take (i := 0) (v := (.pointer (some ⟨t, 0, none⟩))) rfl (by kernel_rfl) (by kernel_rfl) (by kernel_rfl) (fun _ _ _ h => h) (Or.inl ⟨by rfl, fun w hSw => by (try dsimp only at hSw); go_simp⟩) hHeld ?_
            simp only [Act.put, List.setIfInBounds_toArray, List.set_cons_zero, List.set_cons_succ, List.getElem_toArray, List.getElem_cons_zero, List.getElem_cons_succ]
            refine wpAnyH_take (i := 1) (v := (.agg #[.int .u64 ln, .slice x4 FL x5, .slice y4 TL y5, .int .u8 lm])) rfl (by kernel_rfl) (by kernel_rfl) (by kernel_rfl) (fun _ _ _ h => h) (Or.inl ⟨by rfl, fun w hSw => by (try dsimp only at hSw); go_simp⟩) hHeld ?_
            simp only [Act.put, List.setIfInBounds_toArray, List.set_cons_zero, List.set_cons_succ, List.getElem_toArray, List.getElem_cons_zero, List.getElem_cons_succ]
            refine wpAnyH_take (i := 2) (v := (.pointer (some ⟨t, 0, none⟩))) rfl (by kernel_rfl) (by kernel_rfl) (by kernel_rfl) (fun _ _ _ h => h) (Or.inl ⟨by rfl, fun w hSw => by (try dsimp only at hSw); go_simp⟩) hHeld ?_
            simp only [Act.put, List.setIfInBounds_toArray, List.set_cons_zero, List.set_cons_succ, List.getElem_toArray, List.getElem_cons_zero, List.getElem_cons_succ]
            refine wpAnyH_take (i := 3) (v := (.pointer (some ⟨t, 0, none⟩))) rfl (by kernel_rfl) (by kernel_rfl) (by kernel_rfl) (fun _ _ _ h => h) (Or.inl ⟨by rfl, fun w hSw => by (try dsimp only at hSw); go_simp⟩) hHeld ?_
            simp only [Act.put, List.setIfInBounds_toArray, List.set_cons_zero, List.set_cons_succ, List.getElem_toArray, List.getElem_cons_zero, List.getElem_cons_succ]
            refine wpAnyH_take (i := 4) (v := (.pointer (some ⟨t, 3, none⟩))) rfl (by kernel_rfl) (by kernel_rfl) (by kernel_rfl) (fun _ _ _ h => h) (Or.inl ⟨by rfl, fun w hSw => by (try dsimp only at hSw); go_simp⟩) hHeld ?_
            simp only [Act.put, List.setIfInBounds_toArray, List.set_cons_zero, List.set_cons_succ, List.getElem_toArray, List.getElem_cons_zero, List.getElem_cons_succ]
            refine wpAnyH_take (i := 5) (v := (.slice qa NQ qc)) rfl (by kernel_rfl) (by kernel_rfl) (by kernel_rfl) (fun _ _ _ h => h) (Or.inl ⟨by rfl, fun w hSw => by (try dsimp only at hSw); go_simp⟩) hHeld ?_
            simp only [Act.put, List.setIfInBounds_toArray, List.set_cons_zero, List.set_cons_succ, List.getElem_toArray, List.getElem_cons_zero, List.getElem_cons_succ]
            refine wpAnyH_ready (rs := [6]) (by kernel_rfl) (by simp) ?_
            refine AllReadyH.cons rfl (fun K hK => ?_) AllReadyH.nil
            simp only [List.getElem_toArray, List.getElem_cons_zero, List.getElem_cons_succ]
            go_simp
            go_at_call 26
            refine hbk.mono ?_
            rintro e w7 ⟨mb, rfl, hmu, _, hb7⟩
            have HB7 : Hid (Below W6.heap.size W6 w7) := hbd.trans hb7
            have hB7 := HB6B.out.below HB7.out (Nat.le_refl _)
            have hS1 : w7.cell? ⟨w.heap.size, 0, none⟩ = some (.int .u64 ln) ∧ w7.cell? ⟨w.heap.size, 1, none⟩ = some (.slice x4 FL x5) ∧ w7.cell? ⟨w.heap.size, 2, none⟩ = some (.slice y4 TL y5) ∧ w7.cell? ⟨w.heap.size, 3, none⟩ = some (.int .u8 lm) ∧ w7.cell? ⟨t, 3, none⟩ = some (.slice qa NQ qc) := ⟨hB7.c0, hB7.c1, hB7.c2, hB7.c3, (HAT6.out.below HB7.out).bx.c3⟩
            have hlen : (Builtin.len_ #[60] 3 #[.map (some mb)]).run Try.prog w7 = .ok (.int .i64 (SZ : Int)) w7 := by
              have h9 := World.ownsMap.len hmu Try.underlying60 3
              rw [HSE.out] at h9
              exact h9
            clear hbk hmu hHeld hb7 hB7
            go_wp2_with fail
            refine hK.out _ _ hS1 (fun hHeld => ?_)
            clear hK K
            refine wpAnyH_ready (rs := [7]) (by kernel_rfl) (by simp) ?_
            refine AllReadyH.cons rfl (fun K hK => ?_) AllReadyH.nil
            simp only [List.getElem_toArray, List.getElem_cons_zero, List.getElem_cons_succ]
            go_simp
            clear hHeld
            refine hK.out _ _ hS1 (fun hHeld => ?_)
            clear hK K
            refine wpAnyH_take (i := 8) (v := (.bool (decide ((0 : Int) < (SZ : Int))))) rfl (by kernel_rfl) (by kernel_rfl) (by kernel_rfl) (fun _ _ _ h => h) (Or.inl ⟨by rfl, fun w hSw => by (try dsimp only at hSw); go_simp⟩) hHeld ?_
            simp only [Act.put, List.setIfInBounds_toArray, List.set_cons_zero, List.set_cons_succ, List.getElem_toArray, List.getElem_cons_zero, List.getElem_cons_succ]
            refine wpAnyH_done (by kernel_rfl) ?_ _
            go_wp2_with fail
            go_meet
            exact ⟨_, rfl, by show _ ↔ _; rw [decide_eq_true_iff]; omega, HB7⟩
          case rest =>
            obtain ⟨rb, rfl, HRBB, HBC⟩ := hcut
            obtain ⟨w8, hw8⟩ : ∃ w8, w8 = wc := ⟨_, rfl⟩
            subst hw8
            have B8 := HB6B.out.below HBC.out (Nat.le_refl _)
            have HB8 : Hid (Below w.heap.size w w8) := bsplit HB6.out HBC.out
            have hat8 := HAT6.out.below HBC.out
            have HAT8 : Hid (LkAt G w8 t mo ea gs qs (.slice ga NG gc) (.slice qa NQ qc)) := hat8
            have HOK8 : Hid (LkOk w8 ⟨l.n, l.f, l.t, l.m, .slice x4 FL x5, .slice y4 TL y5⟩ ∧ OwnN w.heap.size w8 (.slice x4 FL x5) l.f ∧ OwnN w.heap.size w8 (.slice y4 TL y5) l.t) := ⟨HOK6.out.1.below HBC.out, HOK6.out.2.1.below HBC.out (Nat.le_refl _), HOK6.out.2.2.below HBC.out (Nat.le_refl _)⟩
            have HGX : Hid (∀ b, ((Value.slice x4 FL x5).ownBlock = some b ∨ (Value.slice y4 TL y5).ownBlock = some b) → G b ∨ w.heap.size ≤ b) := fun b hb => by
              rcases hb with hb | hb
              · exact .inr (ownN_lt9 HOK8.out.2.1 b hb).1
              · exact .inr (ownN_lt9 HOK8.out.2.2 b hb).1
            have HS8 : Hid (∀ u ∈ [Value.int .u64 ln, .slice x4 FL x5, .slice y4 TL y5, .int .u8 lm], u.oneCell' = true) := fun u hu => by
              simp only [List.mem_cons, List.not_mem_nil, or_false] at hu
              rcases hu with rfl | rfl | rfl | rfl <;> rfl
            have HS5 : Hid (∀ u ∈ [Value.int .u64 ln, .slice x4 FL x5, .slice y4 TL y5, .int .u8 lm, .int .u64 U], u.oneCell' = true) := fun u hu => by
              simp only [List.mem_cons, List.not_mem_nil, or_false] at hu
              rcases hu with rfl | rfl | rfl | rfl | rfl <;> rfl
            obtain ⟨z0, z1, z2, z3⟩ := B8.drew
            have hNb : NG ≤ 900 ∧ NQ ≤ 900 := by have := HNS.out.1; have := HNGQ.out; omega
            have hNG9 := hNb.1
            have hNQ9 := hNb.2
            clear hNb
            cases rb with
            | true =>
              have HZ : Hid (¬ XS.length = 0) := by have h9 := HRBB.out.1 rfl; have := HSZ.out; show ¬ _; omega
              have hbl := (below_box4 w8 (.cells #[.int .u64 ln, .slice x4 FL x5, .slice y4 TL y5, .int .u8 lm, .int .u64 U] 63)).drew
              have tb : w8.drew.cell? ⟨t, 3, none⟩ = some (.slice qa NQ qc) := hat8.bx.c3
              have tc := (hbl.cell (p := ⟨t, 3, none⟩) hat8.bx.lt).trans hat8.bx.c3
              have hrow : (w8.alloc (.cells #[.int .u64 ln, .slice x4 FL x5, .slice y4 TL y5, .int .u8 lm, .int .u64 U] 63)).drew.ownsRow 0 63 5 (.slice qa NQ qc) NQ (qs.flatMap encR) := by
                have h9 := hat8.rq.below hbl
                unfold RowQ at h9
                rw [HNGQ.out.2] at h9
                exact h9
              have hlaid : ∀ j u, [Value.int .u64 ln, .slice x4 FL x5, .slice y4 TL y5, .int .u8 lm, .int .u64 U][j]? = some u → (w8.alloc (.cells #[.int .u64 ln, .slice x4 FL x5, .slice y4 TL y5, .int .u8 lm, .int .u64 U] 63)).drew.cell? ((⟨w8.heap.size, 0, none⟩ : Addr).add j) = some u := laid5 w8 (.int .u64 ln) (.slice x4 FL x5) (.slice y4 TL y5) (.int .u8 lm) (.int .u64 U) 63
              have HBL : Hid (Below w8.heap.size w8 (w8.alloc (.cells #[.int .u64 ln, .slice x4 FL x5, .slice y4 TL y5, .int .u8 lm, .int .u64 U] 63)).drew) := hbl
              clear hbl hat8
              go_wp2_with fail
              go_region_law
                (first
                  | (refine step_append_lies _ rfl (.tmp 45) (.tmp 49) 52 rfl 0 63 j0 (.agg #[.int .u64 0, .slice none 0 0, .slice none 0 0, .int .u8 0, .int .u64 0]) 5 72 Try.underlying52 hj0 hy0 hy1 hy2 rfl (by decide) (.slice qa NQ qc) NQ _ rfl hrow ⟨w8.heap.size, 0, none⟩ 1 1 [.int .u64 ln, .slice x4 FL x5, .slice y4 TL y5, .int .u8 lm, .int .u64 U] rfl rfl hlaid HS5.out (by decide) (by simp only [maxLen]; omega) (by omega) (Nat.zero_le _) _ rfl ?_
                     intro g4 c4 w9 hown hgrow hat4 hlt4
                     have HX4 : Hid (AskPost G w t mo ea gs qs l u (.returned (.int .i64 3)) (w9.setCell ⟨t, 3, none⟩ (.slice (some ⟨g4, 0, none⟩) (NQ + 1) c4))) := by
                       have h9 := hown
                       rw [← HNGQ.out.2] at h9
                       have he9 : encR ⟨⟨l.n, l.f, l.t, l.m, .slice x4 FL x5, .slice y4 TL y5⟩, u⟩ = [.int .u64 ln, .slice x4 FL x5, .slice y4 TL y5, .int .u8 lm, .int .u64 U] := by unfold encR; simp only [HLV.out.1, HLV.out.2.1, HLV.out.2.2.1]
                       rw [← he9] at h9
                       have hj3 := HAT8.out.below HBL.out
                       have hpu := hj3.push3 (B := w.heap.size) ⟨⟨l.n, l.f, l.t, l.m, .slice x4 FL x5, .slice y4 TL y5⟩, u⟩ (HOK8.out.1.below HBL.out) (bsplit HB8.out HBL.out).size (fun b hb => HGX.out b hb) (by rw [HNGQ.out.2] at h9 ⊢; exact h9) hgrow hat4 hlt4 HNS.out.2.2
                       rw [HNGQ.out.2] at hpu
                       refine ⟨⟨l.n, l.f, l.t, l.m, .slice x4 FL x5, .slice y4 TL y5⟩, ⟨rfl, rfl, rfl, rfl⟩, ?_, ?_, (fun b => (G b ∨ w.heap.size ≤ b) ∧ b < w9.heap.size), ?_, fun b hb => hb.1⟩
                       · rw [HASK.out, if_neg (by rw [HXS.out]; exact HZ.out)]
                       · refine ((Below.keeps (bsplit HB8.out HBL.out) G).then (keeps_grown (F := fun b => (Value.slice qa NQ qc).ownBlock = some b) hgrow (fun q hq => hq)) (fun i hi => .inl (hj3.gq i hi))).then (F' := fun b => b = t) ((Keeps.refl (fun b => b = t) w9).setCell (p := ⟨t, 3, none⟩) (show t = t from rfl) _) (fun i hi => by rw [hi]; exact .inl hj3.gt)
                       · rw [HASK.out, if_neg (by rw [HXS.out]; exact HZ.out)]
                         exact ⟨_, _, hpu⟩
                     have t4 : w9.cell? ⟨t, 3, none⟩ = some (.slice qa NQ qc) ∧ w9.frozen? ⟨t, 3, none⟩ = false := by
                       have hb9 := (HAT8.out.bx.below HBL.out).grown (by decide) hrow hgrow
                       exact ⟨hb9.c3, hb9.f3⟩
                     obtain ⟨t4, f4⟩ := t4
                     clear hown hgrow hat4 hlt4)
                  | fail)
              all_goals
                clear hrow tb tc t4 f4 z0 z1 z2 z3 hlaid
                go_wp2
                go_ret
                exact HX4.out
            | false =>
              have HZ : Hid (XS.length = 0) := by
                have h9 := HRBB.out
                have h8 := HSZ.out
                show _ = _
                by_cases h7 : SZ = 0
                · exact h8.2 h7
                · have := h9.2 h7; cases this
              have hbl := (below_box4 w8 (.cells #[.int .u64 ln, .slice x4 FL x5, .slice y4 TL y5, .int .u8 lm] 32)).drew
              have tb : w8.drew.cell? ⟨t, 2, none⟩ = some (.slice ga NG gc) := hat8.bx.c2
              have tc := (hbl.cell (p := ⟨t, 2, none⟩) hat8.bx.lt).trans hat8.bx.c2
              have hrow : (w8.alloc (.cells #[.int .u64 ln, .slice x4 FL x5, .slice y4 TL y5, .int .u8 lm] 32)).drew.ownsRow 0 32 4 (.slice ga NG gc) NG (gs.flatMap encL) := by
                have h9 := hat8.rg.below hbl
                unfold RowL at h9
                rw [HNGQ.out.1] at h9
                exact h9
              have hlaid : ∀ j u, [Value.int .u64 ln, .slice x4 FL x5, .slice y4 TL y5, .int .u8 lm][j]? = some u → (w8.alloc (.cells #[.int .u64 ln, .slice x4 FL x5, .slice y4 TL y5, .int .u8 lm] 32)).drew.cell? ((⟨w8.heap.size, 0, none⟩ : Addr).add j) = some u := laid4 w8 (.int .u64 ln) (.slice x4 FL x5) (.slice y4 TL y5) (.int .u8 lm) 32
              have HBL : Hid (Below w8.heap.size w8 (w8.alloc (.cells #[.int .u64 ln, .slice x4 FL x5, .slice y4 TL y5, .int .u8 lm] 32)).drew) := hbl
              clear hbl hat8
              go_wp2_with fail
              go_region_law
                (first
                  | (refine step_append_lies _ rfl (.tmp 57) (.tmp 59) 51 rfl 0 32 i0 (.agg #[.int .u64 0, .slice none 0 0, .slice none 0 0, .int .u8 0]) 4 64 Try.underlying51 hi hz0 hz1 hz2 rfl (by decide) (.slice ga NG gc) NG _ rfl hrow ⟨w8.heap.size, 0, none⟩ 1 1 [.int .u64 ln, .slice x4 FL x5, .slice y4 TL y5, .int .u8 lm] rfl rfl hlaid HS8.out (by decide) (by simp only [maxLen]; omega) (by omega) (Nat.zero_le _) _ rfl ?_
                     intro g4 c4 w9 hown hgrow hat4 hlt4
                     have HX4 : Hid (AskPost G w t mo ea gs qs l u (.returned (.int .i64 0)) (w9.setCell ⟨t, 2, none⟩ (.slice (some ⟨g4, 0, none⟩) (NG + 1) c4))) := by
                       have h9 := hown
                       rw [← HNGQ.out.1] at h9
                       have he9 : encL ⟨l.n, l.f, l.t, l.m, .slice x4 FL x5, .slice y4 TL y5⟩ = [.int .u64 ln, .slice x4 FL x5, .slice y4 TL y5, .int .u8 lm] := by unfold encL; simp only [HLV.out.1, HLV.out.2.1]
                       rw [← he9] at h9
                       have hj3 := HAT8.out.below HBL.out
                       have hpu := hj3.push2 (B := w.heap.size) ⟨l.n, l.f, l.t, l.m, .slice x4 FL x5, .slice y4 TL y5⟩ (HOK8.out.1.below HBL.out) (bsplit HB8.out HBL.out).size (fun b hb => HGX.out b hb) (by rw [HNGQ.out.1] at h9 ⊢; exact h9) hgrow hat4 hlt4
                       rw [HNGQ.out.1] at hpu
                       refine ⟨⟨l.n, l.f, l.t, l.m, .slice x4 FL x5, .slice y4 TL y5⟩, ⟨rfl, rfl, rfl, rfl⟩, ?_, ?_, (fun b => (G b ∨ w.heap.size ≤ b) ∧ b < w9.heap.size), ?_, fun b hb => hb.1⟩
                       · rw [HASK.out, if_pos (by rw [HXS.out]; exact HZ.out)]
                       · refine ((Below.keeps (bsplit HB8.out HBL.out) G).then (keeps_grown (F := fun b => (Value.slice ga NG gc).ownBlock = some b) hgrow (fun q hq => hq)) (fun i hi => .inl (hj3.gg i hi))).then (F' := fun b => b = t) ((Keeps.refl (fun b => b = t) w9).setCell (p := ⟨t, 2, none⟩) (show t = t from rfl) _) (fun i hi => by rw [hi]; exact .inl hj3.gt)
                       · rw [HASK.out, if_pos (by rw [HXS.out]; exact HZ.out)]
                         exact ⟨_, _, hpu⟩
                     have t4 : w9.cell? ⟨t, 2, none⟩ = some (.slice ga NG gc) ∧ w9.frozen? ⟨t, 2, none⟩ = false := by
                       have hb9 := (HAT8.out.bx.below HBL.out).grown (by decide) hrow hgrow
                       exact ⟨hb9.c2, hb9.f2⟩
                     obtain ⟨t4, f4⟩ := t4
                     clear hown hgrow hat4 hlt4)
                  | fail)
              all_goals
                clear hrow tb tc t4 f4 z0 z1 z2 z3 hlaid
                go_wp2
                go_ret
                exact HX4.out

end Go.Proofs.Ythiogpojccohgaa
