/- (*locks.Table).advance, walked. -/
import Derived.Test.YthiogpojccohgaaLkAdv
import Derived.Deep.DeepCutAuto
namespace Go.Proofs.Ythiogpojccohgaa
set_option maxRecDepth 100000
open Go.RowKit Go.Maps
set_option linter.unusedVariables false
set_option linter.unusedSimpArgs false

/-- what a call leaves that lets requests through -/
def AdvPost (G : Nat → Prop) (w : World) (t : Nat) (mo ea : Int) (gs : List Lk) (qs : List Rq) (e : Ending) (w' : World) : Prop :=
  ∃ v, e = .returned v ∧ OwnU w.heap.size w' v ((advB qs gs [] []).2.2.map (·.l.n)) ∧ Keeps G w w' ∧ ∃ G', LkP G' w' t mo ea (advB qs gs [] []).1 (advB qs gs [] []).2.1 ∧ ∀ b, G' b → G b ∨ w.heap.size ≤ b

set_option maxHeartbeats 8000000 in
theorem adv_any (G : Nat → Prop) (w : World) (t : Nat) (mo ea : Int) (gs : List Lk) (qs : List Rq) (h : LkP G w t mo ea gs qs) (hn : gs.length + qs.length ≤ 1000) :
    Calls Try.prog 34 #[.pointer (some ⟨t, 0, none⟩)] w (AdvPost G w t mo ea gs qs) := by
  obtain ⟨i0, hi, hz0, hz1, hz2⟩ := info_parts infoLk
  obtain ⟨j0, hj0, hy0, hy1, hy2⟩ := info_parts infoRq
  obtain ⟨gv, qv, h⟩ := h
  have HL : Hid (LkAt G w t mo ea gs qs gv qv) := h
  obtain ⟨qa, qc, eq, hqc, hqc2⟩ := row_slice9 h.rq
  obtain ⟨N, hN⟩ : ∃ N, qs.length = N := ⟨_, rfl⟩
  have HN : Hid (qs.length = N) := hN
  have c3 := h.bx.c3
  rw [hN] at eq hn hqc
  subst eq
  have HNN : Hid (gs.length + N ≤ 1000) := hn
  clear h hN hn
  go_enter Try.func34, Try.ntmps34
  go_wp2_with fail
  go_loopg [3, 4, 12] N (fun gk av pv iv wr => ∃ (j na ca np cp : Nat) (aa pa : Option Addr), gk + j = N ∧ iv = .int .i64 (j : Int) ∧ av = .slice aa na ca ∧ pv = .slice pa np cp ∧ na ≤ j ∧ np ≤ j ∧ Hid ((advB (qs.take j) gs [] []).2.1.length = na ∧ (advB (qs.take j) gs [] []).2.2.length = np) ∧ Hid (AdvI G w wr t mo ea gs qs (.slice qa N qc) av pv (advB (qs.take j) gs [] []).1 (advB (qs.take j) gs [] []).2.1 (advB (qs.take j) gs [] []).2.2))
  case atStart => exact ⟨0, 0, 0, 0, 0, none, none, by omega, rfl, rfl, rfl, by omega, by omega, ⟨rfl, rfl⟩, ⟨⟨G, gv, HL.out, fun b hb => .inl hb⟩, World.ownsRow_nil _ _ _ _, World.ownsRow_nil _ _ _ _, .inl rfl, Keeps.refl _ _⟩⟩
  case round =>
    obtain ⟨j, na, ca, np, cp, aa, pa, hj, rfl, rfl, rfl, hnaj, hnpj, HLN, HI⟩ := hrel
    by_cases hlt : j < N
    · have hlt2 : j < qs.length := by rw [HN.out]; exact hlt
      obtain ⟨q1, q2⟩ := gk_nxt hj hlt
      obtain ⟨⟨Gj, gvj, hat, hsub⟩, oa, op, hap, hkp⟩ := HI.out
      obtain ⟨m1, m2, m3, m4, m5⟩ := advB_mem (qs.take j) gs [] []
      have hsn := advB_snoc (qs.take j) qs[j] gs [] []
      rw [← List.take_succ_eq_append_getElem hlt2] at hsn
      have hmemj : qs[j] ∈ qs := List.getElem_mem hlt2
      obtain ⟨b, c, e, _, c0, c1, c2, c3', c4⟩ := hat.rq.at j hlt2
      rw [HN.out] at e
      cases e
      obtain ⟨gs1, hgs1⟩ : ∃ x, (advB (qs.take j) gs [] []).1 = x := ⟨_, rfl⟩
      obtain ⟨ah1, hah1⟩ : ∃ x, (advB (qs.take j) gs [] []).2.1 = x := ⟨_, rfl⟩
      obtain ⟨ps1, hps1⟩ : ∃ x, (advB (qs.take j) gs [] []).2.2 = x := ⟨_, rfl⟩
      rw [hgs1, hah1, hps1] at hsn
      rw [hgs1] at hat m3 m4
      rw [hah1] at oa m1 m4 HLN
      rw [hps1] at op m2 m5 HLN
      have HI1 : Hid (AdvI G w wr t mo ea gs qs (.slice (some ⟨b, 0, none⟩) N qc) (.slice aa na ca) (.slice pa np cp) gs1 ah1 ps1) := ⟨⟨Gj, gvj, hat, hsub⟩, oa, op, hap, hkp⟩
      obtain ⟨r, hg⟩ : ∃ r, qs[j] = r := ⟨_, rfl⟩
      rw [hg] at c0 c1 c2 c3' c4 hsn hmemj
      have HRM : Hid (r ∈ qs) := hmemj
      have hok := hat.oq r hmemj
      have hru := hat.nu r hmemj
      obtain ⟨⟨x1, x2, x3, ex⟩, ⟨y1, y2, y3, ey⟩⟩ := hok.s
      have hlen : gs1.length ≤ 1000 ∧ ah1.length ≤ 1000 ∧ gs1.length + ah1.length ≤ 1000 := by
        have := HNN.out
        simp only [List.length_nil, List.length_take] at m4
        omega
      have hba := below_box5r wr r
      have hbk := blk_any Gj _ t mo ea gs1 qs gvj (.slice (some ⟨b, 0, none⟩) N qc) r.l (.slice aa na ca) ah1 (hat.below hba) hlen.1 (hok.below hba).1.rd (hok.below hba).2.1.rd (row_below oa.rd hba) (fun q hq => by
        rcases m1 q hq with h9 | h9
        · cases h9
        · exact (hat.oq q (List.mem_of_mem_take h9)).below hba) hlen.2.1
      have BY := box5_new wr (.int .u64 (r.l.n : Int)) r.l.x r.l.y (.int .u8 (r.l.m.toNat : Int)) (.int .u64 (r.u : Int)) 63
      obtain ⟨gn, hgn⟩ : ∃ z : Int, (r.l.n : Int) = z := ⟨_, rfl⟩
      obtain ⟨gm, hgm⟩ : ∃ z : Int, (r.l.m.toNat : Int) = z := ⟨_, rfl⟩
      obtain ⟨gu, hgu⟩ : ∃ z : Int, (r.u : Int) = z := ⟨_, rfl⟩
      have henc : encL r.l = [.int .u64 gn, .slice x1 x2 x3, .slice y1 y2 y3, .int .u8 gm] := by unfold encL; rw [ex, ey, hgn, hgm]
      have hencR : encR r = [.int .u64 gn, .slice x1 x2 x3, .slice y1 y2 y3, .int .u8 gm, .int .u64 gu] := by unfold encR; rw [ex, ey, hgn, hgm, hgu]
      have HE : Hid ((encL r.l = [.int .u64 gn, .slice x1 x2 x3, .slice y1 y2 y3, .int .u8 gm] ∧ ∀ u ∈ encL r.l, u.oneCell' = true) ∧ encR r = [.int .u64 gn, .slice x1 x2 x3, .slice y1 y2 y3, .int .u8 gm, .int .u64 gu] ∧ ∀ u ∈ encR r, u.oneCell' = true) := ⟨⟨henc, oneL _ hok.s⟩, hencR, oneR _ hok.s⟩
      rw [ex, ey, hgn, hgm, hgu] at hbk BY hba
      rw [hgn] at c0
      rw [hgm] at c3'
      rw [hgu] at c4
      rw [ex] at c1
      rw [ey] at c2
      unfold lkV at hbk
      have HB0 : Hid (Below wr.heap.size wr (wr.alloc (.cells #[.int .u64 gn, .slice x1 x2 x3, .slice y1 y2 y3, .int .u8 gm, .int .u64 gu] 63))) := hba
      obtain ⟨XS, hXS⟩ : ∃ XS, blkB gs1 ah1 r.l = XS := ⟨_, rfl⟩
      rw [hXS] at hbk hsn
      have HSN : Hid (advB (qs.take (j + 1)) gs [] [] = if XS.length = 0 then (gs1 ++ [r.l], ah1, ps1 ++ [r]) else (gs1, ah1 ++ [r], ps1)) := hsn
      have HLEN : Hid (gs1.length ≤ 1000 ∧ ah1.length ≤ 1000) := ⟨hlen.1, hlen.2.1⟩
      have hct2 := (hat.bx.below hba).c2
      have HTY0 : Hid ((wr.alloc (.cells #[.int .u64 gn, .slice x1 x2 x3, .slice y1 y2 y3, .int .u8 gm, .int .u64 gu] 63)).heap[wr.heap.size]? = some (.cells #[.int .u64 gn, .slice x1 x2 x3, .slice y1 y2 y3, .int .u8 gm, .int .u64 gu] 63 (0, 0))) := heap_alloc_new wr _
      have HBYS : Hid (Box5 (wr.alloc (.cells #[.int .u64 gn, .slice x1 x2 x3, .slice y1 y2 y3, .int .u8 gm, .int .u64 gu] 63)) wr.heap.size (.int .u64 gn) (.slice x1 x2 x3) (.slice y1 y2 y3) (.int .u8 gm) (.int .u64 gu)) := BY
      obtain ⟨z0, z1, z2, z3, z4⟩ := BY
      clear hgs1 hah1 hps1 hsn m1 m2 m3 m4 m5 hat hsub oa op hap hkp hg hmemj hok hru ex ey hgn hgm hgu henc hencR hlen hba hXS HI
      go_wp2_with fail
      refine hbk.mono ?_
      rintro e w2 ⟨mb, rfl, hmu, _, hb2⟩
      have HI2 : Hid (AdvI G w w2 t mo ea gs qs (.slice (some ⟨b, 0, none⟩) N qc) (.slice aa na ca) (.slice pa np cp) gs1 ah1 ps1) := (HI1.out.below HB0.out).below hb2
      have BY2 := HBYS.out.below hb2 (Nat.le_refl _)
      have HMU : Hid (MapU w2 mb XS) := hmu
      have HTY : Hid (w2.heap[wr.heap.size]? = some (.cells #[.int .u64 gn, .slice x1 x2 x3, .slice y1 y2 y3, .int .u8 gm, .int .u64 gu] 63 (0, 0))) := (hb2.block _ (Array.getElem?_eq_some_iff.1 HTY0.out).1).trans HTY0.out
      have hsz : XS.length = 0 ↔ sizU XS = 0 := (sizU_zero XS).symm
      obtain ⟨SZ, hSZ⟩ : ∃ s, sizU XS = s := ⟨_, rfl⟩
      have HSZ : Hid (XS.length = 0 ↔ SZ = 0) := by show _ ↔ _; rw [← hSZ]; exact hsz
      have HSE : Hid (Maps.size (setOf (DataW.agg (H := Unit) []) (XS.map litU)) = SZ) := hSZ
      clear hbk hmu hb2 z0 z1 z2 z3 z4 c0 c1 c2 c3' c4 hct2 HI1 hsz hSZ HBYS
      have HLA : Hid (ah1.length = na ∧ ps1.length = np) := HLN.out
      have hb3 := below_box4 w2 (.cells #[.int .u64 gn, .slice x1 x2 x3, .slice y1 y2 y3, .int .u8 gm, .int .u64 gu] 63)
      have hlaid := laid5 w2 (.int .u64 gn) (.slice x1 x2 x3) (.slice y1 y2 y3) (.int .u8 gm) (.int .u64 gu) 63
      have honeR := HE.out.2.2
      rw [HE.out.2.1] at honeR
      have HQV : Hid (∀ bb, (Value.slice (some ⟨b, 0, none⟩) N qc).ownBlock = some bb → bb < w.heap.size) := fun bb hbb => HL.out.lt bb (HL.out.gq bb hbb)
      by_cases h0 : SZ = 0
      · have HX0 : Hid (XS.length = 0) := HSZ.out.2 h0
        have hs1 : advB (qs.take (j + 1)) gs [] [] = (gs1 ++ [r.l], ah1, ps1 ++ [r]) := by rw [HSN.out, if_pos HX0.out]
        have HS1 : Hid (advB (qs.take (j + 1)) gs [] [] = (gs1 ++ [r.l], ah1, ps1 ++ [r])) := hs1
        subst h0
        obtain ⟨⟨Gj, gvj, hat, hsub⟩, oa, op, hap, hkp⟩ := HI2.out
        obtain ⟨ga, gc, eg, hgc, hgc2⟩ := row_slice9 hat.rg
        obtain ⟨NG, hNG⟩ : ∃ n, gs1.length = n := ⟨_, rfl⟩
        have HNG : Hid (gs1.length = NG) := hNG
        rw [hNG] at eg hgc
        subst eg
        have HAT : Hid (LkAt Gj w2 t mo ea gs1 qs (.slice ga NG gc) (.slice (some ⟨b, 0, none⟩) N qc) ∧ ∀ b, Gj b → G b ∨ w.heap.size ≤ b) := ⟨hat, hsub⟩
        have hbl := (below_box4 w2 (.cells #[.int .u64 gn, .slice x1 x2 x3, .slice y1 y2 y3, .int .u8 gm] 32)).drew
        have tb : w2.drew.cell? ⟨t, 2, none⟩ = some (.slice ga NG gc) := hat.bx.c2
        have tc := (hbl.cell (p := ⟨t, 2, none⟩) hat.bx.lt).trans hat.bx.c2
        have hrow : ((w2.alloc (.cells #[.int .u64 gn, .slice x1 x2 x3, .slice y1 y2 y3, .int .u8 gm] 32)).drew).ownsRow 0 32 4 (.slice ga NG gc) NG (gs1.flatMap encL) := by
          have h9 := hat.rg.below hbl
          unfold RowL at h9
          rw [hNG] at h9
          exact h9
        have hlaidL : ∀ j u, [Value.int .u64 gn, .slice x1 x2 x3, .slice y1 y2 y3, .int .u8 gm][j]? = some u → (w2.alloc (.cells #[.int .u64 gn, .slice x1 x2 x3, .slice y1 y2 y3, .int .u8 gm] 32)).drew.cell? ((⟨w2.heap.size, 0, none⟩ : Addr).add j) = some u := laid4 w2 (.int .u64 gn) (.slice x1 x2 x3) (.slice y1 y2 y3) (.int .u8 gm) 32
        have honeL := HE.out.1.2
        rw [HE.out.1.1] at honeL
        have HBL : Hid (Below w2.heap.size w2 (w2.alloc (.cells #[.int .u64 gn, .slice x1 x2 x3, .slice y1 y2 y3, .int .u8 gm] 32)).drew) := hbl
        have hngI : NG ≤ 1000 := by have := HLEN.out.1; omega
        have B2D := BY2.drew
        have HBYW : Hid (Box5 w2 wr.heap.size (.int .u64 gn) (.slice x1 x2 x3) (.slice y1 y2 y3) (.int .u8 gm) (.int .u64 gu)) := BY2
        obtain ⟨z0, z1, z2, z3, z4⟩ := B2D
        have HWRL : Hid (wr.heap.size < w2.heap.size) := BY2.lt
        clear hs1 hb3 hlaid HSN hat hsub oa op hap hkp hNG hbl BY2
        go_upto_region 7 with (first
          | (at_len; refine wpList_len_own _ rfl _ 60 rfl 29 87 Try.underlying60 _ mb XS.length _ rfl HMU.out ?_; rw [HSE.out])
          | fail)
        go_cut [] (fun wx => Hid (∃ g4 c4, AdvI G w wx t mo ea gs qs (.slice (some ⟨b, 0, none⟩) N qc) (.slice aa na ca) (.slice pa np cp) (gs1 ++ [r.l]) ah1 ps1 ∧ Box5 wx wr.heap.size (.int .u64 gn) (.slice x1 x2 x3) (.slice y1 y2 y3) (.int .u8 gm) (.int .u64 gu) ∧ g4 = c4))
        case first =>
          go_region_law
            (first
              | (refine step_append_lies _ rfl (.tmp 31) (.tmp 34) 51 rfl 0 32 i0 (.agg #[.int .u64 0, .slice none 0 0, .slice none 0 0, .int .u8 0]) 4 64 Try.underlying51 hi hz0 hz1 hz2 rfl (by decide) (.slice ga NG gc) NG _ rfl hrow ⟨w2.heap.size, 0, none⟩ 1 1 [.int .u64 gn, .slice x1 x2 x3, .slice y1 y2 y3, .int .u8 gm] rfl rfl hlaidL honeL (by decide) (by simp only [maxLen]; omega) (by omega) (Nat.zero_le _) _ rfl ?_
                 intro g4 c4 w4 hown hgrow hat4 hlt4
                 have HX4 : Hid (AdvI G w (w4.setCell ⟨t, 2, none⟩ (.slice (some ⟨g4, 0, none⟩) (NG + 1) c4)) t mo ea gs qs (.slice (some ⟨b, 0, none⟩) N qc) (.slice aa na ca) (.slice pa np cp) (gs1 ++ [r.l]) ah1 ps1 ∧ Box5 (w4.setCell ⟨t, 2, none⟩ (.slice (some ⟨g4, 0, none⟩) (NG + 1) c4)) wr.heap.size (.int .u64 gn) (.slice x1 x2 x3) (.slice y1 y2 y3) (.int .u8 gm) (.int .u64 gu)) := by
                   have h9 := hown
                   rw [← HE.out.1.1, ← HNG.out] at h9
                   have hj3 := HAT.out.1.below HBL.out
                   have hi3 := HI2.out.below HBL.out
                   have hbk9 : (w2.alloc (.cells #[.int .u64 gn, .slice x1 x2 x3, .slice y1 y2 y3, .int .u8 gm] 32)).drew.heap[wr.heap.size]? = some (.cells #[.int .u64 gn, .slice x1 x2 x3, .slice y1 y2 y3, .int .u8 gm, .int .u64 gu] 63 (0, 0)) := (HBL.out.block _ HWRL.out).trans HTY.out
                   have hne := ne_row hbk9 (by decide) hrow
                   have hbt := hj3.bx.grown (by decide) hrow hgrow
                   have hbk4 : w4.heap[wr.heap.size]? = some (.cells #[.int .u64 gn, .slice x1 x2 x3, .slice y1 y2 y3, .int .u8 gm, .int .u64 gu] 63 (0, 0)) := (hgrow.block _ (Nat.lt_of_lt_of_le HWRL.out HBL.out.size) hne).trans hbk9
                   have htn : wr.heap.size ≠ t := fun e => by
                     have h7 := hbt
                     unfold BxT at h7
                     rw [← e, hbk4] at h7
                     simp at h7
                   have hgr := AdvI.grant (gs := gs) r HRM.out hi3.kp hj3 HAT.out.2 hi3.oa hi3.op hi3.ap (by rw [HNG.out] at h9 ⊢; exact h9) hgrow hat4 hlt4
                   rw [HNG.out] at hgr
                   refine ⟨hgr, ?_⟩
                   have hb5 := (HBYW.out.below HBL.out (Nat.le_refl _)).grown hgrow hne
                   exact ⟨(cell_other _ _ _ _ htn).trans hb5.c0, (cell_other _ _ _ _ htn).trans hb5.c1, (cell_other _ _ _ _ htn).trans hb5.c2, (cell_other _ _ _ _ htn).trans hb5.c3, (cell_other _ _ _ _ htn).trans hb5.c4⟩
                 have t4 : w4.cell? ⟨t, 2, none⟩ = some (.slice ga NG gc) ∧ w4.frozen? ⟨t, 2, none⟩ = false := by
                   have hb9 := (HAT.out.1.bx.below HBL.out).grown (by decide) hrow hgrow
                   exact ⟨hb9.c2, hb9.f2⟩
                 obtain ⟨t4, f4⟩ := t4
                 clear hown hgrow hat4 hlt4)
              | fail)
          all_goals
            go_wp2_with fail
            go_meet
            exact ⟨0, 0, HX4.out.1, HX4.out.2, rfl⟩
        case rest =>
          obtain ⟨W5, hW5⟩ : ∃ W5, W5 = wc := ⟨_, rfl⟩
          subst hW5
          obtain ⟨_, _, hx1, hx2, _⟩ := hcut.out
          have HX4 : Hid (AdvI G w W5 t mo ea gs qs (.slice (some ⟨b, 0, none⟩) N qc) (.slice aa na ca) (.slice pa np cp) (gs1 ++ [r.l]) ah1 ps1 ∧ Box5 W5 wr.heap.size (.int .u64 gn) (.slice x1 x2 x3) (.slice y1 y2 y3) (.int .u8 gm) (.int .u64 gu)) := ⟨hx1, hx2⟩
          clear hcut hx1 hx2
          have hb6 := below_box4 W5 (.cells #[.int .u64 gn, .slice x1 x2 x3, .slice y1 y2 y3, .int .u8 gm, .int .u64 gu] 63)
          have hlaid := laid5 W5 (.int .u64 gn) (.slice x1 x2 x3) (.slice y1 y2 y3) (.int .u8 gm) (.int .u64 gu) 63
          have HI6 : Hid (AdvI G w (W5.alloc (.cells #[.int .u64 gn, .slice x1 x2 x3, .slice y1 y2 y3, .int .u8 gm, .int .u64 gu] 63)) t mo ea gs qs (.slice (some ⟨b, 0, none⟩) N qc) (.slice aa na ca) (.slice pa np cp) (gs1 ++ [r.l]) ah1 ps1) := HX4.out.1.below hb6
          have hrow6 : (W5.alloc (.cells #[.int .u64 gn, .slice x1 x2 x3, .slice y1 y2 y3, .int .u8 gm, .int .u64 gu] 63)).ownsRow w.heap.size 63 5 (.slice pa np cp) np (ps1.flatMap encR) := by
            have h9 := HI6.out.op
            unfold OwnQ at h9
            rw [HLA.out.2] at h9
            exact h9
          have hws := HI6.out.kp.size
          have hnpI : np ≤ 1000 := by have := HNN.out; omega
          have hb5 := HX4.out.2
          obtain ⟨s0, s1, s2, s3, s4⟩ := hb5
          clear hrow tb tc z0 z1 z2 z3 z4 hlaidL honeL hb6
          go_wp2_with (first
            | (at_builtin; refine wpList_append_lies _ rfl (.tmp 38) (.tmp 40) 52 rfl w.heap.size 63 j0 (.agg #[.int .u64 0, .slice none 0 0, .slice none 0 0, .int .u8 0, .int .u64 0]) 5 72 Try.underlying52 hj0 hy0 hy1 hy2 rfl (by decide) (.slice pa np cp) np _ rfl hrow6 ⟨W5.heap.size, 0, none⟩ 1 1 [.int .u64 gn, .slice x1 x2 x3, .slice y1 y2 y3, .int .u8 gm, .int .u64 gu] rfl rfl hlaid honeR (by decide) (by simp only [maxLen]; omega) (by omega) hws _ rfl ?_; intro g6 c6 w6 hown6 hgrow6 hat6 hlt6)
            | fail)
          have HIF : Hid (AdvI G w w6 t mo ea gs qs (.slice (some ⟨b, 0, none⟩) N qc) (.slice aa na ca) (.slice (some ⟨g6, 0, none⟩) (np + 1) c6) (gs1 ++ [r.l]) ah1 (ps1 ++ [r])) := by
            have h9 := hown6
            rw [← HE.out.2.1, ← HLA.out.2] at h9
            have h8 := HI6.out.pass r HQV.out h9 hgrow6 hat6
            rw [HLA.out.2] at h8
            exact h8
          clear hrow6 hlaid honeR hown6 hgrow6 hat6 hlt6
          go_roundg (gk - 1)
          case measure => exact q1
          case rel => exact ⟨j + 1, na, ca, np + 1, c6, _, _, q2, by go_num, rfl, rfl, by omega, by omega, by rw [HS1.out]; exact ⟨HLA.out.1, by rw [List.length_append, HLA.out.2]; rfl⟩, by rw [HS1.out]; exact HIF.out⟩
      · have HX0 : Hid (¬ XS.length = 0) := fun h9 => h0 (HSZ.out.1 h9)
        have hs1 : advB (qs.take (j + 1)) gs [] [] = (gs1, ah1 ++ [r], ps1) := by rw [HSN.out, if_neg HX0.out]
        have HS1 : Hid (advB (qs.take (j + 1)) gs [] [] = (gs1, ah1 ++ [r], ps1)) := hs1
        have hSZI : (0 : Int) < (SZ : Int) := by omega
        have HI3 := HI2.out.below hb3
        have hrow : (w2.alloc (.cells #[.int .u64 gn, .slice x1 x2 x3, .slice y1 y2 y3, .int .u8 gm, .int .u64 gu] 63)).ownsRow w.heap.size 63 5 (.slice aa na ca) na (ah1.flatMap encR) := by
          have h9 := HI3.oa
          unfold OwnQ at h9
          rw [HLA.out.1] at h9
          exact h9
        have HI3' : Hid (AdvI G w (w2.alloc (.cells #[.int .u64 gn, .slice x1 x2 x3, .slice y1 y2 y3, .int .u8 gm, .int .u64 gu] 63)) t mo ea gs qs (.slice (some ⟨b, 0, none⟩) N qc) (.slice aa na ca) (.slice pa np cp) gs1 ah1 ps1) := HI3
        have hws : w.heap.size ≤ (w2.alloc (.cells #[.int .u64 gn, .slice x1 x2 x3, .slice y1 y2 y3, .int .u8 gm, .int .u64 gu] 63)).heap.size := HI3.kp.size
        have hnaI : na ≤ 1000 := by have := HLEN.out.2; rw [HLA.out.1] at this; exact this
        obtain ⟨z0, z1, z2, z3, z4⟩ := BY2
        clear hs1 h0 HSN HI3
        go_wp2_with (first
          | (at_len; refine wpList_len_own _ rfl _ 60 rfl 29 87 Try.underlying60 _ mb XS.length _ rfl HMU.out ?_; rw [HSE.out])
          | (at_builtin; refine wpList_append_lies _ rfl (.tmp 23) (.tmp 25) 52 rfl w.heap.size 63 j0 (.agg #[.int .u64 0, .slice none 0 0, .slice none 0 0, .int .u8 0, .int .u64 0]) 5 72 Try.underlying52 hj0 hy0 hy1 hy2 rfl (by decide) (.slice aa na ca) na _ rfl hrow ⟨w2.heap.size, 0, none⟩ 1 1 [.int .u64 gn, .slice x1 x2 x3, .slice y1 y2 y3, .int .u8 gm, .int .u64 gu] rfl rfl hlaid honeR (by decide) (by simp only [maxLen]; omega) (by omega) hws _ rfl ?_; intro g4 c4 w4 hown hgrow hat4 hlt4)
          | fail)
        have HIF : Hid (AdvI G w w4 t mo ea gs qs (.slice (some ⟨b, 0, none⟩) N qc) (.slice (some ⟨g4, 0, none⟩) (na + 1) c4) (.slice pa np cp) gs1 (ah1 ++ [r]) ps1) := by
          have h9 := hown
          rw [← HE.out.2.1, ← HLA.out.1] at h9
          have h8 := HI3'.out.stay r HQV.out h9 hgrow hat4
          rw [HLA.out.1] at h8
          exact h8
        clear hrow hlaid honeR hown hgrow hat4 hlt4
        go_roundg (gk - 1)
        case measure => exact q1
        case rel => exact ⟨j + 1, na + 1, c4, np, cp, _, _, q2, by go_num, rfl, rfl, by omega, by omega, by rw [HS1.out]; exact ⟨by rw [List.length_append, HLA.out.1]; rfl, HLA.out.2⟩, by rw [HS1.out]; exact HIF.out⟩
    · have hjN : j = N := by omega
      subst hjN
      have hAll : qs.take j = qs := by rw [← HN.out, List.take_length]
      have HALL : Hid (qs.take j = qs) := hAll
      obtain ⟨⟨Gj, gvj, hat, hsub⟩, oa, op, hap, hkp⟩ := HI.out
      have HF : Hid (LkP (fun b => (G b ∨ w.heap.size ≤ b) ∧ b < wr.heap.size) (wr.setCell ⟨t, 3, none⟩ (.slice aa na ca)) t mo ea (advB qs gs [] []).1 (advB qs gs [] []).2.1 ∧ Keeps G w (wr.setCell ⟨t, 3, none⟩ (.slice aa na ca))) := by
        obtain ⟨m1, _⟩ := advB_mem qs gs [] []
        rw [hAll] at hat oa
        refine ⟨⟨gvj, .slice aa na ca, hat.put3 oa.rd (fun q hq => ?_) (fun b hb => ⟨hsub b hb, hat.lt b hb⟩) (fun b hb => ?_) (fun q hq b hb => ?_) (fun b hb => hb.2) (fun q hq => ?_)⟩, ?_⟩
        · rcases m1 q hq with h9 | h9
          · cases h9
          · exact hat.oq q h9
        · have := oa.lt b hb
          exact ⟨.inr this.1, this.2⟩
        · rcases m1 q hq with h9 | h9
          · cases h9
          · exact ⟨hsub b (hat.xq q h9 b hb), hat.lt b (hat.xq q h9 b hb)⟩
        · rcases m1 q hq with h9 | h9
          · cases h9
          · exact hat.nu q h9
        · exact hkp.then (F' := fun b => b = t) ((Keeps.refl (fun b => b = t) wr).setCell (p := ⟨t, 3, none⟩) (show t = t from rfl) _) (fun i hi => by rw [hi]; exact hsub t hat.gt)
      have f3 := hat.bx.f3
      have c3r := hat.bx.c3
      have hop5 : OwnQ w.heap.size (wr.setCell ⟨t, 3, none⟩ (.slice aa na ca)) (.slice pa np cp) (advB qs gs [] []).2.2 := by
        rw [hAll] at op
        exact rowT_stored op hat.bx (by decide)
      have hwh := whose_any (wr.setCell ⟨t, 3, none⟩ (.slice aa na ca)) (.slice pa np cp) (advB qs gs [] []).2.2 hop5.rd (fun q hq => by
        rcases (advB_mem qs gs [] []).2.1 q hq with h9 | h9
        · cases h9
        · exact (hat.oq q h9).s) (by
        have := (advB_mem qs gs [] []).2.2.2.2
        have := HNN.out
        have := HN.out
        simp only [List.length_nil] at *
        omega)
      have HSZW : Hid (w.heap.size ≤ (wr.setCell ⟨t, 3, none⟩ (.slice aa na ca)).heap.size) := by show _ ≤ _; simpa using hkp.size
      clear hat hsub oa op hap hkp hop5 hAll HI HLN
      go_wp2_with fail
      refine hwh.mono ?_
      rintro e w9 ⟨v, rfl, hv, hb9⟩
      obtain ⟨v1, v2, ev, _⟩ := row_slice9 hv
      subst ev
      have HV : Hid (AdvPost G w t mo ea gs qs (.returned (.slice v1 ((advB qs gs [] []).2.2.map (·.l.n)).length v2)) w9) :=
        ⟨_, rfl, row_mono9 hv HSZW.out, HF.out.2.trans (Below.keeps hb9 _), _, HF.out.1.below hb9, fun b hb => hb.1⟩
      obtain ⟨nv, hnv⟩ : ∃ nv, ((advB qs gs [] []).2.2.map (·.l.n)).length = nv := ⟨_, rfl⟩
      rw [hnv] at HV ⊢
      clear hwh hv hb9 hnv
      go_wp2
      go_ret
      exact HV.out

end Go.Proofs.Ythiogpojccohgaa
