/- (*locks.Table).blockers: for whom a lock waits. -/
import Derived.Test.YthiogpojccohgaaLkSet
import Derived.Test.YthiogpojccohgaaLkAt
namespace Go.Proofs.Ythiogpojccohgaa
set_option maxRecDepth 20000
open Go.RowKit Go.Maps
set_option linter.unusedVariables false
set_option linter.unusedSimpArgs false

theorem Box4.keeps {F : Nat → Prop} {w w' : World} {b : Nat} {v0 v1 v2 v3 : Value} (h : Box4 w b v0 v1 v2 v3) (hk : Keeps F w w') (hF : ¬ F b) : Box4 w' b v0 v1 v2 v3 :=
  ⟨hk.cell (p := ⟨b, 0, none⟩) hF h.c0, hk.cell (p := ⟨b, 1, none⟩) hF h.c1, hk.cell (p := ⟨b, 2, none⟩) hF h.c2, hk.cell (p := ⟨b, 3, none⟩) hF h.c3⟩

theorem mapf_succ (p : Lk → Bool) (l : List Lk) (j : Nat) (h : j < l.length) : ((l.take (j + 1)).filter p).map (·.n) = if p l[j] = true then ((l.take j).filter p).map (·.n) ++ [l[j].n] else ((l.take j).filter p).map (·.n) := by
  rw [filter_take_succ p l j h]
  split <;> simp
theorem mapr_succ (p : Rq → Bool) (l : List Rq) (j : Nat) (h : j < l.length) : ((l.take (j + 1)).filter p).map (·.l.n) = if p l[j] = true then ((l.take j).filter p).map (·.l.n) ++ [l[j].l.n] else ((l.take j).filter p).map (·.l.n) := by
  rw [filter_take_succ p l j h]
  split <;> simp
theorem mapf_len (p : Lk → Bool) (l : List Lk) (j : Nat) : (((l.take j).filter p).map (·.n)).length ≤ l.length := by
  rw [List.length_map]
  have h1 := List.length_filter_le p (l.take j)
  rw [List.length_take] at h1
  omega
theorem mapr_len (p : Rq → Bool) (l : List Rq) (j : Nat) : (((l.take j).filter p).map (·.l.n)).length ≤ l.length := by
  rw [List.length_map]
  have h1 := List.length_filter_le p (l.take j)
  rw [List.length_take] at h1
  omega

set_option maxHeartbeats 4000000 in
theorem blk_any (G : Nat → Prop) (w : World) (t : Nat) (mo ea : Int) (gs : List Lk) (qs : List Rq) (gv qv : Value) (l : Lk) (av : Value) (ah : List Rq) (h : LkAt G w t mo ea gs qs gv qv) (hn : gs.length ≤ 1000) (hx : Rd w l.x l.f) (hy : Rd w l.y l.t)
    (ha : RowQ w av ah) (hao : ∀ r ∈ ah, LkOk w r.l) (han : ah.length ≤ 1000) :
    Calls Try.prog 26 #[.pointer (some ⟨t, 0, none⟩), lkV (l.n : Int) l.x l.y (l.m.toNat : Int), av] w fun e w' => ∃ b, e = .returned (.map (some b)) ∧ MapU w' b (blkB gs ah l) ∧ w.heap.size ≤ b ∧ Below w.heap.size w w' := by
  obtain ⟨a1, a2, ex⟩ := hx.len
  obtain ⟨a3, a4, ey⟩ := hy.len
  have hb0 := below_box4 w (.cells #[.int .u64 (l.n : Int), l.x, l.y, .int .u8 (l.m.toNat : Int)] 32)
  have HB0 : Hid (Below w.heap.size w (w.alloc (.cells #[.int .u64 (l.n : Int), l.x, l.y, .int .u8 (l.m.toNat : Int)] 32))) := hb0
  have BX : Hid (Box4 (w.alloc (.cells #[.int .u64 (l.n : Int), l.x, l.y, .int .u8 (l.m.toNat : Int)] 32)) w.heap.size (.int .u64 (l.n : Int)) l.x l.y (.int .u8 (l.m.toNat : Int))) := box4_new w _ _ _ _ _
  have HL : Hid (LkAt G w t mo ea gs qs gv qv) := h
  have hof := setof_any (w.alloc (.cells #[.int .u64 (l.n : Int), l.x, l.y, .int .u8 (l.m.toNat : Int)] 32))
  have HCL : Hid (∀ W, Below w.heap.size w W → ∀ g : Lk, LkOk W g → Calls Try.prog 44 #[lkV (l.n : Int) l.x l.y (l.m.toNat : Int), lkV (g.n : Int) g.x g.y (g.m.toNat : Int)] W fun e w' => e = .returned (.bool (clB l g)) ∧ Below W.heap.size W w') := fun W hW g hg =>
    clash_any W l.x l.y g.x g.y l.f l.t g.f g.t (l.n : Int) (l.m.toNat : Int) (g.n : Int) (g.m.toNat : Int) (clB l g) (hx.below hW (Nat.le_refl _)) (hy.below hW (Nat.le_refl _)) hg.1.rd hg.2.1.rd (by unfold clB overB; rw [togB_is])
  obtain ⟨up, hup⟩ : ∃ u, upgB gs l = u := ⟨_, rfl⟩
  have HUP : Hid (∀ W, Below w.heap.size w W → Calls Try.prog 46 #[.pointer (some ⟨t, 0, none⟩), lkV (l.n : Int) l.x l.y (l.m.toNat : Int)] W fun e w' => e = .returned (.bool up) ∧ Below W.heap.size W w') := fun W hW =>
    upg_any G W t mo ea gs qs gv qv l up (h.below hW) (by omega) (hx.below hW (Nat.le_refl _)) (hy.below hW (Nat.le_refl _)) hup
  have HBK : Hid (blkB gs ah l = (gs.filter (clB l)).map (·.n) ++ if up = true then [] else (ah.filter fun r => clB l r.l).map (·.l.n)) := by show _ = _; unfold blkB; rw [hup]
  obtain ⟨ga, gc, eg, hgc, hgc2⟩ := row_slice9 h.rg
  obtain ⟨aa, ac, ea', hac, hac2⟩ := row_slice9 ha
  obtain ⟨NG, hNG⟩ : ∃ N, gs.length = N := ⟨_, rfl⟩
  obtain ⟨NA, hNA⟩ : ∃ N, ah.length = N := ⟨_, rfl⟩
  have HNG : Hid (gs.length = NG ∧ ah.length = NA) := ⟨hNG, hNA⟩
  have HA : Hid (RowQ w av ah) := ha
  have HAO : Hid (∀ r ∈ ah, LkOk w r.l) := hao
  obtain ⟨ln, hln⟩ : ∃ z : Int, (l.n : Int) = z := ⟨_, rfl⟩
  obtain ⟨lm, hlm⟩ : ∃ z : Int, (l.m.toNat : Int) = z := ⟨_, rfl⟩
  have hsz : (w.alloc (.cells #[.int .u64 (l.n : Int), l.x, l.y, .int .u8 (l.m.toNat : Int)] 32)).heap.size = w.heap.size + 1 := by simp
  rw [hsz] at hof
  rw [ex, ey, hln, hlm] at HB0 BX HCL hof HUP
  rw [ex, ey, hln, hlm]
  rw [hNG] at eg hgc hn
  rw [hNA] at ea' hac han
  subst eg ea'
  clear h hx hy hb0 hup ex ey hln hlm hNG hNA ha hao hsz
  unfold lkV at HCL HUP ⊢
  go_enter Try.func26, Try.ntmps26
  go_wp2_with fail
  refine hof.mono ?_
  rintro e w1 ⟨rfl, hm1, hb1⟩
  have HB1 : Hid (Below w.heap.size w w1) := HB0.out.trans (hb1.mono (Nat.le_succ _))
  have BX1 : Hid (Box4 w1 w.heap.size (.int .u64 ln) (.slice a1 l.f.length a2) (.slice a3 l.t.length a4) (.int .u8 lm)) := BX.out.below hb1 (by simp)
  have HM1 : Hid (MapU w1 (w.heap.size + 1) []) := hm1
  have ct2 := (HL.out.bx.below HB1.out).c2
  clear hof hm1 hb1
  go_wp2_with fail
  go_loopg [18] NG (fun gk iv wr => ∃ j : Nat, gk + j = NG ∧ iv = .int .i64 (j : Int) ∧ Hid (MapU wr (w.heap.size + 1) (((gs.take j).filter (clB l)).map (·.n))) ∧ Hid (Keeps (fun q => q = w.heap.size + 1) w1 wr))
  case atStart => exact ⟨0, by omega, rfl, HM1, Keeps.refl _ _⟩
  case round =>
    obtain ⟨j, hj, rfl, HM, HK⟩ := hrel
    have HBR : Hid (Below w.heap.size w wr) := HB1.out.trans (HK.out.below (fun i hi => by omega) HB1.out.size)
    have BXR := BX1.out.keeps HK.out (by omega)
    by_cases hlt : j < NG
    · have hlt2 : j < gs.length := by rw [HNG.out.1]; exact hlt
      obtain ⟨b, c, e, _, c0, c1, c2, c3⟩ := (HL.out.rg.below HBR.out).at j hlt2
      rw [HNG.out.1] at e
      cases e
      obtain ⟨q1, q2⟩ := gk_nxt hj hlt
      have hft := mapf_succ (clB l) gs j hlt2
      have hok := (HL.out.og _ (List.getElem_mem hlt2)).below HBR.out
      obtain ⟨g, hg⟩ : ∃ g, gs[j] = g := ⟨_, rfl⟩
      rw [hg] at c0 c1 c2 c3 hft hok
      obtain ⟨⟨x1, x2, x3, ex⟩, ⟨y1, y2, y3, ey⟩⟩ := hok.s
      have hcl := HCL.out (wr.alloc (.cells #[.int .u64 (g.n : Int), g.x, g.y, .int .u8 (g.m.toNat : Int)] 32)) (bsplit HBR.out (below_box4 wr _)) g (hok.below (below_box4 wr _))
      have BY := box4_new wr (.int .u64 (g.n : Int)) g.x g.y (.int .u8 (g.m.toNat : Int)) 32
      have hba := below_box4 wr (.cells #[.int .u64 (g.n : Int), g.x, g.y, .int .u8 (g.m.toNat : Int)] 32)
      obtain ⟨gn, hgn⟩ : ∃ z : Int, (g.n : Int) = z := ⟨_, rfl⟩
      obtain ⟨gm, hgm⟩ : ∃ z : Int, (g.m.toNat : Int) = z := ⟨_, rfl⟩
      rw [ex, ey, hgn, hgm] at hcl BY hba
      rw [hgn] at c0
      rw [hgm] at c3
      rw [ex] at c1
      rw [ey] at c2
      have HGN : Hid ((g.n : Int) = gn ∧ g.n < 18446744073709551616) := ⟨hgn, hok.2.2.1⟩
      have HB2 : Hid (Below wr.heap.size wr (wr.alloc (.cells #[.int .u64 gn, .slice x1 x2 x3, .slice y1 y2 y3, .int .u8 gm] 32))) := hba
      obtain ⟨r, hr⟩ : ∃ r, clB l g = r := ⟨_, rfl⟩
      rw [hr] at hcl hft
      have HFT : Hid (((gs.take (j + 1)).filter (clB l)).map (·.n) = if r = true then ((gs.take j).filter (clB l)).map (·.n) ++ [g.n] else ((gs.take j).filter (clB l)).map (·.n)) := hft
      have BXS := BXR.below hba (Nat.le_refl _)
      have BYS : Hid (Box4 (wr.alloc (.cells #[.int .u64 gn, .slice x1 x2 x3, .slice y1 y2 y3, .int .u8 gm] 32)) wr.heap.size (.int .u64 gn) (.slice x1 x2 x3) (.slice y1 y2 y3) (.int .u8 gm)) := BY
      obtain ⟨y0, y1', y2', y3'⟩ := BY
      obtain ⟨s0, s1, s2, s3⟩ := BXS
      clear hft hg ex ey hgn hgm hok hba hr BXR
      go_wp2_with fail
      refine hcl.mono ?_
      rintro e w2 ⟨rfl, hb2⟩
      have HB3 : Hid (Below wr.heap.size wr w2) := bsplit HB2.out hb2
      have HM2 : Hid (MapU w2 (w.heap.size + 1) (((gs.take j).filter (clB l)).map (·.n))) := HM.out.below HB3.out
      have HK2 : Hid (Keeps (fun q => q = w.heap.size + 1) w1 w2) := HK.out.trans (Below.keeps HB3.out _)
      have BY2 := BYS.out.below hb2 (Nat.le_refl _)
      clear hcl hb2 y0 y1' y2' y3' s0 s1 s2 s3 c0 c1 c2 c3 BYS
      cases r with
      | false =>
        go_wp2_with fail
        go_roundg (gk - 1)
        case measure => exact q1
        case rel => exact ⟨j + 1, q2, by go_num, by show MapU _ _ _; rw [HFT.out]; exact HM2.out, HK2⟩
      | true =>
        have HFT2 : Hid (((gs.take (j + 1)).filter (clB l)).map (·.n) = ((gs.take j).filter (clB l)).map (·.n) ++ [g.n]) := by show _ = _; rw [HFT.out, if_pos rfl]
        obtain ⟨y0, y1', y2', y3'⟩ := BY2
        have hbx := below_box4 w2 (.cells #[.int .u64 gn] 29)
        have had := setadd_any (w2.alloc (.cells #[.int .u64 gn] 29)) (w.heap.size + 1) w2.heap.size (((gs.take j).filter (clB l)).map (·.n)) g.n (HM2.out.below hbx) (by rw [HGN.out.1]; exact one_cell w2 _ _) HGN.out.2 (by have := mapf_len (clB l) gs j; rw [HNG.out.1] at this; omega)
        have HBX : Hid (Below w2.heap.size w2 (w2.alloc (.cells #[.int .u64 gn] 29))) := hbx
        clear hbx
        go_wp2_with fail
        refine had.mono ?_
        rintro e w3 ⟨rfl, hm3, hg3⟩
        have HM3 : Hid (MapU w3 (w.heap.size + 1) (((gs.take (j + 1)).filter (clB l)).map (·.n))) := by show MapU _ _ _; rw [HFT2.out]; exact hm3
        have HK3 : Hid (Keeps (fun q => q = w.heap.size + 1) w1 w3) := (HK2.out.trans (Below.keeps HBX.out _)).trans (keeps_grown hg3 (fun q e => by cases e; rfl))
        clear had hm3 hg3 y0 y1' y2' y3'
        go_wp2_with fail
        go_roundg (gk - 1)
        case measure => exact q1
        case rel => exact ⟨j + 1, q2, by go_num, HM3, HK3⟩
    · have hjN : j = NG := by omega
      subst hjN
      have HM2 : Hid (MapU wr (w.heap.size + 1) ((gs.filter (clB l)).map (·.n))) := by
        have h9 := HM.out
        rw [← HNG.out.1, List.take_length] at h9
        exact h9
      have hup := HUP.out wr HBR.out
      obtain ⟨s0, s1, s2, s3⟩ := BXR
      clear HM hj
      go_wp2_with fail
      refine hup.mono ?_
      rintro e w4 ⟨rfl, hb4⟩
      have HM4 : Hid (MapU w4 (w.heap.size + 1) ((gs.filter (clB l)).map (·.n))) := HM2.out.below hb4
      have HB4 : Hid (Below w.heap.size w w4) := bsplit HBR.out hb4
      have HK4 : Hid (Keeps (fun q => q = w.heap.size + 1) w1 w4) := HK.out.trans (Below.keeps hb4 _)
      clear hup hb4 s0 s1 s2 s3
      cases up with
      | true =>
        have HE : Hid (blkB gs ah l = (gs.filter (clB l)).map (·.n)) := by show _ = _; rw [HBK.out, if_pos rfl, List.append_nil]
        go_wp2
        go_ret
        exact ⟨_, rfl, by rw [HE.out]; exact HM4.out, by omega, HB4.out⟩
      | false =>
        obtain ⟨w5, hw5⟩ : ∃ w5, w5 = w4 := ⟨_, rfl⟩
        subst hw5
        obtain ⟨wo, hwo⟩ : ∃ wo, wo = wr := ⟨_, rfl⟩
        subst hwo
        go_wp2_with fail
        go_loopg [37] NA (fun gk iv wr => ∃ i : Nat, gk + i = NA ∧ iv = .int .i64 (i : Int) ∧ Hid (MapU wr (w.heap.size + 1) ((gs.filter (clB l)).map (·.n) ++ ((ah.take i).filter (fun r => clB l r.l)).map (·.l.n))) ∧ Hid (Keeps (fun q => q = w.heap.size + 1) w1 wr))
        case atStart => exact ⟨0, by omega, rfl, by show MapU _ _ _; simpa using HM4.out, HK4⟩
        case round =>
          obtain ⟨i, hi9, rfl, HM, HK⟩ := hrel
          have HBR : Hid (Below w.heap.size w wr) := HB1.out.trans (HK.out.below (fun i hi => by omega) HB1.out.size)
          have BXR := BX1.out.keeps HK.out (by omega)
          by_cases hlt : i < NA
          · have hlt2 : i < ah.length := by rw [HNG.out.2]; exact hlt
            obtain ⟨b, c, e, _, c0, c1, c2, c3, c4⟩ := (HA.out.below HBR.out).at i hlt2
            rw [HNG.out.2] at e
            cases e
            obtain ⟨q1, q2⟩ := gk_nxt hi9 hlt
            have hft := mapr_succ (fun r => clB l r.l) ah i hlt2
            have hok := (HAO.out _ (List.getElem_mem hlt2)).below HBR.out
            obtain ⟨g, hg⟩ : ∃ g, ah[i] = g := ⟨_, rfl⟩
            rw [hg] at c0 c1 c2 c3 c4 hft hok
            obtain ⟨⟨x1, x2, x3, ex⟩, ⟨y1, y2, y3, ey⟩⟩ := hok.s
            have hcl := HCL.out (wr.alloc (.cells #[.int .u64 (g.l.n : Int), g.l.x, g.l.y, .int .u8 (g.l.m.toNat : Int), .int .u64 (g.u : Int)] 63)) (bsplit HBR.out (below_box4 wr _)) g.l (hok.below (below_box4 wr _))
            have BY := box5_new wr (.int .u64 (g.l.n : Int)) g.l.x g.l.y (.int .u8 (g.l.m.toNat : Int)) (.int .u64 (g.u : Int)) 63
            have hba := below_box4 wr (.cells #[.int .u64 (g.l.n : Int), g.l.x, g.l.y, .int .u8 (g.l.m.toNat : Int), .int .u64 (g.u : Int)] 63)
            obtain ⟨gn, hgn⟩ : ∃ z : Int, (g.l.n : Int) = z := ⟨_, rfl⟩
            obtain ⟨gm, hgm⟩ : ∃ z : Int, (g.l.m.toNat : Int) = z := ⟨_, rfl⟩
            obtain ⟨gu, hgu⟩ : ∃ z : Int, (g.u : Int) = z := ⟨_, rfl⟩
            rw [ex, ey, hgn, hgm, hgu] at BY hba
            rw [ex, ey, hgn, hgm, hgu] at hcl
            rw [hgn] at c0
            rw [hgm] at c3
            rw [hgu] at c4
            rw [ex] at c1
            rw [ey] at c2
            have HGN : Hid ((g.l.n : Int) = gn ∧ g.l.n < 18446744073709551616) := ⟨hgn, hok.2.2.1⟩
            have HB2 : Hid (Below wr.heap.size wr (wr.alloc (.cells #[.int .u64 gn, .slice x1 x2 x3, .slice y1 y2 y3, .int .u8 gm, .int .u64 gu] 63))) := hba
            obtain ⟨r, hr⟩ : ∃ r, clB l g.l = r := ⟨_, rfl⟩
            simp only [hr] at hcl hft
            have HFT : Hid (((ah.take (i + 1)).filter (fun r => clB l r.l)).map (·.l.n) = if r = true then ((ah.take i).filter (fun r => clB l r.l)).map (·.l.n) ++ [g.l.n] else ((ah.take i).filter (fun r => clB l r.l)).map (·.l.n)) := hft
            have BXS := BXR.below hba (Nat.le_refl _)
            have BYS : Hid (Box5 (wr.alloc (.cells #[.int .u64 gn, .slice x1 x2 x3, .slice y1 y2 y3, .int .u8 gm, .int .u64 gu] 63)) wr.heap.size (.int .u64 gn) (.slice x1 x2 x3) (.slice y1 y2 y3) (.int .u8 gm) (.int .u64 gu)) := BY
            obtain ⟨y0, y1', y2', y3', y4'⟩ := BY
            obtain ⟨s0, s1, s2, s3⟩ := BXS
            clear hft hg ex ey hgn hgm hgu hok hba hr BXR
            go_wp2_with fail
            refine hcl.mono ?_
            rintro e w2 ⟨rfl, hb2⟩
            have HB3 : Hid (Below wr.heap.size wr w2) := bsplit HB2.out hb2
            have HM2 : Hid (MapU w2 (w.heap.size + 1) ((gs.filter (clB l)).map (·.n) ++ ((ah.take i).filter (fun r => clB l r.l)).map (·.l.n))) := HM.out.below HB3.out
            have HK2 : Hid (Keeps (fun q => q = w.heap.size + 1) w1 w2) := HK.out.trans (Below.keeps HB3.out _)
            have BY2 := BYS.out.below hb2 (Nat.le_refl _)
            clear hcl hb2 y0 y1' y2' y3' y4' s0 s1 s2 s3 c0 c1 c2 c3 c4 BYS
            cases r with
            | false =>
              go_wp2_with fail
              go_roundg (gk - 1)
              case measure => exact q1
              case rel => exact ⟨i + 1, q2, by go_num, by show MapU _ _ _; rw [HFT.out]; exact HM2.out, HK2⟩
            | true =>
              have HFT2 : Hid (((ah.take (i + 1)).filter (fun r => clB l r.l)).map (·.l.n) = ((ah.take i).filter (fun r => clB l r.l)).map (·.l.n) ++ [g.l.n]) := by show _ = _; rw [HFT.out, if_pos rfl]
              obtain ⟨y0, y1', y2', y3', y4'⟩ := BY2
              have hbx := below_box4 w2 (.cells #[.int .u64 gn] 29)
              have had := setadd_any (w2.alloc (.cells #[.int .u64 gn] 29)) (w.heap.size + 1) w2.heap.size ((gs.filter (clB l)).map (·.n) ++ ((ah.take i).filter (fun r => clB l r.l)).map (·.l.n)) g.l.n (HM2.out.below hbx) (by rw [HGN.out.1]; exact one_cell w2 _ _) HGN.out.2 (by
                have h8 := mapr_len (fun r => clB l r.l) ah i
                have h9 := List.length_filter_le (clB l) gs
                rw [HNG.out.1] at h9
                rw [HNG.out.2] at h8
                rw [List.length_append, List.length_map]
                omega)
              have HBX : Hid (Below w2.heap.size w2 (w2.alloc (.cells #[.int .u64 gn] 29))) := hbx
              clear hbx
              go_wp2_with fail
              refine had.mono ?_
              rintro e w3 ⟨rfl, hm3, hg3⟩
              have HM3 : Hid (MapU w3 (w.heap.size + 1) ((gs.filter (clB l)).map (·.n) ++ ((ah.take (i + 1)).filter (fun r => clB l r.l)).map (·.l.n))) := by show MapU _ _ _; rw [HFT2.out, ← List.append_assoc]; exact hm3
              have HK3 : Hid (Keeps (fun q => q = w.heap.size + 1) w1 w3) := (HK2.out.trans (Below.keeps HBX.out _)).trans (keeps_grown hg3 (fun q e => by cases e; rfl))
              clear had hm3 hg3 y0 y1' y2' y3' y4'
              go_wp2_with fail
              go_roundg (gk - 1)
              case measure => exact q1
              case rel => exact ⟨i + 1, q2, by go_num, HM3, HK3⟩
          · have hiN : i = NA := by omega
            subst hiN
            have HE : Hid (blkB gs ah l = (gs.filter (clB l)).map (·.n) ++ ((ah.take i).filter (fun r => clB l r.l)).map (·.l.n)) := by show _ = _; rw [HBK.out, if_neg (by decide), ← HNG.out.2, List.take_length]
            go_wp2
            go_ret
            exact ⟨_, rfl, by rw [HE.out]; exact HM.out, by omega, HBR.out⟩

end Go.Proofs.Ythiogpojccohgaa
