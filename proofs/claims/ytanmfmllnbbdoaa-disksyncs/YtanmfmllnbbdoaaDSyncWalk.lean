/- DiskSyncs answers true. -/
import Derived.Test.YtanmfmllnbbdoaaDSyncPure
namespace Go.Proofs.Ytanmfmllnbbdoaa
open Go.RowKit
set_option linter.unusedVariables false

theorem small_200 {P : List UInt8} (h : P.length ≤ 200) : P.length ≤ 1099511627776 ∧ (P.length : Int) ≤ 1048576 ∧ (((([] : List UInt8).length : Nat) : Int) + (P.length : Int) ≤ 5000) := by simp; omega

theorem RdI.shape {w : World} {v : Value} {ks : List Int} (h : RdI w v ks) : ∃ a n c, v = .slice a n c := by
  rcases h with ⟨a, cap, rfl, rfl⟩ | ⟨b, off, cap, rfl, _⟩
  · exact ⟨a, 0, cap, rfl⟩
  · exact ⟨_, _, cap, rfl⟩

/-- the six cells of a call, in a block of their own -/
structure Box6 (w : World) (g : Nat) (a0 a1 a2 a3 a4 a5 : Value) : Prop where
  c0 : w.cell? ⟨g, 0, none⟩ = some a0
  c1 : w.cell? ⟨g, 1, none⟩ = some a1
  c2 : w.cell? ⟨g, 2, none⟩ = some a2
  c3 : w.cell? ⟨g, 3, none⟩ = some a3
  c4 : w.cell? ⟨g, 4, none⟩ = some a4
  c5 : w.cell? ⟨g, 5, none⟩ = some a5

theorem box6_new (w : World) (a0 a1 a2 a3 a4 a5 : Value) (T : TypeId) : Box6 (w.alloc (.cells #[a0, a1, a2, a3, a4, a5] T)) w.heap.size a0 a1 a2 a3 a4 a5 :=
  ⟨by simp, by simp, by simp, by simp, by simp, by simp⟩

theorem Box6.below {B : Nat} {w w' : World} {g : Nat} {a0 a1 a2 a3 a4 a5 : Value} (h : Box6 w g a0 a1 a2 a3 a4 a5) (hb : Below B w w') (hB : w.heap.size ≤ B) : Box6 w' g a0 a1 a2 a3 a4 a5 :=
  ⟨cell_below hb hB h.c0, cell_below hb hB h.c1, cell_below hb hB h.c2, cell_below hb hB h.c3, cell_below hb hB h.c4, cell_below hb hB h.c5⟩

theorem mod6 (y : UInt8) : (y.toNat : Int).tmod 6 = 0 ∨ (y.toNat : Int).tmod 6 = 1 ∨ (y.toNat : Int).tmod 6 = 2 ∨ (y.toNat : Int).tmod 6 = 3 ∨ (y.toNat : Int).tmod 6 = 4 ∨ (y.toNat : Int).tmod 6 = 5 := by
  rw [Int.tmod_eq_emod_of_nonneg (by omega)]
  omega

theorem next_30 {j : Nat} (h : j ≤ 30) (h30 : ¬ (30 : Int) ≤ (j : Int)) : j + 1 ≤ 30 := by omega

theorem ch_30 {S : Dsk} {P : List UInt8} {j : Nat} (h : KInv S P j) (hj : j ≤ 30) : S.ch ≤ 1099511627776 := by have := h.ch; omega

theorem len_40 {l c : List UInt8} (h : l.take 40 = c) : c.length ≤ 1000000 := by rw [← h, List.length_take]; omega

theorem len_50 {l c : List UInt8} (h : l.take 50 = c) : (c.length : Int) ≤ 1048576 := by rw [← h, List.length_take]; omega

theorem rd_front {w : World} {g k : Nat} {R P Y : List UInt8} (h : Rd w (.slice (some ⟨g, 0, none⟩) R.length k) R) (hR : P ++ Y = R) : Rd w (.slice (some ⟨g, 0, none⟩) P.length k) P := by
  have hc := (rd_cells h).2
  have hk : R.length ≤ k ∧ k ≤ maxLen := by
    rcases h with ⟨e, _⟩ | ⟨b, off, cap, e, h1, h2, _⟩
    · cases e
    · cases e; exact ⟨h1, h2⟩
  have hl : P.length ≤ R.length := by rw [← hR, List.length_append]; omega
  refine .inr ⟨g, 0, k, rfl, by omega, hk.2, fun j u hu => ?_⟩
  have hj : j < P.length := by have := (List.getElem?_eq_some_iff.1 hu).1; rwa [bv_length] at this
  have := hc j u (by rw [← hR, bv_append, List.getElem?_append_left (by rw [bv_length]; exact hj)]; exact hu)
  rwa [Addr.add_lit] at this

theorem front_facts {B : Nat} {w : World} {g k : Nat} {R P Y : List UInt8} (h : Own B w (.slice (some ⟨g, 0, none⟩) R.length k) R) (hR : P ++ Y = R) : (P.length : Int) ≤ (R.length : Int) ∧ (P.length : Int) ≤ (k : Int) := by
  have := h.cap_le
  rw [← hR, List.length_append] at *
  omega

theorem ba_list (s : ByteArray) : s.toList = s.data.toList := ByteArray.toList_eq s

set_option maxRecDepth 100000 in
set_option maxHeartbeats 8000000 in
theorem dsyncs (w : World) (vp vo kv : Value) (lp P : List UInt8) (os : List DOp) (ks : List Int) (t : UInt8) (HP : Hid (lp.take 200 = P)) (hPl : P.length ≤ 200) (hp : Arg w vp lp) (ho : ArgD w vo os) (hk : RdI w kv ks) :
    Calls Try.prog 4 #[vp, vo, kv, .int .u8 (t.toNat : Int)] w fun e w' => e = .returned (.bool true) ∧ Below w.heap.size w w' := by
  obtain ⟨a, c0, rfl, hc1, hc2, hcell⟩ := ho
  have HC : Hid (∀ j (hj : j < os.length), ∃ b off, a = some ⟨b, off, none⟩ ∧ ∃ v3 v5, DOpAt w b (off + j * 6) os[j] v3 v5) := hcell
  obtain ⟨n, hn⟩ : ∃ n, os.length = n := ⟨_, rfl⟩
  rw [hn] at hc1
  rw [hn]
  have HN : Hid _ := hn
  have HS2 : Hid _ := small_200 hPl
  have HKV : Hid (RdI w kv ks) := hk
  clear hcell hn hPl hk
  go_enter Try.func4, Try.ntmps4
  go_wp2_with fail
  refine (dawake_any w).mono ?_
  rintro e w0 ⟨rfl, hb0⟩
  go_wp2_with fail
  refine (cut_any _ _ lp 200 (hp.below hb0 (Nat.le_refl _)) (by decide)).mono ?_
  rintro e w1 ⟨vp', rfl, op, hb1⟩
  rw [HP.out] at op
  obtain ⟨gp, kp, rfl⟩ := op.shape
  have HB1 : Hid (Below w.heap.size w w1) := hb0.trans (hb1.mono hb0.size)
  have OP : Hid (Own w0.heap.size w1 (.slice (some ⟨gp, 0, none⟩) P.length kp) P) := op
  clear hb0 hb1 hp op
  go_wp2_with fail
  refine (new_k w1 w1 (Below.refl _ _) 5000 (by decide) (by decide)).mono ?_
  rintro e w2 ⟨d, rfl, h2⟩
  go_wp2_with fail
  refine (create_k h2 _ kept 0 (one 1 5000 kept [] 0) rfl (by decide) (by decide) (by kernel_rfl)).mono ?_
  rintro e w3 ⟨rfl, h3⟩
  clear h2
  go_wp2_with fail
  refine (copy_any _ _ P (OP.out.below h3.bel (Nat.le_refl _)).rd.arg HS2.out.1).mono ?_
  rintro e w4 ⟨v4, rfl, o4, hb4⟩
  have h4 := h3.below hb4
  obtain ⟨g4, k4, rfl⟩ := o4.shape
  clear h3 hb4
  go_wp2_with fail
  refine (append_k h4 _ kept P _ 0 (one 2 5000 kept ([] ++ P) 0) rfl (by decide) (by decide) o4.rd.arg HS2.out.2.1 (one_app 1 5000 kept [] P 0 HS2.out.2.2)).mono ?_
  rintro e w5 ⟨rfl, h5⟩
  rw [List.nil_append] at h5
  clear h4 o4
  go_wp2_with fail
  refine (sync_k h5 _ kept 0 (one 3 5000 kept P P.length) rfl (by decide) (by simp [one]) (one_sync 2 5000 kept P 0)).mono ?_
  rintro e w6 ⟨rfl, h6⟩
  have D6 : Hid (Dk w1 w6 d (one 3 5000 kept P P.length)) := h6
  clear h5 h6
  go_wp2_with fail
  go_loopg [38] n (fun gk iv wr => ∃ (j : Nat) (S : Dsk), gk + j = n ∧ iv = .int .i64 (j : Int) ∧ j ≤ 30 ∧ Hid (KInv S P j) ∧ Hid (Dk w1 wr d S))
  case atStart => exact ⟨0, _, rfl, rfl, by decide, KInv.first P, D6⟩
  case round =>
    obtain ⟨j, S, hj, rfl, hj30, KI, DD⟩ := hrel
    by_cases hlt : j < n
    · obtain ⟨b, off, rfl, v3, v5, hO⟩ := HC.out j (by rw [HN.out]; exact hlt)
      obtain ⟨o, ho⟩ : ∃ o, os[j]'(by rw [HN.out]; exact hlt) = o := ⟨_, rfl⟩
      rw [ho] at hO
      have hOr := (hO.below HB1.out (Nat.le_refl _)).below DD.out.bel (Nat.le_refl _)
      obtain ⟨k0, k1, k2, k3, k4, k5, a3, a5, s1, s2, n0, n1⟩ := hOr
      obtain ⟨x3, y3, e3⟩ := a3.shape
      subst e3
      obtain ⟨x5, n5, y5, e5⟩ := a5.shape
      subst e5
      obtain ⟨ln, hln⟩ : ∃ ln, o.name.data.toList = ln := ⟨_, rfl⟩
      obtain ⟨cp, wc, hcv, hrd, hbc⟩ := conv_any (wr.alloc (.cells #[.int .u8 (o.act.toNat : Int), .string o.name, .string o.to, .slice x3 o.p.length y3, .int .i64 o.n, .slice x5 n5 y5] 34)) o.name ln hln s1
      obtain ⟨hg1, hg2⟩ := gk_next hj hlt
      have hsz1 : (wr.alloc (.cells #[.int .u8 (o.act.toNat : Int), .string o.name, .string o.to, .slice x3 o.p.length y3, .int .i64 o.n, .slice x5 n5 y5] 34)).heap.size = wr.heap.size + 1 := by simp
      rw [hsz1] at hcv hrd hbc
      have B0 : Hid (Box6 _ wr.heap.size _ _ _ _ _ _) := box6_new wr (.int .u8 (o.act.toNat : Int)) (.string o.name) (.string o.to) (.slice x3 o.p.length y3) (.int .i64 o.n) (.slice x5 n5 y5) 34
      have BA : Hid (Below wr.heap.size wr (wr.alloc (.cells #[.int .u8 (o.act.toNat : Int), .string o.name, .string o.to, .slice x3 o.p.length y3, .int .i64 o.n, .slice x5 n5 y5] 34))) := (Below.refl _ _).alloc (Nat.le_refl _) _
      have A3 : Hid (Arg wr (.slice x3 o.p.length y3) o.p) := a3
      have S2 : Hid (o.to.size ≤ maxLen) := s2
      have NB : Hid (o.n ≤ 9223372036854775807) := n1
      have HRD : Hid (Rd wc (.slice (some ⟨wr.heap.size + 1, 0, none⟩) ln.length cp) ln) := hrd
      have HBC : Hid (Below (wr.alloc (.cells #[.int .u8 (o.act.toNat : Int), .string o.name, .string o.to, .slice x3 o.p.length y3, .int .i64 o.n, .slice x5 n5 y5] 34)).heap.size (wr.alloc (.cells #[.int .u8 (o.act.toNat : Int), .string o.name, .string o.to, .slice x3 o.p.length y3, .int .i64 o.n, .slice x5 n5 y5] 34)) wc) := by rw [hsz1]; exact hbc
      clear a3 a5 s1 s2 n0 n1 hrd hbc hO ho hsz1
      obtain ⟨ct, HCT⟩ : ∃ ct, Hid (ln.take 40 = ct) := ⟨_, rfl⟩
      obtain ⟨nmv, hnmv⟩ : ∃ x : ByteArray, (⟨ct.toArray⟩ : ByteArray) = x := ⟨_, rfl⟩
      have HNV : Hid (nmv.data.toList = ct) := by show _ = _; rw [← hnmv]
      have HLC : Hid (ct.length ≤ 1000000) := len_40 HCT.out
      have HCH : Hid (S.ch ≤ 1099511627776) := ch_30 KI.out hj30
      by_cases h30 : (30 : Int) ≤ (j : Int)
      · have DB : Hid (Dk w1 (wr.alloc (.cells #[.int .u8 (o.act.toNat : Int), .string o.name, .string o.to, .slice x3 o.p.length y3, .int .i64 o.n, .slice x5 n5 y5] 34)) d S) := DD.out.below BA.out
        go_wp2_with fail
        refine (crash_k (t := t) DB.out (Below.refl _ _) ks kv (argI_old DB.out (HKV.out.below HB1.out (Nat.le_refl _))) KI.out.len).mono ?_
        rintro e wa ⟨rfl, ha⟩
        obtain ⟨Y, hY⟩ := KI.out.crash ks t
        obtain ⟨R, hR⟩ : ∃ R, P ++ Y = R := ⟨_, rfl⟩
        rw [hR] at hY
        have HR : Hid (P ++ Y = R) := hR
        have HY : Hid _ := hY
        clear hR hY
        go_wp2_with fail
        refine (read_k ha _ kept 0 R rfl (by decide) HY.out).mono ?_
        rintro e wb ⟨ab, kb, rfl, ob, hb', _⟩
        clear ha
        have OPb := OP.out.below hb'.bel (Nat.le_refl _)
        have HBF : Hid (Below w.heap.size w wb) := HB1.out.trans (hb'.bel.mono HB1.out.size)
        rcases ob with ⟨eb, rfl⟩ | ob
        · simp only [Value.slice.injEq] at eb
          obtain ⟨rfl, _, rfl⟩ := eb
          have hP0 : P = [] := (List.append_eq_nil_iff.1 HR.out).1
          subst hP0
          have rn : Rd wb (.slice none 0 0) [] := .inl ⟨rfl, rfl⟩
          clear hb'
          go_wp2_with fail
          refine (same_b _ _ _ [] [] true rn (by simpa using OPb.rd) (by decide)).mono ?_
          rintro e wz ⟨rfl, rfl⟩
          go_wp2
          go_ret
          exact ⟨rfl, HBF.out⟩
        · obtain ⟨gb, kb2, hgb⟩ := ob.shape
          simp only [Value.slice.injEq] at hgb
          obtain ⟨rfl, _, rfl⟩ := hgb
          obtain ⟨i1, i2⟩ := front_facts ob HR.out
          have rf := rd_front ob.rd HR.out
          clear hb' ob
          go_wp2_with fail
          refine (same_b _ _ _ P P true rf OPb.rd (by simp)).mono ?_
          rintro e wz ⟨rfl, rfl⟩
          go_wp2
          go_ret
          exact ⟨rfl, HBF.out⟩
      · have HJ : Hid (j + 1 ≤ 30) := next_30 hj30 h30
        by_cases he1 : ct = kept
        · have hf1 : nmv.toList = [107, 101, 112, 116] := by rw [ba_list, HNV.out]; exact he1
          have hb1 : (nmv.toList == [107, 101, 112, 116]) = true := by rw [hf1]; rfl
          clear he1
          have KQ : Hid (KInv S P (j + 1)) := KI.out.next
          go_wp2_with fail
          refine (cut_any wc _ ln 40 HRD.out.arg (by decide)).mono ?_
          rintro e wd ⟨xd, rfl, od, hbd⟩
          rw [HCT.out] at od
          have hcv2 := conv_rd od.rd
          rw [hnmv] at hcv2
          obtain ⟨gd, kd, hxd⟩ := od.shape
          subst hxd
          have B2 : Hid (Box6 wd wr.heap.size (.int .u8 (o.act.toNat : Int)) (.string o.name) (.string o.to) (.slice x3 o.p.length y3) (.int .i64 o.n) (.slice x5 n5 y5)) := (B0.out.below HBC.out (Nat.le_refl _)).below hbd (Nat.le_refl _)
          obtain ⟨q0, q1, q2, q3, q4, q5⟩ := B2.out
          have HBD : Hid (Below wr.heap.size wr wd) := (BA.out.trans (HBC.out.mono BA.out.size)).trans (hbd.mono (Nat.le_trans BA.out.size HBC.out.size))
          have DW : Hid (Dk w1 wd d S) := DD.out.below HBD.out
          clear od hbd k0 k1 k2 k3 k4 k5 hcv

          go_wp2_with fail
          go_roundg (gk - 1)
          case measure => exact hg1
          case rel => exact ⟨j + 1, _, hg2, by go_num, HJ.out, KQ, DW⟩

        · have hf1 : ¬ nmv.toList = [107, 101, 112, 116] := by rw [ba_list, HNV.out]; exact he1
          have hb1 : (nmv.toList == [107, 101, 112, 116]) = false := by simpa using hf1
          have HNK : Hid (ct ≠ kept) := he1
          by_cases he2 : o.to.data.toList = kept
          · have hf2 : o.to.toList = [107, 101, 112, 116] := by rw [ba_list]; exact he2
            have hb2 : (o.to.toList == [107, 101, 112, 116]) = true := by rw [hf2]; rfl
            clear he2
            have KQ : Hid (KInv S P (j + 1)) := KI.out.next
            go_wp2_with fail
            refine (cut_any wc _ ln 40 HRD.out.arg (by decide)).mono ?_
            rintro e wd ⟨xd, rfl, od, hbd⟩
            rw [HCT.out] at od
            have hcv2 := conv_rd od.rd
            rw [hnmv] at hcv2
            obtain ⟨gd, kd, hxd⟩ := od.shape
            subst hxd
            have B2 : Hid (Box6 wd wr.heap.size (.int .u8 (o.act.toNat : Int)) (.string o.name) (.string o.to) (.slice x3 o.p.length y3) (.int .i64 o.n) (.slice x5 n5 y5)) := (B0.out.below HBC.out (Nat.le_refl _)).below hbd (Nat.le_refl _)
            obtain ⟨q0, q1, q2, q3, q4, q5⟩ := B2.out
            have HBD : Hid (Below wr.heap.size wr wd) := (BA.out.trans (HBC.out.mono BA.out.size)).trans (hbd.mono (Nat.le_trans BA.out.size HBC.out.size))
            have DW : Hid (Dk w1 wd d S) := DD.out.below HBD.out
            clear od hbd k0 k1 k2 k3 k4 k5 hcv

            go_wp2_with fail
            go_roundg (gk - 1)
            case measure => exact hg1
            case rel => exact ⟨j + 1, _, hg2, by go_num, HJ.out, KQ, DW⟩

          · have hf2 : ¬ o.to.toList = [107, 101, 112, 116] := by rw [ba_list]; exact he2
            have hb2 : (o.to.toList == [107, 101, 112, 116]) = false := by simpa using hf2
            have HN2 : Hid (¬ o.to.data.toList = kept) := he2
            clear he1 he2
            have h6 := mod6 o.act
            go_wp2_with fail
            refine (cut_any wc _ ln 40 HRD.out.arg (by decide)).mono ?_
            rintro e wd ⟨xd, rfl, od, hbd⟩
            rw [HCT.out] at od
            have hcv2 := conv_rd od.rd
            rw [hnmv] at hcv2
            obtain ⟨gd, kd, hxd⟩ := od.shape
            subst hxd
            have B2 : Hid (Box6 wd wr.heap.size (.int .u8 (o.act.toNat : Int)) (.string o.name) (.string o.to) (.slice x3 o.p.length y3) (.int .i64 o.n) (.slice x5 n5 y5)) := (B0.out.below HBC.out (Nat.le_refl _)).below hbd (Nat.le_refl _)
            obtain ⟨q0, q1, q2, q3, q4, q5⟩ := B2.out
            have HBD : Hid (Below wr.heap.size wr wd) := (BA.out.trans (HBC.out.mono BA.out.size)).trans (hbd.mono (Nat.le_trans BA.out.size HBC.out.size))
            have DW : Hid (Dk w1 wd d S) := DD.out.below HBD.out
            clear od hbd k0 k1 k2 k3 k4 k5 hcv

            rcases h6 with h6 | h6 | h6 | h6 | h6 | h6
            · go_wp2_with fail
              obtain ⟨c, q, hq⟩ : ∃ c q, createD S ct = (c, q) := ⟨_, _, rfl⟩
              have KQ : Hid (KInv q P (j + 1)) := by have := KI.out.create ct HNK.out; rw [hq] at this; exact this
              refine (create_k DW.out nmv ct c q HNV.out HLC.out HCH.out hq).mono ?_
              rintro e we ⟨rfl, he⟩
              have DE : Hid (Dk w1 we d q) := he
              clear he hq
              go_wp2_with fail
              go_roundg (gk - 1)
              case measure => exact hg1
              case rel => exact ⟨j + 1, _, hg2, by go_num, HJ.out, KQ, DE⟩
            · go_wp2_with fail
              refine (cut_any wd _ o.p 50 (A3.out.below HBD.out (Nat.le_refl _)) (by decide)).mono ?_
              rintro e we ⟨xe, rfl, oe, hbe⟩
              obtain ⟨pe, HPE⟩ : ∃ pe, Hid (o.p.take 50 = pe) := ⟨_, rfl⟩
              rw [HPE.out] at oe
              obtain ⟨ge, ke, hxe⟩ := oe.shape
              subst hxe
              have DX := DW.out.below hbe
              obtain ⟨c, q, hq⟩ : ∃ c q, appD S ct pe = (c, q) := ⟨_, _, rfl⟩
              have KQ : Hid (KInv q P (j + 1)) := by have := KI.out.app ct pe; rw [hq] at this; exact this
              go_wp2_with fail
              refine (append_k DX nmv ct pe _ c q HNV.out HLC.out HCH.out oe.rd.arg (len_50 HPE.out) hq).mono ?_
              rintro e wf ⟨rfl, he⟩
              have DE : Hid (Dk w1 wf d q) := he
              clear he hq oe hbe DX
              go_wp2_with fail
              go_roundg (gk - 1)
              case measure => exact hg1
              case rel => exact ⟨j + 1, _, hg2, by go_num, HJ.out, KQ, DE⟩
            · go_wp2_with fail
              refine (cut_any wd _ o.p 50 (A3.out.below HBD.out (Nat.le_refl _)) (by decide)).mono ?_
              rintro e we ⟨xe, rfl, oe, hbe⟩
              obtain ⟨pe, HPE⟩ : ∃ pe, Hid (o.p.take 50 = pe) := ⟨_, rfl⟩
              rw [HPE.out] at oe
              obtain ⟨ge, ke, hxe⟩ := oe.shape
              subst hxe
              have DX := DW.out.below hbe
              obtain ⟨c, q, hq⟩ : ∃ c q, appD S kept pe = (c, q) := ⟨_, _, rfl⟩
              have KQ : Hid (KInv q P (j + 1)) := by have := KI.out.app kept pe; rw [hq] at this; exact this
              go_wp2_with fail
              refine (append_k DX keptS kept pe _ c q rfl (by decide) HCH.out oe.rd.arg (len_50 HPE.out) hq).mono ?_
              rintro e wf ⟨rfl, he⟩
              have DE : Hid (Dk w1 wf d q) := he
              clear he hq oe hbe DX
              go_wp2_with fail
              go_roundg (gk - 1)
              case measure => exact hg1
              case rel => exact ⟨j + 1, _, hg2, by go_num, HJ.out, KQ, DE⟩
            · go_wp2_with fail
              obtain ⟨c, q, hq⟩ : ∃ c q, delD S ct = (c, q) := ⟨_, _, rfl⟩
              have KQ : Hid (KInv q P (j + 1)) := by have := KI.out.dele ct HNK.out; rw [hq] at this; exact this
              refine (del_k DW.out nmv ct c q HNV.out HLC.out HCH.out hq).mono ?_
              rintro e we ⟨rfl, he⟩
              have DE : Hid (Dk w1 we d q) := he
              clear he hq
              go_wp2_with fail
              go_roundg (gk - 1)
              case measure => exact hg1
              case rel => exact ⟨j + 1, _, hg2, by go_num, HJ.out, KQ, DE⟩
            · obtain ⟨lt, hlt2⟩ : ∃ lt, o.to.data.toList = lt := ⟨_, rfl⟩
              obtain ⟨cp2, we, hcv3, hrd3, hbe⟩ := conv_any wd o.to lt hlt2 S2.out
              have HR3 : Hid (Rd we (.slice (some ⟨wd.heap.size, 0, none⟩) lt.length cp2) lt) := hrd3
              have HBE : Hid (Below wd.heap.size wd we) := hbe
              have HLT : Hid _ := hlt2
              clear hrd3 hbe hlt2
              go_wp2_with fail
              refine (cut_any we _ lt 40 HR3.out.arg (by decide)).mono ?_
              rintro e wf ⟨xf, rfl, of, hbf⟩
              obtain ⟨ctt, HCC⟩ : ∃ ctt, Hid (lt.take 40 = ctt) := ⟨_, rfl⟩
              rw [HCC.out] at of
              have hcv4 := conv_rd of.rd
              obtain ⟨tov, htov⟩ : ∃ x : ByteArray, (⟨ctt.toArray⟩ : ByteArray) = x := ⟨_, rfl⟩
              rw [htov] at hcv4
              have HTV : Hid (tov.data.toList = ctt) := by show _ = _; rw [← htov]
              have HNT : Hid (ctt ≠ kept) := fun e => HN2.out (by rw [← HLT.out] at HCC; exact congrArg (fun x : ByteArray => x.data.toList) (cut_kept (HCC.out.trans e)))
              obtain ⟨gf, kf, hxf⟩ := of.shape
              subst hxf
              have DX := (DW.out.below HBE.out).below hbf
              obtain ⟨c, q, hq⟩ : ∃ c q, renD S ct ctt = (c, q) := ⟨_, _, rfl⟩
              have KQ : Hid (KInv q P (j + 1)) := by have := KI.out.ren ct ctt HNK.out HNT.out; rw [hq] at this; exact this
              have DX' : Hid (Dk w1 wf d S) := DX
              have HQ : Hid _ := hq
              clear of hbf hcv3 htov DX hq
              go_wp2_with fail
              refine (ren_k DX'.out nmv tov ct ctt c q HNV.out HLC.out HTV.out (len_40 HCC.out) HCH.out HQ.out).mono ?_
              rintro e wg ⟨rfl, he⟩
              have DE : Hid (Dk w1 wg d q) := he
              clear he hcv4
              go_wp2_with fail
              go_roundg (gk - 1)
              case measure => exact hg1
              case rel => exact ⟨j + 1, _, hg2, by go_num, HJ.out, KQ, DE⟩
            · go_wp2_with fail
              obtain ⟨c, q, hq⟩ : ∃ c q, armD S o.n = (c, q) := ⟨_, _, rfl⟩
              have KQ : Hid (KInv q P (j + 1)) := by have := KI.out.arm o.n; rw [hq] at this; exact this
              refine (arm_k DW.out o.n c q NB.out hq).mono ?_
              rintro e we ⟨rfl, he⟩
              have DE : Hid (Dk w1 we d q) := he
              clear he hq
              go_wp2_with fail
              go_roundg (gk - 1)
              case measure => exact hg1
              case rel => exact ⟨j + 1, _, hg2, by go_num, HJ.out, KQ, DE⟩
    · go_wp2_with fail
      refine (crash_k (t := t) DD.out (Below.refl _ _) ks kv (argI_old DD.out (HKV.out.below HB1.out (Nat.le_refl _))) KI.out.len).mono ?_
      rintro e wa ⟨rfl, ha⟩
      obtain ⟨Y, hY⟩ := KI.out.crash ks t
      obtain ⟨R, hR⟩ : ∃ R, P ++ Y = R := ⟨_, rfl⟩
      rw [hR] at hY
      have HR : Hid (P ++ Y = R) := hR
      have HY : Hid _ := hY
      clear hR hY
      go_wp2_with fail
      refine (read_k ha _ kept 0 R rfl (by decide) HY.out).mono ?_
      rintro e wb ⟨ab, kb, rfl, ob, hb', _⟩
      clear ha
      have OPb := OP.out.below hb'.bel (Nat.le_refl _)
      have HBF : Hid (Below w.heap.size w wb) := HB1.out.trans (hb'.bel.mono HB1.out.size)
      rcases ob with ⟨eb, rfl⟩ | ob
      · simp only [Value.slice.injEq] at eb
        obtain ⟨rfl, _, rfl⟩ := eb
        have hP0 : P = [] := (List.append_eq_nil_iff.1 HR.out).1
        subst hP0
        have rn : Rd wb (.slice none 0 0) [] := .inl ⟨rfl, rfl⟩
        clear hb'
        go_wp2_with fail
        refine (same_b _ _ _ [] [] true rn (by simpa using OPb.rd) (by decide)).mono ?_
        rintro e wz ⟨rfl, rfl⟩
        go_wp2
        go_ret
        exact ⟨rfl, HBF.out⟩
      · obtain ⟨gb, kb2, hgb⟩ := ob.shape
        simp only [Value.slice.injEq] at hgb
        obtain ⟨rfl, _, rfl⟩ := hgb
        obtain ⟨i1, i2⟩ := front_facts ob HR.out
        have rf := rd_front ob.rd HR.out
        clear hb' ob
        go_wp2_with fail
        refine (same_b _ _ _ P P true rf OPb.rd (by simp)).mono ?_
        rintro e wz ⟨rfl, rfl⟩
        go_wp2
        go_ret
        exact ⟨rfl, HBF.out⟩

theorem diskSyncs_walk (a0 : Option Addr) (len0 cap0 : Nat) (z0 : List Int) (a1 : Option Addr) (len1 cap1 : Nat) (z1 : List DOp) (a2 : Option Addr) (len2 cap2 : Nat) (z2 : List Int) (k3 : Int) (w : World) (w0 : IsRow .u8 w a0 len0 cap0 z0) (w1 : ArgD w (.slice a1 len1 cap1) z1) (w2 : IsRow .i64 w a2 len2 cap2 z2) (w3 : (Lit.int .u8 k3).wf = true) :
    Calls Try.prog 4 #[.slice a0 len0 cap0, .slice a1 len1 cap1, .slice a2 len2 cap2, .int .u8 k3] w fun e w' => e = .returned (.bool true) ∧ Below w.heap.size w w' := by
  have hk3 := byte_of w3
  rw [hk3]
  exact dsyncs w _ _ _ _ _ z1 _ _ rfl (List.length_take_le _ _) (arg_of w0) w1 (rdi_of w2)

end Go.Proofs.Ytanmfmllnbbdoaa
