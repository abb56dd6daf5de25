/- reel.record. -/
import Derived.Test.YtppoimmoohfbnaaDoorReelSmall
import Derived.Test.YtppoimmoohfbnaaDoorRBlocksWalk
namespace Go.Proofs.YtppoimmoohfbnaaDoor
open Go.RowKit
set_option linter.unusedVariables false

/-- what reel.record answers -/
def RecPost (w : World) (q : Option (List UInt8 × Nat)) (x : Ending) (w' : World) : Prop :=
  Below w.heap.size w w' ∧ match q with
    | none => x = .returned (.tuple #[.slice none 0 0, .int .i64 0, .bool false])
    | some (t, nx) => ∃ y, x = .returned (.tuple #[y, .int .i64 (nx : Int), .bool true]) ∧ OwnN w.heap.size w' y t

theorem recAt_none {p : List UInt8} {a : Nat} (h : recG (p.length + 1) p (a + gapN a) [] = none) : recAt p a = none := by unfold recAt; rw [h]

theorem recAt_over65 {p t : List UInt8} {a nx : Nat} (h : recG (p.length + 1) p (a + gapN a) [] = some (t, nx)) (ht : 65536 < t.length) : recAt p a = none := by
  unfold recAt
  rw [h]
  simp only
  rw [if_neg (by omega)]

theorem recAt_is {p t : List UInt8} {a nx : Nat} {q : Bool} (h : recG (p.length + 1) p (a + gapN a) [] = some (t, nx)) (ht : t.length ≤ 65536) (hq : (frameB a t == (p.drop a).take (nx - a)) = q) : recAt p a = if q then some (t, nx) else none := by
  unfold recAt
  rw [h]
  simp only
  cases q
  · rw [if_neg]
    · rfl
    · intro hc
      rw [hc.2] at hq
      simp at hq
  · rw [if_pos ⟨ht, eq_of_beq hq⟩]
    rfl

/-- where the loop has come to -/
structure RecI (w wr : World) (p : List UInt8) (a nx : Nat) (tv : Value) (t : List UInt8) : Prop where
  eq : recG (p.length + 1) p (a + gapN a) [] = recG (p.length + 1) p nx t
  ow : OwnN w.heap.size wr tv t
  be : Below w.heap.size w wr
  ge : a + t.length ≤ nx
  le : nx ≤ p.length + 6

theorem rec_step (p : List UInt8) (nx : Nat) (t : List UInt8) (h : 0 < nx ∨ 0 = nx) : recG (p.length + 1) p nx t = match pcAt p nx with
    | none => none
    | some (k, q) => if k.toNat = 1 ∨ k.toNat = 4 then some (t ++ q, nx + 7 + q.length) else recG (p.length + 1) p (nx + 7 + q.length) (t ++ q) := recG_step (by omega)

theorem rec_nums {nx L m ql : Nat} (h : nx + 7 + ql ≤ L) (hL : L ≤ 1000000) : (nx : Int) ≤ 1000000 ∧ (ql : Int) ≤ 1000000 ∧ (nx : Int) + (7 + (ql : Int)) = ((nx + 7 + ql : Nat) : Int) ∧ ((nx + 7 + ql : Nat) : Int) ≤ 1000000 ∧ nx < L := by omega

theorem rd_low_cells {w wr : World} {b off : Nat} {p : List UInt8} (hcs : ∀ j u, (bv p)[j]? = some u → w.cell? ⟨b, off + j, none⟩ = some u) (hbw : Below w.heap.size w wr) : ∀ j u, (bv p)[j]? = some u → wr.cell? ⟨b, off + j, none⟩ = some u := by
  intro j u hu
  have := hcs j u hu
  rw [hbw.cell (p := ⟨b, off + j, none⟩) (World.block_lt_of_cell? w _ this)]
  exact this

theorem kind_no {k : UInt8} (h : ¬ (k.toNat = 1 ∨ k.toNat = 4)) : ¬ (k.toNat : Int) = 1 ∧ ¬ (k.toNat : Int) = 4 ∧ ((k.toNat : Int) == 1) = false ∧ ((k.toNat : Int) == 4) = false := by
  refine ⟨by omega, by omega, ?_, ?_⟩
  · rw [beq_eq_false_iff_ne]; omega
  · rw [beq_eq_false_iff_ne]; omega

set_option maxRecDepth 100000 in
set_option maxHeartbeats 8000000 in
theorem record_at (w : World) (a b off c : Nat) (p : List UInt8) (hcs : ∀ j u, (bv p)[j]? = some u → w.cell? ⟨b, off + j, none⟩ = some u) (hb : b < w.heap.size) (ha : a ≤ p.length) (hc : p.length ≤ c) (hM : c ≤ maxLen) (hp : p.length ≤ 1000000) (hT : Tab w) :
    Calls Tryd.prog 29 #[.slice (some ⟨b, off, none⟩) p.length c, .int .i64 (a : Int)] w (RecPost w (recAt p a)) := by
  obtain ⟨i0, hi, hz0, hz1, hz2⟩ := info_parts info5
  have h0 : 0 < w.heap.size := by omega
  have hg6 := gap_bd a
  have hgap := gap_any w a (by omega)
  obtain ⟨L, hL⟩ : ∃ L, p.length = L := ⟨_, rfl⟩
  obtain ⟨ga, hga⟩ : ∃ ga, gapN a = ga := ⟨_, rfl⟩
  have HI0 : Hid (RecI w w p a (a + ga) (.slice none 0 0) []) := by
    rw [← hga]
    exact ⟨rfl, .inl ⟨rfl, rfl⟩, Below.refl _ _, by simp, by omega⟩
  rw [hga] at hgap hg6
  have hrd : Hid (Rd w (.slice (some ⟨b, off, none⟩) L c) p) := .inr ⟨b, off, c, by rw [hL], hc, hM, hcs⟩
  rw [hL] at ha hc hp ⊢
  have HC : Hid _ := hcs
  have HB : Hid (b < w.heap.size) := hb
  have HM : Hid (c ≤ maxLen ∧ L ≤ c ∧ a ≤ L ∧ L ≤ 1000000) := ⟨hM, hc, ha, hp⟩
  have HT : Hid (Tab w) := hT
  have HL : Hid (p.length = L) := hL
  have H0 : Hid (0 < w.heap.size) := h0
  have haI : (a : Int) ≤ 1000000 := by omega
  have haI0 : (0 : Int) ≤ (a : Int) := by omega
  have hgI : (ga : Int) ≤ 6 := by omega
  have hgI0 : (0 : Int) ≤ (ga : Int) := by omega
  have HSM : Hid ((a : Int) + (ga : Int) = ((a + ga : Nat) : Int)) := by show _ = _; omega
  have HGK : Hid (L + 8 - (a + ga) + (a + ga) = L + 8) := by show _ = _; omega
  clear hcs hb hM hc ha hp hT hL h0 hga hg6
  go_enter Tryd.func29, Tryd.ntmps29
  go_wp2_with fail
  refine hgap.mono ?_
  rintro e w0 ⟨rfl, rfl⟩
  clear hgap
  go_wp2_with fail
  go_loopg [7, 8] (L + 8 - (a + ga)) (fun gk tv nv wr => ∃ (nx : Nat) (t : List UInt8) (ta : Option Addr) (tc : Nat), gk + nx = L + 8 ∧ nv = .int .i64 (nx : Int) ∧ tv = .slice ta t.length tc ∧ Hid (RecI w0 wr p a nx tv t))
  case atStart => exact ⟨a + ga, [], none, 0, HGK.out, by rw [← HSM.out], rfl, HI0⟩
  case round =>
    obtain ⟨nx, t, ta, tc, hgk, rfl, rfl, HI⟩ := hrel
    by_cases hlt : nx < L
    · have hpc := piece_at wr nx b off c p (rd_low_cells HC.out HI.out.be) (by rw [HL.out]; exact hlt) (by rw [HL.out]; exact HM.out.2.1) HM.out.1 (by rw [HL.out]; exact HM.out.2.2.2) (HT.out.below HI.out.be (Nat.le_refl _))
      rw [HL.out] at hpc
      obtain ⟨Q, hQ⟩ : ∃ Q, pcAt p nx = Q := ⟨_, rfl⟩
      rw [hQ] at hpc
      have hst := rec_step p nx t (by omega)
      rw [hQ] at hst
      cases Q with
      | none =>
        have HE : Hid (recAt p a = none) := recAt_none (HI.out.eq.trans hst)
        clear hQ hst
        go_wp2_with fail
        refine hpc.mono ?_
        rintro x w1 ⟨hb1, rfl⟩
        have HB1 : Hid (Below w0.heap.size w0 w1) := HI.out.be.trans (hb1.mono HI.out.be.size)
        clear hb1 hpc
        go_wp2
        refine bodyPost_ret (v := .tuple #[.slice none 0 0, .int .i64 0, .bool false]) (by simp [results]) rfl ?_
        rw [HE.out]
        exact ⟨HB1.out, rfl⟩
      | some kq =>
        obtain ⟨k, q⟩ := kq
        have hf := pcAt_fits hQ
        rw [HL.out] at hf
        obtain ⟨ql, hql⟩ : ∃ ql, q.length = ql := ⟨_, rfl⟩
        rw [hql] at hf
        obtain ⟨m1, m2, m3, m4, m5⟩ := rec_nums (m := 0) hf HM.out.2.2.2
        simp only at hst
        rw [hql] at hst
        obtain ⟨ny, hny⟩ : ∃ ny, nx + 7 + ql = ny := ⟨_, rfl⟩
        rw [hny] at hst m3 m4 hf
        have HTL : Hid (t.length ≤ 1000000 ∧ t.length + ql ≤ maxLen ∧ (t.length + ql) * 1 ≤ 140737488355328) := by
          have := HI.out.ge
          have := HM.out.2.2.2
          show _ ∧ _ ∧ _
          unfold maxLen
          omega
        have HNY : Hid (a + (t ++ q).length ≤ ny ∧ ny ≤ L ∧ L + 8 - ny < gk ∧ L + 8 - ny + ny = L + 8) := by
          have := HI.out.ge
          show _ ∧ _ ∧ _ ∧ _
          rw [List.length_append, hql]
          omega
        have HQL : Hid (q.length = ql) := hql
        have hnx0 : (0 : Int) ≤ (nx : Int) := Int.natCast_nonneg _
        have hql0 : (0 : Int) ≤ (ql : Int) := Int.natCast_nonneg _
        obtain ⟨T, hTq⟩ : ∃ T, t ++ q = T := ⟨_, rfl⟩
        rw [hTq] at hst HNY
        have HTq : Hid (t ++ q = T) := hTq
        by_cases hk : k.toNat = 1 ∨ k.toNat = 4
        · rw [if_pos hk] at hst
          have HST : Hid (recG (p.length + 1) p (a + gapN a) [] = some (T, ny)) := HI.out.eq.trans hst
          obtain ⟨m, hm⟩ : ∃ m, ny - a = m := ⟨_, rfl⟩
          obtain ⟨d, hd⟩ : ∃ d, c - a = d := ⟨_, rfl⟩
          obtain ⟨n1, n2, n3, n4⟩ : (a : Int) ≤ (ny : Int) ∧ (ny : Int) ≤ (c : Int) ∧ ¬ c = a ∧ m ≤ d := by
            have := HNY.out
            have := HM.out
            have := HI.out.ge
            omega
          have hsub : Hid (Rd w0 (.slice (some ⟨b, off + a, none⟩) m d) ((p.drop a).take (ny - a))) := by
            show Rd _ _ _
            rw [hm]
            refine rd_sub HC.out a m d n4 ?_ ?_
            · have := HM.out
              omega
            · rw [HL.out]
              have := HNY.out
              omega
          have HT65 : Hid (T.length ≤ 1000000) := by show _ ≤ _; have := HNY.out; have := HM.out; omega
          clear hst hQ hlt m5 hf hny hql hTq
          obtain ⟨sub, hsubq⟩ : ∃ sub, (p.drop a).take (ny - a) = sub := ⟨_, rfl⟩
          rw [hsubq] at hsub
          obtain ⟨eqb, heqb⟩ : ∃ eqb, (frameB a T == (p.drop a).take (ny - a)) = eqb := ⟨_, rfl⟩
          have HRA : Hid (T.length ≤ 65536 → recAt p a = if eqb then some (T, ny) else none) := fun h65 => recAt_is HST.out h65 heqb
          rw [hsubq] at heqb
          have HEQ : Hid _ := heqb
          clear hsubq heqb n4
          rcases hk with hk | hk
          all_goals
            go_wp2_with fail
            refine hpc.mono ?_
            rintro x w1 ⟨hb1, o', d', rfl, hrdq⟩
            rw [HQL.out] at hrdq
            rw [HQL.out, hk]
            have HB1 : Hid (Below w0.heap.size w0 w1) := HI.out.be.trans (hb1.mono HI.out.be.size)
            have hrow := ownN_row (HI.out.ow.below hb1 (Nat.le_refl _))
            have hqc := (rd_cells (hrdq.below hb1 (Nat.le_refl _))).2
            clear hb1 hpc hrdq
            go_wp2_with (first | (at_builtin; refine wpList_append_own _ rfl (.tmp 27) (.tmp 28) 22 rfl w0.heap.size 5 i0 (.int .u8 0) 1 1 Tryd.underlying22 hi hz0 hz1 hz2 rfl (by decide) (.slice ta t.length tc) t.length (bv t) rfl hrow ⟨b, o', none⟩ ql d' (bv q) rfl (by rw [bv_length, HQL.out, Nat.mul_one]) hqc (bv_one _) HTL.out.2.1 HTL.out.2.2 HB1.out.size ?_; intro v' w2 ho' hgr' hn'; have h9 : OwnN w0.heap.size w2 v' (t ++ q) := ownN_of_rowT (by rw [HQL.out]; exact ho'); rw [HTq.out] at h9; have HO2 : Hid (OwnN w0.heap.size w2 v' T) := h9; clear h9; have HB2 : Hid (Below w0.heap.size w0 w2) := HB1.out.grown hgr' HB1.out.size (fun k' e => (hrow.lt k' e).1); obtain ⟨va, vc, hvv⟩ := HO2.out.rd.len; subst hvv; clear ho' hgr' hn') | fail)
            clear hrow hqc
            by_cases h65 : T.length ≤ 65536
            · have hfr := frame_any w2 a _ T HO2.out.rd (ownN_block HO2.out) h65 (HT.out.below HB2.out (Nat.le_refl _)) (Nat.lt_of_lt_of_le H0.out HB2.out.size)
              have HRA2 : Hid _ := HRA.out h65
              clear h65
              obtain ⟨FB, HFB⟩ : ∃ FB, Hid (frameB a T = FB) := ⟨_, rfl⟩
              rw [HFB.out] at hfr HEQ
              refine hfr.mono ?_
              rintro x w3 ⟨g3, c3, rfl, o3, hb3⟩
              have HB3 : Hid (Below w0.heap.size w0 w3) := HB2.out.trans (hb3.mono HB2.out.size)
              have HO3 : Hid (OwnN w0.heap.size w3 (.slice va T.length vc) T) := HO2.out.below hb3 (Nat.le_refl _)
              have heq := equal_any w3 _ _ FB sub o3.rd (hsub.out.below HB3.out (Nat.le_refl _))
              rw [HEQ.out] at heq
              clear hfr hb3 o3
              cases eqb
              · go_wp2_with fail
                refine heq.mono ?_
                rintro x w4 ⟨rfl, rfl⟩
                clear heq
                go_wp2
                refine bodyPost_ret (v := .tuple #[.slice none 0 0, .int .i64 0, .bool false]) (by simp [results]) rfl ?_
                rw [HRA2.out]
                exact ⟨HB3.out, rfl⟩
              · go_wp2_with fail
                refine heq.mono ?_
                rintro x w4 ⟨rfl, rfl⟩
                clear heq
                go_wp2
                refine bodyPost_ret (v := .tuple #[.slice va T.length vc, .int .i64 (ny : Int), .bool true]) (by simp [results]) rfl ?_
                rw [HRA2.out]
                exact ⟨HB3.out, _, rfl, HO3.out⟩
            · have hfr := frame_over w2 (a : Int) _ T HO2.out.rd haI0 (by omega)
              have HE : Hid (recAt p a = none) := recAt_over65 HST.out (by omega)
              clear h65
              refine hfr.mono ?_
              rintro x w3 ⟨rfl, rfl⟩
              clear hfr
              go_wp2
              refine bodyPost_ret (v := .tuple #[.slice none 0 0, .int .i64 0, .bool false]) (by simp [results]) rfl ?_
              rw [HE.out]
              exact ⟨HB2.out, rfl⟩
        · rw [if_neg hk] at hst
          have HST : Hid _ := HI.out.eq.trans hst
          obtain ⟨k1, k2, k3, k4⟩ := kind_no hk
          clear hst hQ hlt m5 hf hny hql hTq hk
          go_wp2_with fail
          refine hpc.mono ?_
          rintro x w1 ⟨hb1, o', d', rfl, hrdq⟩
          rw [HQL.out] at hrdq
          rw [HQL.out]
          have HB1 : Hid (Below w0.heap.size w0 w1) := HI.out.be.trans (hb1.mono HI.out.be.size)
          have hrow := ownN_row (HI.out.ow.below hb1 (Nat.le_refl _))
          have hqc := (rd_cells (hrdq.below hb1 (Nat.le_refl _))).2
          clear hb1 hpc hrdq
          go_wp2_with (first | (at_builtin; refine wpList_append_own _ rfl (.tmp 27) (.tmp 28) 22 rfl w0.heap.size 5 i0 (.int .u8 0) 1 1 Tryd.underlying22 hi hz0 hz1 hz2 rfl (by decide) (.slice ta t.length tc) t.length (bv t) rfl hrow ⟨b, o', none⟩ ql d' (bv q) rfl (by rw [bv_length, HQL.out, Nat.mul_one]) hqc (bv_one _) HTL.out.2.1 HTL.out.2.2 HB1.out.size ?_; intro v' w2 ho' hgr' hn'; have h9 : OwnN w0.heap.size w2 v' (t ++ q) := ownN_of_rowT (by rw [HQL.out]; exact ho'); rw [HTq.out] at h9; have HO2 : Hid (OwnN w0.heap.size w2 v' T) := h9; clear h9; have HB2 : Hid (Below w0.heap.size w0 w2) := HB1.out.grown hgr' HB1.out.size (fun k' e => (hrow.lt k' e).1); obtain ⟨va, vc, hvv⟩ := HO2.out.rd.len; subst hvv; clear ho' hgr' hn') | fail)
          clear hrow hqc
          have HI2 : Hid (RecI w0 w2 p a ny (.slice va T.length vc) T) := ⟨HST.out, HO2.out, HB2.out, HNY.out.1, by rw [HL.out]; have := HNY.out.2.1; omega⟩
          go_roundg (L + 8 - ny)
          case measure => exact HNY.out.2.2.1
          case rel => exact ⟨ny, T, va, vc, HNY.out.2.2.2, rfl, rfl, HI2⟩
    · have HE : Hid (recAt p a = none) := recAt_none (by rw [HI.out.eq, rec_step p nx t (by omega), pcAt_over (by rw [HL.out]; omega)])
      have hpc := piece_out wr (nx : Int) _ p (hrd.out.below HI.out.be (Nat.le_refl _)) (.inr (by rw [HL.out]; omega))
      clear hlt
      go_wp2_with fail
      refine hpc.mono ?_
      rintro x w1 ⟨rfl, rfl⟩
      clear hpc
      go_wp2
      refine bodyPost_ret (v := .tuple #[.slice none 0 0, .int .i64 0, .bool false]) (by simp [results]) rfl ?_
      rw [HE.out]
      exact ⟨HI.out.be, rfl⟩

end Go.Proofs.YtppoimmoohfbnaaDoor
