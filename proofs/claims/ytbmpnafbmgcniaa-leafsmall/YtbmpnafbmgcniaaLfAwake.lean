/- bartizanlaw12.entry, awake: the document's example of layer 12. -/
import Derived.Test.YtbmpnafbmgcniaaLfBuild
import Derived.Test.YtbmpnafbmgcniaaConvStr
namespace Go.Proofs.Ytbmpnafbmgcniaa
set_option maxRecDepth 20000
open Go.RowKit
set_option linter.unusedVariables false

set_option maxHeartbeats 1000000 in
theorem entry_any (w : World) (t u : ByteArray) (l m : List UInt8) (hl : t.data.toList = l) (hl2 : l.length ≤ 100) (hm : u.data.toList = m) (hm2 : m.length ≤ 100) :
    Calls Try.prog 26 #[.string t, .string u] w fun e w' => ∃ x y, e = .returned (.agg #[x, .int .u64 1, .int .u8 2, y]) ∧ Rd w' x l ∧ Rd w' y m ∧ Below w.heap.size w w' := by
  have hb0 := below_box4 w (.cells #[.slice none 0 0, .int .u64 0, .int .u8 0, .slice none 0 0] 45)
  have br := box4f_new w (.slice none 0 0) (.int .u64 0) (.int .u8 0) (.slice none 0 0) 45
  obtain ⟨cap, w1, hc, hr, hb, hs⟩ := conv_str (w.alloc (.cells #[.slice none 0 0, .int .u64 0, .int .u8 0, .slice none 0 0] 45)) t l hl hl2
  obtain ⟨cap2, w2, hc2, hr2, hb2, hs2⟩ := conv_str w1 u m hm hm2
  obtain ⟨⟨c0, c1, c2, c3⟩, f0, f1, f2, f3⟩ := (br.below hb (Nat.le_refl _)).below hb2 (Nat.le_refl _)
  have HB : Hid (Below w.heap.size w w2) := bsplit (bsplit hb0 hb) hb2
  rw [show (w.alloc (.cells #[.slice none 0 0, .int .u64 0, .int .u8 0, .slice none 0 0] 45)).heap.size = w.heap.size + 1 by simp] at hc hr hs
  rw [hs] at hc2 hr2
  have HR : Hid (Rd w2 (.slice (some ⟨w.heap.size + 1, 0, none⟩) l.length cap) l ∧ Rd w2 (.slice (some ⟨w.heap.size + 1 + 1, 0, none⟩) m.length cap2) m) := ⟨hr.below hb2 (Nat.le_refl _), hr2⟩
  clear hb0 br hb hb2 hr hr2 hs hs2 hl hm
  go_enter Try.func26, Try.ntmps26
  go_wp2
  refine bodyPost_ret (v := .agg #[.slice (some ⟨w.heap.size + 1, 0, none⟩) l.length cap, .int .u64 1, .int .u8 2, .slice (some ⟨w.heap.size + 1 + 1, 0, none⟩) m.length cap2]) (by simp [results, Try.results26, go_sem, c0, c1, c2, c3]) rfl ⟨_, _, rfl, rd_store4 HR.out.1 (fun g hg => ?_) _ _ _ _, rd_store4 HR.out.2 (fun g hg => ?_) _ _ _ _, below_store4 HB.out (Nat.le_refl _) _ _ _ _⟩
  · simp only [Value.ownBlock, Option.some.injEq] at hg; omega
  · simp only [Value.ownBlock, Option.some.injEq] at hg; omega

theorem lex1 : leafB [([97, 97], 1, 2, [120])] = [0, 10, 1, 97, 97, 2, 1, 0, 0, 0, 0, 0, 0, 120, 0, 0, 1, 0] := by decide +kernel
theorem lex2 : leafB [([97, 97], 1, 2, [120]), ([97, 98], 1, 2, [121])] = [0, 10, 1, 97, 97, 2, 1, 0, 0, 0, 0, 0, 0, 120, 1, 9, 1, 98, 2, 1, 0, 0, 0, 0, 0, 0, 121, 0, 0, 1, 0] := by decide +kernel
theorem lex3 : chkLf [([97, 97], 1, 2, [120])] = 0 := by decide +kernel
theorem lex4 : chkLf [([97, 97], 1, 2, [120]), ([97, 98], 1, 2, [121])] = 0 := by decide +kernel

theorem rdE_one (w : World) (x y : Value) (e : EnB) (hx : Rd w x e.1) (hy : Rd w y e.2.2.2) : RdE (w.alloc (.cells #[x, .int .u64 (e.2.1 : Int), .int .u8 (e.2.2.1.toNat : Int), y] 45)) (.slice (some ⟨w.heap.size, 0, none⟩) 1 1) [e] := by
  have hb := below_box4 w (.cells #[x, .int .u64 (e.2.1 : Int), .int .u8 (e.2.2.1.toNat : Int), y] 45)
  obtain ⟨c0, c1, c2, c3⟩ := box4_new w x (.int .u64 (e.2.1 : Int)) (.int .u8 (e.2.2.1.toNat : Int)) y 45
  refine ⟨_, 1, rfl, Nat.le_refl _, by decide, fun j hj => ?_⟩
  obtain rfl : j = 0 := by simp at hj; exact hj
  exact ⟨w.heap.size, 0, rfl, x, y, c0, c1, c2, c3, hx.below hb (Nat.le_refl _), hy.below hb (Nat.le_refl _)⟩

theorem rdE_two (w : World) (x y x' y' : Value) (e e' : EnB) (hx : Rd w x e.1) (hy : Rd w y e.2.2.2) (hx' : Rd w x' e'.1) (hy' : Rd w y' e'.2.2.2) : RdE (w.alloc (.cells #[x, .int .u64 (e.2.1 : Int), .int .u8 (e.2.2.1.toNat : Int), y, x', .int .u64 (e'.2.1 : Int), .int .u8 (e'.2.2.1.toNat : Int), y'] 45)) (.slice (some ⟨w.heap.size, 0, none⟩) 2 2) [e, e'] := by
  have hb := below_box4 w (.cells #[x, .int .u64 (e.2.1 : Int), .int .u8 (e.2.2.1.toNat : Int), y, x', .int .u64 (e'.2.1 : Int), .int .u8 (e'.2.2.1.toNat : Int), y'] 45)
  have h := heap_alloc_new w (.cells #[x, .int .u64 (e.2.1 : Int), .int .u8 (e.2.2.1.toNat : Int), y, x', .int .u64 (e'.2.1 : Int), .int .u8 (e'.2.2.1.toNat : Int), y'] 45)
  have c := fun i => cell_of_row _ w.heap.size i _ _ _ h
  refine ⟨_, 2, rfl, Nat.le_refl _, by decide, fun j hj => ?_⟩
  have : j = 0 ∨ j = 1 := by simp at hj; omega
  rcases this with rfl | rfl
  · exact ⟨w.heap.size, 0, rfl, x, y, by rw [c]; rfl, by rw [c]; rfl, by rw [c]; rfl, by rw [c]; rfl, hx.below hb (Nat.le_refl _), hy.below hb (Nat.le_refl _)⟩
  · exact ⟨w.heap.size, 0, rfl, x', y', by rw [c]; rfl, by rw [c]; rfl, by rw [c]; rfl, by rw [c]; rfl, hx'.below hb (Nat.le_refl _), hy'.below hb (Nat.le_refl _)⟩

set_option maxHeartbeats 2000000 in
theorem lawake_any (w : World) : Calls Try.prog 9 #[] w fun e w' => e = .returned (.bool true) ∧ Below w.heap.size w w' := by
  go_enter Try.func9, Try.ntmps9
  go_wp2_with fail
  refine (entry_any w _ _ [97, 97] [120] rfl (by simp) rfl (by simp)).mono ?_
  rintro e w1 ⟨x1, y1, rfl, rx1, ry1, hb1⟩
  have HB1 : Hid (Below w.heap.size w w1) := hb1
  have hbu1 := lbuild_ok _ _ _ (rdE_one w1 x1 y1 ([97, 97], 1, 2, [120]) rx1 ry1) lex3
  rw [lex1] at hbu1
  obtain ⟨xa1, xc1, rfl⟩ := rx1.len
  obtain ⟨ya1, yc1, rfl⟩ := ry1.len
  have HB1a : Hid _ := bsplit HB1.out (below_box4 w1 (.cells #[.slice xa1 2 xc1, .int .u64 1, .int .u8 2, .slice ya1 1 yc1] 45))
  clear hb1 rx1 ry1
  go_wp2_with fail
  refine hbu1.mono ?_
  rintro e w2 ⟨p, rfl, op, hb2⟩
  have HB2 : Hid (Below w.heap.size w w2) := bsplit HB1a.out hb2
  obtain ⟨gp, cp, hp⟩ := op.shape
  simp only [List.length_cons, List.length_nil] at hp
  subst hp
  have HP2 : Hid (Rd w2 (.slice (some ⟨gp, 0, none⟩) 18 cp) [0, 10, 1, 97, 97, 2, 1, 0, 0, 0, 0, 0, 0, 120, 0, 0, 1, 0]) := op.rd
  clear hbu1 hb2 op
  go_wp2_with fail
  refine (entry_any w2 _ _ [97, 97] [120] rfl (by simp) rfl (by simp)).mono ?_
  rintro e w3 ⟨x3, y3, rfl, rx3, ry3, hb3⟩
  have HB3 : Hid (Below w.heap.size w w3) := bsplit HB2.out hb3
  have HP3 : Hid (Rd w3 (.slice (some ⟨gp, 0, none⟩) 18 cp) [0, 10, 1, 97, 97, 2, 1, 0, 0, 0, 0, 0, 0, 120, 0, 0, 1, 0]) := Rd.below HP2.out hb3 (Nat.le_refl _)
  clear hb3
  go_wp2_with fail
  refine (entry_any w3 _ _ [97, 98] [121] rfl (by simp) rfl (by simp)).mono ?_
  rintro e w4 ⟨x4, y4, rfl, rx4, ry4, hb4⟩
  have HB4 : Hid (Below w.heap.size w w4) := bsplit HB3.out hb4
  have HP4 : Hid (Rd w4 (.slice (some ⟨gp, 0, none⟩) 18 cp) [0, 10, 1, 97, 97, 2, 1, 0, 0, 0, 0, 0, 0, 120, 0, 0, 1, 0]) := Rd.below HP3.out hb4 (Nat.le_refl _)
  have hbu2 := lbuild_ok _ _ _ (rdE_two w4 x3 y3 x4 y4 ([97, 97], 1, 2, [120]) ([97, 98], 1, 2, [121]) (rx3.below hb4 (Nat.le_refl _)) (ry3.below hb4 (Nat.le_refl _)) rx4 ry4) lex4
  rw [lex2] at hbu2
  obtain ⟨xa3, xc3, rfl⟩ := rx3.len
  obtain ⟨ya3, yc3, rfl⟩ := ry3.len
  obtain ⟨xa4, xc4, rfl⟩ := rx4.len
  obtain ⟨ya4, yc4, rfl⟩ := ry4.len
  have hba := below_box4 w4 (.cells #[.slice xa3 2 xc3, .int .u64 1, .int .u8 2, .slice ya3 1 yc3, .slice xa4 2 xc4, .int .u64 1, .int .u8 2, .slice ya4 1 yc4] 45)
  have HB4a : Hid _ := bsplit HB4.out hba
  have HP4a : Hid (Rd _ (.slice (some ⟨gp, 0, none⟩) 18 cp) [0, 10, 1, 97, 97, 2, 1, 0, 0, 0, 0, 0, 0, 120, 0, 0, 1, 0]) := Rd.below HP4.out hba (Nat.le_refl _)
  clear hb4 rx3 ry3 rx4 ry4 hba
  go_wp2_with fail
  refine hbu2.mono ?_
  rintro e w5 ⟨q, rfl, oq, hb5⟩
  have HB5 : Hid (Below w.heap.size w w5) := bsplit HB4a.out hb5
  obtain ⟨gq, cq, hq⟩ := oq.shape
  simp only [List.length_cons, List.length_nil] at hq
  subst hq
  have HP5 : Hid (Rd w5 (.slice (some ⟨gp, 0, none⟩) 18 cp) [0, 10, 1, 97, 97, 2, 1, 0, 0, 0, 0, 0, 0, 120, 0, 0, 1, 0]) := Rd.below HP4a.out hb5 (Nat.le_refl _)
  have hcq : 31 ≤ cq ∧ cq ≤ maxLen := by
    obtain ⟨g', k', c', e, _, _, h1, h2, _⟩ := oq
    simp only [Value.slice.injEq] at e
    obtain ⟨_, _, rfl⟩ := e
    exact ⟨h1, h2⟩
  have HQ5 : Hid (Rd w5 (.slice (some ⟨gq, 14, none⟩) 4 (cq - 14)) [1, 9, 1, 98]) := by
    have h9 := rd_sub (Own.spots oq) 14 4 (cq - 14) (by omega) (by omega) (by simp)
    exact h9
  have hcI : (18 : Int) ≤ (cq : Int) := by omega
  have hcN : ¬ cq = 14 := by omega
  have hcN2 : ¬ (cq : Int) = 14 := by omega
  have hb6 := below_box4 w5 (.cells #[.int .u8 0, .int .u8 10, .int .u8 1, .int .u8 97, .int .u8 97, .int .u8 2, .int .u8 1, .int .u8 0, .int .u8 0, .int .u8 0, .int .u8 0, .int .u8 0, .int .u8 0, .int .u8 120, .int .u8 0, .int .u8 0, .int .u8 1, .int .u8 0] 5)
  have hs1 := same_b _ _ _ [0, 10, 1, 97, 97, 2, 1, 0, 0, 0, 0, 0, 0, 120, 0, 0, 1, 0] [0, 10, 1, 97, 97, 2, 1, 0, 0, 0, 0, 0, 0, 120, 0, 0, 1, 0] true (Rd.below HP5.out hb6 (Nat.le_refl _)) (rd_lit w5 [0, 10, 1, 97, 97, 2, 1, 0, 0, 0, 0, 0, 0, 120, 0, 0, 1, 0] (by decide) _ rfl) (by simp)
  have HB6 : Hid _ := bsplit HB5.out hb6
  have HQ6 : Hid (Rd _ (.slice (some ⟨gq, 14, none⟩) 4 (cq - 14)) [1, 9, 1, 98]) := Rd.below HQ5.out hb6 (Nat.le_refl _)
  clear hbu2 hb5 oq hb6 hcq
  go_wp2_with fail
  refine hs1.mono ?_
  rintro e w6 ⟨rfl, hw6⟩
  rw [← hw6] at HB6 HQ6
  have hb7 := below_box4 w6 (.cells #[.int .u8 1, .int .u8 9, .int .u8 1, .int .u8 98] 5)
  have hs2 := same_b _ _ _ [1, 9, 1, 98] [1, 9, 1, 98] true (Rd.below HQ6.out hb7 (Nat.le_refl _)) (rd_lit w6 [1, 9, 1, 98] (by decide) _ rfl) (by simp)
  have HB7 : Hid _ := bsplit HB6.out hb7
  clear hs1 hw6 hb7
  go_wp2_with fail
  refine hs2.mono ?_
  rintro e w7 ⟨rfl, hw7⟩
  rw [← hw7] at HB7
  clear hs2 hw7
  go_wp2
  go_ret
  exact ⟨rfl, HB7.out⟩

end Go.Proofs.Ytbmpnafbmgcniaa
