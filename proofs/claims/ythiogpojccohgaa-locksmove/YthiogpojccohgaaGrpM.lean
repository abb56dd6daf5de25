/- Several texts in one. -/
import Derived.Test.YthiogpojccohgaaBoxes
import Derived.Lib.ConvBytes
import Derived.Test.YthiogpojccohgaaGrpL
import Derived.BigQuiet
import Derived.Test.YthiogpojccohgaaGrpG
import Derived.Test.YthiogpojccohgaaCut
import Derived.Lib.SmallJoins
import Derived.Deep.Strs

/- []byte(s): a row of the call's own that reads as the string's bytes. -/
namespace Go.Proofs.Ythiogpojccohgaa
open Go.RowKit

theorem conv_str (w : World) (t : ByteArray) (l : List UInt8) (hl : t.data.toList = l) (hm : l.length ≤ 100) :
    ∃ cap w', (convert 9 30 (.string t)).run Try.prog w = .ok (.slice (some ⟨w.heap.size, 0, none⟩) l.length cap) w' ∧ Rd w' (.slice (some ⟨w.heap.size, 0, none⟩) l.length cap) l ∧ Below w.heap.size w w' ∧ w'.heap.size = w.heap.size + 1 := by
  subst hl
  have hsz : t.size = t.data.toList.length := by rw [Array.length_toList]; rfl
  have hcap := grownCap_ge w t.size 0 5
  have hcap2 := grownCap_le_maxLen w t.size 0 5 (by rw [hsz]; unfold maxLen; omega)
  refine ⟨grownCap w t.size 0 5, Lib.bytesWorld w 5 t, ?_, .inr ⟨w.heap.size, 0, grownCap w t.size 0 5, rfl, by rw [← hsz]; exact hcap, hcap2, fun j u hu => ?_⟩, ?_, Lib.bytesWorld_size w 5 t⟩
  · have := Lib.run_convert_string_bytes (P := Try.prog) w 9 30 5 t Try.underlying9 Try.underlying30 Try.underlying5
    rw [this, hsz]
  · have hj : j < t.data.toList.length := by have := (List.getElem?_eq_some_iff.1 hu).1; rwa [bv_length] at this
    rw [Nat.zero_add, Lib.bytesWorld_cell w 5 t j (by rw [hsz]; exact hj), ← hu, bv_get _ j hj]
    have hj2 : j < t.data.size := by rwa [Array.length_toList] at hj
    have e : t.data[j]? = some t.data[j] := Array.getElem?_eq_getElem hj2
    simp [List.getD]
    rw [e]
    rfl
  · refine ⟨?_, ?_, ?_, ?_, fun k hk => Lib.bytesWorld_at_old w 5 t k hk⟩
    all_goals first | rfl | (rw [Lib.bytesWorld_size]; omega)

end Go.Proofs.Ythiogpojccohgaa

/- locks.New, Len; bartizanref18.Same; bartizanlaw19.lock. -/
namespace Go.Proofs.Ythiogpojccohgaa
set_option maxRecDepth 100000
open Go.RowKit Go.Maps
set_option linter.unusedVariables false
set_option linter.unusedSimpArgs false

theorem lknew_any (w : World) (mo ea : Int) (h1 : 1 ≤ mo) (h2 : mo ≤ 256) (h3 : 1 ≤ ea) (h4 : ea ≤ 256) :
    Calls Try.prog 6 #[.int .i64 mo, .int .i64 ea] w fun e w' => ∃ t, e = .returned (.tuple #[.pointer (some ⟨t, 0, none⟩), .int .i64 0]) ∧ LkP (fun b => b = t) w' t mo ea [] [] ∧ t = w.heap.size ∧ w'.heap.size = w.heap.size + 1 ∧ Below w.heap.size w w' := by
  have a1 : ¬ mo < 1 := by omega
  have a2 : ¬ 256 < mo := by omega
  have a3 : ¬ ea < 1 := by omega
  have a4 : ¬ 256 < ea := by omega
  have HF : Hid (LkP (fun b => b = w.heap.size) (w.alloc (.cells #[.int .i64 mo, .int .i64 ea, .slice none 0 0, .slice none 0 0] 54)) w.heap.size mo ea [] [] ∧ (w.alloc (.cells #[.int .i64 mo, .int .i64 ea, .slice none 0 0, .slice none 0 0] 54)).heap.size = w.heap.size + 1 ∧ Below w.heap.size w (w.alloc (.cells #[.int .i64 mo, .int .i64 ea, .slice none 0 0, .slice none 0 0] 54))) := by
    refine ⟨⟨.slice none 0 0, .slice none 0 0, ?_⟩, by simp, below_box4 w _⟩
    exact {
      bx := BxT.new w mo ea _ _
      rg := World.ownsRow_nil _ _ _ _
      rq := World.ownsRow_nil _ _ _ _
      og := by simp
      oq := by simp
      gt := rfl
      gg := fun b hb => by simp [Value.ownBlock] at hb
      gq := fun b hb => by simp [Value.ownBlock] at hb
      xg := by simp
      xq := by simp
      lt := fun b hb => by rw [hb]; simp
      nu := by simp }
  clear h1 h2 h3 h4
  go_enter Try.func6, Try.ntmps6
  go_wp2_with fail
  refine bodyPost_ret (v := .tuple #[.pointer (some ⟨w.heap.size, 0, none⟩), .int .i64 0]) (by simp [results, Try.results6, go_sem]) rfl ?_
  exact ⟨_, rfl, HF.out.1, rfl, HF.out.2.1, HF.out.2.2⟩

set_option maxHeartbeats 2000000 in
theorem sameU_any (w : World) (a b : Value) (ns : List Nat) (ha : RdU w a ns) (hb : RdU w b ns) :
    Calls Try.prog 17 #[a, b] w fun e w' => e = .returned (.bool true) ∧ Below w.heap.size w w' := by
  obtain ⟨a1, a2, rfl, ha1, ha2⟩ := row_slice9 ha
  obtain ⟨b1, b2, rfl, hb1, hb2⟩ := row_slice9 hb
  obtain ⟨N, hN⟩ : ∃ N, ns.length = N := ⟨_, rfl⟩
  have HA : Hid (RdU w (.slice a1 ns.length a2) ns ∧ RdU w (.slice b1 ns.length b2) ns) := ⟨ha, hb⟩
  have HN : Hid (ns.length = N) := hN
  rw [hN] at HA ha1 hb1 ⊢
  clear ha hb hN
  go_enter Try.func17, Try.ntmps17
  go_wp2_with fail
  go_loopg [13] N (fun gk iv wr => ∃ j : Nat, gk + j = N ∧ iv = .int .i64 (j : Int) ∧ Hid (Below w.heap.size w wr))
  case atStart => exact ⟨0, by omega, rfl, Below.refl _ _⟩
  case round =>
    obtain ⟨j, hj, rfl, HB⟩ := hrel
    by_cases hlt : j < N
    · have hlt2 : j < ns.length := by rw [HN.out]; exact hlt
      obtain ⟨g, c, e, _, c0⟩ := RdU.at (row_below HA.out.1 HB.out) j hlt2
      obtain ⟨g', c', e', _, c0'⟩ := RdU.at (row_below HA.out.2 HB.out) j hlt2
      rw [HN.out] at e e'
      cases e
      cases e'
      obtain ⟨q1, q2⟩ := gk_nxt hj hlt
      obtain ⟨z, hz⟩ : ∃ z : Int, (ns[j] : Int) = z := ⟨_, rfl⟩
      rw [hz] at c0 c0'
      have HB1 : Hid (∀ n, Below w.heap.size w (wr.drewN n)) := fun n => below_drewN HB.out n
      go_wp2_with fail
      go_quiet (fail)
      go_wp2_with fail
      go_roundg (gk - 1)
      case measure => exact q1
      case rel => exact ⟨j + 1, q2, by go_num, HB1.out _⟩
    · have hjN : j = N := by omega
      subst hjN
      go_wp2
      go_ret
      exact ⟨rfl, HB.out⟩

theorem lock_any (w : World) (n m : Int) :
    Calls Try.prog 16 #[.int .u64 n, .string ⟨#[97]⟩, .int .u8 m] w fun e w' => ∃ x y, e = .returned (lkV n x y m) ∧ Rd w' x [97] ∧ Rd w' y [97, 0] ∧ Below w.heap.size w w' := by
  have hb0 := below_box4 w (.cells #[.int .u64 0, .slice none 0 0, .slice none 0 0, .int .u8 0] 32)
  have BX := box4f_new w (.int .u64 0) (.slice none 0 0) (.slice none 0 0) (.int .u8 0) 32
  obtain ⟨k1, w1, hc1, rd1, hb1, hs1⟩ := conv_str (w.alloc (.cells #[.int .u64 0, .slice none 0 0, .slice none 0 0, .int .u8 0] 32)) ⟨#[97]⟩ [97] rfl (by simp)
  obtain ⟨k2, w2, hc2, rd2, hb2, hs2⟩ := conv_str w1 ((⟨#[97]⟩ : ByteArray) ++ ⟨#[0]⟩) [97, 0] rfl (by simp)
  have hsz : (w.alloc (.cells #[.int .u64 0, .slice none 0 0, .slice none 0 0, .int .u8 0] 32)).heap.size = w.heap.size + 1 := by simp
  have B2 := (BX.below hb1 (by rw [hsz]; exact Nat.lt_succ_self _)).below hb2 (by
    have h1 : w1.heap.size = _ := hs1
    rw [h1, hsz]
    omega)
  rw [hsz] at hc1 rd1 hs1
  have hs1' : w1.heap.size = w.heap.size + 2 := hs1
  rw [hs1'] at hc2 rd2
  simp only [List.length_cons, List.length_nil, Nat.zero_add, Nat.reduceAdd] at hc1 rd1 hc2 rd2
  obtain ⟨⟨c0, c1, c2, c3⟩, f0, f1, f2, f3⟩ := B2
  have HR : Hid (Rd w2 (.slice (some ⟨w.heap.size + 1, 0, none⟩) 1 k1) [97] ∧ Rd w2 (.slice (some ⟨w.heap.size + 2, 0, none⟩) 2 k2) [97, 0] ∧ Below w.heap.size w w2) := ⟨rd1.below hb2 (by rw [hs1']; omega), rd2, bsplit (bsplit hb0 hb1) hb2⟩
  clear hb0 BX rd1 hb1 hs1 rd2 hb2 hs2 hsz hs1'
  go_enter Try.func16, Try.ntmps16
  go_wp2
  refine bodyPost_ret (v := lkV n (.slice (some ⟨w.heap.size + 1, 0, none⟩) 1 k1) (.slice (some ⟨w.heap.size + 2, 0, none⟩) 2 k2) m) (by simp [results, Try.results16, go_sem, c0, c1, c2, c3, lkV]) rfl ⟨_, _, rfl, rd_store4 HR.out.1 (fun g hg => ?_) _ _ _ _, rd_store4 HR.out.2.1 (fun g hg => ?_) _ _ _ _, below_store4 HR.out.2.2 (Nat.le_refl _) _ _ _ _⟩
  · simp only [Value.ownBlock, Option.some.injEq] at hg
    omega
  · simp only [Value.ownBlock, Option.some.injEq] at hg
    omega

end Go.Proofs.Ythiogpojccohgaa

/- bartizanlaw19.awake. -/
namespace Go.Proofs.Ythiogpojccohgaa
set_option maxRecDepth 100000
open Go.RowKit Go.Maps
set_option linter.unusedVariables false
set_option linter.unusedSimpArgs false

/-- a table of whom every block is one's own -/
def LkQ (B : Nat) (w : World) (t : Nat) (mo ea : Int) (gs : List Lk) (qs : List Rq) : Prop := B ≤ w.heap.size ∧ ∃ G, LkP G w t mo ea gs qs ∧ ∀ b, G b → B ≤ b

theorem LkQ.below {B : Nat} {w w' : World} {t : Nat} {mo ea : Int} {gs : List Lk} {qs : List Rq} (h : LkQ B w t mo ea gs qs) (hb : Below w.heap.size w w') : LkQ B w' t mo ea gs qs := by
  obtain ⟨hB, G, h, hG⟩ := h
  exact ⟨Nat.le_trans hB hb.size, G, h.below hb, hG⟩

/-- Ask of a lock that is told by its parts -/
theorem askq_any (B : Nat) (w : World) (t : Nat) (mo ea : Int) (gs : List Lk) (qs : List Rq) (n : Nat) (m : UInt8) (x y : Value) (f t2 : List UInt8) (u : Nat) (h : LkQ B w t mo ea gs qs) (hn : gs.length + qs.length ≤ 900) (hx : Rd w x f) (hy : Rd w y t2) (hln : n < 18446744073709551616) (hun : u < 18446744073709551616) :
    Calls Try.prog 9 #[.pointer (some ⟨t, 0, none⟩), lkV (n : Int) x y (m.toNat : Int), .int .u64 (u : Int)] w fun e w' => ∃ x' y', e = .returned (.int .i64 (askB mo ea gs qs ⟨n, f, t2, m, x, y⟩ ⟨n, f, t2, m, x', y'⟩ u).1) ∧ Below B w w' ∧ LkQ B w' t mo ea (askB mo ea gs qs ⟨n, f, t2, m, x, y⟩ ⟨n, f, t2, m, x', y'⟩ u).2.1 (askB mo ea gs qs ⟨n, f, t2, m, x, y⟩ ⟨n, f, t2, m, x', y'⟩ u).2.2 := by
  obtain ⟨hB, G, h, hG⟩ := h
  refine (ask_any G w t mo ea gs qs ⟨n, f, t2, m, x, y⟩ u h hn hx hy hln hun).mono ?_
  rintro e w' ⟨⟨n', f', t', m', x', y'⟩, ⟨h1, h2, h3, h4⟩, he, hk, G', hp, hG'⟩
  simp only at h1 h2 h3 h4
  subst h1 h2 h3 h4
  exact ⟨x', y', he, hk.below hG hB, Nat.le_trans hB hk.size, G', hp, fun b hb => (hG' b hb).elim (hG b) (Nat.le_trans hB)⟩

theorem relq_any (B : Nat) (w : World) (t : Nat) (mo ea : Int) (gs : List Lk) (qs : List Rq) (n : Nat) (h : LkQ B w t mo ea gs qs) (hn : gs.length + qs.length ≤ 1000) :
    Calls Try.prog 8 #[.pointer (some ⟨t, 0, none⟩), .int .u64 (n : Int)] w fun e w' => ∃ v, e = .returned v ∧ RdU w' v ((advB (lvB qs n) (rlB gs n) [] []).2.2.map (·.l.n)) ∧ Below B w w' ∧ LkQ B w' t mo ea (advB (lvB qs n) (rlB gs n) [] []).1 (advB (lvB qs n) (rlB gs n) [] []).2.1 := by
  obtain ⟨hB, G, h, hG⟩ := h
  refine (release_any G w t mo ea gs qs n h hn).mono ?_
  rintro e w' ⟨v, he, hv, hk, G', hp, hG'⟩
  exact ⟨v, he, hv.rd, hk.below hG hB, Nat.le_trans hB hk.size, G', hp, fun b hb => (hG' b hb).elim (hG b) (Nat.le_trans hB)⟩

set_option maxHeartbeats 4000000 in
theorem lkawake_any (w : World) : Calls Try.prog 5 #[] w fun e w' => e = .returned (.bool true) ∧ Below w.heap.size w w' := by
  have hn := lknew_any w 99 99 (by decide) (by decide) (by decide) (by decide)
  go_enter Try.func5, Try.ntmps5
  go_wp2_with fail
  refine hn.mono ?_
  rintro e w1 ⟨t, rfl, hp1, ht, hs1, hb1⟩
  have HB1 : Hid (Below w.heap.size w w1) := hb1
  have HP1 : Hid (LkQ w.heap.size w1 t 99 99 [] []) := ⟨by omega, _, hp1, fun b hb => by omega⟩
  clear hn hp1 hs1 hb1 ht
  have hl1 := lock_any w1 1 1
  go_wp2_with fail
  refine hl1.mono ?_
  rintro e w2 ⟨x1, y1, rfl, rx1, ry1, hb2⟩
  have HB2 : Hid (Below w.heap.size w w2) := bsplit HB1.out hb2
  have ha1 : Calls Try.prog 9 #[.pointer (some ⟨t, 0, none⟩), lkV 1 x1 y1 1, .int .u64 9] w2 _ := askq_any _ w2 t 99 99 [] [] 1 1 x1 y1 [97] [97, 0] 9 (HP1.out.below hb2) (by simp) rx1 ry1 (by decide) (by decide)
  obtain ⟨a1, b1, ex1⟩ := rx1.len
  obtain ⟨c1, d1, ey1⟩ := ry1.len
  subst ex1 ey1
  unfold lkV at ha1 ⊢
  clear hl1 rx1 ry1 hb2
  go_wp2_with fail
  refine ha1.mono ?_
  rintro e w3 ⟨x1q, y1q, he3, hb3, hp3⟩
  have he3' : e = .returned (.int .i64 0) := he3
  subst he3'
  have HB3 : Hid (Below w.heap.size w w3) := HB2.out.trans hb3
  have HP3 : Hid (LkQ w.heap.size w3 t 99 99 [⟨1, [97], [97, 0], 1, x1q, y1q⟩] []) := hp3
  clear ha1 he3 hb3 hp3
  have hl2 := lock_any w3 2 3
  go_wp2_with fail
  refine hl2.mono ?_
  rintro e w4 ⟨x2, y2, rfl, rx2, ry2, hb4⟩
  have HB4 : Hid (Below w.heap.size w w4) := bsplit HB3.out hb4
  have ha2 : Calls Try.prog 9 #[.pointer (some ⟨t, 0, none⟩), lkV 2 x2 y2 3, .int .u64 9] w4 _ := askq_any _ w4 t 99 99 [⟨1, [97], [97, 0], 1, x1q, y1q⟩] [] 2 3 x2 y2 [97] [97, 0] 9 (HP3.out.below hb4) (by simp) rx2 ry2 (by decide) (by decide)
  obtain ⟨a2, b2, ex2⟩ := rx2.len
  obtain ⟨c2, d2, ey2⟩ := ry2.len
  subst ex2 ey2
  unfold lkV at ha2 ⊢
  clear hl2 rx2 ry2 hb4
  go_wp2_with fail
  refine ha2.mono ?_
  rintro e w5 ⟨x2q, y2q, he5, hb5, hp5⟩
  have he5' : e = .returned (.int .i64 3) := he5
  subst he5'
  have HB5 : Hid (Below w.heap.size w w5) := HB4.out.trans hb5
  have HP5 : Hid (LkQ w.heap.size w5 t 99 99 [⟨1, [97], [97, 0], 1, x1q, y1q⟩] [⟨⟨2, [97], [97, 0], 3, x2q, y2q⟩, 9⟩]) := hp5
  clear ha2 he5 hb5 hp5
  have hl3 := lock_any w5 3 1
  go_wp2_with fail
  refine hl3.mono ?_
  rintro e w6 ⟨x3, y3, rfl, rx3, ry3, hb6⟩
  have HB6 : Hid (Below w.heap.size w w6) := bsplit HB5.out hb6
  have ha3 : Calls Try.prog 9 #[.pointer (some ⟨t, 0, none⟩), lkV 3 x3 y3 1, .int .u64 9] w6 _ := askq_any _ w6 t 99 99 [⟨1, [97], [97, 0], 1, x1q, y1q⟩] [⟨⟨2, [97], [97, 0], 3, x2q, y2q⟩, 9⟩] 3 1 x3 y3 [97] [97, 0] 9 (HP5.out.below hb6) (by simp) rx3 ry3 (by decide) (by decide)
  obtain ⟨a3, b3, ex3⟩ := rx3.len
  obtain ⟨c3, d3, ey3⟩ := ry3.len
  subst ex3 ey3
  unfold lkV at ha3 ⊢
  clear hl3 rx3 ry3 hb6
  go_wp2_with fail
  refine ha3.mono ?_
  rintro e w7 ⟨x3q, y3q, he7, hb7, hp7⟩
  have he7' : e = .returned (.int .i64 3) := he7
  subst he7'
  have HB7 : Hid (Below w.heap.size w w7) := HB6.out.trans hb7
  have HP7 : Hid (LkQ w.heap.size w7 t 99 99 [⟨1, [97], [97, 0], 1, x1q, y1q⟩] [⟨⟨2, [97], [97, 0], 3, x2q, y2q⟩, 9⟩, ⟨⟨3, [97], [97, 0], 1, x3q, y3q⟩, 9⟩]) := hp7
  clear ha3 he7 hb7 hp7
  have hl4 := lock_any w7 1 3
  go_wp2_with fail
  refine hl4.mono ?_
  rintro e w8 ⟨x4, y4, rfl, rx4, ry4, hb8⟩
  have HB8 : Hid (Below w.heap.size w w8) := bsplit HB7.out hb8
  have ha4 : Calls Try.prog 9 #[.pointer (some ⟨t, 0, none⟩), lkV 1 x4 y4 3, .int .u64 9] w8 _ := askq_any _ w8 t 99 99 [⟨1, [97], [97, 0], 1, x1q, y1q⟩] [⟨⟨2, [97], [97, 0], 3, x2q, y2q⟩, 9⟩, ⟨⟨3, [97], [97, 0], 1, x3q, y3q⟩, 9⟩] 1 3 x4 y4 [97] [97, 0] 9 (HP7.out.below hb8) (by simp) rx4 ry4 (by decide) (by decide)
  obtain ⟨a4, b4, ex4⟩ := rx4.len
  obtain ⟨c4, d4, ey4⟩ := ry4.len
  subst ex4 ey4
  unfold lkV at ha4 ⊢
  clear hl4 rx4 ry4 hb8
  go_wp2_with fail
  refine ha4.mono ?_
  rintro e w9 ⟨x4q, y4q, he9, hb9, hp9⟩
  have he9' : e = .returned (.int .i64 0) := he9
  subst he9'
  have HB9 : Hid (Below w.heap.size w w9) := HB8.out.trans hb9
  have HP9 : Hid (LkQ w.heap.size w9 t 99 99 [⟨1, [97], [97, 0], 1, x1q, y1q⟩, ⟨1, [97], [97, 0], 3, x4q, y4q⟩] [⟨⟨2, [97], [97, 0], 3, x2q, y2q⟩, 9⟩, ⟨⟨3, [97], [97, 0], 1, x3q, y3q⟩, 9⟩]) := hp9
  clear ha4 he9 hb9 hp9
  have hr : Calls Try.prog 8 #[.pointer (some ⟨t, 0, none⟩), .int .u64 1] w9 _ := relq_any _ w9 t 99 99 _ _ 1 HP9.out (by simp)
  go_wp2_with fail
  refine hr.mono ?_
  rintro e w10 ⟨v, rfl, hv, hb10, hp10⟩
  have HV : Hid (RdU w10 v [2]) := hv
  have HB10 : Hid (Below w.heap.size w w10) := HB9.out.trans hb10
  obtain ⟨v1, v2, ev, _⟩ := row_slice9 HV.out
  clear hr hv hb10 hp10
  subst ev
  have hsame := sameU_any (w10.alloc (.cells #[.int .u64 2] 29)) _ _ [2] (row_below HV.out (below_box4 w10 _)) (World.ownsRow_lit w10 #[.int .u64 2] 1 (Nat.zero_le _) (by decide) rfl)
  have HBL : Hid (Below w.heap.size w (w10.alloc (.cells #[.int .u64 2] 29))) := bsplit HB10.out (below_box4 w10 _)
  go_wp2_with fail
  refine Calls.mono hsame ?_
  rintro e w11 ⟨rfl, hb11⟩
  go_wp2
  go_ret
  exact ⟨rfl, bsplit HBL.out hb11⟩

end Go.Proofs.Ythiogpojccohgaa

/- (*locks.Table).Blockers. -/
namespace Go.Proofs.Ythiogpojccohgaa
set_option maxRecDepth 100000
open Go.RowKit Go.Maps
set_option linter.unusedVariables false
set_option linter.unusedSimpArgs false

theorem flat_take {α : Type} (enc : α → List Value) (k : Nat) (h : ∀ a, (enc a).length = k) : ∀ (l : List α) (i : Nat), (l.flatMap enc).take (i * k) = (l.take i).flatMap enc
  | [], i => by simp
  | a :: r, 0 => by simp
  | a :: r, i + 1 => by
    rw [List.take_succ_cons, List.flatMap_cons, List.flatMap_cons, List.take_append, ← flat_take enc k h r i]
    rw [List.take_of_length_le (by rw [h, Nat.succ_mul]; omega), h, Nat.succ_mul, Nat.add_sub_cancel]

theorem RowQ.take {w : World} {b n c i : Nat} {qs : List Rq} (h : RowQ w (.slice (some ⟨b, 0, none⟩) n c) qs) (hn : qs.length = n) (hi : i < n) : RowQ w (.slice (some ⟨b, 0, none⟩) i c) (qs.take i) := by
  unfold RowQ at h ⊢
  obtain ⟨h1, h2⟩ := h
  have hl : (qs.take i).length = i := by rw [List.length_take]; omega
  rw [hl]
  refine ⟨by rw [flat_len encR 5 encR_len, hl], ?_⟩
  rcases h2 with ⟨e, _⟩ | ⟨g, cap, cur, e, hb, hg, hc1, hc2, hs, ht⟩
  · cases e
  · have e1 : g = b := by cases e; rfl
    have e2 : cap = c := by cases e; rfl
    subst e1 e2
    refine .inr ⟨g, cap, cur, rfl, hb, hg, by omega, hc2, hs, ?_⟩
    rw [← flat_take encR 5 encR_len, ← ht, List.take_take]
    congr 1
    omega

theorem idxB_spot {α : Type} (p : α → Bool) (l : List α) (j : Nat) (h : idxB p l = (j : Int)) : ∃ hj : j < l.length, p l[j] = true ∧ ∀ i (hi : i < j), p l[i] = false := by
  unfold idxB at h
  cases h9 : l.findIdx? p with
  | none => rw [h9] at h; simp only at h; omega
  | some i =>
    rw [h9] at h
    simp only at h
    have : i = j := by omega
    subst this
    obtain ⟨h1, h2, h3⟩ := List.findIdx?_eq_some_iff_getElem.1 h9
    exact ⟨h1, h2, fun k hk => by simpa using h3 k hk⟩

/-- for whom n's request waits: nobody, or whom it meets, each once, in order -/
def BlkrP (gs : List Lk) (qs : List Rq) (n : Nat) (ns : List Nat) : Prop :=
  (idxB (fun q : Rq => decide (q.l.n = n)) qs < 0 ∧ ns = []) ∨ ∃ j, ∃ hj : j < qs.length, idxB (fun q : Rq => decide (q.l.n = n)) qs = (j : Int) ∧ Rise (blkB gs (qs.take j) qs[j].l) ns

set_option maxHeartbeats 2000000 in
theorem blockers_any (G : Nat → Prop) (w : World) (t : Nat) (mo ea : Int) (gs : List Lk) (qs : List Rq) (n : Nat) (h : LkP G w t mo ea gs qs) (hn : gs.length + qs.length ≤ 1000) :
    Calls Try.prog 12 #[.pointer (some ⟨t, 0, none⟩), .int .u64 (n : Int)] w fun e w' => ∃ v ns, e = .returned v ∧ BlkrP gs qs n ns ∧ OwnU w.heap.size w' v ns ∧ Below w.heap.size w w' := by
  have he := eqT t
  obtain ⟨gv, qv, h⟩ := h
  have HL : Hid (LkAt G w t mo ea gs qs gv qv) := h
  have HNN : Hid (gs.length + qs.length ≤ 1000) := hn
  have hpl := place_any G _ t mo ea gs qs gv qv n h (by omega)
  have HB : Hid (∀ ns, BlkrP gs qs n ns = ((idxB (fun q : Rq => decide (q.l.n = n)) qs < 0 ∧ ns = []) ∨ ∃ j, ∃ hj : j < qs.length, idxB (fun q : Rq => decide (q.l.n = n)) qs = (j : Int) ∧ Rise (blkB gs (qs.take j) qs[j].l) ns)) := fun _ => rfl
  have HZ : Hid (0 ≤ idxB (fun q : Rq => decide (q.l.n = n)) qs → ∃ j, j < qs.length ∧ idxB (fun q : Rq => decide (q.l.n = n)) qs = (j : Int)) := fun h0 => by
    unfold idxB at h0 ⊢
    cases h9 : qs.findIdx? fun q : Rq => decide (q.l.n = n) with
    | none => rw [h9] at h0; simp only at h0; omega
    | some i =>
      obtain ⟨h1, _⟩ := List.findIdx?_eq_some_iff_getElem.1 h9
      exact ⟨i, h1, rfl⟩
  obtain ⟨z, hz⟩ : ∃ z, idxB (fun q : Rq => decide (q.l.n = n)) qs = z := ⟨_, rfl⟩
  rw [hz] at HZ HB hpl
  clear h hz hn
  go_enter Try.func12, Try.ntmps12
  go_wp2_with fail
  refine hpl.mono ?_
  rintro e w2 ⟨rfl, hb2⟩
  have HB2 : Hid (Below w.heap.size w w2) := hb2
  clear hpl hb2
  by_cases h0 : 0 ≤ z
  · obtain ⟨j, hj, rfl⟩ := HZ.out h0
    have hat := HL.out.below HB2.out
    have c3 := hat.bx.c3
    obtain ⟨b, c, eq, hqc, q0, q1, q2, q3, q4⟩ := hat.rq.at j hj
    have hok := hat.oq qs[j] (List.getElem_mem hj)
    subst eq
    obtain ⟨N, hN⟩ : ∃ N, qs.length = N := ⟨_, rfl⟩
    have hrow : RowQ w2 (.slice (some ⟨b, 0, none⟩) j c) (qs.take j) := by
      have h9 := hat.rq
      rw [hN] at h9
      exact h9.take hN (by omega)
    have hdr : Below w2.heap.size w2 w2.drew := (Below.refl _ _).drew
    have hbk := blk_any G w2.drew t mo ea gs qs gv (.slice (some ⟨b, 0, none⟩) qs.length c) qs[j].l (.slice (some ⟨b, 0, none⟩) j c) (qs.take j) (hat.below hdr) (by have := HNN.out; omega) hok.1.rd hok.2.1.rd hrow (fun r hr => hat.oq r (List.mem_of_mem_take hr)) (by rw [List.length_take]; have := HNN.out; omega)
    have HJ : Hid (∃ hj : j < qs.length, blkB gs (qs.take j) qs[j].l = blkB gs (qs.take j) qs[j].l) := ⟨hj, rfl⟩
    obtain ⟨bl, hbl⟩ : ∃ bl, blkB gs (qs.take j) qs[j].l = bl := ⟨_, rfl⟩
    have HBL : Hid (∃ hj : j < qs.length, blkB gs (qs.take j) qs[j].l = bl ∧ bl.length ≤ 2000) := ⟨hj, hbl, by
      rw [← hbl]
      unfold blkB
      rw [List.length_append, List.length_map]
      have h1 := List.length_filter_le (clB qs[j].l) gs
      have h2 : (if upgB gs qs[j].l = true then ([] : List Nat) else ((qs.take j).filter fun r => clB qs[j].l r.l).map (·.l.n)).length ≤ qs.length := by
        split
        · simp
        · rw [List.length_map]
          have := List.length_filter_le (fun r : Rq => clB qs[j].l r.l) (qs.take j)
          rw [List.length_take] at this
          omega
      have := HNN.out
      omega⟩
    rw [hbl] at hbk
    obtain ⟨q, hq⟩ : ∃ q, qs[j] = q := ⟨_, rfl⟩
    rw [hq] at q0 q1 q2 q3 hok hbk
    obtain ⟨⟨x1, x2, x3, ex⟩, ⟨y1, y2, y3, ey⟩⟩ := hok.s
    rw [ex, ey] at hbk
    rw [ex] at q1
    rw [ey] at q2
    obtain ⟨gn, hgn⟩ : ∃ z : Int, (q.l.n : Int) = z := ⟨_, rfl⟩
    obtain ⟨gm, hgm⟩ : ∃ z : Int, (q.l.m.toNat : Int) = z := ⟨_, rfl⟩
    rw [hgn, hgm] at hbk
    rw [hgn] at q0
    rw [hgm] at q3
    rw [hN] at c3 hj
    have hjI : (j : Int) < (N : Int) := by omega
    have hcI : (N : Int) ≤ (c : Int) := by omega
    have yj : j < 1152921504606846976 := by have := HNN.out; omega
    unfold lkV at hbk
    have hcj : (j : Int) ≤ (c : Int) := by omega
    clear hat hok hq ex ey hgn hgm hN q4 hrow hqc hbl HJ
    go_upto_region 4 with fail
    go_region_with (first
      | (go_at_call 26; refine Calls.mono hbk ?_; rintro e w3 ⟨mb, rfl, hm3, hs3, hb3⟩
         have hri := rising_any w3 mb bl hm3 (by have := HBL.out.2.2; omega)
         have HB3 : Hid (Below w.heap.size w w3) := bsplit HB2.out (hdr.trans hb3))
      | (go_at_call 31; refine Calls.mono hri ?_; rintro e w4 ⟨v4, ys, rfl, hr4, hv4, hb4⟩
         have HE : Hid (∃ ns, BlkrP gs qs n ns ∧ OwnU w.heap.size w4 v4 ns ∧ Below w.heap.size w w4) := ⟨ys, (by rw [HB.out ys]; exact .inr ⟨j, HBL.out.1, rfl, by rw [HBL.out.2.1]; exact hr4⟩), row_mono9 hv4 HB3.out.size, bsplit HB3.out hb4⟩
         obtain ⟨va, vc, ev, _⟩ := row_slice9 hv4
         obtain ⟨vn, hvn⟩ : ∃ n, ys.length = n := ⟨_, rfl⟩
         rw [hvn] at ev
         subst ev)
      | fail)
    all_goals
      clear hbk hm3 hs3 hb3 hri hr4 hv4 hb4 hvn
      go_wp2
      go_ret
      obtain ⟨ns, k1, k2, k3⟩ := HE.out
      exact ⟨_, ns, rfl, k1, k2, k3⟩
  · have HE : Hid (BlkrP gs qs n [] ∧ OwnU w.heap.size w2 (.slice none 0 0) [] ∧ Below w.heap.size w w2) := ⟨by rw [HB.out []]; exact .inl ⟨by omega, rfl⟩, World.ownsRow_nil _ _ _ _, HB2.out⟩
    have h0I : z < 0 := by omega
    go_wp2
    go_ret
    exact ⟨_, [], rfl, HE.out.1, HE.out.2.1, HE.out.2.2⟩

theorem blockersq_any (B : Nat) (w : World) (t : Nat) (mo ea : Int) (gs : List Lk) (qs : List Rq) (n : Nat) (h : LkQ B w t mo ea gs qs) (hn : gs.length + qs.length ≤ 1000) :
    Calls Try.prog 12 #[.pointer (some ⟨t, 0, none⟩), .int .u64 (n : Int)] w fun e w' => ∃ v ns, e = .returned v ∧ BlkrP gs qs n ns ∧ OwnU w.heap.size w' v ns ∧ Below w.heap.size w w' := by
  obtain ⟨_, G, h, _⟩ := h
  exact blockers_any G w t mo ea gs qs n h hn

end Go.Proofs.Ythiogpojccohgaa

/- (*locks.Table).Victim: whom the ones that wait wait for, and a way round. -/
namespace Go.Proofs.Ythiogpojccohgaa
set_option maxRecDepth 100000
open Go.RowKit Go.Maps
set_option linter.unusedVariables false
set_option linter.unusedSimpArgs false

/-- for whom one waits -/
def waitL (gs : List Lk) (qs : List Rq) (k : Nat) : List Nat := match qs.findIdx? fun q => decide (q.l.n = k) with | none => [] | some j => match qs[j]? with | none => [] | some q => blkB gs (qs.take j) q.l

theorem waitL_at {gs : List Lk} {qs : List Rq} {k j : Nat} (hj : j < qs.length) (h : idxB (fun q : Rq => decide (q.l.n = k)) qs = (j : Int)) : waitL gs qs k = blkB gs (qs.take j) qs[j].l := by
  unfold idxB at h
  unfold waitL
  cases h9 : qs.findIdx? fun q : Rq => decide (q.l.n = k) with
  | none => rw [h9] at h; simp only at h; omega
  | some i =>
    rw [h9] at h
    simp only at h
    have : i = j := by omega
    subst this
    simp only [List.getElem?_eq_getElem hj]

theorem waitL_no {gs : List Lk} {qs : List Rq} {k : Nat} (h : idxB (fun q : Rq => decide (q.l.n = k)) qs < 0) : waitL gs qs k = [] := by
  unfold idxB at h
  unfold waitL
  cases h9 : qs.findIdx? fun q : Rq => decide (q.l.n = k) with
  | none => rfl
  | some i => rw [h9] at h; simp only at h; omega

theorem waitL_in {gs : List Lk} {qs : List Rq} {k : Nat} (h : waitL gs qs k ≠ []) : k ∈ qs.map (·.l.n) := by
  unfold waitL at h
  cases h9 : qs.findIdx? fun q : Rq => decide (q.l.n = k) with
  | none => rw [h9] at h; exact absurd rfl h
  | some i =>
    obtain ⟨h1, h2, _⟩ := List.findIdx?_eq_some_iff_getElem.1 h9
    exact List.mem_map.2 ⟨qs[i], List.getElem_mem h1, of_decide_eq_true h2⟩

theorem blkB_in {gs : List Lk} {ah : List Rq} {l : Lk} {x : Nat} (h : x ∈ blkB gs ah l) : x ∈ gs.map (·.n) ∨ x ∈ ah.map (·.l.n) := by
  unfold blkB at h
  rcases List.mem_append.1 h with h | h
  · obtain ⟨g, hg, rfl⟩ := List.mem_map.1 h
    exact .inl (List.mem_map.2 ⟨g, (List.mem_filter.1 hg).1, rfl⟩)
  · split at h
    · simp at h
    · obtain ⟨q, hq, rfl⟩ := List.mem_map.1 h
      exact .inr (List.mem_map.2 ⟨q, (List.mem_filter.1 hq).1, rfl⟩)

theorem waitL_mem {gs : List Lk} {qs : List Rq} {k x : Nat} (h : x ∈ waitL gs qs k) : x ∈ gs.map (·.n) ++ qs.map (·.l.n) := by
  unfold waitL at h
  cases h9 : qs.findIdx? fun q : Rq => decide (q.l.n = k) with
  | none => rw [h9] at h; simp at h
  | some i =>
    rw [h9] at h
    simp only at h
    cases h8 : qs[i]? with
    | none => rw [h8] at h; simp at h
    | some q =>
      rw [h8] at h
      simp only at h
      rcases blkB_in h with h | h
      · exact List.mem_append.2 (.inl h)
      · obtain ⟨r, hr, rfl⟩ := List.mem_map.1 h
        exact List.mem_append.2 (.inr (List.mem_map.2 ⟨r, List.mem_of_mem_take hr, rfl⟩))

theorem ded_ex : ∀ xs : List Nat, ∃ ys : List Nat, Each xs ys
  | [] => ⟨[], List.nodup_nil, fun _ => Iff.rfl⟩
  | a :: r => by
    obtain ⟨ys, h1, h2⟩ := ded_ex r
    by_cases h : a ∈ ys
    · refine ⟨ys, h1, fun x => ?_⟩
      rw [List.mem_cons, h2]
      constructor
      · exact .inr
      · rintro (rfl | hx)
        · exact (h2 _).1 h
        · exact hx
    · refine ⟨a :: ys, List.nodup_cons.2 ⟨h, h1⟩, fun x => ?_⟩
      rw [List.mem_cons, List.mem_cons, h2]

/-- there is a row that rises of any numbers -/
theorem rise_ex (xs : List Nat) : ∃ ys, Rise xs ys := by
  obtain ⟨ds, h1, h2⟩ := ded_ex xs
  refine ⟨ds.mergeSort (fun a b => decide (a ≤ b)), ⟨?_, fun x => ?_⟩, ?_⟩
  · exact (List.mergeSort_perm _ _).nodup_iff.2 h1
  · rw [List.mem_mergeSort]; exact h2 x
  · have h := List.pairwise_mergeSort (le := fun a b : Nat => decide (a ≤ b)) (fun a b c h1 h2 => by simp at *; omega) (fun a b => by simp; omega) ds
    exact h.imp (fun h => by simpa using h)

/-- so far, whom they wait for -/
structure EdP (gs : List Lk) (qs : List Rq) (j : Nat) (e : Nat → List Nat) : Prop where
  len : ∀ k, (e k).length ≤ j * 200
  sub : ∀ k, ∀ x ∈ e k, x ∈ waitL gs qs k
  all : ∀ k ∈ (qs.take j).map (·.l.n), ∀ x ∈ waitL gs qs k, x ∈ e k

theorem EdP.first (gs : List Lk) (qs : List Rq) : EdP gs qs 0 (fun _ => []) := ⟨fun _ => by simp, fun _ x h => by simp at h, fun k h => by simp at h⟩

theorem EdP.next {gs : List Lk} {qs : List Rq} {j : Nat} {e : Nat → List Nat} {ns : List Nat} (h : EdP gs qs j e) (hj : j < qs.length) (hl : ns.length ≤ 200) (hns : ∀ x, x ∈ ns ↔ x ∈ waitL gs qs qs[j].l.n) : EdP gs qs (j + 1) (lnkE e qs[j].l.n ns) := by
  refine ⟨fun k => ?_, fun k x hx => ?_, fun k hk x hx => ?_⟩
  · have := h.len k
    unfold lnkE
    split
    · rw [List.length_append]; omega
    · omega
  · unfold lnkE at hx
    by_cases e9 : k = qs[j].l.n
    · rw [if_pos e9] at hx
      rcases List.mem_append.1 hx with hx | hx
      · exact h.sub k x hx
      · rw [e9]; exact (hns x).1 hx
    · rw [if_neg e9] at hx
      exact h.sub k x hx
  · unfold lnkE
    by_cases e9 : k = qs[j].l.n
    · rw [if_pos e9]
      rw [e9] at hx
      exact List.mem_append.2 (.inr ((hns x).2 hx))
    · rw [if_neg e9]
      refine h.all k ?_ x hx
      rw [List.take_succ_eq_append_getElem hj, List.map_append] at hk
      rcases List.mem_append.1 hk with hk | hk
      · exact hk
      · simp at hk; exact absurd hk e9

/-- what Blockers tells is what is waited for -/
theorem BlkrP.wait {gs : List Lk} {qs : List Rq} {n : Nat} {ns : List Nat} (h : BlkrP gs qs n ns) : ns.Nodup ∧ ∀ x, x ∈ ns ↔ x ∈ waitL gs qs n := by
  rcases h with ⟨h, rfl⟩ | ⟨j, hj, h1, h2⟩
  · rw [waitL_no h]; exact ⟨List.nodup_nil, fun _ => Iff.rfl⟩
  · rw [waitL_at hj h1]; exact ⟨h2.1.1, h2.1.2⟩

/-- what Victim answers -/
def LvPost (w : World) (gs : List Lk) (qs : List Rq) (n : Nat) (e' : Ending) (w' : World) : Prop :=
  Below w.heap.size w w' ∧ ((e' = .returned (.tuple #[.int .u64 0, .bool false]) ∧ ∀ k b, Reach (waitL gs qs) n k b → b ≠ n) ∨
    ∃ M : Nat, e' = .returned (.tuple #[.int .u64 (M : Int), .bool true]) ∧ waitL gs qs M ≠ [] ∧ ∃ k, Reach (waitL gs qs) n k n)

theorem reach_congr {o o' : Nat → List Nat} (h : ∀ k x, x ∈ o k ↔ x ∈ o' k) : ∀ k a b, Reach o a k b → Reach o' a k b := by
  intro k
  induction k with
  | zero => exact fun a b hb => (h a b).1 hb
  | succ k ih =>
    rintro a b ⟨c, hc, hb⟩
    exact ⟨c, ih a c hc, (h c b).1 hb⟩

theorem way_out {o : Nat → List Nat} {f : Nat → Option Nat} {s : Nat} (hf : ∀ a b, f a = some b → a ∈ o b) : ∀ (P : List Nat) (x : Nat), WayP f s (x :: P) → o x ≠ [] → ∀ y ∈ x :: P, o y ≠ []
  | [], x, _, h, y, hy => by rw [List.mem_singleton] at hy; subst hy; exact h
  | z :: P, x, hw, h, y, hy => by
    rcases List.mem_cons.1 hy with e | hy
    · subst e; exact h
    · exact way_out hf P z hw.2.2 (fun e => by have := hf x z hw.2.1; rw [e] at this; simp at this) y hy

theorem way_reach {o : Nat → List Nat} {f : Nat → Option Nat} {s : Nat} (hf : ∀ a b, f a = some b → a ∈ o b) : ∀ (P : List Nat) (x : Nat), WayP f s (x :: P) → x = s ∨ ∃ k, Reach o s k x
  | [], x, hw => .inl hw
  | z :: P, x, hw => by
    right
    rcases way_reach hf P z hw.2.2 with e | ⟨k, hk⟩
    · subst e; exact ⟨0, hf x z hw.2.1⟩
    · exact ⟨k + 1, z, hk, hf x z hw.2.1⟩

/-- the search's answer, told of who waits for whom -/
theorem VicPost.lv {w w' : World} {gs : List Lk} {qs : List Rq} {o : Nat → List Nat} {s : Nat} {U : List Nat} {e' : Ending} (h : VicPost w o s U e' w') (ho : ∀ k x, x ∈ o k ↔ x ∈ waitL gs qs k) (hU : ∀ x, ∀ y ∈ o x, y ∈ U) : LvPost w gs qs s e' w' := by
  obtain ⟨hb, ⟨rfl, hn⟩ | ⟨M, f, x, P, rfl, hs, hw, hM⟩⟩ := h
  · refine ⟨hb, .inl ⟨rfl, fun k b hr => ?_⟩⟩
    exact bfs_none hU _ _ _ (BfI.first o s U) (by have := unv_le (fun _ => none) U; simp; omega) (fun z hz => by
      rcases hz with hz | hz
      · exact .inl (by simp [hz])
      · simp at hz) hn k b (reach_congr (fun a b => (ho a b).symm) k s b hr)
  · obtain ⟨h1, _, h3⟩ := bfs_some hU _ _ _ (BfI.first o s U) f x hs
    refine ⟨hb, .inr ⟨M, rfl, fun e => ?_, ?_⟩⟩
    · have h4 := way_out h3 P x hw (fun e => by rw [e] at h1; simp at h1) M hM.1
      refine h4 (List.eq_nil_iff_forall_not_mem.2 fun y hy => ?_)
      have := (ho M y).1 hy
      rw [e] at this
      simp at this
    · have hr : ∃ k, Reach o s k s := by
        rcases way_reach h3 P x hw with e | ⟨k, hk⟩
        · subst e; exact ⟨0, h1⟩
        · exact ⟨k + 1, x, hk, h1⟩
      obtain ⟨k, hk⟩ := hr
      exact ⟨k, reach_congr ho k s s hk⟩

set_option maxHeartbeats 2000000 in
theorem tvictim_any (B : Nat) (w : World) (t : Nat) (mo ea : Int) (gs : List Lk) (qs : List Rq) (n : Nat) (h : LkQ B w t mo ea gs qs) (hn : gs.length + qs.length ≤ 200) (hnn : n < 18446744073709551616) :
    Calls Try.prog 10 #[.pointer (some ⟨t, 0, none⟩), .int .u64 (n : Int)] w (LvPost w gs qs n) := by
  have he := eqT t
  have HQ : Hid (LkQ B w t mo ea gs qs ∧ gs.length + qs.length ≤ 200 ∧ n < 18446744073709551616) := ⟨h, hn, hnn⟩
  obtain ⟨_, G, ⟨gv, qv, hat⟩, _⟩ := h
  have HAt : Hid (LkAt G w t mo ea gs qs gv qv) := hat
  have hnw := grnew_any w
  clear hn hnn hat
  go_enter Try.func10, Try.ntmps10
  go_wp2_with fail
  refine hnw.mono ?_
  rintro e1 w1 ⟨g, rfl, hg1, hb1⟩
  have HG1 : Hid (GrQ w.heap.size w1 g 0 (fun _ => []) ∧ Below w.heap.size w w1) := ⟨hg1, hb1⟩
  have hat1 := HAt.out.below hb1
  have c3 := hat1.bx.c3
  obtain ⟨qa, qc, eq, _⟩ := row_slice9 hat1.rq
  have hwh := whose_any w1 qv qs hat1.rq (fun q hq => (hat1.oq q hq).s) (by have := HQ.out.2.1; omega)
  obtain ⟨N, hN⟩ : ∃ N, qs.length = N := ⟨_, rfl⟩
  have HN : Hid (qs.length = N) := hN
  rw [hN] at eq
  subst eq
  clear hnw hg1 hb1 hat1 hN
  go_wp2_with fail
  refine hwh.mono ?_
  rintro e2 w2 ⟨wv, rfl, ho2, hb2⟩
  obtain ⟨wa, wc9, ewv, _⟩ := row_slice9 ho2
  rw [List.length_map, HN.out] at ewv
  subst ewv
  have HW : Hid (RdU w2 (.slice wa N wc9) (qs.map (·.l.n)) ∧ Below w.heap.size w w2 ∧ GrQ w.heap.size w2 g 0 (fun _ => [])) := ⟨ho2.rd, bsplit HG1.out.2 hb2, HG1.out.1.below hb2⟩
  clear hwh ho2 hb2 c3
  go_wp2_with fail
  go_loopg [18] N (fun gk iv wr => ∃ j : Nat, gk + j = N ∧ iv = .int .i64 (j : Int) ∧ Hid (∃ nn e, nn ≤ j ∧ GrQ w.heap.size wr g nn e ∧ EdP gs qs j e ∧ RdU wr (.slice wa N wc9) (qs.map (·.l.n)) ∧ Below w.heap.size w wr))
  case atStart => exact ⟨0, by omega, rfl, 0, _, Nat.le_refl _, HW.out.2.2, EdP.first gs qs, HW.out.1, HW.out.2.1⟩
  case round =>
    obtain ⟨j, hgj, rfl, HR⟩ := hrel
    obtain ⟨nn, e, h1, h2, h3, h4, h5⟩ := HR.out
    by_cases hlt : j < N
    · have hltI : (j : Int) < (N : Int) := by omega
      have hjl : j < qs.length := by rw [HN.out]; exact hlt
      obtain ⟨b, c, e9, _, c0⟩ := h4.at j (by rw [List.length_map]; exact hjl)
      rw [List.length_map, HN.out] at e9
      cases e9
      rw [List.getElem_map] at c0
      have hnum : qs[j].l.n < 18446744073709551616 := (HAt.out.oq _ (List.getElem_mem hjl)).2.2.1
      obtain ⟨j1, hj1⟩ : ∃ j1, j + 1 = j1 := ⟨_, rfl⟩
      have ej1 : (j : Int) + 1 = (j1 : Int) := by omega
      have hN200 : N ≤ 200 := by have := HQ.out.2.1; have := HN.out; omega
      have y1 : j1 < 1152921504606846976 := by omega
      have hbk := blockersq_any B wr t mo ea gs qs qs[j].l.n (HQ.out.1.below h5) (by have := HQ.out.2.1; omega)
      obtain ⟨k, hk⟩ : ∃ k, qs[j].l.n = k := ⟨_, rfl⟩
      have HK : Hid (∃ hj : j < qs.length, qs[j].l.n = k) := ⟨hjl, hk⟩
      rw [hk] at c0 hnum hbk
      have HG : Hid (gk - 1 < gk ∧ gk - 1 + j1 = N ∧ j + 1 = j1 ∧ k < 18446744073709551616 ∧ j < N ∧ N ≤ 200) := ⟨by omega, by omega, hj1, hnum, hlt, hN200⟩
      have HR2 : Hid (nn ≤ j ∧ GrQ w.heap.size wr g nn e ∧ EdP gs qs j e ∧ RdU wr (.slice (some ⟨b, 0, none⟩) N wc9) (qs.map (·.l.n)) ∧ Below w.heap.size w wr) := ⟨h1, h2, h3, h4, h5⟩
      clear h1 h2 h3 h4 h5 HR hjl hlt hnum hj1 hk hgj
      go_wp2_with fail
      refine hbk.mono ?_
      rintro e3 w3 ⟨bv, ns, rfl, hns, hbv, hb3⟩
      have hwt := hns.wait
      have hnsl : ns.length ≤ 200 := by
        have h9 := sub_len ns (gs.map (·.n) ++ qs.map (·.l.n)) hwt.1 (fun x hx => waitL_mem ((hwt.2 x).1 hx))
        rw [List.length_append, List.length_map, List.length_map] at h9
        have := HQ.out.2.1
        omega
      have hnsn : ∀ x ∈ ns, x < 18446744073709551616 := fun x hx => by
        rcases List.mem_append.1 (waitL_mem ((hwt.2 x).1 hx)) with h | h
        · obtain ⟨g, hg, rfl⟩ := List.mem_map.1 h
          exact (HAt.out.og g hg).2.2.1
        · obtain ⟨q, hq, rfl⟩ := List.mem_map.1 h
          exact (HAt.out.oq q hq).2.2.1
      obtain ⟨r1, r2, r3, r4, r5⟩ := HR2.out
      have hlk := link_any w.heap.size w3 g nn k e bv ns (r2.below hb3) hbv.rd HG.out.2.2.2.1 hnsn (by have := HG.out; omega) (by have := r3.len k; have := HG.out; omega)
      obtain ⟨ba, bc, ebv, _⟩ := row_slice9 hbv
      obtain ⟨bl, hbl⟩ : ∃ bl, ns.length = bl := ⟨_, rfl⟩
      rw [hbl] at ebv
      subst ebv
      have HNS : Hid (ns.length ≤ 200 ∧ (∀ x, x ∈ ns ↔ x ∈ waitL gs qs k) ∧ RdU w3 (.slice (some ⟨b, 0, none⟩) N wc9) (qs.map (·.l.n)) ∧ Below w.heap.size w w3) := ⟨hnsl, hwt.2, rdU_keeps r4 (Below.keeps hb3 (fun _ => False)) (fun _ _ h => h), bsplit r5 hb3⟩
      clear hbk hns hbv hb3 hwt hnsl hnsn r1 r2 r3 r4 r5 hbl
      go_wp2_with fail
      refine hlk.mono ?_
      rintro e4 w4 ⟨rfl, n4, hn4, hg4, hk4⟩
      have HF : Hid (∃ nn e, nn ≤ j1 ∧ GrQ w.heap.size w4 g nn e ∧ EdP gs qs j1 e ∧ RdU w4 (.slice (some ⟨b, 0, none⟩) N wc9) (qs.map (·.l.n)) ∧ Below w.heap.size w w4) := by
        obtain ⟨s1, s2, s3, s4⟩ := HNS.out
        obtain ⟨r1, r2, r3, r4, r5⟩ := HR2.out
        obtain ⟨hjl, hk⟩ := HK.out
        refine ⟨n4, _, by have := HG.out.2.2.1; omega, hg4, ?_, rdU_keeps s3 hk4 (fun q hq h9 => ?_), s4.trans (hk4.below (fun i h => h.1) s4.size)⟩
        · rw [← HG.out.2.2.1, ← hk]
          exact r3.next hjl s1 (fun x => by rw [hk]; exact s2 x)
        · obtain ⟨es, cl, hm9⟩ := h9.2
          rcases s3.2 with ⟨e9, _⟩ | ⟨gg, cc, cur, e9, _, hc9, _⟩
          · rw [e9] at hq; cases hq
          · rw [e9] at hq
            cases hq
            rw [hc9] at hm9
            cases hm9
      clear hlk hn4 hg4 hk4 c0
      go_wp2_with fail
      go_roundg (gk - 1)
      case measure => exact HG.out.1
      case rel => exact ⟨j1, HG.out.2.1, rfl, HF.out⟩
    · have hjN : j = N := by omega
      have hnI : ¬ (j : Int) < (N : Int) := by omega
      have hex : ∃ o : Nat → List Nat, ∀ k, Rise (e k) (o k) := ⟨fun k => Classical.choose (rise_ex (e k)), fun k => Classical.choose_spec (rise_ex (e k))⟩
      obtain ⟨o, ho⟩ := hex
      have hoW : ∀ k x, x ∈ o k ↔ x ∈ waitL gs qs k := fun k x => by
        rw [(ho k).1.2]
        refine ⟨h3.sub k x, fun hx => h3.all k ?_ x hx⟩
        rw [List.take_of_length_le (by rw [HN.out]; omega)]
        exact waitL_in (fun e9 => by rw [e9] at hx; simp at hx)
      have hoU : ∀ x, ∀ y ∈ o x, y ∈ gs.map (·.n) ++ qs.map (·.l.n) := fun x y hy => waitL_mem ((hoW x y).1 hy)
      have hUn : ∀ x ∈ gs.map (·.n) ++ qs.map (·.l.n), x < 18446744073709551616 := fun x hx => by
        rcases List.mem_append.1 hx with h | h
        · obtain ⟨g, hg, rfl⟩ := List.mem_map.1 h
          exact (HAt.out.og g hg).2.2.1
        · obtain ⟨q, hq, rfl⟩ := List.mem_map.1 h
          exact (HAt.out.oq q hq).2.2.1
      have hv := grvictim_any w.heap.size wr g nn n e o _ h2 ho hoU hUn HQ.out.2.2 (by rw [List.length_append, List.length_map, List.length_map]; have := HQ.out.2.1; omega)
      have HV : Hid ((∀ k x, x ∈ o k ↔ x ∈ waitL gs qs k) ∧ (∀ x, ∀ y ∈ o x, y ∈ gs.map (·.n) ++ qs.map (·.l.n)) ∧ Below w.heap.size w wr) := ⟨hoW, hoU, h5⟩
      clear h1 h2 h3 h4 h5 hlt hjN hgj ho hoW hoU hUn HR
      go_wp2_with fail
      refine hv.mono ?_
      intro e5 w5 hp
      have hlv := hp.lv HV.out.1 HV.out.2.1
      obtain ⟨hb5, hc5⟩ := hlv
      have HB5 : Hid (Below w.heap.size w w5) := bsplit HV.out.2.2 hb5
      rcases hc5 with ⟨rfl, hn5⟩ | ⟨M, rfl, hM, hr⟩
      · have HE : Hid (∀ k b, Reach (waitL gs qs) n k b → b ≠ n) := hn5
        clear hv hp hb5 hn5
        go_wp2
        refine bodyPost_ret (results_tmp2 rfl _ _ _) rfl ?_
        exact ⟨HB5.out, .inl ⟨rfl, HE.out⟩⟩
      · have HE : Hid (waitL gs qs M ≠ [] ∧ ∃ k, Reach (waitL gs qs) n k n) := ⟨hM, hr⟩
        clear hv hp hb5 hM hr
        go_wp2
        refine bodyPost_ret (results_tmp2 rfl _ _ _) rfl ?_
        exact ⟨HB5.out, .inr ⟨M, rfl, HE.out⟩⟩

end Go.Proofs.Ythiogpojccohgaa

/- Who waits for whom, as locks come and go: no way round. -/
namespace Go.Proofs.Ythiogpojccohgaa
set_option maxRecDepth 20000
set_option linter.unusedVariables false
set_option linter.unusedSimpArgs false

/-- each waits but once -/
def Dis (qs : List Rq) : Prop := (qs.map (·.l.n)).Nodup

theorem idx_split (p : Rq → Bool) : ∀ (pre : List Rq) (r : Rq) (post : List Rq), (∀ a ∈ pre, p a = false) → p r = true → (pre ++ r :: post).findIdx? p = some pre.length
  | [], r, post, _, hr => by simp [List.findIdx?_cons, hr]
  | a :: pre, r, post, hp, hr => by
    rw [List.cons_append, List.findIdx?_cons, if_neg (by rw [hp a (by simp)]; simp), idx_split p pre r post (fun b hb => hp b (by simp [hb])) hr]
    rfl

theorem waitL_split {gs : List Lk} {pre post : List Rq} {r : Rq} (h : Dis (pre ++ r :: post)) : waitL gs (pre ++ r :: post) r.l.n = blkB gs pre r.l := by
  have hp : ∀ a ∈ pre, decide (a.l.n = r.l.n) = false := fun a ha => by
    unfold Dis at h
    rw [List.map_append, List.map_cons, List.nodup_append] at h
    have := h.2.2 a.l.n (List.mem_map.2 ⟨a, ha, rfl⟩) r.l.n (by simp)
    simpa using this
  unfold waitL
  rw [idx_split (fun q => decide (q.l.n = r.l.n)) pre r post hp (by simp)]
  simp

theorem waitL_iff {gs : List Lk} {qs : List Rq} (h : Dis qs) (n x : Nat) : x ∈ waitL gs qs n ↔ ∃ pre r post, qs = pre ++ r :: post ∧ r.l.n = n ∧ x ∈ blkB gs pre r.l := by
  constructor
  · intro hx
    have hin := waitL_in (fun e => by rw [e] at hx; simp at hx : waitL gs qs n ≠ [])
    obtain ⟨r, hr, rfl⟩ := List.mem_map.1 hin
    obtain ⟨pre, post, rfl⟩ := List.append_of_mem hr
    rw [waitL_split h] at hx
    exact ⟨pre, r, post, rfl, rfl, hx⟩
  · rintro ⟨pre, r, post, rfl, rfl, hx⟩
    rw [waitL_split h]
    exact hx

/-- no way round -/
def Acy (o : Nat → List Nat) : Prop := ∀ n k, ¬ Reach o n k n

/-- a way begins with a step, and then goes on -/
theorem reach_head {o : Nat → List Nat} : ∀ k a b, Reach o a (k + 1) b → ∃ c, c ∈ o a ∧ Reach o c k b
  | 0, a, b, ⟨c, hc, hb⟩ => ⟨c, hc, hb⟩
  | k + 1, a, b, ⟨c, hc, hb⟩ => by
    obtain ⟨d, hd, h⟩ := reach_head k a c hc
    exact ⟨d, hd, c, h, hb⟩

theorem reach_out {o : Nat → List Nat} : ∀ k a b, Reach o a k b → o a ≠ []
  | 0, a, b, h, e => by unfold Reach at h; rw [e] at h; simp at h
  | k + 1, a, b, h, e => by
    obtain ⟨c, hc, _⟩ := reach_head k a b h
    rw [e] at hc; simp at hc

/-- links to such as wait for nobody make no way round -/
theorem acy_ext {o o' : Nat → List Nat} (h : ∀ a, ∀ b ∈ o' a, b ∈ o a ∨ o' b = []) (ha : Acy o) : Acy o' := by
  have key : ∀ k a b, Reach o' a k b → o' b ≠ [] → Reach o a k b := by
    intro k
    induction k with
    | zero => exact fun a b hb hn => (h a b hb).elim id (fun e => absurd e hn)
    | succ k ih =>
      rintro a b ⟨c, hc, hb⟩ hn
      exact ⟨c, ih a c hc (fun e => by rw [e] at hb; simp at hb), (h c b hb).elim id (fun e => absurd e hn)⟩
  intro n k hr
  exact ha n k (key k n n hr (reach_out k n n hr))

/-- whoever waits, but one -/
def butE (o : Nat → List Nat) (t : Nat) : Nat → List Nat := fun a => if a = t then [] else o a

theorem but_all {o : Nat → List Nat} {t : Nat} (h : Acy (butE o t)) (ht : ∀ k, ¬ Reach o t k t) : Acy o := by
  have key : ∀ k a b, Reach o a k b → Reach (butE o t) a k b ∨ ((a = t ∨ ∃ i, Reach o a i t) ∧ ∃ i, Reach o t i b) := by
    intro k
    induction k with
    | zero =>
      intro a b hb
      by_cases e : a = t
      · subst e; exact .inr ⟨.inl rfl, 0, hb⟩
      · left
        show b ∈ butE o t a
        unfold butE
        rw [if_neg e]
        exact hb
    | succ k ih =>
      rintro a b ⟨c, hc, hb⟩
      by_cases e : c = t
      · subst e; exact .inr ⟨.inr ⟨k, hc⟩, 0, hb⟩
      · rcases ih a c hc with h1 | ⟨h1, i, h2⟩
        · left
          refine ⟨c, h1, ?_⟩
          unfold butE
          rw [if_neg e]
          exact hb
        · exact .inr ⟨h1, i + 1, c, h2, hb⟩
  have trans : ∀ k i a b c, Reach o a i b → Reach o b k c → ∃ j, Reach o a j c := by
    intro k
    induction k with
    | zero => exact fun i a b c h1 h2 => ⟨i + 1, b, h1, h2⟩
    | succ k ih =>
      rintro i a b c h1 ⟨d, hd, h2⟩
      obtain ⟨j, hj⟩ := ih i a b d h1 hd
      exact ⟨j + 1, d, hj, h2⟩
  intro n k hr
  rcases key k n n hr with h1 | ⟨h1, i, h2⟩
  · exact h n k h1
  · rcases h1 with e | ⟨j, h1⟩
    · subst e; exact ht i h2
    · obtain ⟨x, hx⟩ := trans j i t n t h2 h1
      exact ht x hx

theorem blk_mono {gs gs' : List Lk} {ah : List Rq} {l : Lk} (h : ∀ g ∈ gs, g ∈ gs') (ho : ofB gs' l.n = ofB gs l.n) (hb : blkB gs ah l ≠ []) : blkB gs' ah l ≠ [] := by
  have hu : upgB gs' l = upgB gs l := by unfold upgB; rw [ho]
  intro e
  apply hb
  unfold blkB at e ⊢
  rw [hu] at e
  have e1 := List.append_eq_nil_iff.1 e
  rw [List.append_eq_nil_iff]
  refine ⟨?_, e1.2⟩
  rw [List.map_eq_nil_iff] at e1 ⊢
  rw [List.filter_eq_nil_iff] at e1 ⊢
  exact fun g hg => e1.1 g (h g hg)

theorem of_snoc {gs : List Lk} {l : Lk} {n : Nat} (h : l.n ≠ n) : ofB (gs ++ [l]) n = ofB gs n := by
  unfold ofB
  rw [List.filter_append, List.filter_cons_of_neg (by simpa using h)]
  simp

theorem Dis.sub {a b : List Rq} (h : Dis b) (hs : a.Sublist b) : Dis a := List.Nodup.sublist (hs.map _) h

/-- what an advance leaves -/
theorem adv_spec : ∀ (rest : List Rq) (gs : List Lk) (ah ps : List Rq), Dis (ah ++ rest) →
    ((advB rest gs ah ps).2.1).Sublist (ah ++ rest) ∧ (∃ st, (advB rest gs ah ps).2.1 = ah ++ st) ∧ (∀ g ∈ gs, g ∈ (advB rest gs ah ps).1) ∧
    (∀ g ∈ (advB rest gs ah ps).1, g ∈ gs ∨ (∃ a ∈ rest, a.l = g) ∧ g.n ∉ ((advB rest gs ah ps).2.1).map (·.l.n)) ∧
    (∀ n ∈ ((advB rest gs ah ps).2.1).map (·.l.n), ofB (advB rest gs ah ps).1 n = ofB gs n) ∧
    (∀ pre r post, (advB rest gs ah ps).2.1 = pre ++ r :: post → ah.length ≤ pre.length → blkB (advB rest gs ah ps).1 pre r.l ≠ [])
  | [], gs, ah, ps, h => by
    unfold advB
    refine ⟨by simp, ⟨[], by simp⟩, fun g hg => hg, fun g hg => .inl hg, fun n _ => rfl, fun pre r post e hl => ?_⟩
    have := congrArg List.length e
    simp at this
    omega
  | r :: rest, gs, ah, ps, h => by
    unfold advB
    by_cases hb : (blkB gs ah r.l).length = 0
    · rw [if_pos hb]
      have hd : Dis (ah ++ rest) := h.sub ((List.Sublist.refl ah).append (List.sublist_cons_self r rest))
      obtain ⟨a1, a2, a3, a4, a5, a6⟩ := adv_spec rest (gs ++ [r.l]) ah (ps ++ [r]) hd
      have hr : r.l.n ∉ ((advB rest (gs ++ [r.l]) ah (ps ++ [r])).2.1).map (·.l.n) := fun hm => by
        have hm2 := (a1.map (·.l.n)).subset hm
        unfold Dis at h
        rw [List.map_append, List.map_cons, List.nodup_append] at h
        rw [List.map_append] at hm2
        rcases List.mem_append.1 hm2 with hm2 | hm2
        · exact h.2.2 _ hm2 _ (by simp) rfl
        · exact (List.nodup_cons.1 h.2.1).1 hm2
      refine ⟨a1.trans ((List.Sublist.refl ah).append (List.sublist_cons_self r rest)), a2, fun g hg => a3 g (by simp [hg]), fun g hg => ?_, fun n hn => ?_, a6⟩
      · rcases a4 g hg with h1 | ⟨⟨a, ha, he⟩, h2⟩
        · rcases List.mem_append.1 h1 with h1 | h1
          · exact .inl h1
          · rw [List.mem_singleton] at h1
            subst h1
            exact .inr ⟨⟨r, by simp, rfl⟩, hr⟩
        · exact .inr ⟨⟨a, by simp [ha], he⟩, h2⟩
      · rw [a5 n hn, of_snoc (fun e => hr (by rw [e]; exact hn))]
    · rw [if_neg hb]
      have hd : Dis ((ah ++ [r]) ++ rest) := by rw [List.append_assoc]; exact h
      obtain ⟨a1, ⟨st, a2⟩, a3, a4, a5, a6⟩ := adv_spec rest gs (ah ++ [r]) ps hd
      refine ⟨by rw [List.append_assoc] at a1; exact a1, ⟨r :: st, by rw [a2, List.append_assoc]; rfl⟩, a3, fun g hg => ?_, a5, fun pre q post e hl => ?_⟩
      · rcases a4 g hg with h1 | ⟨⟨a, ha, he⟩, h2⟩
        · exact .inl h1
        · exact .inr ⟨⟨a, by simp [ha], he⟩, h2⟩
      · by_cases hl2 : (ah ++ [r]).length ≤ pre.length
        · exact a6 pre q post e hl2
        · have hpl : pre.length = ah.length := by rw [List.length_append, List.length_singleton] at hl2; omega
          rw [a2, List.append_assoc] at e
          have e1 := List.append_inj e hpl.symm
          have e2 : r = q := by
            have := e1.2
            rw [List.singleton_append] at this
            exact (List.cons.inj this).1
          rw [← e1.1, ← e2]
          refine blk_mono a3 (a5 _ ?_) (fun e9 => hb (by rw [e9]; rfl))
          rw [a2]
          simp

end Go.Proofs.Ythiogpojccohgaa

/- What a release, what a request leaves of who waits for whom. -/
namespace Go.Proofs.Ythiogpojccohgaa
set_option maxRecDepth 20000
set_option linter.unusedVariables false
set_option linter.unusedSimpArgs false

/-- each that waits has to -/
def Stk (gs : List Lk) (qs : List Rq) : Prop := ∀ pre r post, qs = pre ++ r :: post → blkB gs pre r.l ≠ []

/-- who is there -/
def prsL (gs : List Lk) (qs : List Rq) : List Nat := gs.map (·.n) ++ qs.map (·.l.n)

theorem sub_split {pre post L : List Rq} {r : Rq} (h : (pre ++ r :: post).Sublist L) : ∃ p2 q2, L = p2 ++ r :: q2 ∧ ∀ c ∈ pre, c ∈ p2 := by
  obtain ⟨r1, r2, rfl, h1, h2⟩ := List.append_sublist_iff.1 h
  obtain ⟨s1, s2, rfl, h3, h4⟩ := List.cons_sublist_iff.1 h2
  obtain ⟨t1, t2, rfl⟩ := List.append_of_mem h3
  exact ⟨r1 ++ t1, t2 ++ s2, by simp, fun c hc => List.mem_append.2 (.inl (h1.subset hc))⟩

theorem waitL_out {gs : List Lk} {qs : List Rq} {n : Nat} (h : n ∉ qs.map (·.l.n)) : waitL gs qs n = [] := by
  by_cases e : waitL gs qs n = []
  · exact e
  · exact absurd (waitL_in e) h

theorem adv_len9 : ∀ (rest : List Rq) (gs : List Lk) (ah ps : List Rq), (advB rest gs ah ps).1.length + (advB rest gs ah ps).2.1.length = gs.length + ah.length + rest.length
  | [], gs, ah, ps => by unfold advB; simp
  | r :: rest, gs, ah, ps => by
    unfold advB
    split
    · rw [adv_len9]; simp; omega
    · rw [adv_len9]; simp; omega

structure RelS (gs : List Lk) (qs : List Rq) (v : Nat) (gs' : List Lk) (qs' : List Rq) : Prop where
  dis : Dis qs'
  stk : Stk gs' qs'
  edge : ∀ a, ∀ b ∈ waitL gs' qs' a, b ∈ waitL gs qs a ∨ waitL gs' qs' b = []
  wt : ∀ n ∈ qs'.map (·.l.n), n ∈ qs.map (·.l.n) ∧ n ≠ v
  prs : ∀ n ∈ prsL gs' qs', n ∈ prsL gs qs ∧ n ≠ v
  len : gs'.length + qs'.length ≤ gs.length + qs.length
  qlen : qs'.length ≤ qs.length
  less : v ∈ qs.map (·.l.n) → qs'.length + 1 ≤ qs.length

theorem rel_spec {gs : List Lk} {qs : List Rq} (v : Nat) (h : Dis qs) : RelS gs qs v (advB (lvB qs v) (rlB gs v) [] []).1 (advB (lvB qs v) (rlB gs v) [] []).2.1 := by
  have hd : Dis ([] ++ lvB qs v) := by
    rw [List.nil_append]
    exact h.sub (List.filter_sublist)
  obtain ⟨a1, _, a3, a4, a5, a6⟩ := adv_spec (lvB qs v) (rlB gs v) [] [] hd
  have hl := adv_len9 (lvB qs v) (rlB gs v) [] []
  rw [List.nil_append] at a1
  obtain ⟨gs', hg⟩ : ∃ g, (advB (lvB qs v) (rlB gs v) [] []).1 = g := ⟨_, rfl⟩
  obtain ⟨qs', hq⟩ : ∃ q, (advB (lvB qs v) (rlB gs v) [] []).2.1 = q := ⟨_, rfl⟩
  rw [hg, hq] at a4 a5 a6 hl
  rw [hq] at a1
  rw [hg] at a3
  rw [hg, hq]
  have hsub : qs'.Sublist qs := a1.trans (List.filter_sublist)
  have hv : ∀ q ∈ qs', q.l.n ≠ v := fun q hq9 => by
    have := (List.mem_filter.1 (a1.subset hq9)).2
    simpa using this
  have hD : Dis qs' := h.sub hsub
  have hlv : (lvB qs v).length ≤ qs.length := List.length_filter_le _ _
  have hrl : (rlB gs v).length ≤ gs.length := List.length_filter_le _ _
  refine ⟨hD, fun pre r post e => a6 pre r post e (Nat.zero_le _), fun a b hb => ?_, fun n hn => ?_, fun n hn => ?_, by simp at hl; omega, hsub.length_le, fun hvq => ?_⟩
  · obtain ⟨pre, r, post, e, rfl, hx⟩ := (waitL_iff hD a b).1 hb
    subst e
    obtain ⟨p2, q2, e2, hp⟩ := sub_split hsub
    have hrv : r.l.n ≠ v := hv r (by simp)
    have hof : ofB gs' r.l.n = ofB gs r.l.n := by
      rw [a5 r.l.n (by simp)]
      unfold ofB rlB
      rw [List.filter_filter]
      refine List.filter_congr fun g hg9 => ?_
      by_cases e9 : g.n = r.l.n
      · simp [e9, hrv]
      · simp [e9]
    have hup : upgB gs' r.l = upgB gs r.l := by unfold upgB; rw [hof]
    unfold blkB at hx
    rcases List.mem_append.1 hx with hx | hx
    · obtain ⟨g, hg9, rfl⟩ := List.mem_map.1 hx
      have hg8 := List.mem_filter.1 hg9
      rcases a4 g hg8.1 with h1 | ⟨_, h1⟩
      · left
        rw [waitL_iff h]
        refine ⟨p2, r, q2, e2, rfl, ?_⟩
        unfold blkB
        exact List.mem_append.2 (.inl (List.mem_map.2 ⟨g, List.mem_filter.2 ⟨(List.mem_filter.1 h1).1, hg8.2⟩, rfl⟩))
      · exact .inr (waitL_out h1)
    · left
      rw [waitL_iff h]
      refine ⟨p2, r, q2, e2, rfl, ?_⟩
      unfold blkB
      rw [hup] at hx
      refine List.mem_append.2 (.inr ?_)
      split at hx
      · simp at hx
      · rename_i hn
        rw [if_neg hn]
        obtain ⟨c, hc, rfl⟩ := List.mem_map.1 hx
        have hc8 := List.mem_filter.1 hc
        exact List.mem_map.2 ⟨c, List.mem_filter.2 ⟨hp c hc8.1, hc8.2⟩, rfl⟩
  · obtain ⟨q, hq9, rfl⟩ := List.mem_map.1 hn
    exact ⟨List.mem_map.2 ⟨q, hsub.subset hq9, rfl⟩, hv q hq9⟩
  · unfold prsL at hn ⊢
    rcases List.mem_append.1 hn with hn | hn
    · obtain ⟨g, hg9, rfl⟩ := List.mem_map.1 hn
      rcases a4 g hg9 with h1 | ⟨⟨a, ha, e9⟩, _⟩
      · have h2 := List.mem_filter.1 h1
        exact ⟨List.mem_append.2 (.inl (List.mem_map.2 ⟨g, h2.1, rfl⟩)), by simpa using h2.2⟩
      · have h2 := List.mem_filter.1 ha
        rw [← e9]
        exact ⟨List.mem_append.2 (.inr (List.mem_map.2 ⟨a, h2.1, rfl⟩)), by simpa using h2.2⟩
    · obtain ⟨q, hq9, rfl⟩ := List.mem_map.1 hn
      exact ⟨List.mem_append.2 (.inr (List.mem_map.2 ⟨q, hsub.subset hq9, rfl⟩)), hv q hq9⟩
  · have h1 := a1.length_le
    have h2 : (lvB qs v).length + 1 ≤ qs.length := by
      obtain ⟨q, hq9, e9⟩ := List.mem_map.1 hvq
      have h3 : (lvB qs v).length < qs.length := by
        unfold lvB
        rw [← List.countP_eq_length_filter]
        have h4 := List.countP_le_length (p := fun q : Rq => !decide (q.l.n = v)) (l := qs)
        rcases Nat.lt_or_ge (List.countP (fun q : Rq => !decide (q.l.n = v)) qs) qs.length with h5 | h5
        · exact h5
        · exfalso
          have h6 : List.countP (fun q : Rq => !decide (q.l.n = v)) qs = qs.length := by omega
          have := List.countP_eq_length.1 h6 q hq9
          simp [e9] at this
      omega
    omega

theorem RelS.acy {gs gs' : List Lk} {qs qs' : List Rq} {v : Nat} (h : RelS gs qs v gs' qs') (ha : Acy (waitL gs qs)) : Acy (waitL gs' qs') := acy_ext h.edge ha

theorem RelS.but {gs gs' : List Lk} {qs qs' : List Rq} {v t : Nat} (h : RelS gs qs v gs' qs') (ha : Acy (butE (waitL gs qs) t)) : Acy (butE (waitL gs' qs') t) := by
  refine acy_ext (fun a b hb => ?_) ha
  unfold butE at hb ⊢
  by_cases e : a = t
  · rw [if_pos e] at hb; simp at hb
  · rw [if_neg e] at hb ⊢
    rcases h.edge a b hb with h1 | h1
    · exact .inl h1
    · right
      split
      · rfl
      · exact h1

/-- what a request leaves -/
theorem ask_spec {mo ea : Int} {gs : List Lk} {qs : List Rq} (n : Nat) (f t : List UInt8) (m : UInt8) (x y x' y' : Value) (u : Nat) (hd : Dis qs) (hs : Stk gs qs) (ha : Acy (waitL gs qs)) :
    Dis (askB mo ea gs qs ⟨n, f, t, m, x, y⟩ ⟨n, f, t, m, x', y'⟩ u).2.2 ∧ Stk (askB mo ea gs qs ⟨n, f, t, m, x, y⟩ ⟨n, f, t, m, x', y'⟩ u).2.1 (askB mo ea gs qs ⟨n, f, t, m, x, y⟩ ⟨n, f, t, m, x', y'⟩ u).2.2 ∧
    Acy (butE (waitL (askB mo ea gs qs ⟨n, f, t, m, x, y⟩ ⟨n, f, t, m, x', y'⟩ u).2.1 (askB mo ea gs qs ⟨n, f, t, m, x, y⟩ ⟨n, f, t, m, x', y'⟩ u).2.2) n) ∧
    ((askB mo ea gs qs ⟨n, f, t, m, x, y⟩ ⟨n, f, t, m, x', y'⟩ u).1 ≠ 3 → Acy (waitL (askB mo ea gs qs ⟨n, f, t, m, x, y⟩ ⟨n, f, t, m, x', y'⟩ u).2.1 (askB mo ea gs qs ⟨n, f, t, m, x, y⟩ ⟨n, f, t, m, x', y'⟩ u).2.2)) ∧
    (∀ z ∈ prsL (askB mo ea gs qs ⟨n, f, t, m, x, y⟩ ⟨n, f, t, m, x', y'⟩ u).2.1 (askB mo ea gs qs ⟨n, f, t, m, x, y⟩ ⟨n, f, t, m, x', y'⟩ u).2.2, z ∈ prsL gs qs ∨ z = n) ∧
    (askB mo ea gs qs ⟨n, f, t, m, x, y⟩ ⟨n, f, t, m, x', y'⟩ u).2.1.length + (askB mo ea gs qs ⟨n, f, t, m, x, y⟩ ⟨n, f, t, m, x', y'⟩ u).2.2.length ≤ gs.length + qs.length + 1 := by
  have hbut : ∀ o : Nat → List Nat, Acy o → Acy (butE o n) := fun o h => acy_ext (fun a b hb => by
    unfold butE at hb
    split at hb
    · simp at hb
    · exact .inl hb) h
  have same : ∀ c : Int, Dis ((c, gs, qs) : Int × List Lk × List Rq).2.2 ∧ Stk ((c, gs, qs) : Int × List Lk × List Rq).2.1 ((c, gs, qs) : Int × List Lk × List Rq).2.2 ∧ Acy (butE (waitL gs qs) n) ∧ (c ≠ 3 → Acy (waitL gs qs)) ∧ (∀ z ∈ prsL gs qs, z ∈ prsL gs qs ∨ z = n) ∧ gs.length + qs.length ≤ gs.length + qs.length + 1 := fun c => ⟨hd, hs, hbut _ ha, fun _ => ha, fun z hz => .inl hz, by omega⟩
  unfold askB
  split
  · exact same 9
  · split
    · exact same 4
    · rename_i hnq
      have hnq' : n ∉ qs.map (·.l.n) := fun h => by
        obtain ⟨q, hq, e⟩ := List.mem_map.1 h
        exact hnq (List.any_eq_true.2 ⟨q, hq, decide_eq_true e⟩)
      split
      · exact same 0
      · split
        · exact same 7
        · split
          · -- granted
            have hno : ∀ r ∈ qs, (⟨n, f, t, m, x', y'⟩ : Lk).n ≠ r.l.n := fun r hr e => hnq' (List.mem_map.2 ⟨r, hr, e.symm⟩)
            have hac : Acy (waitL (gs ++ [⟨n, f, t, m, x', y'⟩]) qs) := by
              refine acy_ext (fun a b hb => ?_) ha
              obtain ⟨pre, r, post, e, rfl, hx⟩ := (waitL_iff hd a b).1 hb
              have hrq : r ∈ qs := by rw [e]; simp
              have hup : upgB (gs ++ [⟨n, f, t, m, x', y'⟩]) r.l = upgB gs r.l := by unfold upgB; rw [of_snoc (hno r hrq)]
              unfold blkB at hx
              rw [hup, List.filter_append, List.map_append] at hx
              rcases List.mem_append.1 hx with hx | hx
              · rcases List.mem_append.1 hx with hx | hx
                · left
                  rw [waitL_iff hd]
                  exact ⟨pre, r, post, e, rfl, List.mem_append.2 (.inl hx)⟩
                · right
                  obtain ⟨g, hg, rfl⟩ := List.mem_map.1 hx
                  have hg2 := (List.mem_filter.1 hg).1
                  rw [List.mem_singleton] at hg2
                  subst hg2
                  exact waitL_out hnq'
              · left
                rw [waitL_iff hd]
                exact ⟨pre, r, post, e, rfl, List.mem_append.2 (.inr hx)⟩
            refine ⟨hd, fun pre r post e => ?_, hbut _ hac, fun _ => hac, fun z hz => ?_, by simp; omega⟩
            · have e : qs = pre ++ r :: post := e
              exact blk_mono (fun g hg => by simp [hg]) (of_snoc (hno r (by rw [e]; simp))) (hs pre r post e)
            · unfold prsL at hz ⊢
              simp only [List.map_append, List.map_cons, List.map_nil, List.mem_append, List.mem_singleton] at hz ⊢
              rcases hz with (hz | hz) | hz
              · exact .inl (.inl hz)
              · exact .inr hz
              · exact .inl (.inr hz)
          · -- it waits
            rename_i hbk
            have hd2 : Dis (qs ++ [⟨⟨n, f, t, m, x', y'⟩, u⟩]) := by
              unfold Dis
              rw [List.map_append, List.nodup_append]
              refine ⟨hd, by simp, fun a ha9 b hb e => ?_⟩
              simp at hb
              exact hnq' (by rw [← hb, ← e]; exact ha9)
            refine ⟨hd2, fun pre r post e => ?_, ?_, fun h => absurd rfl h, fun z hz => ?_, by simp; omega⟩
            · have e : qs ++ [⟨⟨n, f, t, m, x', y'⟩, u⟩] = pre ++ r :: post := e
              rcases List.eq_nil_or_concat post with h0 | ⟨p2, z, h0⟩
              · subst h0
                have e1 := List.append_inj' e rfl
                have e2 : (⟨⟨n, f, t, m, x', y'⟩, u⟩ : Rq) = r := by simpa using e1.2
                rw [← e1.1, ← e2]
                exact fun e9 => hbk (by rw [show blkB gs qs ⟨n, f, t, m, x, y⟩ = blkB gs qs ⟨n, f, t, m, x', y'⟩ from rfl, e9]; rfl)
              · subst h0
                have e1 : qs ++ [⟨⟨n, f, t, m, x', y'⟩, u⟩] = (pre ++ r :: p2) ++ [z] := by rw [e]; simp
                have e2 := List.append_inj' e1 rfl
                exact hs pre r p2 e2.1
            · refine acy_ext (fun a b hb => ?_) ha
              unfold butE at hb
              split at hb
              · simp at hb
              · rename_i han
                obtain ⟨pre, r, post, e, rfl, hx⟩ := (waitL_iff hd2 a b).1 hb
                left
                rcases List.eq_nil_or_concat post with h0 | ⟨p2, z, h0⟩
                · subst h0
                  have e1 := List.append_inj' e rfl
                  have e2 : (⟨⟨n, f, t, m, x', y'⟩, u⟩ : Rq) = r := by simpa using e1.2
                  rw [← e2] at han
                  exact absurd rfl han
                · subst h0
                  have e1 : qs ++ [⟨⟨n, f, t, m, x', y'⟩, u⟩] = (pre ++ r :: p2) ++ [z] := by rw [e]; simp
                  have e2 := List.append_inj' e1 rfl
                  rw [waitL_iff hd]
                  exact ⟨pre, r, p2, e2.1, rfl, hx⟩
            · unfold prsL at hz ⊢
              simp only [List.map_append, List.map_cons, List.map_nil, List.mem_append, List.mem_singleton] at hz ⊢
              rcases hz with hz | hz | hz
              · exact .inl (.inl hz)
              · exact .inl (.inr hz)
              · exact .inr hz

/-- where each leads on there is a way round -/
theorem sink {E : Nat → List Nat} {L : List Nat} (h0 : L ≠ []) (h : ∀ a ∈ L, ∃ b, b ∈ E a ∧ b ∈ L) : ∃ n k, Reach E n k n := by
  obtain ⟨a0, ha0⟩ := List.exists_mem_of_ne_nil L h0
  have hch : ∃ p : Nat → Nat, p 0 = a0 ∧ ∀ i, p i ∈ L ∧ p (i + 1) ∈ E (p i) := by
    have hs : ∀ a : {a // a ∈ L}, ∃ b : {b // b ∈ L}, b.1 ∈ E a.1 := fun a => by
      obtain ⟨b, h1, h2⟩ := h a.1 a.2
      exact ⟨⟨b, h2⟩, h1⟩
    let g : {a // a ∈ L} → {a // a ∈ L} := fun a => Classical.choose (hs a)
    have hg : ∀ a, (g a).1 ∈ E a.1 := fun a => Classical.choose_spec (hs a)
    let p : Nat → {a // a ∈ L} := fun i => Nat.rec ⟨a0, ha0⟩ (fun _ a => g a) i
    exact ⟨fun i => (p i).1, rfl, fun i => ⟨(p i).2, hg (p i)⟩⟩
  obtain ⟨p, _, hp⟩ := hch
  have hpath : ∀ d i, Reach E (p i) d (p (i + d + 1)) := by
    intro d
    induction d with
    | zero => exact fun i => (hp i).2
    | succ d ih => exact fun i => ⟨p (i + d + 1), ih i, by have := (hp (i + d + 1)).2; rwa [show i + d + 1 + 1 = i + (d + 1) + 1 by omega] at this⟩
  by_cases hn : ((List.range (L.length + 1)).map p).Nodup
  · exfalso
    have := sub_len _ L hn (fun x hx => by
      obtain ⟨i, _, rfl⟩ := List.mem_map.1 hx
      exact (hp i).1)
    rw [List.length_map, List.length_range] at this
    omega
  · unfold List.Nodup at hn
    rw [List.pairwise_iff_getElem] at hn
    have hex : ∃ i j, i < j ∧ p i = p j := by
      apply Classical.byContradiction
      intro hno
      apply hn
      intro i j hi hj hij
      simp only [List.getElem_map, List.getElem_range]
      exact fun e => hno ⟨i, j, hij, e⟩
    obtain ⟨i, j, hij, e⟩ := hex
    refine ⟨p i, j - i - 1, ?_⟩
    have := hpath (j - i - 1) i
    rw [show i + (j - i - 1) + 1 = j by omega, ← e] at this
    exact this

/-- somebody who waits for nobody holds up another one -/
theorem holder {gs : List Lk} {qs : List Rq} (hd : Dis qs) (hs : Stk gs qs) (ha : Acy (waitL gs qs)) (h0 : qs ≠ []) : ∃ b, b ∈ prsL gs qs ∧ b ∉ qs.map (·.l.n) := by
  apply Classical.byContradiction
  intro hno
  obtain ⟨n, k, hr⟩ := sink (E := waitL gs qs) (L := qs.map (·.l.n)) (by simpa using h0) (fun a ha9 => by
    obtain ⟨r, hr, rfl⟩ := List.mem_map.1 ha9
    obtain ⟨pre, post, rfl⟩ := List.append_of_mem hr
    have h1 := hs pre r post rfl
    obtain ⟨b, hb⟩ := List.exists_mem_of_ne_nil _ h1
    have hw : b ∈ waitL gs (pre ++ r :: post) r.l.n := by rw [waitL_split hd]; exact hb
    refine ⟨b, hw, ?_⟩
    apply Classical.byContradiction
    intro hb2
    exact hno ⟨b, waitL_mem hw, hb2⟩)
  exact ha n k hr

/-- how many of these are there -/
def prsN (S : List Nat) (gs : List Lk) (qs : List Rq) : Nat := (S.filter fun n => decide (n ∈ prsL gs qs)).length

theorem prsN_less {S : List Nat} {gs gs' : List Lk} {qs qs' : List Rq} {b : Nat} (h : ∀ n ∈ prsL gs' qs', n ∈ prsL gs qs) (hS : b ∈ S) (h1 : b ∈ prsL gs qs) (h2 : b ∉ prsL gs' qs') : prsN S gs' qs' + 1 ≤ prsN S gs qs := by
  unfold prsN
  induction S with
  | nil => simp at hS
  | cons a r ih =>
    have hle : (r.filter fun n => decide (n ∈ prsL gs' qs')).length ≤ (r.filter fun n => decide (n ∈ prsL gs qs)).length := by
      rw [← List.countP_eq_length_filter, ← List.countP_eq_length_filter]
      exact List.countP_mono_left fun x _ hx => by simpa using h x (by simpa using hx)
    rw [List.filter_cons, List.filter_cons]
    by_cases e : a = b
    · subst e
      rw [if_neg (by simpa using h2), if_pos (by simpa using h1), List.length_cons]
      omega
    · have hr : b ∈ r := by
        rcases List.mem_cons.1 hS with e9 | e9
        · exact absurd e9.symm e
        · exact e9
      have := ih hr
      by_cases e1 : a ∈ prsL gs' qs'
      · rw [if_pos (by simpa using e1), if_pos (by simpa using h a e1), List.length_cons, List.length_cons]
        omega
      · rw [if_neg (by simpa using e1)]
        by_cases e2 : a ∈ prsL gs qs
        · rw [if_pos (by simpa using e2), List.length_cons]; omega
        · rw [if_neg (by simpa using e2)]; exact this

end Go.Proofs.Ythiogpojccohgaa

/- A table that keeps off some blocks: Ask, Release. -/
namespace Go.Proofs.Ythiogpojccohgaa
set_option maxRecDepth 100000
open Go.RowKit Go.Maps
set_option linter.unusedVariables false
set_option linter.unusedSimpArgs false

/-- a table of which every block lies from B on, and none is of X -/
def LkX (B : Nat) (X : Nat → Prop) (w : World) (t : Nat) (mo ea : Int) (gs : List Lk) (qs : List Rq) : Prop :=
  B ≤ w.heap.size ∧ ∃ G, LkP G w t mo ea gs qs ∧ ∀ b, G b → B ≤ b ∧ ¬ X b

theorem LkX.below {B : Nat} {X : Nat → Prop} {w w' : World} {t : Nat} {mo ea : Int} {gs : List Lk} {qs : List Rq} (h : LkX B X w t mo ea gs qs) (hb : Below w.heap.size w w') : LkX B X w' t mo ea gs qs := by
  obtain ⟨hB, G, h, hG⟩ := h
  exact ⟨Nat.le_trans hB hb.size, G, h.below hb, hG⟩

theorem LkX.keeps {B : Nat} {F X : Nat → Prop} {w w' : World} {t : Nat} {mo ea : Int} {gs : List Lk} {qs : List Rq} (h : LkX B X w t mo ea gs qs) (hk : Keeps F w w') (hF : ∀ b, F b → X b) : LkX B X w' t mo ea gs qs := by
  obtain ⟨hB, G, h, hG⟩ := h
  exact ⟨Nat.le_trans hB hk.size, G, h.keeps hk (fun b hb hf => (hG b hb).2 (hF b hf)), hG⟩

theorem LkX.q {B : Nat} {X : Nat → Prop} {w : World} {t : Nat} {mo ea : Int} {gs : List Lk} {qs : List Rq} (h : LkX B X w t mo ea gs qs) : LkQ B w t mo ea gs qs := by
  obtain ⟨hB, G, h, hG⟩ := h
  exact ⟨hB, G, h, fun b hb => (hG b hb).1⟩

/-- it keeps off what is newer -/
theorem LkX.off {B : Nat} {X Y : Nat → Prop} {w : World} {t : Nat} {mo ea : Int} {gs : List Lk} {qs : List Rq} (h : LkX B X w t mo ea gs qs) (hY : ∀ b, Y b → X b ∨ w.heap.size ≤ b) : LkX B Y w t mo ea gs qs := by
  obtain ⟨hB, G, h, hG⟩ := h
  exact ⟨hB, G, h, fun b hb => ⟨(hG b hb).1, fun hy => (hY b hy).elim (hG b hb).2 (fun h9 => by have := h.lt b hb; omega)⟩⟩

theorem LkX.qu {B : Nat} {X : Nat → Prop} {w : World} {t : Nat} {mo ea : Int} {gs : List Lk} {qs : List Rq} (h : LkX B X w t mo ea gs qs) : ∀ q ∈ qs, q.l.n < 18446744073709551616 ∧ q.u < 18446744073709551616 := by
  obtain ⟨_, G, ⟨gv, qv, h⟩, _⟩ := h
  exact fun q hq => ⟨(h.oq q hq).2.2.1, h.nu q hq⟩

theorem askx_any (B : Nat) (X : Nat → Prop) (w : World) (t : Nat) (mo ea : Int) (gs : List Lk) (qs : List Rq) (n : Nat) (m : UInt8) (x y : Value) (f t2 : List UInt8) (u : Nat) (h : LkX B X w t mo ea gs qs) (hX : ∀ b, X b → b < w.heap.size) (hn : gs.length + qs.length ≤ 900) (hx : Rd w x f) (hy : Rd w y t2) (hln : n < 18446744073709551616) (hun : u < 18446744073709551616) :
    Calls Try.prog 9 #[.pointer (some ⟨t, 0, none⟩), lkV (n : Int) x y (m.toNat : Int), .int .u64 (u : Int)] w fun e w' => ∃ x' y', e = .returned (.int .i64 (askB mo ea gs qs ⟨n, f, t2, m, x, y⟩ ⟨n, f, t2, m, x', y'⟩ u).1) ∧ Keeps (fun b => B ≤ b ∧ ¬ X b) w w' ∧ LkX B X w' t mo ea (askB mo ea gs qs ⟨n, f, t2, m, x, y⟩ ⟨n, f, t2, m, x', y'⟩ u).2.1 (askB mo ea gs qs ⟨n, f, t2, m, x, y⟩ ⟨n, f, t2, m, x', y'⟩ u).2.2 := by
  obtain ⟨hB, G, h, hG⟩ := h
  refine (ask_any G w t mo ea gs qs ⟨n, f, t2, m, x, y⟩ u h hn hx hy hln hun).mono ?_
  rintro e w' ⟨⟨n', f', t', m', x', y'⟩, ⟨h1, h2, h3, h4⟩, he, hk, G', hp, hG'⟩
  simp only at h1 h2 h3 h4
  subst h1 h2 h3 h4
  exact ⟨x', y', he, hk.mono hG, Nat.le_trans hB hk.size, G', hp, fun b hb => (hG' b hb).elim (hG b) (fun h9 => ⟨Nat.le_trans hB h9, fun hx9 => by have := hX b hx9; omega⟩)⟩

theorem relx_any (B : Nat) (X : Nat → Prop) (w : World) (t : Nat) (mo ea : Int) (gs : List Lk) (qs : List Rq) (n : Nat) (h : LkX B X w t mo ea gs qs) (hX : ∀ b, X b → b < w.heap.size) (hn : gs.length + qs.length ≤ 1000) :
    Calls Try.prog 8 #[.pointer (some ⟨t, 0, none⟩), .int .u64 (n : Int)] w fun e w' => ∃ v, e = .returned v ∧ RdU w' v ((advB (lvB qs n) (rlB gs n) [] []).2.2.map (·.l.n)) ∧ Keeps (fun b => B ≤ b ∧ ¬ X b) w w' ∧ LkX B X w' t mo ea (advB (lvB qs n) (rlB gs n) [] []).1 (advB (lvB qs n) (rlB gs n) [] []).2.1 := by
  obtain ⟨hB, G, h, hG⟩ := h
  refine (release_any G w t mo ea gs qs n h hn).mono ?_
  rintro e w' ⟨v, he, h1, hk, G', hp, hG'⟩
  exact ⟨v, he, h1.rd, hk.mono hG, Nat.le_trans hB hk.size, G', hp, fun b hb => (hG' b hb).elim (hG b) (fun h9 => ⟨Nat.le_trans hB h9, fun hx9 => by have := hX b hx9; omega⟩)⟩

end Go.Proofs.Ythiogpojccohgaa

/- (*locks.Table).Queue. -/
namespace Go.Proofs.Ythiogpojccohgaa
set_option maxRecDepth 100000
open Go.RowKit Go.Maps
set_option linter.unusedVariables false
set_option linter.unusedSimpArgs false

theorem queue_any (G : Nat → Prop) (w : World) (t : Nat) (mo ea : Int) (gs : List Lk) (qs : List Rq) (h : LkP G w t mo ea gs qs) (hn : qs.length ≤ 100000) :
    Calls Try.prog 11 #[.pointer (some ⟨t, 0, none⟩)] w fun e w' => ∃ v, e = .returned v ∧ OwnU w.heap.size w' v (qs.map (·.l.n)) ∧ Below w.heap.size w w' := by
  have he := eqT t
  obtain ⟨gv, qv, h⟩ := h
  have hw := whose_any w qv qs h.rq (fun q hq => (h.oq q hq).s) hn
  obtain ⟨qa, qc, eq, _⟩ := row_slice9 h.rq
  subst eq
  have c3 := h.bx.c3
  obtain ⟨NQ, hNQ⟩ : ∃ N, qs.length = N := ⟨_, rfl⟩
  rw [hNQ] at c3 hw
  clear h hNQ hn
  go_enter Try.func11, Try.ntmps11
  go_wp2_with fail
  refine hw.mono ?_
  rintro e w1 ⟨v, rfl, hv, hb1⟩
  have HV : Hid (OwnU w.heap.size w1 v (qs.map (·.l.n)) ∧ Below w.heap.size w w1) := ⟨hv, hb1⟩
  clear hw hv hb1
  go_wp2
  go_ret
  exact ⟨v, rfl, HV.out.1, HV.out.2⟩

theorem queueq_any (B : Nat) (w : World) (t : Nat) (mo ea : Int) (gs : List Lk) (qs : List Rq) (h : LkQ B w t mo ea gs qs) (hn : qs.length ≤ 100000) :
    Calls Try.prog 11 #[.pointer (some ⟨t, 0, none⟩)] w fun e w' => ∃ v, e = .returned v ∧ OwnU w.heap.size w' v (qs.map (·.l.n)) ∧ Below w.heap.size w w' := by
  obtain ⟨_, G, h, _⟩ := h
  exact queue_any G w t mo ea gs qs h hn

end Go.Proofs.Ythiogpojccohgaa

/- (*locks.Table).Waits. -/
namespace Go.Proofs.Ythiogpojccohgaa
set_option maxRecDepth 100000
open Go.RowKit Go.Maps
set_option linter.unusedVariables false
set_option linter.unusedSimpArgs false

theorem idxB_lt {α : Type} (p : α → Bool) (l : List α) (h : 0 ≤ idxB p l) : ∃ j, j < l.length ∧ idxB p l = (j : Int) := by
  unfold idxB at h ⊢
  cases h9 : l.findIdx? p with
  | none => rw [h9] at h; simp only at h; omega
  | some i =>
    obtain ⟨h1, _⟩ := List.findIdx?_eq_some_iff_getElem.1 h9
    exact ⟨i, h1, rfl⟩

/-- what Waits answers -/
def WtPost (w : World) (r : Bool) (e : Ending) (w' : World) : Prop :=
  ∃ (n m : Int) (a1 a2 : Option Addr) (l1 c1 l2 c2 : Nat), e = .returned (.tuple #[.agg #[.int .u64 n, .slice a1 l1 c1, .slice a2 l2 c2, .int .u8 m], .bool r]) ∧ Below w.heap.size w w'

set_option maxHeartbeats 2000000 in
theorem waits_any (G : Nat → Prop) (w : World) (t : Nat) (mo ea : Int) (gs : List Lk) (qs : List Rq) (n : Nat) (h : LkP G w t mo ea gs qs) (hn : qs.length ≤ 1000) :
    Calls Try.prog 13 #[.pointer (some ⟨t, 0, none⟩), .int .u64 (n : Int)] w (WtPost w (qs.any fun q => decide (q.l.n = n))) := by
  have he := eqT t
  obtain ⟨gv, qv, h⟩ := h
  have HL : Hid (LkAt G w t mo ea gs qs gv qv) := h
  have hb0 := below_box4 w (.cells #[.int .u64 0, .slice none 0 0, .slice none 0 0, .int .u8 0] 32)
  have HB0 : Hid (Below w.heap.size w (w.alloc (.cells #[.int .u64 0, .slice none 0 0, .slice none 0 0, .int .u8 0] 32))) := hb0
  have BX : Hid (Box4f (w.alloc (.cells #[.int .u64 0, .slice none 0 0, .slice none 0 0, .int .u8 0] 32)) w.heap.size (.int .u64 0) (.slice none 0 0) (.slice none 0 0) (.int .u8 0)) := box4f_new w _ _ _ _ _
  have hpl := place_any G _ t mo ea gs qs gv qv n (h.below hb0) (by omega)
  have HZ : Hid (decide (0 ≤ idxB (fun q : Rq => decide (q.l.n = n)) qs) = (qs.any fun q => decide (q.l.n = n)) ∧ (0 ≤ idxB (fun q : Rq => decide (q.l.n = n)) qs → ∃ j, j < qs.length ∧ idxB (fun q : Rq => decide (q.l.n = n)) qs = (j : Int))) := ⟨idxB_any _ _, idxB_lt _ _⟩
  obtain ⟨z, hz⟩ : ∃ z, idxB (fun q : Rq => decide (q.l.n = n)) qs = z := ⟨_, rfl⟩
  obtain ⟨r, hr⟩ : ∃ r, (qs.any fun q => decide (q.l.n = n)) = r := ⟨_, rfl⟩
  rw [hz, hr] at HZ
  rw [hz] at hpl
  rw [hr]
  clear h hb0 hz hr
  go_enter Try.func13, Try.ntmps13
  go_wp2_with fail
  refine hpl.mono ?_
  rintro e w2 ⟨rfl, hb2⟩
  have HB2 : Hid (Below w.heap.size w w2) := bsplit HB0.out hb2
  have BX2 : Hid (Box4f w2 w.heap.size (.int .u64 0) (.slice none 0 0) (.slice none 0 0) (.int .u8 0)) := BX.out.below hb2 (Nat.le_refl _)
  obtain ⟨⟨k0, k1, k2, k3⟩, j0, j1, j2, j3⟩ := BX2.out
  clear hpl hb2
  by_cases h0 : 0 ≤ z
  · obtain ⟨j, hj, rfl⟩ := HZ.out.2 h0
    have hr : r = true := by rw [← HZ.out.1]; exact decide_eq_true h0
    subst hr
    have hat := HL.out.below HB2.out
    have c3 := hat.bx.c3
    obtain ⟨b, c, eq, _, q0, q1, q2, q3, q4⟩ := hat.rq.at j hj
    have hok := hat.oq qs[j] (List.getElem_mem hj)
    subst eq
    obtain ⟨q, hq⟩ : ∃ q, qs[j] = q := ⟨_, rfl⟩
    rw [hq] at q0 q1 q2 q3 hok
    obtain ⟨⟨x1, x2, x3, ex⟩, ⟨y1, y2, y3, ey⟩⟩ := hok.s
    have hap := apart_any w2 q.l.x q.l.y q.l.f q.l.t (q.l.n : Int) (q.l.m.toNat : Int) hok.1.rd hok.2.1.rd hok.2.2.2.1 hok.2.2.2.2
    rw [ex, ey] at hap
    rw [ex] at q1
    rw [ey] at q2
    obtain ⟨gn, hgn⟩ : ∃ z : Int, (q.l.n : Int) = z := ⟨_, rfl⟩
    obtain ⟨gm, hgm⟩ : ∃ z : Int, (q.l.m.toNat : Int) = z := ⟨_, rfl⟩
    rw [hgn, hgm] at hap
    rw [hgn] at q0
    rw [hgm] at q3
    obtain ⟨N, hN⟩ : ∃ N, qs.length = N := ⟨_, rfl⟩
    rw [hN] at c3 hj
    unfold lkV at hap
    clear hat hok hq ex ey hgn hgm hN q4
    go_wp2_with fail
    refine hap.mono ?_
    rintro e w3 ⟨x', y', rfl, ox, oy, hb3⟩
    obtain ⟨p1, p3, ep⟩ := ox.rd.len
    obtain ⟨r1, r3, er⟩ := oy.rd.len
    obtain ⟨fl, hfl⟩ : ∃ z, q.l.f.length = z := ⟨_, rfl⟩
    obtain ⟨tl, htl⟩ : ∃ z, q.l.t.length = z := ⟨_, rfl⟩
    rw [hfl] at ep
    rw [htl] at er
    subst ep er
    have HB3 : Hid (Below w.heap.size w w3) := bsplit HB2.out hb3
    have BX3 := BX2.out.below hb3 (Nat.le_refl _)
    clear hap ox oy hb3 k0 k1 k2 k3 j0 j1 j2 j3 q0 q1 q2 q3 c3 hfl htl
    obtain ⟨⟨k0, k1, k2, k3⟩, j0, j1, j2, j3⟩ := BX3
    go_wp2
    refine bodyPost_ret (v := .tuple #[.agg #[.int .u64 gn, .slice p1 fl p3, .slice r1 tl r3, .int .u8 gm], .bool true]) (by simp [results, Try.results13, go_sem, k0, k1, k2, k3]) rfl ⟨_, _, _, _, _, _, _, _, rfl, below_store4 HB3.out (Nat.le_refl _) _ _ _ _⟩
  · have hr : r = false := by rw [← HZ.out.1]; exact decide_eq_false h0
    subst hr
    go_wp2
    refine bodyPost_ret (v := .tuple #[.agg #[.int .u64 0, .slice none 0 0, .slice none 0 0, .int .u8 0], .bool false]) (by simp [results, Try.results13, go_sem, k0, k1, k2, k3]) rfl ⟨_, _, _, _, _, _, _, _, rfl, below_store4 HB2.out (Nat.le_refl _) _ _ _ _⟩

/-- by its blocks -/
theorem waitsq_any (B : Nat) (w : World) (t : Nat) (mo ea : Int) (gs : List Lk) (qs : List Rq) (n : Nat) (h : LkQ B w t mo ea gs qs) (hn : qs.length ≤ 1000) :
    Calls Try.prog 13 #[.pointer (some ⟨t, 0, none⟩), .int .u64 (n : Int)] w (WtPost w (qs.any fun q => decide (q.l.n = n))) := by
  obtain ⟨_, G, h, _⟩ := h
  exact waits_any G w t mo ea gs qs n h hn

end Go.Proofs.Ythiogpojccohgaa

/- Maps from numbers: to numbers, to truths. -/
namespace Go.Proofs.Ythiogpojccohgaa
set_option maxRecDepth 20000
open Go.RowKit Go.Maps
set_option linter.unusedVariables false
set_option linter.unusedSimpArgs false

/-- a map from numbers to numbers: what it tells of each -/
def MapF (w : World) (b n : Nat) (f : Nat → Nat) : Prop :=
  ∃ D : DataW Unit, w.ownsMap Try.prog 29 (plainElem Try.prog 29) b n D ∧ ∀ k, k < 18446744073709551616 → D.atKey (litU k) (.lit (.int .u64 0)) = .lit (.int .u64 (f k : Int))

/-- a map from numbers to truths: of which it tells true -/
def MapG (w : World) (b n : Nat) (l : List Nat) : Prop :=
  ∃ D : DataW Unit, w.ownsMap Try.prog 29 (plainElem Try.prog 4) b n D ∧ ∀ k, k < 18446744073709551616 → D.atKey (litU k) (.lit (.bool false)) = .lit (.bool (decide (k ∈ l)))

theorem ownsMap_block {w w' : World} {kt : TypeId} {R : Value → Option (DataW Unit × List MemPlace)} {b n : Nat} {D : DataW Unit} (h : w.ownsMap Try.prog kt R b n D) (hb : w'.heap[b]? = w.heap[b]?) : w'.ownsMap Try.prog kt R b n D := by
  obtain ⟨es, clock, hb2, r⟩ := h
  exact ⟨es, clock, hb.trans hb2, r⟩

theorem MapF.lt {w : World} {b n : Nat} {f : Nat → Nat} (h : MapF w b n f) : b < w.heap.size := by
  obtain ⟨D, h, _⟩ := h
  exact World.ownsMap.lt h
theorem MapG.lt {w : World} {b n : Nat} {l : List Nat} (h : MapG w b n l) : b < w.heap.size := by
  obtain ⟨D, h, _⟩ := h
  exact World.ownsMap.lt h

theorem MapF.same {w w' : World} {b n : Nat} {f : Nat → Nat} (h : MapF w b n f) (hb : w'.heap[b]? = w.heap[b]?) : MapF w' b n f := by
  obtain ⟨D, h1, h2⟩ := h
  exact ⟨D, ownsMap_block h1 hb, h2⟩
theorem MapG.same {w w' : World} {b n : Nat} {l : List Nat} (h : MapG w b n l) (hb : w'.heap[b]? = w.heap[b]?) : MapG w' b n l := by
  obtain ⟨D, h1, h2⟩ := h
  exact ⟨D, ownsMap_block h1 hb, h2⟩
theorem MapF.below {w w' : World} {b n : Nat} {f : Nat → Nat} (h : MapF w b n f) (hb : Below w.heap.size w w') : MapF w' b n f := h.same (hb.block b h.lt)
theorem MapG.below {w w' : World} {b n : Nat} {l : List Nat} (h : MapG w b n l) (hb : Below w.heap.size w w') : MapG w' b n l := h.same (hb.block b h.lt)

theorem MapF.made (w : World) : MapF (w.alloc (.map #[] 0)) w.heap.size 0 (fun _ => 0) :=
  ⟨.map [], World.ownsMap_made _ _ _ _, fun k _ => by simp [DataW.atKey]⟩
theorem MapG.made (w : World) : MapG (w.alloc (.map #[] 0)) w.heap.size 0 [] :=
  ⟨.map [], World.ownsMap_made _ _ _ _, fun k _ => by simp [DataW.atKey]⟩

theorem zero_boolU (w : World) : (zeroValue 4).run Try.prog w = .ok (.bool false) w := by kernel_rfl
theorem zero_u64U (w : World) : (zeroValue 29).run Try.prog w = .ok (.int .u64 0) w := by kernel_rfl

theorem plainElem_boolU_inv {H : Type} {P : Program} {e : TypeId} (he : P.underlying e = some .bool) {v : Value} {z : DataW H × List MemPlace} (h : plainElem P e v = some z) : ∃ b, v = .bool b ∧ z = (.lit (.bool b), []) := by
  unfold plainElem at h
  rw [he] at h
  cases v <;> simp at h
  exact ⟨_, rfl, h.symm⟩

theorem MapG.look {w : World} {b n : Nat} {l : List Nat} (h : MapG w b n l) (k : Nat) (hk : k < 18446744073709551616) :
    (Instr.lookup 28 (.map (some b)) (.int .u64 (k : Int)) false).run Try.prog w = .ok (.bool (decide (k ∈ l))) w := by
  obtain ⟨D, hm, hat⟩ := h
  obtain ⟨v, ps, hrun, hv⟩ := hm.lookup (int_keyed Try.underlying29) Try.underlying28 (zero_boolU w) (plainElem_bool Try.underlying4 false) (key := .int .u64 (k : Int)) (kl := litU k) (keyU hk)
  rw [hat k hk] at hv
  obtain ⟨b, rfl, hz⟩ := plainElem_boolU_inv Try.underlying4 hv
  simp only [Prod.mk.injEq, DataW.lit.injEq, Lit.bool.injEq] at hz
  rw [hrun, hz.1]

theorem MapF.look {w : World} {b n : Nat} {f : Nat → Nat} (h : MapF w b n f) (k : Nat) (hk : k < 18446744073709551616) :
    (Instr.lookup 89 (.map (some b)) (.int .u64 (k : Int)) false).run Try.prog w = .ok (.int .u64 (f k : Int)) w := by
  obtain ⟨D, hm, hat⟩ := h
  obtain ⟨v, ps, hrun, hv⟩ := hm.lookup (int_keyed Try.underlying29) Try.underlying89 (zero_u64U w) (plainElem_int Try.underlying29 (by decide)) (key := .int .u64 (k : Int)) (kl := litU k) (keyU hk)
  rw [hat k hk] at hv
  obtain ⟨b, rfl, hz, _⟩ := plainElem_int_inv Try.underlying29 hv
  simp only [Prod.mk.injEq, DataW.lit.injEq, Lit.int.injEq, true_and] at hz
  rw [hrun, hz.1]

theorem litU_ne {a b : Nat} (h : a ≠ b) : litU a ≠ litU b := by
  unfold litU
  intro e
  simp only [Lit.int.injEq, true_and] at e
  omega

theorem MapF.put {w w' : World} {b n k v : Nat} {f : Nat → Nat} {D : DataW Unit} (hm : w.ownsMap Try.prog 29 (plainElem Try.prog 29) b n D) (hat : ∀ k, k < 18446744073709551616 → D.atKey (litU k) (.lit (.int .u64 0)) = .lit (.int .u64 (f k : Int)))
    (h : w'.ownsMap Try.prog 29 (plainElem Try.prog 29) b (n + 1) (D.put (litU k) (.lit (.int .u64 (v : Int))))) : MapF w' b (n + 1) (fun x => if x = k then v else f x) := by
  refine ⟨_, h, fun x hx => ?_⟩
  by_cases e : x = k
  · subst e
    rw [atKey_put_same hm.isMap (k := litU x) (by simp [WideAt.IsKeyLit, litU])]
    simp
  · rw [atKey_put_other (litU_ne e), hat x hx]
    simp [e]

theorem MapG.put {w w' : World} {b n k : Nat} {l : List Nat} {D : DataW Unit} (hm : w.ownsMap Try.prog 29 (plainElem Try.prog 4) b n D) (hat : ∀ k, k < 18446744073709551616 → D.atKey (litU k) (.lit (.bool false)) = .lit (.bool (decide (k ∈ l))))
    (h : w'.ownsMap Try.prog 29 (plainElem Try.prog 4) b (n + 1) (D.put (litU k) (.lit (.bool true)))) : MapG w' b (n + 1) (l ++ [k]) := by
  refine ⟨_, h, fun x hx => ?_⟩
  by_cases e : x = k
  · subst e
    rw [atKey_put_same hm.isMap (k := litU x) (by simp [WideAt.IsKeyLit, litU])]
    simp
  · rw [atKey_put_other (litU_ne e), hat x hx]
    simp [e]

end Go.Proofs.Ythiogpojccohgaa

/- bartizanlaw19.few; a lock that came in. -/
namespace Go.Proofs.Ythiogpojccohgaa
set_option maxRecDepth 100000
open Go.RowKit Go.Maps
open Go.ChangeShapes Go.WideShapes Go.ChangeAt
set_option linter.unusedVariables false
set_option linter.unusedSimpArgs false

theorem byte_of9 {k : Int} (h : (Lit.int .u8 k).wf = true) : k = ((UInt8.ofNat k.toNat).toNat : Int) := by
  have := bounds_u8 h
  rw [UInt8.toNat_ofNat', Nat.mod_eq_of_lt (by omega)]
  omega

/-- a lock that came in -/
theorem lockArg_of {H : Type} {enc : TypeId × Value → H} {w : World} {r : Go.Reach} {base : Nat} {v : Value} {d : DataW H} {ps : List MemPlace}
    (hv : Value.okWide Try.prog w r base 32 v) (h : DataW.Trod enc Try.prog w 0 (fun _ => true) true 32 v d ps) :
    ∃ (n : Nat) (f t : List UInt8) (m : UInt8) (x y : Value), v = .agg #[.int .u64 (n : Int), x, y, .int .u8 (m.toNat : Int)] ∧ n < 18446744073709551616 ∧ Arg w x f ∧ Arg w y t := by
  obtain ⟨v0, v1, v2, v3, y0, y1, y2, y3, n, rfl, _, _, h0, h1, h2, h3⟩ := Joins.open_agg4 Try.underlying32 (by kernel_rfl) (by kernel_rfl) hv h
  obtain ⟨k, e0, _, wk⟩ := DataW.trod_int Try.underlying29 h0
  obtain ⟨a1, l1, q1, z1, rfl, r1⟩ := row_of_trod h1
  obtain ⟨a2, l2, q2, z2, rfl, r2⟩ := row_of_trod h2
  obtain ⟨s, e3, _, ws⟩ := DataW.trod_int Try.underlying5 h3
  simp at e0 e3
  subst e0 e3
  have hs := bounds_u64 wk
  refine ⟨k.toNat, _, _, UInt8.ofNat s.toNat, _, _, ?_, by omega, arg_of r1, arg_of r2⟩
  rw [← byte_of9 ws, show ((k.toNat : Nat) : Int) = k by omega]
set_option maxHeartbeats 2000000 in
theorem few_any (w : World) (x y : Value) (f t : List UInt8) (n m : Int) (h1 : Arg w x f) (h2 : Arg w y t) :
    Calls Try.prog 7 #[lkV n x y m] w fun e w' => ∃ x' y', e = .returned (lkV n x' y' m) ∧ OwnN w.heap.size w' x' (f.take 80) ∧ OwnN w.heap.size w' y' (t.take 80) ∧ Below w.heap.size w w' := by
  obtain ⟨a1, a2, ea⟩ := h1.shape
  obtain ⟨a3, a4, eb⟩ := h2.shape
  subst ea eb
  have hb0 := below_two w (.cells #[.int .u64 n, .slice a1 f.length a2, .slice a3 t.length a4, .int .u8 m] 32) (.cells #[.int .u64 0, .slice none 0 0, .slice none 0 0, .int .u8 0] 32)
  have HB0 : Hid (Below w.heap.size w ((w.alloc (.cells #[.int .u64 n, .slice a1 f.length a2, .slice a3 t.length a4, .int .u8 m] 32)).alloc (.cells #[.int .u64 0, .slice none 0 0, .slice none 0 0, .int .u8 0] 32))) := hb0
  have hba := below_box4 (w.alloc (.cells #[.int .u64 n, .slice a1 f.length a2, .slice a3 t.length a4, .int .u8 m] 32)) (.cells #[.int .u64 0, .slice none 0 0, .slice none 0 0, .int .u8 0] 32)
  have bx := ((box4_new w (.int .u64 n) (.slice a1 f.length a2) (.slice a3 t.length a4) (.int .u8 m) 32).below hba (Nat.le_refl _)).drew
  have r1 := h1.below hb0.drew (Nat.le_refl _)
  have r2 := h2.below hb0.drew (Nat.le_refl _)
  have BF : Hid (Box4f ((w.alloc (.cells #[.int .u64 n, .slice a1 f.length a2, .slice a3 t.length a4, .int .u8 m] 32)).alloc (.cells #[.int .u64 0, .slice none 0 0, .slice none 0 0, .int .u8 0] 32)) (w.heap.size + 1) (.int .u64 0) (.slice none 0 0) (.slice none 0 0) (.int .u8 0)) := by
    have := box4f_new (w.alloc (.cells #[.int .u64 n, .slice a1 f.length a2, .slice a3 t.length a4, .int .u8 m] 32)) (.int .u64 0) (.slice none 0 0) (.slice none 0 0) (.int .u8 0) 32
    rw [show (w.alloc (.cells #[.int .u64 n, .slice a1 f.length a2, .slice a3 t.length a4, .int .u8 m] 32)).heap.size = w.heap.size + 1 by simp] at this
    exact this
  obtain ⟨fl, hfl⟩ : ∃ z, f.length = z := ⟨_, rfl⟩
  obtain ⟨tl, htl⟩ : ∃ z, t.length = z := ⟨_, rfl⟩
  obtain ⟨fm, hfm⟩ : ∃ z, (f.take 80).length = z := ⟨_, rfl⟩
  obtain ⟨tm, htm⟩ : ∃ z, (t.take 80).length = z := ⟨_, rfl⟩
  have HFL : Hid ((f.take 80).length = fm ∧ (t.take 80).length = tm) := ⟨hfm, htm⟩
  rw [hfl] at HB0 bx r1 BF
  rw [htl] at HB0 bx r2 BF
  rw [hfl] at r2
  rw [htl] at r1
  rw [hfl, htl]
  clear h1 h2 hb0 hba hfl htl hfm htm
  unfold lkV
  go_enter Try.func7, Try.ntmps7
  go_wp2_with fail
  go_region_held3 (fun w' => w'.cell? ⟨w.heap.size, 0, none⟩ = some (.int .u64 n) ∧ w'.cell? ⟨w.heap.size, 1, none⟩ = some (.slice a1 fl a2) ∧ w'.cell? ⟨w.heap.size, 2, none⟩ = some (.slice a3 tl a4) ∧ w'.cell? ⟨w.heap.size, 3, none⟩ = some (.int .u8 m))
    (first | with_reducible exact ⟨bs.c0, bs.c1, bs.c2, bs.c3⟩ | with_reducible exact ⟨by2.c0, by2.c1, by2.c2, by2.c3⟩ | with_reducible exact ⟨bx2.c0, bx2.c1, bx2.c2, bx2.c3⟩ | with_reducible exact ⟨bx.c0, bx.c1, bx.c2, bx.c3⟩)
    (first
      | (go_at_call 14; refine (cut_any _ _ f 80 r1 (by decide)).mono ?_; rintro e wx ⟨x, rfl, ox, hbx⟩; obtain ⟨gx, kx, hx⟩ := ox.rd.len; rw [HFL.out.1] at hx; subst hx; have bx2 := bx.below hbx (Nat.le_refl _); clear r1)
      | (go_at_call 14; refine (cut_any _ _ t 80 (r2.below hbx (Nat.le_refl _)) (by decide)).mono ?_; rintro e wy ⟨y, rfl, oy, hby⟩; obtain ⟨gy, ky, hy⟩ := oy.rd.len; rw [HFL.out.2] at hy; subst hy; have by2 := bx2.below hby (Nat.le_refl _)
         have HBY : Hid (Below w.heap.size w wy) := bsplit (bsplit HB0.out.drew hbx) hby
         have hsz : ((w.alloc (.cells #[.int .u64 n, .slice a1 fl a2, .slice a3 tl a4, .int .u8 m] 32)).alloc (.cells #[.int .u64 0, .slice none 0 0, .slice none 0 0, .int .u8 0] 32)).drew.heap.size = w.heap.size + 2 := by simp
         have HOX : Hid (OwnN (w.heap.size + 2) wy (.slice gx fm kx) (f.take 80)) := (show OwnN _ _ _ _ from .inr (ox.below hby (Nat.le_refl _))).mono (by rw [hsz]; exact Nat.le_refl _)
         have HOY : Hid (OwnN (w.heap.size + 2) wy (.slice gy tm ky) (t.take 80)) := (show OwnN _ _ _ _ from .inr oy).mono (by have h8 := hbx.size; rw [hsz] at h8; exact h8)
         have bs := by2.stored (w.heap.size + 1) (by omega) (.int .u64 n) (.slice gx fm kx) (.slice gy tm ky) (.int .u8 m)
         obtain ⟨⟨c0, c1, c2, c3⟩, f0, f1, f2, f3⟩ := ((BF.out.below (Below.refl _ _).drew (Nat.le_refl _)).below hbx (Nat.le_refl _)).below hby (Nat.le_refl _))
      | fail)
  go_wp2
  refine bodyPost_ret (v := lkV n (.slice gx fm kx) (.slice gy tm ky) m) (by simp [results, Try.results7, go_sem, c0, c1, c2, c3, lkV]) rfl ⟨_, _, rfl, ?_, ?_, below_store4 HBY.out (Nat.le_succ _) _ _ _ _⟩
  · exact ownN_stored4 (HOX.out.mono (by omega)) (fun g hg => by have := (ownN_lt9 HOX.out g hg).1; omega) _ _ _ _
  · exact ownN_stored4 (HOY.out.mono (by omega)) (fun g hg => by have := (ownN_lt9 HOY.out g hg).1; omega) _ _ _ _

end Go.Proofs.Ythiogpojccohgaa

/- What a law of locks is told of calls that came in. -/
namespace Go.Proofs.Ythiogpojccohgaa
open Go.ChangeShapes Go.WideShapes Go.ChangeAt Go.RowKit
set_option linter.unusedVariables false
set_option maxRecDepth 20000

structure LOp where
  dop : UInt8
  n : Nat
  f : List UInt8
  t : List UInt8
  m : UInt8
  u : Nat

structure LOpAt (w : World) (b off : Nat) (o : LOp) (x y : Value) : Prop where
  c0 : w.cell? ⟨b, off, none⟩ = some (.int .u8 (o.dop.toNat : Int))
  c1 : w.cell? ⟨b, off + 1, none⟩ = some (.int .u64 (o.n : Int))
  c2 : w.cell? ⟨b, off + 2, none⟩ = some x
  c3 : w.cell? ⟨b, off + 3, none⟩ = some y
  c4 : w.cell? ⟨b, off + 4, none⟩ = some (.int .u8 (o.m.toNat : Int))
  c5 : w.cell? ⟨b, off + 5, none⟩ = some (.int .u64 (o.u : Int))
  ax : Arg w x o.f
  ay : Arg w y o.t
  hn : o.n < 18446744073709551616
  hu : o.u < 18446744073709551616

def ArgLO (w : World) (v : Value) (os : List LOp) : Prop :=
  ∃ a cap, v = .slice a os.length cap ∧ os.length ≤ cap ∧ cap ≤ 9223372036854775807 ∧ ∀ j (hj : j < os.length), ∃ b off, a = some ⟨b, off, none⟩ ∧ ∃ x y, LOpAt w b (off + j * 6) os[j] x y

theorem cell_belowLO {B : Nat} {w w' : World} {p : Addr} {v : Value} (hb : Below B w w') (hB : w.heap.size ≤ B) (h : w.cell? p = some v) : w'.cell? p = some v :=
  (hb.cell (Nat.lt_of_lt_of_le (World.block_lt_of_cell? w _ h) hB)).trans h

theorem LOpAt.below {B : Nat} {w w' : World} {b off : Nat} {o : LOp} {x y : Value} (h : LOpAt w b off o x y) (hb : Below B w w') (hB : w.heap.size ≤ B) : LOpAt w' b off o x y :=
  ⟨cell_belowLO hb hB h.c0, cell_belowLO hb hB h.c1, cell_belowLO hb hB h.c2, cell_belowLO hb hB h.c3, cell_belowLO hb hB h.c4, cell_belowLO hb hB h.c5, h.ax.below hb hB, h.ay.below hb hB, h.hn, h.hu⟩

theorem ArgLO.below {B : Nat} {w w' : World} {v : Value} {os : List LOp} (h : ArgLO w v os) (hb : Below B w w') (hB : w.heap.size ≤ B) : ArgLO w' v os := by
  obtain ⟨a, cap, e, h1, h2, h3⟩ := h
  refine ⟨a, cap, e, h1, h2, fun j hj => ?_⟩
  obtain ⟨b, off, e2, v1, v3, h4⟩ := h3 j hj
  exact ⟨b, off, e2, v1, v3, h4.below hb hB⟩

theorem lop_of {H : Type} {enc : TypeId × Value → H} {w : World} {n : Nat} {v0 v1 v2 v3 v4 v5 : Value} {y : DataW H × List MemPlace}
    (h : DataW.trod enc Try.prog w 0 (fun _ => true) true n 34 [v0, v1, v2, v3, v4, v5] = some y) :
    ∃ o : LOp, v0 = .int .u8 (o.dop.toNat : Int) ∧ v1 = .int .u64 (o.n : Int) ∧ Arg w v2 o.f ∧ Arg w v3 o.t ∧ v4 = .int .u8 (o.m.toNat : Int) ∧ v5 = .int .u64 (o.u : Int) ∧ o.n < 18446744073709551616 ∧ o.u < 18446744073709551616 := by
  obtain ⟨y0, y1, y2, n', _, _, h0, h1, h2⟩ := Deep.trod_struct3 Try.underlying34 h
  have c5 : Try.prog.cellsOf 5 = 1 := by kernel_rfl
  have c8 : Try.prog.cellsOf 29 = 1 := by kernel_rfl
  have cl : Try.prog.cellsOf 32 = 4 := by kernel_rfl
  have cb : Try.prog.cellsOf 30 = 1 := by kernel_rfl
  simp only [c5, c8, cl] at h0 h1 h2
  simp at h0 h1 h2
  obtain ⟨k, e0, _, wk⟩ := DataW.trod_int Try.underlying5 h0
  obtain ⟨s, e2, _, ws⟩ := DataW.trod_int Try.underlying29 h2
  obtain ⟨z0, z1, z2, z3, n2, _, _, g0, g1, g2, g3⟩ := Joins.trod_struct4 Try.underlying32 h1
  simp only [c5, c8, cb] at g0 g1 g2 g3
  simp at g0 g1 g2 g3
  obtain ⟨p, e1, _, wp⟩ := DataW.trod_int Try.underlying29 g0
  obtain ⟨a1, l1, q1, x1, rfl, r1⟩ := row_of_trod g1
  obtain ⟨a2, l2, q2, x2, rfl, r2⟩ := row_of_trod g2
  obtain ⟨q, e3, _, wq⟩ := DataW.trod_int Try.underlying5 g3
  simp at e0 e1 e2 e3
  subst e0 e1 e2 e3
  have hp := bounds_u64 wp
  have hs := bounds_u64 ws
  refine ⟨⟨UInt8.ofNat k.toNat, p.toNat, _, _, UInt8.ofNat q.toNat, s.toNat⟩, ?_, ?_, arg_of r1, arg_of r2, ?_, ?_, by show p.toNat < _; omega, by show s.toNat < _; omega⟩
  · exact congrArg (Value.int .u8) (byte_of9 wk)
  · rw [show ((p.toNat : Nat) : Int) = p by omega]
  · exact congrArg (Value.int .u8) (byte_of9 wq)
  · rw [show ((s.toNat : Nat) : Int) = s by omega]

theorem lopsArg_of {H : Type} {enc : TypeId × Value → H} {w : World} {a : Option Addr} {len cap : Nat} {d : DataW H} {ps : List MemPlace}
    (h : DataW.Trod enc Try.prog w 0 (fun _ => true) true 22 (.slice a len cap) d ps) : ∃ os, ArgLO w (.slice a len cap) os := by
  obtain ⟨fuel, hf⟩ := h
  rcases Deep.open_slice Try.underlying22 hf with ⟨hcs, _⟩ | ⟨x, len', cap', m, n, D, Pl, hcs, _, hl, hm, hmm, _, hall⟩
  · simp [Value.cells] at hcs
    obtain ⟨rfl, rfl, rfl⟩ := hcs
    exact ⟨[], none, 0, rfl, by simp, by omega, fun j hj => by simp at hj⟩
  · simp [Value.cells] at hcs
    obtain ⟨rfl, rfl, rfl⟩ := hcs
    simp only [if_true] at hmm
    subst hmm
    have c6 : Try.prog.cellsOf 34 = 6 := by kernel_rfl
    rw [c6] at hall
    have hsp : 0 < len → x.spot = none := by
      intro h0
      obtain ⟨cs', h1, _⟩ := hall 0 (by omega)
      obtain ⟨_, hlen, hcell⟩ := World.cells?_some h1
      match cs', hlen with
      | [v0, v1, v2, v3, v4, v5], _ =>
        have k0 : w.cell? ((x.add (0 * 6)).add 0) = some v0 := hcell 0 (by decide)
        simpa [Addr.add] using World.cell?_spot k0
    have hex : ∀ i, i < len → ∃ o : LOp, ∃ b off, x = ⟨b, off, none⟩ ∧ ∃ x y, LOpAt w b (off + i * 6) o x y := by
      intro i hi
      obtain ⟨cs', h1, h2⟩ := hall i (by omega)
      obtain ⟨_, hlen, hcell⟩ := World.cells?_some h1
      match cs', hlen with
      | [v0, v1, v2, v3, v4, v5], _ =>
        obtain ⟨o, rfl, rfl, r2, r3, rfl, rfl, s1, s2⟩ := lop_of h2
        have k0 := hcell 0 (by decide)
        have k1 := hcell 1 (by decide)
        have k2 := hcell 2 (by decide)
        have k3 := hcell 3 (by decide)
        have k4 := hcell 4 (by decide)
        have k5 := hcell 5 (by decide)
        have hspot := hsp (by omega)
        obtain ⟨b, off, spot⟩ := x
        simp only at hspot
        subst hspot
        simp only [Addr.add_lit] at k0 k1 k2 k3 k4 k5
        exact ⟨o, b, off, rfl, v2, v3, k0, k1, k2, k3, k4, k5, r2, r3, s1, s2⟩
    have hI : Inhabited LOp := ⟨⟨0, 0, [], [], 0, 0⟩⟩
    obtain ⟨L, hL⟩ := Deep.choose_lt hex
    refine ⟨(List.range len).map L, some x, m, by simp, by simp; omega, by unfold maxLen at hm; omega, fun j hj => ?_⟩
    have hj' : j < len := by simpa using hj
    obtain ⟨b, off, rfl, v1, v3, hD⟩ := hL j hj'
    exact ⟨b, off, rfl, v1, v3, by simpa using hD⟩

end Go.Proofs.Ythiogpojccohgaa

/- Boxes of six cells. -/
namespace Go.Proofs.Ythiogpojccohgaa
set_option maxRecDepth 20000
open Go.RowKit Go.Maps
set_option linter.unusedVariables false

/-- six cells -/
structure BoxS6 (w : World) (b : Nat) (v0 v1 v2 v3 v4 v5 : Value) : Prop where
  c0 : w.cell? ⟨b, 0, none⟩ = some v0
  c1 : w.cell? ⟨b, 1, none⟩ = some v1
  c2 : w.cell? ⟨b, 2, none⟩ = some v2
  c3 : w.cell? ⟨b, 3, none⟩ = some v3
  c4 : w.cell? ⟨b, 4, none⟩ = some v4
  c5 : w.cell? ⟨b, 5, none⟩ = some v5

theorem BoxS6.new (w : World) (v0 v1 v2 v3 v4 v5 : Value) (t : TypeId) : BoxS6 (w.alloc (.cells #[v0, v1, v2, v3, v4, v5] t)) w.heap.size v0 v1 v2 v3 v4 v5 := by
  have h := heap_alloc_new w (.cells #[v0, v1, v2, v3, v4, v5] t)
  have c := fun i => cell_of_row (w.alloc (.cells #[v0, v1, v2, v3, v4, v5] t)) w.heap.size i _ t (0, 0) h
  exact ⟨by rw [c]; rfl, by rw [c]; rfl, by rw [c]; rfl, by rw [c]; rfl, by rw [c]; rfl, by rw [c]; rfl⟩

theorem BoxS6.lt {w : World} {b : Nat} {v0 v1 v2 v3 v4 v5 : Value} (h : BoxS6 w b v0 v1 v2 v3 v4 v5) : b < w.heap.size := World.block_lt_of_cell? w _ h.c0

theorem BoxS6.same {w w' : World} {b : Nat} {v0 v1 v2 v3 v4 v5 : Value} (h : BoxS6 w b v0 v1 v2 v3 v4 v5) (e : w'.heap[b]? = w.heap[b]?) : BoxS6 w' b v0 v1 v2 v3 v4 v5 := by
  obtain ⟨c0, c1, c2, c3, c4, c5⟩ := h
  exact ⟨by rw [← c0]; unfold World.cell?; rw [e], by rw [← c1]; unfold World.cell?; rw [e], by rw [← c2]; unfold World.cell?; rw [e], by rw [← c3]; unfold World.cell?; rw [e], by rw [← c4]; unfold World.cell?; rw [e], by rw [← c5]; unfold World.cell?; rw [e]⟩

theorem BoxS6.below {w w' : World} {b : Nat} {v0 v1 v2 v3 v4 v5 : Value} (h : BoxS6 w b v0 v1 v2 v3 v4 v5) (hb : Below w.heap.size w w') : BoxS6 w' b v0 v1 v2 v3 v4 v5 := h.same (hb.block b h.lt)
theorem BoxS6.drew {w : World} {b : Nat} {v0 v1 v2 v3 v4 v5 : Value} (h : BoxS6 w b v0 v1 v2 v3 v4 v5) : BoxS6 w.drew b v0 v1 v2 v3 v4 v5 := ⟨h.c0, h.c1, h.c2, h.c3, h.c4, h.c5⟩

theorem keeps_grownS {w w' : World} {m : Nat} (hg : w.grownBy w' (some m)) : Keeps (fun b => b = m) w w' :=
  ⟨hg.os, hg.tape, hg.output, hg.size, fun k hk hn => hg.block k hk (fun e => hn (Option.some.inj e))⟩

theorem notS9 {a b : Bool} (h : a = !b) : b = !a := by rw [h, Bool.not_not]

end Go.Proofs.Ythiogpojccohgaa
