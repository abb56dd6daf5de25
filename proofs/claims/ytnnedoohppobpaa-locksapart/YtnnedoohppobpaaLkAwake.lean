/- bartizanlaw19.awake. -/
import Derived.Test.YtnnedoohppobpaaLkNew
namespace Go.Proofs.Ytnnedoohppobpaa
set_option maxRecDepth 100000
open Go.RowKit Go.Maps
set_option linter.unusedVariables false
set_option linter.unusedSimpArgs false

/-- a table of whom every block is one's own -/
def LkQ (B : Nat) (w : World) (t : Nat) (mo ea : Int) (gs : List Lk) (qs : List Rq) : Prop := B ≤ w.heap.size ∧ ∃ G, LkP G w t mo ea gs qs ∧ ∀ b, G b → B ≤ b

theorem LkQ.below {B : Nat} {w w' : World} {t : Nat} {mo ea : Int} {gs : List Lk} {qs : List Rq} (h : LkQ B w t mo ea gs qs) (hb : Below w.heap.size w w') : LkQ B w' t mo ea gs qs := by
  obtain ⟨hB, G, h, hG⟩ := h
  exact ⟨Nat.le_trans hB hb.size, G, h.below hb, hG⟩

/-- Ask of a lock that is told by its parts -/
theorem askq_any (B : Nat) (w : World) (t : Nat) (mo ea : Int) (gs : List Lk) (qs : List Rq) (n : Nat) (m : UInt8) (x y : Value) (f t2 : List UInt8) (u : Nat) (h : LkQ B w t mo ea gs qs) (hn : gs.length + qs.length ≤ 900) (hx : Rd w x f) (hy : Rd w y t2) (hln : n < 18446744073709551616) (hun : u < 18446744073709551616) :
    Calls Try.prog 15 #[.pointer (some ⟨t, 0, none⟩), lkV (n : Int) x y (m.toNat : Int), .int .u64 (u : Int)] w fun e w' => ∃ x' y', e = .returned (.int .i64 (askB mo ea gs qs ⟨n, f, t2, m, x, y⟩ ⟨n, f, t2, m, x', y'⟩ u).1) ∧ Below B w w' ∧ LkQ B w' t mo ea (askB mo ea gs qs ⟨n, f, t2, m, x, y⟩ ⟨n, f, t2, m, x', y'⟩ u).2.1 (askB mo ea gs qs ⟨n, f, t2, m, x, y⟩ ⟨n, f, t2, m, x', y'⟩ u).2.2 := by
  obtain ⟨hB, G, h, hG⟩ := h
  refine (ask_any G w t mo ea gs qs ⟨n, f, t2, m, x, y⟩ u h hn hx hy hln hun).mono ?_
  rintro e w' ⟨⟨n', f', t', m', x', y'⟩, ⟨h1, h2, h3, h4⟩, he, hk, G', hp, hG'⟩
  simp only at h1 h2 h3 h4
  subst h1 h2 h3 h4
  exact ⟨x', y', he, hk.below hG hB, Nat.le_trans hB hk.size, G', hp, fun b hb => (hG' b hb).elim (hG b) (Nat.le_trans hB)⟩

theorem relq_any (B : Nat) (w : World) (t : Nat) (mo ea : Int) (gs : List Lk) (qs : List Rq) (n : Nat) (h : LkQ B w t mo ea gs qs) (hn : gs.length + qs.length ≤ 1000) :
    Calls Try.prog 12 #[.pointer (some ⟨t, 0, none⟩), .int .u64 (n : Int)] w fun e w' => ∃ v, e = .returned v ∧ RdU w' v ((advB (lvB qs n) (rlB gs n) [] []).2.2.map (·.l.n)) ∧ Below B w w' ∧ LkQ B w' t mo ea (advB (lvB qs n) (rlB gs n) [] []).1 (advB (lvB qs n) (rlB gs n) [] []).2.1 := by
  obtain ⟨hB, G, h, hG⟩ := h
  refine (release_any G w t mo ea gs qs n h hn).mono ?_
  rintro e w' ⟨v, he, hv, hk, G', hp, hG'⟩
  exact ⟨v, he, hv.rd, hk.below hG hB, Nat.le_trans hB hk.size, G', hp, fun b hb => (hG' b hb).elim (hG b) (Nat.le_trans hB)⟩

set_option maxHeartbeats 4000000 in
theorem lkawake_any (w : World) : Calls Try.prog 9 #[] w fun e w' => e = .returned (.bool true) ∧ Below w.heap.size w w' := by
  have hn := lknew_any w 99 99 (by decide) (by decide) (by decide) (by decide)
  go_enter Try.func9, Try.ntmps9
  go_wp2_with fail
  refine hn.mono ?_
  rintro e w1 ⟨t, rfl, hp1, ht, hs1, hb1⟩
  have HB1 : Hid (Below w.heap.size w w1) := hb1
  have HP1 : Hid (LkQ w.heap.size w1 t 99 99 [] []) := ⟨by omega, _, hp1, fun b hb => by omega⟩
  clear hn hp1 hs1 hb1 ht
  have hl1 := lock_any w1 1 1
  go_wp2_with fail
  refine hl1.mono ?_
  rintro e w2 ⟨x1, y1, rfl, rx1, ry1, hb2⟩
  have HB2 : Hid (Below w.heap.size w w2) := bsplit HB1.out hb2
  have ha1 : Calls Try.prog 15 #[.pointer (some ⟨t, 0, none⟩), lkV 1 x1 y1 1, .int .u64 9] w2 _ := askq_any _ w2 t 99 99 [] [] 1 1 x1 y1 [97] [97, 0] 9 (HP1.out.below hb2) (by simp) rx1 ry1 (by decide) (by decide)
  obtain ⟨a1, b1, ex1⟩ := rx1.len
  obtain ⟨c1, d1, ey1⟩ := ry1.len
  subst ex1 ey1
  unfold lkV at ha1 ⊢
  clear hl1 rx1 ry1 hb2
  go_wp2_with fail
  refine ha1.mono ?_
  rintro e w3 ⟨x1q, y1q, he3, hb3, hp3⟩
  have he3' : e = .returned (.int .i64 0) := he3
  subst he3'
  have HB3 : Hid (Below w.heap.size w w3) := HB2.out.trans hb3
  have HP3 : Hid (LkQ w.heap.size w3 t 99 99 [⟨1, [97], [97, 0], 1, x1q, y1q⟩] []) := hp3
  clear ha1 he3 hb3 hp3
  have hl2 := lock_any w3 2 3
  go_wp2_with fail
  refine hl2.mono ?_
  rintro e w4 ⟨x2, y2, rfl, rx2, ry2, hb4⟩
  have HB4 : Hid (Below w.heap.size w w4) := bsplit HB3.out hb4
  have ha2 : Calls Try.prog 15 #[.pointer (some ⟨t, 0, none⟩), lkV 2 x2 y2 3, .int .u64 9] w4 _ := askq_any _ w4 t 99 99 [⟨1, [97], [97, 0], 1, x1q, y1q⟩] [] 2 3 x2 y2 [97] [97, 0] 9 (HP3.out.below hb4) (by simp) rx2 ry2 (by decide) (by decide)
  obtain ⟨a2, b2, ex2⟩ := rx2.len
  obtain ⟨c2, d2, ey2⟩ := ry2.len
  subst ex2 ey2
  unfold lkV at ha2 ⊢
  clear hl2 rx2 ry2 hb4
  go_wp2_with fail
  refine ha2.mono ?_
  rintro e w5 ⟨x2q, y2q, he5, hb5, hp5⟩
  have he5' : e = .returned (.int .i64 3) := he5
  subst he5'
  have HB5 : Hid (Below w.heap.size w w5) := HB4.out.trans hb5
  have HP5 : Hid (LkQ w.heap.size w5 t 99 99 [⟨1, [97], [97, 0], 1, x1q, y1q⟩] [⟨⟨2, [97], [97, 0], 3, x2q, y2q⟩, 9⟩]) := hp5
  clear ha2 he5 hb5 hp5
  have hl3 := lock_any w5 3 1
  go_wp2_with fail
  refine hl3.mono ?_
  rintro e w6 ⟨x3, y3, rfl, rx3, ry3, hb6⟩
  have HB6 : Hid (Below w.heap.size w w6) := bsplit HB5.out hb6
  have ha3 : Calls Try.prog 15 #[.pointer (some ⟨t, 0, none⟩), lkV 3 x3 y3 1, .int .u64 9] w6 _ := askq_any _ w6 t 99 99 [⟨1, [97], [97, 0], 1, x1q, y1q⟩] [⟨⟨2, [97], [97, 0], 3, x2q, y2q⟩, 9⟩] 3 1 x3 y3 [97] [97, 0] 9 (HP5.out.below hb6) (by simp) rx3 ry3 (by decide) (by decide)
  obtain ⟨a3, b3, ex3⟩ := rx3.len
  obtain ⟨c3, d3, ey3⟩ := ry3.len
  subst ex3 ey3
  unfold lkV at ha3 ⊢
  clear hl3 rx3 ry3 hb6
  go_wp2_with fail
  refine ha3.mono ?_
  rintro e w7 ⟨x3q, y3q, he7, hb7, hp7⟩
  have he7' : e = .returned (.int .i64 3) := he7
  subst he7'
  have HB7 : Hid (Below w.heap.size w w7) := HB6.out.trans hb7
  have HP7 : Hid (LkQ w.heap.size w7 t 99 99 [⟨1, [97], [97, 0], 1, x1q, y1q⟩] [⟨⟨2, [97], [97, 0], 3, x2q, y2q⟩, 9⟩, ⟨⟨3, [97], [97, 0], 1, x3q, y3q⟩, 9⟩]) := hp7
  clear ha3 he7 hb7 hp7
  have hl4 := lock_any w7 1 3
  go_wp2_with fail
  refine hl4.mono ?_
  rintro e w8 ⟨x4, y4, rfl, rx4, ry4, hb8⟩
  have HB8 : Hid (Below w.heap.size w w8) := bsplit HB7.out hb8
  have ha4 : Calls Try.prog 15 #[.pointer (some ⟨t, 0, none⟩), lkV 1 x4 y4 3, .int .u64 9] w8 _ := askq_any _ w8 t 99 99 [⟨1, [97], [97, 0], 1, x1q, y1q⟩] [⟨⟨2, [97], [97, 0], 3, x2q, y2q⟩, 9⟩, ⟨⟨3, [97], [97, 0], 1, x3q, y3q⟩, 9⟩] 1 3 x4 y4 [97] [97, 0] 9 (HP7.out.below hb8) (by simp) rx4 ry4 (by decide) (by decide)
  obtain ⟨a4, b4, ex4⟩ := rx4.len
  obtain ⟨c4, d4, ey4⟩ := ry4.len
  subst ex4 ey4
  unfold lkV at ha4 ⊢
  clear hl4 rx4 ry4 hb8
  go_wp2_with fail
  refine ha4.mono ?_
  rintro e w9 ⟨x4q, y4q, he9, hb9, hp9⟩
  have he9' : e = .returned (.int .i64 0) := he9
  subst he9'
  have HB9 : Hid (Below w.heap.size w w9) := HB8.out.trans hb9
  have HP9 : Hid (LkQ w.heap.size w9 t 99 99 [⟨1, [97], [97, 0], 1, x1q, y1q⟩, ⟨1, [97], [97, 0], 3, x4q, y4q⟩] [⟨⟨2, [97], [97, 0], 3, x2q, y2q⟩, 9⟩, ⟨⟨3, [97], [97, 0], 1, x3q, y3q⟩, 9⟩]) := hp9
  clear ha4 he9 hb9 hp9
  have hr : Calls Try.prog 12 #[.pointer (some ⟨t, 0, none⟩), .int .u64 1] w9 _ := relq_any _ w9 t 99 99 _ _ 1 HP9.out (by simp)
  go_wp2_with fail
  refine hr.mono ?_
  rintro e w10 ⟨v, rfl, hv, hb10, hp10⟩
  have HV : Hid (RdU w10 v [2]) := hv
  have HB10 : Hid (Below w.heap.size w w10) := HB9.out.trans hb10
  obtain ⟨v1, v2, ev, _⟩ := row_slice9 HV.out
  clear hr hv hb10 hp10
  subst ev
  have hsame := sameU_any (w10.alloc (.cells #[.int .u64 2] 29)) _ _ [2] (row_below HV.out (below_box4 w10 _)) (World.ownsRow_lit w10 #[.int .u64 2] 1 (Nat.zero_le _) (by decide) rfl)
  have HBL : Hid (Below w.heap.size w (w10.alloc (.cells #[.int .u64 2] 29))) := bsplit HB10.out (below_box4 w10 _)
  go_wp2_with fail
  refine Calls.mono hsame ?_
  rintro e w11 ⟨rfl, hb11⟩
  go_wp2
  go_ret
  exact ⟨rfl, bsplit HBL.out hb11⟩

end Go.Proofs.Ytnnedoohppobpaa
