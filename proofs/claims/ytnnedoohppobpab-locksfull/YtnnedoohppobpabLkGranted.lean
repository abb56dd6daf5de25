/- (*locks.Table).Granted. -/
import Derived.Test.YtnnedoohppobpabLkAwake
namespace Go.Proofs.Ytnnedoohppobpab
set_option maxRecDepth 100000
open Go.RowKit Go.Maps
set_option linter.unusedVariables false
set_option linter.unusedSimpArgs false

/-- what a lock says -/
def keyL (l : Lk) : Nat × List UInt8 × List UInt8 × UInt8 := (l.n, l.f, l.t, l.m)

/-- the locks that are handed out -/
structure GrI (B : Nat) (w : World) (v : Value) (own : List Lk) (j : Nat) (ls : List Lk) : Prop where
  len : ls.length = j
  key : ls.map keyL = (own.take j).map keyL
  row : OwnL B w v ls
  ok : ∀ l ∈ ls, LkOk w l

theorem GrI.below {B : Nat} {w w' : World} {v : Value} {own ls : List Lk} {j : Nat} (h : GrI B w v own j ls) (hb : Below w.heap.size w w') : GrI B w' v own j ls :=
  ⟨h.len, h.key, row_below h.row hb, fun l hl => (h.ok l hl).below hb⟩

theorem GrI.mono {B C : Nat} {w : World} {v : Value} {own ls : List Lk} {j : Nat} (h : GrI B w v own j ls) (hB : C ≤ B) : GrI C w v own j ls :=
  ⟨h.len, h.key, row_mono9 h.row hB, h.ok⟩

set_option maxHeartbeats 2000000 in
theorem granted_any (G : Nat → Prop) (w : World) (t : Nat) (mo ea : Int) (gs : List Lk) (qs : List Rq) (n : Nat) (h : LkP G w t mo ea gs qs) (hn : gs.length ≤ 1000) :
    Calls Try.prog 7 #[.pointer (some ⟨t, 0, none⟩), .int .u64 (n : Int)] w fun e w' => ∃ v ls, e = .returned v ∧ GrI w.heap.size w' v (ofB gs n) (ofB gs n).length ls ∧ Below w.heap.size w w' := by
  obtain ⟨i0, hi, hz0, hz1, hz2⟩ := info_parts infoLk
  have he := eqT t
  obtain ⟨gv, qv, h⟩ := h
  have HA : Hid (LkAt G w t mo ea gs qs gv qv) := h
  have hof := of_any G w t mo ea gs qs gv qv n h (by omega)
  have HN1 : (ofB gs n).length ≤ 1000 := Nat.le_trans (List.length_filter_le _ _) hn
  have HIN : Hid (∀ g ∈ ofB gs n, g ∈ gs) := fun g hg => (List.mem_filter.1 hg).1
  obtain ⟨own, hown⟩ : ∃ l, ofB gs n = l := ⟨_, rfl⟩
  rw [hown] at HN1 hof HIN ⊢
  clear h hown
  go_enter Try.func7, Try.ntmps7
  go_wp2_with fail
  refine hof.mono ?_
  rintro e w1 ⟨v, rfl, hv, hb1⟩
  have HOK : Hid (∀ g ∈ own, LkOk w1 g) := fun g hg => (HA.out.og g (HIN.out g hg)).below hb1
  obtain ⟨va, vc, rfl, hvc, hvc2⟩ := row_slice9 hv
  obtain ⟨N, hN⟩ : ∃ N, own.length = N := ⟨_, rfl⟩
  have HV : Hid (RowL w1 (.slice va own.length vc) own) := hv.rd
  have HB1 : Hid (Below w.heap.size w w1) := hb1
  have HN : Hid (own.length = N) := hN
  rw [hN] at HV HN1 hvc ⊢
  clear hof hv hb1 hN HA HIN
  go_wp2_with fail
  go_loopg [5, 14] N (fun gk rv iv wr => ∃ (j c' : Nat) (a' : Option Addr), gk + j = N ∧ iv = .int .i64 (j : Int) ∧ rv = .slice a' j c' ∧ Hid (∃ ls, GrI w1.heap.size wr rv own j ls) ∧ Hid (Below w1.heap.size w1 wr))
  case atStart => exact ⟨0, 0, none, by omega, rfl, rfl, ⟨[], rfl, rfl, World.ownsRow_nil _ _ _ _, fun l hl => absurd hl (by simp)⟩, Below.refl _ _⟩
  case round =>
    obtain ⟨j, c', a', hj, rfl, rfl, HL, HB⟩ := hrel
    by_cases hlt : j < N
    · have hlt2 : j < own.length := by rw [HN.out]; exact hlt
      obtain ⟨b, c, e, _, c0, c1, c2, c3⟩ := (HV.out.below HB.out).at j hlt2
      rw [HN.out] at e
      cases e
      obtain ⟨q1, q2⟩ := gk_nxt hj hlt
      have hok := (HOK.out _ (List.getElem_mem hlt2)).below HB.out
      have htk : own.take (j + 1) = own.take j ++ [own[j]] := List.take_succ_eq_append_getElem hlt2
      obtain ⟨g, hg⟩ : ∃ g, own[j] = g := ⟨_, rfl⟩
      rw [hg] at c0 c1 c2 c3 hok htk
      obtain ⟨⟨x1, x2, x3, ex⟩, ⟨y1, y2, y3, ey⟩⟩ := hok.s
      obtain ⟨gn, hgn⟩ : ∃ z : Int, (g.n : Int) = z := ⟨_, rfl⟩
      obtain ⟨gm, hgm⟩ : ∃ z : Int, (g.m.toNat : Int) = z := ⟨_, rfl⟩
      rw [hgn] at c0
      rw [hgm] at c3
      rw [ex] at c1
      rw [ey] at c2
      have hb0 := below_box4 wr (.cells #[.int .u64 gn, .slice x1 x2 x3, .slice y1 y2 y3, .int .u8 gm] 32)
      have hap := apart_any (wr.alloc (.cells #[.int .u64 gn, .slice x1 x2 x3, .slice y1 y2 y3, .int .u8 gm] 32)) g.x g.y g.f g.t gn gm (hok.below hb0).1.rd (hok.below hb0).2.1.rd hok.2.2.2.1 hok.2.2.2.2
      rw [ex, ey] at hap
      unfold lkV at hap
      have BX := box4_new wr (.int .u64 gn) (.slice x1 x2 x3) (.slice y1 y2 y3) (.int .u8 gm) 32
      obtain ⟨z0, z1, z2, z3⟩ := BX
      have HB0 : Hid (Below wr.heap.size wr (wr.alloc (.cells #[.int .u64 gn, .slice x1 x2 x3, .slice y1 y2 y3, .int .u8 gm] 32))) := hb0
      have HTK : Hid (own.take (j + 1) = own.take j ++ [g]) := htk
      have HG : Hid ((g.n : Int) = gn ∧ (g.m.toNat : Int) = gm ∧ g.n < 18446744073709551616 ∧ g.f.length ≤ 65 ∧ g.t.length ≤ 65) := ⟨hgn, hgm, hok.2.2.1, hok.2.2.2.1, hok.2.2.2.2⟩
      clear htk hg ex ey hgn hgm hb0 hok
      go_wp2_with fail
      refine hap.mono ?_
      rintro e w2 ⟨x', y', rfl, ox, oy, hb2⟩
      obtain ⟨p1, p3, ep⟩ := ox.rd.len
      obtain ⟨r1, r3, er⟩ := oy.rd.len
      obtain ⟨fl, hfl⟩ : ∃ z, g.f.length = z := ⟨_, rfl⟩
      obtain ⟨tl, htl⟩ : ∃ z, g.t.length = z := ⟨_, rfl⟩
      rw [hfl] at ep
      rw [htl] at er
      subst ep er
      have hlk : LkOk w2 ⟨g.n, g.f, g.t, g.m, .slice p1 fl p3, .slice r1 tl r3⟩ := ⟨ox.mono (Nat.zero_le _), oy.mono (Nat.zero_le _), HG.out.2.2⟩
      have HLK : Hid (LkOk w2 ⟨g.n, g.f, g.t, g.m, .slice p1 fl p3, .slice r1 tl r3⟩) := hlk
      have henc : encL ⟨g.n, g.f, g.t, g.m, .slice p1 fl p3, .slice r1 tl r3⟩ = [.int .u64 gn, .slice p1 fl p3, .slice r1 tl r3, .int .u8 gm] := by unfold encL; rw [HG.out.1, HG.out.2.1]
      have hone := oneL _ hlk.s
      rw [henc] at hone
      have HENC : Hid (encL ⟨g.n, g.f, g.t, g.m, .slice p1 fl p3, .slice r1 tl r3⟩ = [.int .u64 gn, .slice p1 fl p3, .slice r1 tl r3, .int .u8 gm]) := henc
      have HB2 : Hid (Below wr.heap.size wr w2) := bsplit HB0.out hb2
      have HBW : Hid (Below w1.heap.size w1 w2) := bsplit HB.out HB2.out
      obtain ⟨ls, hls⟩ := HL.out
      have HI2 : Hid (GrI w1.heap.size w2 (.slice a' j c') own j ls) := hls.below HB2.out
      have hb3 := below_box4 w2 (.cells #[.int .u64 gn, .slice p1 fl p3, .slice r1 tl r3, .int .u8 gm] 32)
      have HI3 := HI2.out.below hb3
      have HB3 : Hid (Below w2.heap.size w2 (w2.alloc (.cells #[.int .u64 gn, .slice p1 fl p3, .slice r1 tl r3, .int .u8 gm] 32))) := hb3
      have hrow : (w2.alloc (.cells #[.int .u64 gn, .slice p1 fl p3, .slice r1 tl r3, .int .u8 gm] 32)).ownsRow w1.heap.size 32 4 (.slice a' j c') j (ls.flatMap encL) := by
        have := HI3.row
        unfold OwnL at this
        rw [HI3.len] at this
        exact this
      have HLS : Hid ((ls.map keyL = (own.take j).map keyL) ∧ (∀ l ∈ ls, LkOk (w2.alloc (.cells #[.int .u64 gn, .slice p1 fl p3, .slice r1 tl r3, .int .u8 gm] 32)) l) ∧ ls.length = j) := ⟨HI3.key, HI3.ok, HI3.len⟩
      have hlaid := laid4 w2 (.int .u64 gn) (.slice p1 fl p3) (.slice r1 tl r3) (.int .u8 gm) 32
      have hsz2 : w1.heap.size ≤ w2.heap.size := HBW.out.size
      have hsz3 : w1.heap.size ≤ (w2.alloc (.cells #[.int .u64 gn, .slice p1 fl p3, .slice r1 tl r3, .int .u8 gm] 32)).heap.size := Nat.le_trans hsz2 hb3.size
      clear hap hlk henc ox oy hb2 hls hb3 HI3 z0 z1 z2 z3 c0 c1 c2 c3 hfl htl HL
      go_wp2_with (first | (at_builtin; refine wpList_append_lies _ rfl (.tmp 18) (.tmp 21) 33 rfl w1.heap.size 32 i0 (.agg #[.int .u64 0, .slice none 0 0, .slice none 0 0, .int .u8 0]) 4 64 Try.underlying33 hi hz0 hz1 hz2 rfl (by decide) (.slice a' j c') j _ rfl hrow ⟨w2.heap.size, 0, none⟩ 1 1 [.int .u64 gn, .slice p1 fl p3, .slice r1 tl r3, .int .u8 gm] rfl rfl hlaid hone (by decide) (by simp only [maxLen]; omega) (by omega) hsz3 _ rfl ?_; intro g4 c4 w4 hown hgrow hat hlt4) | fail)
      have HN4 : Hid (GrI w1.heap.size w4 (.slice (some ⟨g4, 0, none⟩) (j + 1) c4) own (j + 1) (ls ++ [⟨g.n, g.f, g.t, g.m, .slice p1 fl p3, .slice r1 tl r3⟩])) := by
        refine ⟨by rw [List.length_append, HLS.out.2.2]; rfl, ?_, ?_, fun l hl => ?_⟩
        · rw [HTK.out, List.map_append, List.map_append, HLS.out.1]
          rfl
        · unfold OwnL
          rw [flat_snoc, HENC.out, List.length_append, HLS.out.2.2]
          exact hown
        · rcases List.mem_append.1 hl with h9 | h9
          · exact (HLS.out.2.1 l h9).grown (by decide) hrow hgrow
          · rw [List.mem_singleton.1 h9]
            exact (HLK.out.below HB3.out).grown (by decide) hrow hgrow
      have HB4 : Hid (Below w1.heap.size w1 w4) := by
        have h9 := bsplit HBW.out HB3.out
        exact h9.grown hgrow h9.size (fun k' e => (hrow.lt k' e).1)
      clear hrow hlaid hone hown hgrow hat hsz2 hsz3
      go_roundg (gk - 1)
      case measure => exact q1
      case rel => exact ⟨j + 1, c4, _, q2, by go_num, rfl, ⟨_, HN4.out⟩, HB4⟩
    · have hjN : j = N := by omega
      subst hjN
      obtain ⟨ls, hls⟩ := HL.out
      have HLS : Hid (GrI w.heap.size wr (.slice a' j c') own own.length ls) := by
        show GrI _ _ _ _ _ _
        rw [HN.out]
        exact hls.mono HB1.out.size
      have HBF : Hid (Below w.heap.size w wr) := bsplit HB1.out HB.out
      clear hls HL
      go_wp2
      go_ret
      exact ⟨_, ls, rfl, HLS.out, HBF.out⟩

/-- the same by its blocks -/
theorem grantq_any (B : Nat) (w : World) (t : Nat) (mo ea : Int) (gs : List Lk) (qs : List Rq) (n : Nat) (h : LkQ B w t mo ea gs qs) (hn : gs.length ≤ 1000) :
    Calls Try.prog 7 #[.pointer (some ⟨t, 0, none⟩), .int .u64 (n : Int)] w fun e w' => ∃ v ls, e = .returned v ∧ GrI w.heap.size w' v (ofB gs n) (ofB gs n).length ls ∧ Below w.heap.size w w' := by
  obtain ⟨_, G, h, _⟩ := h
  exact granted_any G w t mo ea gs qs n h hn

end Go.Proofs.Ytnnedoohppobpab
