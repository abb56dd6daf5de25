/- locks.whose: whose requests these are. -/
import Derived.Test.YthiogpojccohgaaLkMut
namespace Go.Proofs.Ythiogpojccohgaa
set_option maxRecDepth 20000
open Go.RowKit Go.Maps
set_option linter.unusedVariables false
set_option linter.unusedSimpArgs false

set_option maxHeartbeats 2000000 in
theorem whose_any (w : World) (v : Value) (qs : List Rq) (h : RowQ w v qs) (hs : ∀ q ∈ qs, LkS q.l) (hn : qs.length ≤ 100000) :
    Calls Try.prog 28 #[v] w fun e w' => ∃ v', e = .returned v' ∧ OwnU w.heap.size w' v' (qs.map (·.l.n)) ∧ Below w.heap.size w w' := by
  obtain ⟨i0, hi, hz0, hz1, hz2⟩ := info_parts infoU64
  obtain ⟨va, vc, rfl, hvc, hvc2⟩ := row_slice9 h
  obtain ⟨N, hN⟩ : ∃ N, qs.length = N := ⟨_, rfl⟩
  have HV : Hid (RowQ w (.slice va qs.length vc) qs) := h
  have HS : Hid (∀ q ∈ qs, LkS q.l) := hs
  have HN : Hid (qs.length = N) := hN
  rw [hN] at HV hn hvc ⊢
  clear h hN hs
  go_enter Try.func28, Try.ntmps28
  go_wp2_with fail
  go_loopg [3, 8] N (fun gk rv iv wr => ∃ (j c' : Nat) (a' : Option Addr), gk + j = N ∧ iv = .int .i64 (j : Int) ∧ rv = .slice a' j c' ∧ Hid (OwnU w.heap.size wr rv ((qs.take j).map (·.l.n))) ∧ Hid (Below w.heap.size w wr))
  case atStart => exact ⟨0, 0, none, by omega, rfl, rfl, World.ownsRow_nil _ _ _ _, Below.refl _ _⟩
  case round =>
    obtain ⟨j, c', a', hj, rfl, rfl, HO, HB⟩ := hrel
    by_cases hlt : j < N
    · have hlt2 : j < qs.length := by rw [HN.out]; exact hlt
      obtain ⟨b, c, e, _, c0, c1, c2, c3, c4⟩ := (HV.out.below HB.out).at j hlt2
      rw [HN.out] at e
      cases e
      obtain ⟨q1, q2⟩ := gk_nxt hj hlt
      have hsg := HS.out _ (List.getElem_mem hlt2)
      have hmt : (qs.take (j + 1)).map (·.l.n) = (qs.take j).map (·.l.n) ++ [qs[j].l.n] := by rw [List.take_succ_eq_append_getElem hlt2, List.map_append]; rfl
      obtain ⟨g, hg⟩ : ∃ g, qs[j] = g := ⟨_, rfl⟩
      rw [hg] at c0 c1 c2 c3 c4 hsg hmt
      obtain ⟨⟨x1, x2, x3, ex⟩, ⟨y1, y2, y3, ey⟩⟩ := hsg
      obtain ⟨gn, hgn⟩ : ∃ z : Int, (g.l.n : Int) = z := ⟨_, rfl⟩
      obtain ⟨gm, hgm⟩ : ∃ z : Int, (g.l.m.toNat : Int) = z := ⟨_, rfl⟩
      obtain ⟨gu, hgu⟩ : ∃ z : Int, (g.u : Int) = z := ⟨_, rfl⟩
      rw [hgn] at c0
      rw [hgm] at c3
      rw [hgu] at c4
      rw [ex] at c1
      rw [ey] at c2
      have HMT : Hid ((qs.take (j + 1)).map (·.l.n) = (qs.take j).map (·.l.n) ++ [g.l.n] ∧ encN g.l.n = .int .u64 gn) := ⟨hmt, by unfold encN; rw [hgn]⟩
      have HLJ : Hid (((qs.take j).map (·.l.n)).length = j) := by show _ = _; rw [List.length_map, List.length_take]; omega
      have hba := below_box4 wr (.cells #[.int .u64 gn, .slice x1 x2 x3, .slice y1 y2 y3, .int .u8 gm, .int .u64 gu] 63)
      obtain ⟨z0, z1, z2, z3, z4⟩ := box5_new wr (.int .u64 gn) (.slice x1 x2 x3) (.slice y1 y2 y3) (.int .u8 gm) (.int .u64 gu) 63
      obtain ⟨wa, hwa⟩ : ∃ wa, wr.alloc (.cells #[.int .u64 gn, .slice x1 x2 x3, .slice y1 y2 y3, .int .u8 gm, .int .u64 gu] 63) = wa := ⟨_, rfl⟩
      have hb2 := bsplit hba (below_box4 _ (.cells #[.int .u64 gn] 29))
      have hrow : ((wr.alloc (.cells #[.int .u64 gn, .slice x1 x2 x3, .slice y1 y2 y3, .int .u8 gm, .int .u64 gu] 63)).alloc (.cells #[.int .u64 gn] 29)).ownsRow w.heap.size 29 1 (.slice a' j c') j (((qs.take j).map (·.l.n)).map encN) := by
        have h9 := row_below HO.out hb2
        rw [HLJ.out] at h9
        exact h9
      have hB2 := bsplit HB.out hb2
      have hlaid : ∀ i u, [Value.int .u64 gn][i]? = some u → ((wr.alloc (.cells #[.int .u64 gn, .slice x1 x2 x3, .slice y1 y2 y3, .int .u8 gm, .int .u64 gu] 63)).alloc (.cells #[.int .u64 gn] 29)).cell? ((⟨wr.heap.size + 1, 0, none⟩ : Addr).add i) = some u := fun i u hu => by
        have h9 := World.news_of_block (heap_alloc_new (wr.alloc (.cells #[.int .u64 gn, .slice x1 x2 x3, .slice y1 y2 y3, .int .u8 gm, .int .u64 gu] 63)) (.cells #[.int .u64 gn] 29)) i u (by simpa using hu)
        rw [show (wr.alloc (.cells #[.int .u64 gn, .slice x1 x2 x3, .slice y1 y2 y3, .int .u8 gm, .int .u64 gu] 63)).heap.size = wr.heap.size + 1 by simp] at h9
        exact h9
      clear hmt hg ex ey hgn hgm hgu hba hb2 hwa
      go_wp2_with (first | (at_builtin; refine wpList_append_lies _ rfl (.tmp 12) (.tmp 16) 36 rfl w.heap.size 29 i0 (.int .u64 0) 1 8 Try.underlying36 hi hz0 hz1 hz2 rfl (by decide) (.slice a' j c') j _ rfl hrow ⟨wr.heap.size + 1, 0, none⟩ 1 1 [.int .u64 gn] rfl rfl hlaid (by intro u hu; simp only [List.mem_singleton] at hu; subst hu; rfl) (by decide) (by simp only [maxLen]; omega) (by omega) hB2.size _ rfl ?_; intro g4 c4 w4 hown hgrow hat hlt4) | fail)
      have HO4 : Hid (OwnU w.heap.size w4 (.slice (some ⟨g4, 0, none⟩) (j + 1) c4) ((qs.take (j + 1)).map (·.l.n))) := by
        show OwnU _ _ _ _
        unfold OwnU
        rw [HMT.out.1, List.length_append, HLJ.out, List.map_append]
        simp only [List.map_cons, List.map_nil, List.length_cons, List.length_nil]
        rw [HMT.out.2]
        exact hown
      have HB4 : Hid (Below w.heap.size w w4) := hB2.grown hgrow hB2.size (fun k' e => (hrow.lt k' e).1)
      clear hrow hlaid hown hgrow hat hB2
      go_roundg (gk - 1)
      case measure => exact q1
      case rel => exact ⟨j + 1, c4, _, q2, by go_num, rfl, HO4, HB4⟩
    · have hjN : j = N := by omega
      subst hjN
      have HE : Hid ((qs.take j).map (·.l.n) = qs.map (·.l.n)) := by show _ = _; rw [← HN.out, List.take_length]
      go_wp2
      go_ret
      exact ⟨_, rfl, by rw [← HE.out]; exact HO.out, HB.out⟩

end Go.Proofs.Ythiogpojccohgaa
