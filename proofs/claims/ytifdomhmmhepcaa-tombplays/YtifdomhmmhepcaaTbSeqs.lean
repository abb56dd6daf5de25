/- tomb.seqs. -/
import Derived.Test.YtifdomhmmhepcaaTbPlaces
namespace Go.Proofs.Ytifdomhmmhepcaa
set_option maxRecDepth 20000
open Go.RowKit
set_option linter.unusedVariables false
set_option linter.unusedSimpArgs false

theorem RowT.rdc {w0 : World} {B : Nat} {w : World} {v : Value} {ts : List SpC} (h : RowT w0 B w v ts) (hb : Below w0.heap.size w0 w) : RdC w v ts := by
  obtain ⟨a, c, rfl, h1, h2⟩ := h.shape
  refine ⟨a, c, rfl, h1, h2, fun j hj => ?_⟩
  obtain ⟨g, c', e, _⟩ := h.form (by omega)
  cases e
  obtain ⟨c0, c1, c2, _⟩ := h.at rfl j hj
  obtain ⟨r1, r2⟩ := h.2 ts[j] (List.getElem_mem hj)
  refine ⟨g, 0, rfl, ?_, ?_, ?_, r1.below hb (Nat.le_refl _), r2.below hb (Nat.le_refl _)⟩
  · rw [Nat.zero_add]; exact c0
  · rw [Nat.zero_add]; exact c1
  · rw [Nat.zero_add]; exact c2

/-- what seqs answers -/
def SqsPost (w : World) (cs : List SpC) (e : Ending) (w' : World) : Prop :=
  ∃ v ns, e = .returned v ∧ RowN w.heap.size w' v ns ∧ ns = srtU gtNN (cs.map (·.e.2.2)) ∧ Below w.heap.size w w'

theorem sqs_is {l ns : List Nat} (hp : ns.Perm l) (hs : FallN ns) : ddTo eqNN ns ns.length = srtU gtNN l := by
  obtain ⟨h1, h2⟩ := ddTo_rise ordN (fun p : Nat => p) (l := ns) (eq := eqNN) eqNN_iff (List.Pairwise.imp (fun {a b} h => by simpa [gtNN] using h) hs) ns.length (Nat.le_refl _)
  rw [List.map_id'] at h1
  refine srtU_is ordN h1 (fun x => ?_)
  have h3 := h2 x
  rw [List.map_id', List.map_id', List.take_length] at h3
  exact h3.trans hp.mem_iff

theorem numC_next {cs : List SpC} {j : Nat} (h : j < cs.length) : (cs.take (j + 1)).map (·.e.2.2) = (cs.take j).map (·.e.2.2) ++ [cs[j].e.2.2] := by
  rw [List.take_succ_eq_append_getElem h, List.map_append]
  rfl

set_option maxHeartbeats 4000000 in
theorem tseqs_any (w : World) (v : Value) (cs : List SpC) (hv : RdC w v cs) (hn : cs.length ≤ 100000) :
    Calls Try.prog 39 #[v] w (SqsPost w cs) := by
  obtain ⟨i0, hi, hz0, hz1, hz2⟩ := info_parts infoU
  have HV : Hid (RdC w v cs) := hv
  obtain ⟨ao, cap, rfl, h1, h2, _⟩ := hv
  unfold maxLen at h2
  obtain ⟨N, hN⟩ : ∃ N, cs.length = N := ⟨_, rfl⟩
  rw [hN] at h1 HV hn ⊢
  have HN : Hid (cs.length = N) := hN
  clear hN
  go_enter Try.func39, Try.ntmps39
  go_wp2_with fail
  go_loopg [3, 8] N (fun gk pv iv wr => ∃ j c' : Nat, ∃ a' : Option Addr, gk + j = N ∧ iv = .int .i64 (j : Int) ∧ pv = .slice a' j c' ∧ Hid (RowN w.heap.size wr pv ((cs.take j).map (·.e.2.2))) ∧ Hid (Below w.heap.size w wr))
  case atStart => exact ⟨0, 0, none, by omega, rfl, rfl, by simp only [List.take_zero, List.map_nil]; exact World.ownsRow_nil _ _ _ _, Below.refl _ _⟩
  case round =>
    obtain ⟨j, c', a', hj, rfl, rfl, HO, HB⟩ := hrel
    have HTL : Hid (((cs.take j).map (·.e.2.2)).length = j) := by show _ = _; rw [List.length_map, List.length_take, HN.out]; omega
    by_cases hlt : j < N
    · have hlt2 : j < cs.length := by rw [HN.out]; exact hlt
      obtain ⟨_, _, e, _, _, h3⟩ := HV.out.below HB.out (Nat.le_refl _)
      rw [HN.out] at e
      cases e
      obtain ⟨b, off, rfl, c0, c1, c2, rx, ry⟩ := h3 j hlt2
      obtain ⟨x1, x2, ex⟩ := rx.len
      obtain ⟨y1, y2, ey⟩ := ry.len
      obtain ⟨q1, q2⟩ := gk_nxt hj hlt
      have HNX : Hid ((cs.take (j + 1)).map (·.e.2.2) = (cs.take j).map (·.e.2.2) ++ [cs[j].e.2.2]) := numC_next hlt2
      rw [ex] at c0
      rw [ey] at c1
      obtain ⟨nl, hnl⟩ : ∃ nl, cs[j].e.1.length = nl := ⟨_, rfl⟩
      obtain ⟨ml, hml⟩ : ∃ ml, cs[j].e.2.1.length = ml := ⟨_, rfl⟩
      obtain ⟨sq, hsq⟩ : ∃ z : Int, (cs[j].e.2.2 : Int) = z := ⟨_, rfl⟩
      have HSQ : Hid ((cs[j].e.2.2 : Int) = sq) := hsq
      rw [hnl] at c0
      rw [hml] at c1
      rw [hsq] at c2
      have hb0 := below_box wr #[.slice x1 nl x2, .slice y1 ml y2, .int .u64 sq] 32
      obtain ⟨z0, z1, z2, _, _, _⟩ := box_new wr (.slice x1 nl x2) (.slice y1 ml y2) (.int .u64 sq) 32
      have hbe := below_box4 (wr.alloc (.cells #[.slice x1 nl x2, .slice y1 ml y2, .int .u64 sq] 32)) (.cells #[.int .u64 sq] 30)
      have hlit := laidT1 (wr.alloc (.cells #[.slice x1 nl x2, .slice y1 ml y2, .int .u64 sq] 32)) (.int .u64 sq) 30
      have HBE : Hid (Below w.heap.size w ((wr.alloc (.cells #[.slice x1 nl x2, .slice y1 ml y2, .int .u64 sq] 32)).alloc (.cells #[.int .u64 sq] 30))) := bsplit (bsplit HB.out hb0) hbe
      have hse := HBE.out.size
      have hrow := (HO.out.below hb0).below hbe
      unfold RowN at hrow
      rw [HTL.out] at hrow
      have HLT : Hid (∀ k', (Value.slice a' j c').ownBlock = some k' → w.heap.size ≤ k') := fun k' e => (hrow.lt k' e).1
      have hm9 : j ≤ 100000 := by omega
      have hs1 : (wr.alloc (.cells #[.slice x1 nl x2, .slice y1 ml y2, .int .u64 sq] 32)).heap.size = wr.heap.size + 1 := by simp
      rw [hs1] at hlit
      have HPS : Hid (∀ g4 c4 w4, w4.ownsRow w.heap.size 30 1 (.slice (some ⟨g4, 0, none⟩) (j + 1) c4) (j + 1) (((cs.take j).map (·.e.2.2)).map encN ++ [.int .u64 sq]) → ((wr.alloc (.cells #[.slice x1 nl x2, .slice y1 ml y2, .int .u64 sq] 32)).alloc (.cells #[.int .u64 sq] 30)).grownBy w4 (Value.slice a' j c').ownBlock → RowN w.heap.size w4 (.slice (some ⟨g4, 0, none⟩) (j + 1) c4) ((cs.take (j + 1)).map (·.e.2.2)) ∧ Below w.heap.size w w4) := by
        intro g4 c4 w4 hown hgrow
        refine ⟨?_, HBE.out.grown hgrow HBE.out.size HLT.out⟩
        unfold RowN
        rw [HNX.out, List.length_append, HTL.out, List.map_append]
        simp only [List.map_cons, List.map_nil, List.length_cons, List.length_nil]
        unfold encN at hown ⊢
        rw [HSQ.out]
        exact hown
      clear hs1 hb0 h3 rx ry hnl hml hsq ex ey hbe
      go_wp2_with (first | (at_builtin; refine wpList_append_lies _ rfl (.tmp 12) (.tmp 15) 24 rfl w.heap.size 30 i0 (.int .u64 0) 1 8 Try.underlying24 hi hz0 hz1 hz2 rfl (by decide) (.slice a' j c') j (((cs.take j).map (·.e.2.2)).map encN) rfl hrow ⟨wr.heap.size + 1, 0, none⟩ 1 1 [.int .u64 sq] rfl rfl hlit (by intro u hu; simp at hu; rw [hu]; rfl) (by decide) (by simp only [maxLen]; omega) (by omega) hse _ rfl ?_; intro g4 c4 w4 hown hgrow hat hlt4; have HP4 : Hid _ := HPS.out g4 c4 w4 hown hgrow; clear hown hgrow hat hlt4) | fail)
      clear hrow hlit hse
      go_roundg (gk - 1)
      case measure => exact q1
      case rel => exact ⟨j + 1, c4, _, q2, by go_num, rfl, HP4.out.1, HP4.out.2⟩
    · have hjN : j = N := by omega
      subst hjN
      have HT : Hid (cs.take j = cs) := by show _ = _; rw [← HN.out, List.take_length]
      have hrow := HO.out
      rw [HT.out] at hrow
      have HRO : Hid (RowN w.heap.size wr (.slice a' j c') (cs.map (·.e.2.2))) := hrow
      have HML : Hid ((cs.map (·.e.2.2)).length = j) := by have h := HTL.out; rw [HT.out] at h; exact h
      clear hrow
      by_cases h0 : j = 0
      · subst h0
        have hso := AnyF.slices_SortFunc_none (P := Try.prog) (ρ := sortU_ren) { sortU with } a' c' (.func (.func 53) #[] #[]) wr
        change Calls Try.prog 52 _ _ _ at hso
        have hco := ncomp_any wr w.heap.size (.slice a' 0 c') (cs.map (·.e.2.2)) HRO.out
        go_wp2_with fail
        refine hso.mono ?_
        rintro e w1 ⟨rfl, rfl⟩
        go_wp2_with fail
        refine hco.mono ?_
        rintro e w2 ⟨v', rfl, hr2, hg2, _⟩
        have HR2 : Hid (RowN w.heap.size w2 v' _) := hr2
        have HB2 : Hid (Below w.heap.size w w2) := HB.out.grown hg2 HB.out.size (fun k' e => (World.ownsRow.lt HRO.out k' e).1)
        clear hso hco hr2 hg2
        go_wp2
        go_ret
        refine ⟨v', _, rfl, HR2.out, ?_, HB2.out⟩
        have hcs : cs.map (·.e.2.2) = [] := List.eq_nil_of_length_eq_zero HML.out
        exact sqs_is (List.Perm.refl _) (by rw [hcs]; exact List.Pairwise.nil)
      · obtain ⟨g, c9, eg, _⟩ := HRO.out.form (by rw [HML.out]; omega)
        rw [HML.out] at eg
        cases eg
        have hso := nsort_any wr w.heap.size g j c' (cs.map (·.e.2.2)) HML.out HRO.out (by omega) (by omega)
        go_wp2_with fail
        refine hso.mono ?_
        rintro e w1 ⟨rfl, ps, hp, hpw, hr1, hg1⟩
        have HB1 : Hid (Below w.heap.size w w1) := HB.out.grown hg1 HB.out.size (fun k' e => (World.ownsRow.lt HRO.out k' e).1)
        have hco := ncomp_any w1 w.heap.size _ ps hr1
        have HR1 : Hid (RowN w.heap.size w1 _ ps) := hr1
        have HPP : Hid (ps.Perm (cs.map (·.e.2.2)) ∧ FallN ps) := ⟨hp, hpw⟩
        clear hso hr1 hg1 hp hpw
        go_wp2_with fail
        refine hco.mono ?_
        rintro e w2 ⟨v', rfl, hr2, hg2, _⟩
        have HR2 : Hid (RowN w.heap.size w2 v' _) := hr2
        have HB2 : Hid (Below w.heap.size w w2) := HB1.out.grown hg2 HB1.out.size (fun k' e => (World.ownsRow.lt HR1.out k' e).1)
        clear hco hr2 hg2
        go_wp2
        go_ret
        exact ⟨v', _, rfl, HR2.out, sqs_is HPP.out.1 HPP.out.2, HB2.out⟩

end Go.Proofs.Ytifdomhmmhepcaa
