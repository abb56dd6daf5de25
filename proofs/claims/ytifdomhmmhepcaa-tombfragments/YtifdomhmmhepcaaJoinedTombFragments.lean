/- Several texts in one. -/
import Derived.Test.YtifdomhmmhepcaaTbPlaces
import Derived.RangeFuncNested
import Derived.RangeFuncBound
import Derived.RangeFuncCalls
import Derived.RangeFuncLeaves
import Derived.RangeFuncFrom
import Derived.Shelf.Abstract
import Derived.Shelf.RegionOpen
import Derived.WalkKit
import Derived.OwnWalkIn
import Derived.TacticsInMore
import Derived.LoopNIn
import Derived.LoopIn
import Derived.RangeFuncBox
import Derived.Test.YtifdomhmmhepcaaTbRowT
import Derived.BigQuiet
import Derived.Deep.RegionLaw
import Derived.Test.YtifdomhmmhepcaaTbCover
import Derived.Test.YtifdomhmmhepcaaCut
import Derived.Deep.RegionHeld3
import Derived.Test.YtifdomhmmhepcaaBoxes
import Derived.Lib.ConvBytes
import Derived.Lib.SmallJoins
import Derived.Test.YtifdomhmmhepcaaSame

/- tomb.seqs. -/
namespace Go.Proofs.Ytifdomhmmhepcaa
set_option maxRecDepth 20000
open Go.RowKit
set_option linter.unusedVariables false
set_option linter.unusedSimpArgs false

theorem RowT.rdc {w0 : World} {B : Nat} {w : World} {v : Value} {ts : List SpC} (h : RowT w0 B w v ts) (hb : Below w0.heap.size w0 w) : RdC w v ts := by
  obtain ⟨a, c, rfl, h1, h2⟩ := h.shape
  refine ⟨a, c, rfl, h1, h2, fun j hj => ?_⟩
  obtain ⟨g, c', e, _⟩ := h.form (by omega)
  cases e
  obtain ⟨c0, c1, c2, _⟩ := h.at rfl j hj
  obtain ⟨r1, r2⟩ := h.2 ts[j] (List.getElem_mem hj)
  refine ⟨g, 0, rfl, ?_, ?_, ?_, r1.below hb (Nat.le_refl _), r2.below hb (Nat.le_refl _)⟩
  · rw [Nat.zero_add]; exact c0
  · rw [Nat.zero_add]; exact c1
  · rw [Nat.zero_add]; exact c2

/-- what seqs answers -/
def SqsPost (w : World) (cs : List SpC) (e : Ending) (w' : World) : Prop :=
  ∃ v ns, e = .returned v ∧ RowN w.heap.size w' v ns ∧ ns = srtU gtNN (cs.map (·.e.2.2)) ∧ Below w.heap.size w w'

theorem sqs_is {l ns : List Nat} (hp : ns.Perm l) (hs : FallN ns) : ddTo eqNN ns ns.length = srtU gtNN l := by
  obtain ⟨h1, h2⟩ := ddTo_rise ordN (fun p : Nat => p) (l := ns) (eq := eqNN) eqNN_iff (List.Pairwise.imp (fun {a b} h => by simpa [gtNN] using h) hs) ns.length (Nat.le_refl _)
  rw [List.map_id'] at h1
  refine srtU_is ordN h1 (fun x => ?_)
  have h3 := h2 x
  rw [List.map_id', List.map_id', List.take_length] at h3
  exact h3.trans hp.mem_iff

theorem numC_next {cs : List SpC} {j : Nat} (h : j < cs.length) : (cs.take (j + 1)).map (·.e.2.2) = (cs.take j).map (·.e.2.2) ++ [cs[j].e.2.2] := by
  rw [List.take_succ_eq_append_getElem h, List.map_append]
  rfl

set_option maxHeartbeats 4000000 in
theorem tseqs_any (w : World) (v : Value) (cs : List SpC) (hv : RdC w v cs) (hn : cs.length ≤ 100000) :
    Calls Try.prog 39 #[v] w (SqsPost w cs) := by
  obtain ⟨i0, hi, hz0, hz1, hz2⟩ := info_parts infoU
  have HV : Hid (RdC w v cs) := hv
  obtain ⟨ao, cap, rfl, h1, h2, _⟩ := hv
  unfold maxLen at h2
  obtain ⟨N, hN⟩ : ∃ N, cs.length = N := ⟨_, rfl⟩
  rw [hN] at h1 HV hn ⊢
  have HN : Hid (cs.length = N) := hN
  clear hN
  go_enter Try.func39, Try.ntmps39
  go_wp2_with fail
  go_loopg [3, 8] N (fun gk pv iv wr => ∃ j c' : Nat, ∃ a' : Option Addr, gk + j = N ∧ iv = .int .i64 (j : Int) ∧ pv = .slice a' j c' ∧ Hid (RowN w.heap.size wr pv ((cs.take j).map (·.e.2.2))) ∧ Hid (Below w.heap.size w wr))
  case atStart => exact ⟨0, 0, none, by omega, rfl, rfl, by simp only [List.take_zero, List.map_nil]; exact World.ownsRow_nil _ _ _ _, Below.refl _ _⟩
  case round =>
    obtain ⟨j, c', a', hj, rfl, rfl, HO, HB⟩ := hrel
    have HTL : Hid (((cs.take j).map (·.e.2.2)).length = j) := by show _ = _; rw [List.length_map, List.length_take, HN.out]; omega
    by_cases hlt : j < N
    · have hlt2 : j < cs.length := by rw [HN.out]; exact hlt
      obtain ⟨_, _, e, _, _, h3⟩ := HV.out.below HB.out (Nat.le_refl _)
      rw [HN.out] at e
      cases e
      obtain ⟨b, off, rfl, c0, c1, c2, rx, ry⟩ := h3 j hlt2
      obtain ⟨x1, x2, ex⟩ := rx.len
      obtain ⟨y1, y2, ey⟩ := ry.len
      obtain ⟨q1, q2⟩ := gk_nxt hj hlt
      have HNX : Hid ((cs.take (j + 1)).map (·.e.2.2) = (cs.take j).map (·.e.2.2) ++ [cs[j].e.2.2]) := numC_next hlt2
      rw [ex] at c0
      rw [ey] at c1
      obtain ⟨nl, hnl⟩ : ∃ nl, cs[j].e.1.length = nl := ⟨_, rfl⟩
      obtain ⟨ml, hml⟩ : ∃ ml, cs[j].e.2.1.length = ml := ⟨_, rfl⟩
      obtain ⟨sq, hsq⟩ : ∃ z : Int, (cs[j].e.2.2 : Int) = z := ⟨_, rfl⟩
      have HSQ : Hid ((cs[j].e.2.2 : Int) = sq) := hsq
      rw [hnl] at c0
      rw [hml] at c1
      rw [hsq] at c2
      have hb0 := below_box wr #[.slice x1 nl x2, .slice y1 ml y2, .int .u64 sq] 32
      obtain ⟨z0, z1, z2, _, _, _⟩ := box_new wr (.slice x1 nl x2) (.slice y1 ml y2) (.int .u64 sq) 32
      have hbe := below_box4 (wr.alloc (.cells #[.slice x1 nl x2, .slice y1 ml y2, .int .u64 sq] 32)) (.cells #[.int .u64 sq] 30)
      have hlit := laidT1 (wr.alloc (.cells #[.slice x1 nl x2, .slice y1 ml y2, .int .u64 sq] 32)) (.int .u64 sq) 30
      have HBE : Hid (Below w.heap.size w ((wr.alloc (.cells #[.slice x1 nl x2, .slice y1 ml y2, .int .u64 sq] 32)).alloc (.cells #[.int .u64 sq] 30))) := bsplit (bsplit HB.out hb0) hbe
      have hse := HBE.out.size
      have hrow := (HO.out.below hb0).below hbe
      unfold RowN at hrow
      rw [HTL.out] at hrow
      have HLT : Hid (∀ k', (Value.slice a' j c').ownBlock = some k' → w.heap.size ≤ k') := fun k' e => (hrow.lt k' e).1
      have hm9 : j ≤ 100000 := by omega
      have hs1 : (wr.alloc (.cells #[.slice x1 nl x2, .slice y1 ml y2, .int .u64 sq] 32)).heap.size = wr.heap.size + 1 := by simp
      rw [hs1] at hlit
      have HPS : Hid (∀ g4 c4 w4, w4.ownsRow w.heap.size 30 1 (.slice (some ⟨g4, 0, none⟩) (j + 1) c4) (j + 1) (((cs.take j).map (·.e.2.2)).map encN ++ [.int .u64 sq]) → ((wr.alloc (.cells #[.slice x1 nl x2, .slice y1 ml y2, .int .u64 sq] 32)).alloc (.cells #[.int .u64 sq] 30)).grownBy w4 (Value.slice a' j c').ownBlock → RowN w.heap.size w4 (.slice (some ⟨g4, 0, none⟩) (j + 1) c4) ((cs.take (j + 1)).map (·.e.2.2)) ∧ Below w.heap.size w w4) := by
        intro g4 c4 w4 hown hgrow
        refine ⟨?_, HBE.out.grown hgrow HBE.out.size HLT.out⟩
        unfold RowN
        rw [HNX.out, List.length_append, HTL.out, List.map_append]
        simp only [List.map_cons, List.map_nil, List.length_cons, List.length_nil]
        unfold encN at hown ⊢
        rw [HSQ.out]
        exact hown
      clear hs1 hb0 h3 rx ry hnl hml hsq ex ey hbe
      go_wp2_with (first | (at_builtin; refine wpList_append_lies _ rfl (.tmp 12) (.tmp 15) 24 rfl w.heap.size 30 i0 (.int .u64 0) 1 8 Try.underlying24 hi hz0 hz1 hz2 rfl (by decide) (.slice a' j c') j (((cs.take j).map (·.e.2.2)).map encN) rfl hrow ⟨wr.heap.size + 1, 0, none⟩ 1 1 [.int .u64 sq] rfl rfl hlit (by intro u hu; simp at hu; rw [hu]; rfl) (by decide) (by simp only [maxLen]; omega) (by omega) hse _ rfl ?_; intro g4 c4 w4 hown hgrow hat hlt4; have HP4 : Hid _ := HPS.out g4 c4 w4 hown hgrow; clear hown hgrow hat hlt4) | fail)
      clear hrow hlit hse
      go_roundg (gk - 1)
      case measure => exact q1
      case rel => exact ⟨j + 1, c4, _, q2, by go_num, rfl, HP4.out.1, HP4.out.2⟩
    · have hjN : j = N := by omega
      subst hjN
      have HT : Hid (cs.take j = cs) := by show _ = _; rw [← HN.out, List.take_length]
      have hrow := HO.out
      rw [HT.out] at hrow
      have HRO : Hid (RowN w.heap.size wr (.slice a' j c') (cs.map (·.e.2.2))) := hrow
      have HML : Hid ((cs.map (·.e.2.2)).length = j) := by have h := HTL.out; rw [HT.out] at h; exact h
      clear hrow
      by_cases h0 : j = 0
      · subst h0
        have hso := AnyF.slices_SortFunc_none (P := Try.prog) (ρ := sortU_ren) { sortU with } a' c' (.func (.func 53) #[] #[]) wr
        change Calls Try.prog 52 _ _ _ at hso
        have hco := ncomp_any wr w.heap.size (.slice a' 0 c') (cs.map (·.e.2.2)) HRO.out
        go_wp2_with fail
        refine hso.mono ?_
        rintro e w1 ⟨rfl, rfl⟩
        go_wp2_with fail
        refine hco.mono ?_
        rintro e w2 ⟨v', rfl, hr2, hg2, _⟩
        have HR2 : Hid (RowN w.heap.size w2 v' _) := hr2
        have HB2 : Hid (Below w.heap.size w w2) := HB.out.grown hg2 HB.out.size (fun k' e => (World.ownsRow.lt HRO.out k' e).1)
        clear hso hco hr2 hg2
        go_wp2
        go_ret
        refine ⟨v', _, rfl, HR2.out, ?_, HB2.out⟩
        have hcs : cs.map (·.e.2.2) = [] := List.eq_nil_of_length_eq_zero HML.out
        exact sqs_is (List.Perm.refl _) (by rw [hcs]; exact List.Pairwise.nil)
      · obtain ⟨g, c9, eg, _⟩ := HRO.out.form (by rw [HML.out]; omega)
        rw [HML.out] at eg
        cases eg
        have hso := nsort_any wr w.heap.size g j c' (cs.map (·.e.2.2)) HML.out HRO.out (by omega) (by omega)
        go_wp2_with fail
        refine hso.mono ?_
        rintro e w1 ⟨rfl, ps, hp, hpw, hr1, hg1⟩
        have HB1 : Hid (Below w.heap.size w w1) := HB.out.grown hg1 HB.out.size (fun k' e => (World.ownsRow.lt HRO.out k' e).1)
        have hco := ncomp_any w1 w.heap.size _ ps hr1
        have HR1 : Hid (RowN w.heap.size w1 _ ps) := hr1
        have HPP : Hid (ps.Perm (cs.map (·.e.2.2)) ∧ FallN ps) := ⟨hp, hpw⟩
        clear hso hr1 hg1 hp hpw
        go_wp2_with fail
        refine hco.mono ?_
        rintro e w2 ⟨v', rfl, hr2, hg2, _⟩
        have HR2 : Hid (RowN w.heap.size w2 v' _) := hr2
        have HB2 : Hid (Below w.heap.size w w2) := HB1.out.grown hg2 HB1.out.size (fun k' e => (World.ownsRow.lt HR1.out k' e).1)
        clear hco hr2 hg2
        go_wp2
        go_ret
        exact ⟨v', _, rfl, HR2.out, sqs_is HPP.out.1 HPP.out.2, HB2.out⟩

end Go.Proofs.Ytifdomhmmhepcaa

/- slices.Values of spans: its function goes along the spans. -/
namespace Go.Proofs.Ytifdomhmmhepcaa
open Go.RowKit Go.Shelf
set_option linter.unusedVariables false
set_option linter.unusedSimpArgs false

attribute [local go_sem] Oper.semAt_some

def leftV (N : Nat) (v : Value) : Nat := match v with
  | .int _ z => N - z.toNat
  | _ => 0

theorem vals_any (w : World) (a : Option Addr) (n c : Nat) :
    Calls Try.prog 32 #[.slice a n c] w fun e w' => e = .returned (.func (.func 46) #[] #[.pointer (some ⟨w.heap.size, 0, none⟩)]) ∧ w' = w.alloc (.cells #[.slice a n c] 22) := by
  go_enter Try.func32, Try.ntmps32
  go_wp2
  go_ret
  exact ⟨rfl, rfl⟩

set_option maxRecDepth 100000 in
set_option maxHeartbeats 4000000 in
theorem vals_stops (n : Nat) (hn : 1 ≤ n) (w : World) (Bl : Nat) (v : Value) (cs : List SpC) (hv : RdC w v cs) (cl : w.cell? ⟨Bl, 0, none⟩ = some v) :
    SeqStopsK Fence.wide n Try.prog 46 #[.pointer (some ⟨Bl, 0, none⟩)] (fun t : {t : SpC // t ∈ cs} => #[spV t.1.x t.1.y (t.1.e.2.2 : Int)]) (fun A B => Below w.heap.size A B) (fun xs => xs.map (·.1) = cs) (fun pre => pre.map (·.1) <+: cs) (cs.length + 1) w := fun yl J Jx W hW hJ hJx hY h0 => by
  have clW : W.cell? ⟨Bl, 0, none⟩ = some v := by rw [hW.cell (p := ⟨Bl, 0, none⟩) (World.block_lt_of_cell? w _ cl)]; exact cl
  have HV : Hid (RdC w v cs) := hv
  obtain ⟨ao, cap, rfl, h1, h2, _⟩ := hv
  unfold maxLen at h2
  obtain ⟨N, hN⟩ : ∃ N, cs.length = N := ⟨_, rfl⟩
  rw [hN] at h1 HV clW
  have HN : Hid (cs.length = N) := hN
  have HJ : Hid (AbidesFrom W.heap.size J) := hJ
  have HW : Hid (Below w.heap.size w W) := hW
  have HY : Hid _ := hY
  clear hN cl hJ hJx hW hY
  refine callsIn_of_wp Try.func46 rfl trivial ?_ rfl
  simp only [Try.ntmps46, List.size_toArray, List.length_cons, List.length_nil, Nat.reduceAdd, Nat.reduceSub, Array.replicate_succ, Array.replicate_zero, List.push_toArray, List.append_toArray, List.nil_append, List.cons_append]
  gi_wp2_with fail
  gi_loopw [4, 7] (fun bv iv wr => ∃ j : Nat, j ≤ N ∧ iv = .int .i64 (j : Int) ∧ (∃ pre : List {t : SpC // t ∈ cs}, pre.map (·.1) = cs.take j ∧ J pre wr) ∧ Below w.heap.size w wr) (fun bv iv wr => leftV N iv)
  case atStart => exact ⟨0, Nat.zero_le _, rfl, ⟨[], by simp, h0⟩, HW.out⟩
  case round =>
    obtain ⟨j, hjN, rfl, ⟨pre, hpre, hJa⟩, hBa⟩ := hrel
    by_cases hlt : j < N
    · have hlt2 : j < cs.length := by rw [HN.out]; exact hlt
      obtain ⟨_, _, e, _, _, h3⟩ := HV.out.below hBa (Nat.le_refl _)
      rw [HN.out] at e
      cases e
      obtain ⟨b, off, rfl, c0, c1, c2, rx, ry⟩ := h3 j hlt2
      obtain ⟨x1, x2, ex⟩ := rx.len
      obtain ⟨y1, y2, ey⟩ := ry.len
      obtain ⟨xj, hxj⟩ : ∃ z : {t : SpC // t ∈ cs}, z.1 = cs[j] := ⟨⟨cs[j], List.getElem_mem hlt2⟩, rfl⟩
      have HPN : Hid ((pre ++ [xj]).map (·.1) = cs.take (j + 1)) := by
        show _ = _
        rw [List.map_append, hpre, List.take_succ_eq_append_getElem hlt2, List.map_cons, List.map_nil, hxj]
      have hpl : pre.length < N + 1 := by
        have h9 := congrArg List.length hpre
        rw [List.length_map, List.length_take] at h9
        omega
      rw [ex] at c0
      rw [ey] at c1
      obtain ⟨nl, hnl⟩ : ∃ nl, cs[j].e.1.length = nl := ⟨_, rfl⟩
      obtain ⟨ml, hml⟩ : ∃ ml, cs[j].e.2.1.length = ml := ⟨_, rfl⟩
      obtain ⟨sq, hsq⟩ : ∃ z : Int, (cs[j].e.2.2 : Int) = z := ⟨_, rfl⟩
      have hb0 := below_box wr #[.slice x1 nl x2, .slice y1 ml y2, .int .u64 sq] 32
      have hJ1 : J pre (wr.alloc (.cells #[.slice x1 nl x2, .slice y1 ml y2, .int .u64 sq] 32)) := HJ.out pre wr _ none hJa (World.grownBy_alloc _ _ _) (fun r e => by cases e)
      have hB1 : Below w.heap.size w (wr.alloc (.cells #[.slice x1 nl x2, .slice y1 ml y2, .int .u64 sq] 32)) := bsplit hBa hb0
      obtain ⟨z0, z1, z2, _, _, _⟩ := box_new wr (.slice x1 nl x2) (.slice y1 ml y2) (.int .u64 sq) 32
      obtain ⟨fn, tmps, assign, body, hy, hR⟩ := HY.out pre xj _ hJ1 (by rw [HN.out]; exact hpl)
      rw [hxj, ex, ey, hnl, hml, hsq] at hy
      rw [hnl] at c0
      rw [hml] at c1
      rw [hsq] at c2
      clear hJa rx ry hpre hxj h3 hb0 hnl hml hsq ex ey hpl hJ1
      gi_wp2_with fail
      refine hR.mono ?_
      rintro e W3 (⟨rfl, hJ3, hK3⟩ | ⟨rfl, hJx3⟩)
      · have HB3 : Hid (Below w.heap.size w W3) := hB1.trans hK3
        have HJ3 : Hid (J (pre ++ [xj]) W3) := hJ3
        clear hR hK3 c0 c1 c2 hy z0 z1 z2 hB1 hBa
        gi_wp2_with fail
        go_roundw
        case rel => exact ⟨j + 1, by omega, by go_num, ⟨_, HPN.out, HJ3.out⟩, HB3.out⟩
        case measure => unfold leftV; simp; omega
      · have HPP : Hid ((pre ++ [xj]).map (·.1) <+: cs) := by show _ <+: _; rw [HPN.out]; exact List.take_prefix _ _
        gi_wp2
        refine bodyPost_ret (results_none rfl _ _ _) rfl ?_
        exact ⟨⟨_, rfl⟩, .inr ⟨_, HPP.out, hJx3⟩⟩
    · have hjE : j = N := by omega
      subst hjE
      have HJ9 : Hid (∃ xs : List {t : SpC // t ∈ cs}, xs.map (·.1) = cs ∧ J xs wr) := ⟨pre, by rw [hpre, ← HN.out, List.take_length], hJa⟩
      clear hJa hpre
      gi_wp2
      go_end0
      exact ⟨⟨_, rfl⟩, .inl HJ9.out⟩

end Go.Proofs.Ytifdomhmmhepcaa

/- slices.AppendSeq, Collect and SortedFunc of spans. -/
namespace Go.Proofs.Ytifdomhmmhepcaa
open Go.RowKit Go.Shelf
set_option linter.unusedVariables false
set_option linter.unusedSimpArgs false

attribute [local go_sem] Oper.semAt_some

theorem flatS_push (l : List SpC) (t : SpC) : flatS (l ++ [t]) = flatS l ++ [t.x, t.y, .int .u64 (t.e.2.2 : Int)] := by rw [flatS_append, flatS_one]

/-- the spans of those that were handed out -/
def preS {cs : List SpC} (pre : List {t : SpC // t ∈ cs}) : List SpC := pre.map (·.1)
def AnyV (v : Value) : Prop := v = v
theorem anyV (v : Value) : AnyV v := rfl

set_option maxRecDepth 100000 in
set_option maxHeartbeats 4000000 in
theorem appseq_any (w : World) (Bl : Nat) (v : Value) (cs : List SpC) (hv : RdC w v cs) (cl : w.cell? ⟨Bl, 0, none⟩ = some v) (hn : cs.length ≤ 100000) :
    Calls Try.prog 56 #[.slice none 0 0, .func (.func 46) #[] #[.pointer (some ⟨Bl, 0, none⟩)]] w fun e w' => ∃ v', e = .returned v' ∧ RowT w w.heap.size w' v' cs ∧ Below w.heap.size w w' := by
  obtain ⟨i0, hi, hz0, hz1, hz2⟩ := info_parts infoSp
  have hsq := vals_stops 3 (by omega) w Bl v cs hv cl
  have HG : Hid (∀ t ∈ cs, GdS w t) := hv.gd
  have bO := Boxed.new w 22 (.slice none 0 0)
  have hB0 : Below w.heap.size w (w.alloc (.cells #[.slice none 0 0] 22)) := (Below.refl _ w).alloc (Nat.le_refl _) _
  refine (callsIn_wide (n := 4)).1 ?_
  refine callsIn_of_wp_marks Try.func56 rfl trivial ?_ rfl
  simp only [Try.ntmps56, List.size_toArray, List.length_cons, List.length_nil, Nat.reduceAdd, Nat.reduceSub, Array.replicate_succ, Array.replicate_zero, List.push_toArray, List.append_toArray, List.nil_append, List.cons_append]
  clear hv cl
  gi_wp2_with fail
  refine wpIn_rangeFunc_ownH rfl (by omega) (gf := 46) (lb := #[.pointer (some ⟨Bl, 0, none⟩)]) rfl trivial (enters_of Try.func46 (by kernel_rfl) rfl)
    hsq (fun h k => h.trans k) (belowK_b (by simp)) hB0 (fun _ => rfl)
    (fun (pre : List {t : SpC // t ∈ cs}) W => (∃ v, Boxed W w.heap.size 22 v ∧ W.ownsRow w.heap.size 32 3 v pre.length (flatS (preS pre)) ∧ AnyV v) ∧ Below w.heap.size w W)
    (fun c (pre : List {t : SpC // t ∈ cs}) W => False)
    (OwnFrom.and (Go.Own.from (holdsRow_own w.heap.size w.heap.size 22 32 3 (fun pre : List {t : SpC // t ∈ cs} => pre.length) (fun pre => flatS (preS pre)) (fun pre v => AnyV v)) _) (ownFrom_below (Nat.le_refl _) (by simp)))
    (fun c s A B row hs hg hr => hs)
    ⟨⟨_, bO, World.ownsRow_nil _ _ _ _, anyV _⟩, hB0⟩
    (fun (x : {t : SpC // t ∈ cs}) a' W => ∃ Bx, (W.cell? ⟨Bx, 0, none⟩ = some x.1.x ∧ W.cell? ⟨Bx, 1, none⟩ = some x.1.y ∧ W.cell? ⟨Bx, 2, none⟩ = some (.int .u64 (x.1.e.2.2 : Int))) ∧ a' = { tmps := #[.slice none 0 0, .func (.func 46) #[] #[.pointer (some ⟨Bl, 0, none⟩)], .pointer (some ⟨w.heap.size, 0, none⟩), undef, .slice none 0 0, .pointer (some ⟨Bx, 0, none⟩), .func (.func 46) #[] #[.pointer (some ⟨Bl, 0, none⟩)], spV x.1.x x.1.y (x.1.e.2.2 : Int), undef, undef, undef, undef, undef], defers := [] })
    (fun x a' _ X Y row hs hg hr => by
      obtain ⟨Bx, h2, h3⟩ := hs
      exact ⟨Bx, ⟨cell_kept h2.1 hg (fun r e => (hr r e).2), cell_kept h2.2.1 hg (fun r e => (hr r e).2), cell_kept h2.2.2 hg (fun r e => (hr r e).2)⟩, h3⟩)
    ?assign ?body ?done ?stop
  case assign =>
    rintro l pre x W K ⟨⟨v, hv, hrow, _⟩, hBW⟩ hK
    obtain ⟨rx, ry⟩ := HG.out x.1 x.2
    obtain ⟨x1, xc, ex⟩ := rx.len
    obtain ⟨y1, yc, ey⟩ := ry.len
    have HX : Hid (x.1.x = .slice x1 x.1.e.1.length xc) := ex
    have HY : Hid (x.1.y = .slice y1 x.1.e.2.1.length yc) := ey
    have HK : Hid _ := hK
    have HROW : Hid (W.ownsRow w.heap.size 32 3 v pre.length (flatS (preS pre))) := hrow
    rw [ex, ey]
    clear rx ry ex ey hK hrow
    simp only [spV]
    gi_wp2
    obtain ⟨c0, c1, c2, _, _, _⟩ := box_new W (.slice x1 x.1.e.1.length xc) (.slice y1 x.1.e.2.1.length yc) (.int .u64 (x.1.e.2.2 : Int)) 32
    refine HK.out _ _ ((KeepsOthers.alloc _ _).from _) ((Below.refl _ W).alloc hBW.size _) ⟨⟨v, hv.alloc _, HROW.out.alloc _, anyV _⟩, hBW.alloc hBW.size _⟩ ⟨W.heap.size, ?_, ?_⟩
    · rw [HX.out, HY.out]
      exact ⟨c0, c1, c2⟩
    · rw [HX.out, HY.out]
  case body =>
    rintro l pre x a' W hl hlr ⟨⟨v, hv, hrow, _⟩, hBW⟩ ⟨Bx, ⟨b0, b1, b2⟩, rfl⟩ hpl
    obtain ⟨rx, ry⟩ := HG.out x.1 x.2
    obtain ⟨x1, xc, ex⟩ := rx.len
    obtain ⟨y1, yc, ey⟩ := ry.len
    have HX : Hid (x.1.x = .slice x1 x.1.e.1.length xc ∧ x.1.y = .slice y1 x.1.e.2.1.length yc) := ⟨ex, ey⟩
    rw [ex] at b0
    rw [ey] at b1
    rw [ex, ey]
    have hlit := laidT3 W (.slice x1 x.1.e.1.length xc) (.slice y1 x.1.e.2.1.length yc) (.int .u64 (x.1.e.2.2 : Int)) 32
    have HSN : Hid (flatS (preS (pre ++ [x])) = flatS (preS pre) ++ [.slice x1 x.1.e.1.length xc, .slice y1 x.1.e.2.1.length yc, .int .u64 (x.1.e.2.2 : Int)]) := by
      show _ = _
      unfold preS
      rw [List.map_append, List.map_cons, List.map_nil, flatS_push, ex, ey]
    have HLN : Hid ((pre ++ [x]).length = pre.length + 1) := by show _ = _; simp
    have HMX : Hid (pre.length ≤ 100000) := by show _ ≤ _; omega
    have hc := hv.cell
    clear rx ry ex ey
    simp only [spV]
    gi_wp2_with (gi_at_builtin; refine wpListIn_append_own _ rfl _ _ 22 rfl w.heap.size 32 i0 (.agg #[.slice none 0 0, .slice none 0 0, .int .u64 0]) 3 56 Try.underlying22 hi hz0 hz1 hz2 rfl (by decide) _ _ _ rfl (hrow.alloc _) ⟨W.heap.size, 0, none⟩ 1 1 [.slice x1 x.1.e.1.length xc, .slice y1 x.1.e.2.1.length yc, .int .u64 (x.1.e.2.2 : Int)] rfl rfl hlit (oneS _ _ _ _ _ _ _) (by have := HMX.out; simp only [maxLen]; omega) (by have := HMX.out; omega) (by have := hBW.size; simp; omega) ?_; intro v' w1 hown' hgrow _; obtain ⟨g', cap', rfl⟩ := ownsRow_succ hown'; obtain ⟨hv1, hv2, hr2, hk2, hb2⟩ := hv.appended (by decide) hrow hBW.size (Nat.le_refl _) hown' hgrow; have hc1 := hv1.cell; have hf1 := hv1.frozen)
    refine ⟨hk2.from _, hb2, ⟨_, hv2, ?_, anyV _⟩, hBW.trans hb2⟩
    rw [HSN.out, HLN.out]
    exact hr2
  case done =>
    rintro D ys W hD hys ⟨⟨v, hv, hrow, _⟩, hB⟩ hK
    have hc := hv.cell
    have hyl : ys.length = cs.length := by have := congrArg List.length hys; rwa [List.length_map] at this
    unfold preS at hrow
    rw [hys, hyl] at hrow
    have HROW : Hid (W.ownsRow w.heap.size 32 3 v cs.length (flatS cs)) := hrow
    clear hrow
    gi_wp2
    refine ⟨by simp, .inl ⟨_, _, rfl, run_takeDeferred hK, ?_⟩⟩
    exact ⟨_, results_tmp rfl _ _ _, v, rfl, ⟨ownsRow_putObj HROW.out _ hK rfl, HG.out⟩, hB.trans (belowK_b (w := w) (Nat.le_refl _) W D _ _ (by simp at hD; omega) hK rfl rfl)⟩
  case stop =>
    rintro D c pre W _ _ h _
    exact h.elim

theorem collect_any (w : World) (Bl : Nat) (v : Value) (cs : List SpC) (hv : RdC w v cs) (cl : w.cell? ⟨Bl, 0, none⟩ = some v) (hn : cs.length ≤ 100000) :
    Calls Try.prog 44 #[.func (.func 46) #[] #[.pointer (some ⟨Bl, 0, none⟩)]] w fun e w' => ∃ v', e = .returned v' ∧ RowT w w.heap.size w' v' cs ∧ Below w.heap.size w w' := by
  have h := appseq_any w Bl v cs hv cl hn
  clear hv cl
  go_enter Try.func44, Try.ntmps44
  go_wp2_with fail
  refine h.mono ?_
  rintro e w' ⟨v', rfl, h1, h2⟩
  have H1 : Hid (RowT w w.heap.size w' v' cs ∧ Below w.heap.size w w') := ⟨h1, h2⟩
  clear h h1 h2
  go_wp2
  go_ret
  exact ⟨v', rfl, H1.out.1, H1.out.2⟩

/-- what slices.SortedFunc answers -/
def SrtPost (w : World) (cs : List SpC) (e : Ending) (w' : World) : Prop :=
  ∃ v' ts, e = .returned v' ∧ ts.Perm cs ∧ RiseT ts ∧ RowT w w.heap.size w' v' ts ∧ Below w.heap.size w w'

theorem sorted_any (w : World) (Bl : Nat) (v : Value) (cs : List SpC) (hv : RdC w v cs) (cl : w.cell? ⟨Bl, 0, none⟩ = some v) (hn : cs.length ≤ 100000) :
    Calls Try.prog 31 #[.func (.func 46) #[] #[.pointer (some ⟨Bl, 0, none⟩)], .func (.func 33) #[] #[]] w (SrtPost w cs) := by
  have h := collect_any w Bl v cs hv cl hn
  clear hv cl
  go_enter Try.func31, Try.ntmps31
  go_wp2_with fail
  refine h.mono ?_
  rintro e w1 ⟨v', rfl, h1, h2⟩
  have H1 : Hid (RowT w w.heap.size w1 v' cs ∧ Below w.heap.size w w1) := ⟨h1, h2⟩
  obtain ⟨a, c, rfl, k1, k2⟩ := h1.shape
  clear h h1 h2
  obtain ⟨N, hN⟩ : ∃ N, cs.length = N := ⟨_, rfl⟩
  rw [hN] at H1 hn k1 ⊢
  have HN : Hid (cs.length = N) := hN
  by_cases h0 : N = 0
  · subst h0
    have hso := AnyF.slices_SortFunc_none (P := Try.prog) (ρ := sortSp_ren) { sortSp with } a c (.func (.func 33) #[] #[]) w1
    change Calls Try.prog 45 _ _ _ at hso
    clear hN
    go_wp2_with fail
    refine hso.mono ?_
    rintro e w2 ⟨rfl, rfl⟩
    clear hso
    go_wp2
    go_ret
    refine ⟨_, cs, rfl, List.Perm.refl _, ?_, H1.out.1, H1.out.2⟩
    rw [List.eq_nil_of_length_eq_zero HN.out]
    exact List.Pairwise.nil
  · obtain ⟨g, c9, eg, _⟩ := H1.out.1.form (by rw [HN.out]; omega)
    rw [HN.out] at eg
    cases eg
    have hso := tsort_any w w1 w.heap.size g N c cs hN H1.out.1 H1.out.2 (Nat.le_refl _) (by omega) (by omega)
    clear hN
    go_wp2_with fail
    refine hso.mono ?_
    rintro e w2 ⟨rfl, ts, hp, hr, hrow, hg⟩
    have H2 : Hid (ts.Perm cs ∧ RiseT ts ∧ RowT w w.heap.size w2 (.slice (some ⟨g, 0, none⟩) N c) ts ∧ Below w.heap.size w w2) := ⟨hp, hr, hrow, H1.out.2.grown hg H1.out.2.size (fun k' e => (H1.out.1.1.lt k' e).1)⟩
    clear hso hp hr hrow hg
    go_wp2
    go_ret
    exact ⟨_, ts, rfl, H2.out.1, H2.out.2.1, H2.out.2.2.1, H2.out.2.2.2⟩

end Go.Proofs.Ytifdomhmmhepcaa

/- slices.DeleteFunc of spans, as tomb.Fragments calls it. -/
namespace Go.Proofs.Ytifdomhmmhepcaa
set_option maxRecDepth 20000
open Go.RowKit
set_option linter.unusedVariables false
set_option linter.unusedSimpArgs false

/-- does it cover the place? -/
def covT (k : List UInt8) (t : SpC) : Bool := covB t.e.1 t.e.2.1 k

/-- the function that is handed in: away with what doesn't cover the place -/
theorem delcl_any (w : World) (x y kv : Value) (l m k : List UInt8) (s : Int) (fb : Nat) (r : Bool) (hx : Rd w x l) (hy : Rd w y m) (hc : w.cell? ⟨fb, 0, none⟩ = some kv) (hk : Rd w kv k) (hr : covB l m k = r) :
    Calls Try.prog 37 #[spV x y s, .pointer (some ⟨fb, 0, none⟩)] w fun e w' => e = .returned (.bool (!r)) ∧ Below w.heap.size w w' := by
  obtain ⟨xa, xc, rfl⟩ := hx.len
  obtain ⟨ya, yc, rfl⟩ := hy.len
  obtain ⟨ka, kc, rfl⟩ := hk.len
  have hb0 := below_box w #[.slice xa l.length xc, .slice ya m.length yc, .int .u64 s] 32
  have HB0 : Hid (Below w.heap.size w (w.alloc (.cells #[.slice xa l.length xc, .slice ya m.length yc, .int .u64 s] 32))) := hb0
  have e1 := covers_any (w.alloc (.cells #[.slice xa l.length xc, .slice ya m.length yc, .int .u64 s] 32)) _ _ _ l m k s r (hx.below hb0 (Nat.le_refl _)) (hy.below hb0 (Nat.le_refl _)) (hk.below hb0 (Nat.le_refl _)) hr
  obtain ⟨c0, c1, c2, _, _, _⟩ := box_new w (.slice xa l.length xc) (.slice ya m.length yc) (.int .u64 s) 32
  have c3 : (w.alloc (.cells #[.slice xa l.length xc, .slice ya m.length yc, .int .u64 s] 32)).cell? ⟨fb, 0, none⟩ = some (.slice ka k.length kc) := (hb0.cell (p := ⟨fb, 0, none⟩) (World.block_lt_of_cell? w _ hc)).trans hc
  clear hx hy hk hb0 hc hr
  go_enter Try.func37, Try.ntmps37
  go_wp2_with fail
  refine e1.mono ?_
  rintro o w1 ⟨rfl, hb1⟩
  have HB1 : Hid (Below w.heap.size w w1) := bsplit HB0.out hb1
  clear e1 hb1
  go_wp2
  go_ret
  exact ⟨rfl, HB1.out⟩

/-- where the first one is that doesn't cover the place -/
def IdxT (k : List UInt8) (ts : List SpC) (r : Int) : Prop := (r = -1 ∧ ∀ t ∈ ts, covT k t = true) ∨ ∃ i, ∃ h : i < ts.length, r = (i : Int) ∧ covT k ts[i] = false ∧ ∀ j (hj : j < i), covT k (ts[j]'(by omega)) = true

set_option maxHeartbeats 4000000 in
theorem tidx_any (w0 w : World) (B fb : Nat) (v kv : Value) (k : List UInt8) (ts : List SpC) (hR : RowT w0 B w v ts) (hb : Below w0.heap.size w0 w) (hc : w.cell? ⟨fb, 0, none⟩ = some kv) (hk : Rd w0 kv k) :
    Calls Try.prog 51 #[v, .func (.func 37) #[] #[.pointer (some ⟨fb, 0, none⟩)]] w fun e w' => ∃ r, e = .returned (.int .i64 r) ∧ IdxT k ts r ∧ Below w.heap.size w w' := by
  obtain ⟨a, cap, rfl, h1, h2⟩ := hR.shape
  obtain ⟨N, hN⟩ : ∃ N, ts.length = N := ⟨_, rfl⟩
  have HR : Hid (RowT w0 B w (.slice a ts.length cap) ts) := hR
  rw [hN] at h1 HR ⊢
  have HN : Hid (ts.length = N) := hN
  have HW : Hid (Below w0.heap.size w0 w) := hb
  have HK : Hid (Rd w0 kv k) := hk
  have HC : Hid (w.cell? ⟨fb, 0, none⟩ = some kv) := hc
  clear hN hb hk hc hR
  go_enter Try.func51, Try.ntmps51
  go_wp2_with fail
  go_loopg [8] N (fun gk iv wr => ∃ j : Nat, gk + j = N ∧ iv = .int .i64 (j : Int) ∧ Hid (∀ i (h : i < ts.length), i < j → covT k ts[i] = true) ∧ Hid (Below w.heap.size w wr))
  case atStart => exact ⟨0, by omega, rfl, fun i _ h => absurd h (Nat.not_lt_zero _), Below.refl _ _⟩
  case round =>
    obtain ⟨j, hj, rfl, HS, HB⟩ := hrel
    by_cases hlt : j < N
    · have hlt2 : j < ts.length := by rw [HN.out]; exact hlt
      have hRr := HR.out.below HB.out
      obtain ⟨g, c', eg, _⟩ := hRr.form (by omega)
      cases eg
      obtain ⟨c0, c1, c2, _⟩ := hRr.at HN.out j hlt2
      obtain ⟨rx, ry⟩ := hRr.2 ts[j] (List.getElem_mem hlt2)
      have hbr : Below w0.heap.size w0 wr := bsplit HW.out HB.out
      obtain ⟨q1, q2⟩ := gk_nxt hj hlt
      have hr : covB ts[j].e.1 ts[j].e.2.1 k = covT k ts[j] := rfl
      have hcl := delcl_any wr ts[j].x ts[j].y kv _ _ k (ts[j].e.2.2 : Int) fb _ (rx.below hbr (Nat.le_refl _)) (ry.below hbr (Nat.le_refl _)) ((HB.out.cell (p := ⟨fb, 0, none⟩) (World.block_lt_of_cell? w _ HC.out)).trans HC.out) (HK.out.below hbr (Nat.le_refl _)) hr
      obtain ⟨x1, x2, ex⟩ := rx.len
      obtain ⟨y1, y2, ey⟩ := ry.len
      rw [ex, ey] at hcl
      rw [ex] at c0
      rw [ey] at c1
      obtain ⟨nl, hnl⟩ : ∃ nl, ts[j].e.1.length = nl := ⟨_, rfl⟩
      obtain ⟨ml, hml⟩ : ∃ ml, ts[j].e.2.1.length = ml := ⟨_, rfl⟩
      obtain ⟨sq, hsq⟩ : ∃ z : Int, (ts[j].e.2.2 : Int) = z := ⟨_, rfl⟩
      obtain ⟨r, hr9⟩ : ∃ r, covT k ts[j] = r := ⟨_, rfl⟩
      rw [hnl, hml, hsq, hr9] at hcl
      rw [hnl] at c0
      rw [hml] at c1
      rw [hsq] at c2
      have HRR : Hid (covT k ts[j] = r) := hr9
      clear rx ry hbr hr hnl hml hsq hr9 ex ey hRr
      go_wp2_with fail
      refine hcl.mono ?_
      rintro o w2 ⟨rfl, hb2⟩
      have HB2 : Hid (Below w.heap.size w w2) := bsplit HB.out hb2
      clear hcl hb2 c0 c1 c2
      cases r
      · go_wp2_with fail
        go_wp2
        go_ret
        exact ⟨_, rfl, .inr ⟨j, hlt2, rfl, HRR.out, fun i hi => HS.out i (by omega) hi⟩, HB2.out⟩
      · go_wp2_with fail
        go_roundg (gk - 1)
        case measure => exact q1
        case rel =>
          refine ⟨j + 1, q2, by go_num, fun i hi h => ?_, HB2⟩
          by_cases h9 : i = j
          · subst h9; exact HRR.out
          · exact HS.out i hi (by omega)
    · have hjN : j = N := by omega
      subst hjN
      go_wp2_with fail
      go_wp2
      go_ret
      refine ⟨_, rfl, .inl ⟨rfl, fun t ht => ?_⟩, HB.out⟩
      obtain ⟨i, hi, rfl⟩ := List.getElem_of_mem ht
      exact HS.out i hi (by rw [← HN.out]; exact hi)

end Go.Proofs.Ytifdomhmmhepcaa

/- slices.DeleteFunc of spans, as tomb.Fragments calls it: the loop. -/
namespace Go.Proofs.Ytifdomhmmhepcaa
set_option maxRecDepth 20000
open Go.RowKit
set_option linter.unusedVariables false
set_option linter.unusedSimpArgs false

theorem infoSpZ : ∀ w, (zeroValue 32).run Try.prog w = .ok (.agg #[.slice none 0 0, .slice none 0 0, .int .u64 0]) w := Try.zeroValue32

/-- so far has it come: the first i are what stays of the first j, from j on it is as it was -/
def DelI (k : List UInt8) (ts D : List SpC) (i j : Nat) : Prop := D.length = ts.length ∧ i < j ∧ D.take i = (ts.take j).filter (covT k) ∧ D.drop j = ts.drop j

theorem DelI.start {k : List UInt8} {ts : List SpC} {i : Nat} (hi : i < ts.length) (hf : covT k ts[i] = false) (ha : ∀ j (hj : j < i), covT k (ts[j]'(by omega)) = true) : DelI k ts ts i (i + 1) := by
  refine ⟨rfl, by omega, ?_, rfl⟩
  rw [List.take_succ_eq_append_getElem hi, List.filter_append]
  have e1 : (ts.take i).filter (covT k) = ts.take i := List.filter_eq_self.2 (fun t ht => by
    obtain ⟨j, hj, rfl⟩ := List.getElem_of_mem ht
    rw [List.length_take] at hj
    rw [List.getElem_take]
    exact ha j (by omega))
  rw [e1]
  simp [hf]

theorem DelI.skip {k : List UInt8} {ts D : List SpC} {i j : Nat} (h : DelI k ts D i j) (hj : j < ts.length) (hf : covT k ts[j] = false) : DelI k ts D i (j + 1) := by
  obtain ⟨h1, h2, h3, h4⟩ := h
  refine ⟨h1, by omega, ?_, ?_⟩
  · rw [h3, List.take_succ_eq_append_getElem hj, List.filter_append]
    simp [hf]
  · rw [← List.drop_drop, h4, List.drop_drop]

theorem DelI.keep {k : List UInt8} {ts D : List SpC} {i j : Nat} (h : DelI k ts D i j) (hj : j < ts.length) (hf : covT k ts[j] = true) : DelI k ts (D.set i ts[j]) (i + 1) (j + 1) := by
  obtain ⟨h1, h2, h3, h4⟩ := h
  have hi : i < D.length := by omega
  refine ⟨by rw [List.length_set]; exact h1, by omega, ?_, ?_⟩
  · rw [List.take_succ_eq_append_getElem (by rw [List.length_set]; exact hi), List.getElem_set_self, List.take_set_of_le (Nat.le_refl _), h3, List.take_succ_eq_append_getElem hj, List.filter_append]
    simp [hf]
  · rw [List.drop_set_of_lt (by omega), ← List.drop_drop, h4, List.drop_drop]

theorem DelI.at {k : List UInt8} {ts D : List SpC} {i j : Nat} (h : DelI k ts D i j) (hj : j < ts.length) : ∃ hD : j < D.length, D[j] = ts[j] := by
  obtain ⟨h1, h2, h3, h4⟩ := h
  refine ⟨by omega, ?_⟩
  have e1 : (D.drop j)[0]? = D[j]? := by simp
  have e2 : (ts.drop j)[0]? = ts[j]? := by simp
  have h9 := e1.symm.trans ((congrArg (·[0]?) h4).trans e2)
  rw [List.getElem?_eq_getElem (by omega), List.getElem?_eq_getElem hj] at h9
  exact Option.some.inj h9

/-- what slices.DeleteFunc leaves -/
def DelPost (w0 : World) (B : Nat) (w : World) (v : Value) (k : List UInt8) (ts : List SpC) (e : Ending) (w' : World) : Prop :=
  ∃ v', e = .returned v' ∧ RowT w0 B w' v' (ts.filter (covT k)) ∧ w.grownBy w' v.ownBlock ∧ v'.ownBlock = v.ownBlock

set_option maxHeartbeats 4000000 in
theorem tdel_any (w0 w : World) (B fb : Nat) (v kv : Value) (k : List UInt8) (ts : List SpC) (hR : RowT w0 B w v ts) (hb : Below w0.heap.size w0 w) (hB : w0.heap.size ≤ B) (hc : w.cell? ⟨fb, 0, none⟩ = some kv) (hk : Rd w0 kv k) (hfb : v.ownBlock ≠ some fb) :
    Calls Try.prog 36 #[v, .func (.func 37) #[] #[.pointer (some ⟨fb, 0, none⟩)]] w (DelPost w0 B w v k ts) := by
  have hix := tidx_any w0 w B fb v kv k ts hR hb hc hk
  have HR : Hid (RowT w0 B w v ts) := hR
  have HW : Hid (Below w0.heap.size w0 w) := hb
  have HK : Hid (Rd w0 kv k) := hk
  have HC : Hid (w.cell? ⟨fb, 0, none⟩ = some kv) := hc
  obtain ⟨a, cap, rfl, h1, h2⟩ := hR.shape
  obtain ⟨N, hN⟩ : ∃ N, ts.length = N := ⟨_, rfl⟩
  rw [hN] at h1 hix HR hfb ⊢
  have HN : Hid (ts.length = N) := hN
  clear hN hR hb hk hc
  go_enter Try.func36, Try.ntmps36
  go_wp2_with fail
  refine hix.mono ?_
  rintro o w1 ⟨r, rfl, hI, hb1⟩
  have HB1 : Hid (Below w.heap.size w w1) := hb1
  clear hix hb1
  rcases hI with ⟨rfl, hall⟩ | ⟨i0, hi0, rfl, hf0, ha0⟩
  · have HA : Hid (ts.filter (covT k) = ts) := List.filter_eq_self.2 hall
    clear hall
    go_wp2
    go_ret
    refine ⟨_, rfl, ?_, grownBy_of_below HB1.out _, rfl⟩
    rw [HA.out]
    exact HR.out.below HB1.out
  have hi1 : i0 < N := by rw [← HN.out]; exact hi0
  have hne : ((i0 : Int) == -1) = false := beq_eq_false_iff_ne.2 (by omega)
  have HD0 : Hid (DelI k ts ts i0 (i0 + 1)) := DelI.start hi0 hf0 ha0
  obtain ⟨g, c', eg, hgc1, hgc2⟩ := HR.out.form (by rw [HN.out]; omega)
  rw [HN.out] at eg
  cases eg
  have HG : Hid (g ≠ fb) := fun e => hfb (by rw [e]; rfl)
  have HR1 : Hid (RowT w0 B w1 (.slice (some ⟨g, 0, none⟩) N cap) ts) := HR.out.below HB1.out
  have HFB : Hid (w1.cell? ⟨fb, 0, none⟩ = some kv) := (HB1.out.cell (p := ⟨fb, 0, none⟩) (World.block_lt_of_cell? w _ HC.out)).trans HC.out
  have HW1 : Hid (Below w0.heap.size w0 w1) := bsplit HW.out HB1.out
  have HGB : Hid (B ≤ g ∧ g < w1.heap.size) := by have := HR1.out.1.lt g rfl; exact this
  clear hf0 ha0 hfb hi0 HC
  go_wp2_with fail
  go_loopg [5, 6, 7] N (fun gk iv jv _ wr => ∃ i j : Nat, ∃ D : List SpC, (N ≤ gk + j ∧ j ≤ N) ∧ iv = .int .i64 (i : Int) ∧ jv = .int .i64 (j : Int) ∧ Hid (DelI k ts D i j) ∧ Hid (RowT w0 B wr (.slice (some ⟨g, 0, none⟩) N cap) D) ∧ Hid (w1.grownBy wr (some g)))
  case atStart => exact ⟨i0, i0 + 1, ts, by omega, rfl, by go_num, HD0, HR1, ⟨rfl, rfl, rfl, Nat.le_refl _, fun _ _ _ => rfl⟩⟩
  case round =>
    obtain ⟨i, j, D, hj, rfl, rfl, HD, HRD, HGR⟩ := hrel
    have hij : i < j := HD.out.2.1
    have HDL : Hid (D.length = N) := HD.out.1.trans HN.out
    by_cases hlt : j < N
    · have hlt2 : j < ts.length := by rw [HN.out]; exact hlt
      obtain ⟨hjD, eD⟩ := HD.out.at hlt2
      obtain ⟨c0, c1, c2, _⟩ := HRD.out.at HDL.out j hjD
      have hiD : i < D.length := by omega
      obtain ⟨d0, d1, d2, f0, f1, f2⟩ := HRD.out.at HDL.out i hiD
      have q1 : gk - 1 < gk := by omega
      have q2 : N ≤ gk - 1 + (j + 1) ∧ j + 1 ≤ N := by omega
      obtain ⟨rx, ry⟩ := HRD.out.2 D[j] (List.getElem_mem hjD)
      have HGD : Hid (GdS w0 D[j]) := ⟨rx, ry⟩
      have hbr : Below w0.heap.size w0 wr := HW1.out.grown HGR.out (HW1.out.size) (fun q hq => by cases hq; have := HGB.out.1; omega)
      have hcf : wr.cell? ⟨fb, 0, none⟩ = some kv := HGR.out.cell HFB.out (fun e => HG.out (by cases e; rfl))
      obtain ⟨xa, xc, ex⟩ := rx.len
      obtain ⟨ya, yc, ey⟩ := ry.len
      have HEE : Hid (D[j].x = .slice xa D[j].e.1.length xc ∧ D[j].y = .slice ya D[j].e.2.1.length yc) := ⟨ex, ey⟩
      rw [ex] at c0
      rw [ey] at c1
      obtain ⟨nl, hnl⟩ : ∃ nl, D[j].e.1.length = nl := ⟨_, rfl⟩
      obtain ⟨ml, hml⟩ : ∃ ml, D[j].e.2.1.length = ml := ⟨_, rfl⟩
      obtain ⟨sq, hsq⟩ : ∃ z : Int, (D[j].e.2.2 : Int) = z := ⟨_, rfl⟩
      obtain ⟨r, hr9⟩ : ∃ r, covT k D[j] = r := ⟨_, rfl⟩
      have hbx := below_box wr #[.slice xa nl xc, .slice ya ml yc, .int .u64 sq] 32
      have BX := box_new wr (.slice xa nl xc) (.slice ya ml yc) (.int .u64 sq) 32
      have hbr2 : Below w0.heap.size w0 (wr.alloc (.cells #[.slice xa nl xc, .slice ya ml yc, .int .u64 sq] 32)) := bsplit hbr hbx
      have hcl := delcl_any (wr.alloc (.cells #[.slice xa nl xc, .slice ya ml yc, .int .u64 sq] 32)) D[j].x D[j].y kv _ _ k (D[j].e.2.2 : Int) fb r (rx.below hbr2 (Nat.le_refl _)) (ry.below hbr2 (Nat.le_refl _)) ((hbx.cell (p := ⟨fb, 0, none⟩) (World.block_lt_of_cell? wr _ hcf)).trans hcf) (HK.out.below hbr2 (Nat.le_refl _)) hr9
      have HSQ : Hid (D[j].e.1.length = nl ∧ D[j].e.2.1.length = ml ∧ (D[j].e.2.2 : Int) = sq) := ⟨hnl, hml, hsq⟩
      rw [ex, ey, hnl, hml, hsq] at hcl
      rw [hnl] at c0
      rw [hml] at c1
      rw [hsq] at c2
      have HRR : Hid (covT k ts[j] = r) := by show _ = _; rw [← eD]; exact hr9
      have HED : Hid (D[j] = ts[j]) := eD
      have HBX : Hid (Below wr.heap.size wr (wr.alloc (.cells #[.slice xa nl xc, .slice ya ml yc, .int .u64 sq] 32))) := hbx
      have HDF : Hid (i < D.length) := hiD
      have BX' := BX
      obtain ⟨z0, z1, z2, _, _, _⟩ := BX'
      clear rx ry hbr hnl hml hsq hr9 ex ey hbr2 hbx eD hcf d0 d1 d2 f0 f1 f2
      go_wp2_with fail
      refine hcl.mono ?_
      rintro o w2 ⟨rfl, hb2⟩
      have hb2' : Below wr.heap.size wr w2 := bsplit HBX.out hb2
      clear z0 z1 z2
      obtain ⟨z0, z1, z2, _, _, _⟩ := BX.below hb2 (Nat.le_refl _)
      have HR2 : Hid (RowT w0 B w2 (.slice (some ⟨g, 0, none⟩) N cap) D) := HRD.out.below hb2'
      have HG2 : Hid (w1.grownBy w2 (some g)) := grownBy_trans HGR.out (grownBy_of_below hb2' _)
      obtain ⟨d0, d1, d2, f0, f1, f2⟩ := HR2.out.at HDL.out i HDF.out
      clear hcl hb2 hb2' BX c0 c1 c2
      cases r
      · go_wp2_with fail
        go_roundg (gk - 1)
        case measure => exact q1
        case rel => exact ⟨i, j + 1, D, q2, rfl, by go_num, HD.out.skip hlt2 HRR.out, HR2, HG2⟩
      · obtain ⟨kp, kg⟩ := HR2.out.put HDL.out i HDF.out D[j] HGD.out
        rw [HEE.out.1, HEE.out.2, HSQ.out.1, HSQ.out.2.1, HSQ.out.2.2] at kp kg
        have HKP : Hid _ := kp
        have HKG : Hid _ := kg
        clear kp kg
        go_wp2_with fail
        go_roundg (gk - 1)
        case measure => exact q1
        case rel => exact ⟨i + 1, j + 1, D.set i D[j], q2, by go_num, by go_num, (by rw [HED.out]; exact HD.out.keep hlt2 HRR.out), HKP, grownBy_trans HG2.out HKG.out⟩
    · have hjN : j = N := by omega
      subst hjN
      have HFI : Hid (D.take i = ts.filter (covT k)) := by
        show _ = _
        rw [HD.out.2.2.1, ← HN.out, List.take_length]
      obtain ⟨w9, hcl, hrow, hgr⟩ := clear_own (P := Try.prog) (t := 22) (ty := 0) Try.underlying22 infoSpZ (size := 3) rfl (by decide) (by intro u hu; simp [Value.cells] at hu; rcases hu with rfl | rfl | rfl <;> rfl) (by have h := HRD.out.1; rw [HDL.out] at h; exact h) hij
      have HRW : Hid _ := hrow
      have HGG : Hid _ := hgr
      clear hrow hgr
      go_wp2_with fail
      go_ret
      have hli : (ts.filter (covT k)).length = i := by rw [← HFI.out, List.length_take, HDL.out]; omega
      refine ⟨_, rfl, ⟨?_, fun t ht => HR.out.2 t (List.mem_filter.1 ht).1⟩, grownBy_trans (grownBy_of_below HB1.out _) (grownBy_trans HGR.out HGG.out), rfl⟩
      rw [hli, ← HFI.out, ← flatS_take]
      exact HRW.out

end Go.Proofs.Ytifdomhmmhepcaa

/- What tomb.Fragments holds from round to round. -/
namespace Go.Proofs.Ytifdomhmmhepcaa
set_option maxRecDepth 20000
open Go.RowKit
set_option linter.unusedVariables false
set_option linter.unusedSimpArgs false

/-- spans of one's own, their bytes too -/
def AllS (B : Nat) (w : World) (v : Value) (es : List SpB) : Prop :=
  ∃ cs, w.ownsRow B 32 3 v es.length cs ∧ ∀ j (h : j < es.length), ∃ x y, cs[j * 3]? = some x ∧ cs[j * 3 + 1]? = some y ∧ cs[j * 3 + 2]? = some (.int .u64 (es[j].2.2 : Int)) ∧ OwnN B w x es[j].1 ∧ OwnN B w y es[j].2.1

theorem AllS.nil (B : Nat) (w : World) : AllS B w (.slice none 0 0) [] := ⟨[], World.ownsRow_nil _ _ _ _, fun _ h => absurd h (Nat.not_lt_zero _)⟩

theorem AllS.kept {B B' n : Nat} {w w' : World} {v o : Value} {es : List SpB} {cs : List Value} (h : AllS B w v es) (hr : w.ownsRow B' 32 3 o n cs) (hg : w.grownBy w' o.ownBlock) (hne : v.ownBlock = none ∨ v.ownBlock ≠ o.ownBlock) : AllS B w' v es := by
  obtain ⟨ds, h1, h2⟩ := h
  refine ⟨ds, h1.kept hg hne, fun j hj => ?_⟩
  obtain ⟨x, y, c0, c1, c2, ox, oy⟩ := h2 j hj
  exact ⟨x, y, c0, c1, c2, ownN_kept ox (by decide) hr hg, ownN_kept oy (by decide) hr hg⟩

theorem AllS.below {B : Nat} {w w' : World} {v : Value} {es : List SpB} (h : AllS B w v es) (hb : Below w.heap.size w w') : AllS B w' v es := by
  obtain ⟨ds, h1, h2⟩ := h
  refine ⟨ds, row_below h1 hb, fun j hj => ?_⟩
  obtain ⟨x, y, c0, c1, c2, ox, oy⟩ := h2 j hj
  exact ⟨x, y, c0, c1, c2, ox.below hb (Nat.le_refl _), oy.below hb (Nat.le_refl _)⟩

theorem AllS.rd {B : Nat} {w : World} {v : Value} {es : List SpB} (h : AllS B w v es) : RdS w v es := by
  obtain ⟨cs, hr, hj⟩ := h
  have hr2 := hr
  rcases hr.2 with ⟨e, hn⟩ | ⟨g, cap, cur, e, hb, hg, h1, h2, h3, h4⟩
  · exact ⟨none, 0, by rw [e, hn], by omega, Nat.zero_le _, fun j hj => by omega⟩
  · subst e
    refine ⟨_, cap, rfl, h1, h2, fun j h => ⟨g, 0, rfl, ?_⟩⟩
    obtain ⟨x, y, c0, c1, c2, ox, oy⟩ := hj j h
    have hc := hr2.cells (g := g) rfl
    refine ⟨x, y, ?_, ?_, ?_, ox.rd, oy.rd⟩
    · have := hc _ _ c0; rwa [Addr.add_lit] at this
    · have := hc _ _ c1; rwa [Addr.add_lit] at this
    · have := hc _ _ c2; rwa [Addr.add_lit] at this

/-- one more -/
theorem AllS.push {B g c n : Nat} {w w' : World} {v x y : Value} {es : List SpB} {cs : List Value} (o : SpB) (hl : es.length = n) (hrow : w.ownsRow B 32 3 v n cs)
    (hel : ∀ j (h : j < es.length), ∃ x y, cs[j * 3]? = some x ∧ cs[j * 3 + 1]? = some y ∧ cs[j * 3 + 2]? = some (.int .u64 (es[j].2.2 : Int)) ∧ OwnN B w x es[j].1 ∧ OwnN B w y es[j].2.1)
    (hx : OwnN B w x o.1) (hy : OwnN B w y o.2.1) (hn : w'.ownsRow B 32 3 (.slice (some ⟨g, 0, none⟩) (n + 1) c) (n + 1) (cs ++ [x, y, .int .u64 (o.2.2 : Int)])) (hg : w.grownBy w' v.ownBlock) : AllS B w' (.slice (some ⟨g, 0, none⟩) (n + 1) c) (es ++ [o]) := by
  subst hl
  have hcl : cs.length = es.length * 3 := hrow.1
  refine ⟨_, by rw [List.length_append]; exact hn, fun j h => ?_⟩
  by_cases hj : j < es.length
  · obtain ⟨x', y', c0, c1, c2, ox, oy⟩ := hel j hj
    refine ⟨x', y', ?_, ?_, ?_, ?_, ?_⟩
    · rw [List.getElem?_append_left (by omega)]; exact c0
    · rw [List.getElem?_append_left (by omega)]; exact c1
    · rw [List.getElem?_append_left (by omega), List.getElem_append_left hj]; exact c2
    · rw [List.getElem_append_left hj]; exact ownN_kept ox (by decide) hrow hg
    · rw [List.getElem_append_left hj]; exact ownN_kept oy (by decide) hrow hg
  · have hje : j = es.length := by rw [List.length_append] at h; simp at h; omega
    subst hje
    have e : (es ++ [o])[es.length]'h = o := by simp
    rw [e]
    refine ⟨x, y, ?_, ?_, ?_, ownN_kept hx (by decide) hrow hg, ownN_kept hy (by decide) hrow hg⟩
    · rw [List.getElem?_append_right (by omega), show es.length * 3 - cs.length = 0 by omega]; rfl
    · rw [List.getElem?_append_right (by omega), show es.length * 3 + 1 - cs.length = 1 by omega]; rfl
    · rw [List.getElem?_append_right (by omega), show es.length * 3 + 2 - cs.length = 2 by omega]; rfl

/-- the four rows: places, what has not begun, what is over the place, all that there is so far -/
structure FrS (w wr : World) (gp M cp : Nat) (ps : List PlC) (gb N cb : Nat) (ts : List SpC) (ov : Value) (os : List SpC) (av : Value) (fs : List SpB) : Prop where
  bel : Below w.heap.size w wr
  plc : RowP w w.heap.size wr (.slice (some ⟨gp, 0, none⟩) M cp) ps
  beg : RowT w w.heap.size wr (.slice (some ⟨gb, 0, none⟩) N cb) ts
  ovr : RowT w w.heap.size wr ov os
  all : AllS w.heap.size wr av fs
  n1 : ov.ownBlock ≠ some gb
  n3 : av.ownBlock ≠ some gb
  n5 : av.ownBlock = none ∨ av.ownBlock ≠ ov.ownBlock

theorem AllS.lt {B : Nat} {w : World} {v : Value} {es : List SpB} (h : AllS B w v es) : ∀ q, v.ownBlock = some q → B ≤ q ∧ q < w.heap.size := by
  obtain ⟨cs, hr, _⟩ := h
  exact fun q hq => hr.lt q hq

theorem FrS.below {w wr w' : World} {gp M cp : Nat} {ps : List PlC} {gb N cb : Nat} {ts : List SpC} {ov : Value} {os : List SpC} {av : Value} {fs : List SpB} (h : FrS w wr gp M cp ps gb N cb ts ov os av fs) (hb : Below wr.heap.size wr w') : FrS w w' gp M cp ps gb N cb ts ov os av fs :=
  ⟨bsplit h.bel hb, h.plc.below hb, h.beg.below hb, h.ovr.below hb, h.all.below hb, h.n1, h.n3, h.n5⟩

theorem neP {w wr : World} {B B' gp M cp n : Nat} {ps : List PlC} {o : Value} {cs : List Value} (hp : RowP w B wr (.slice (some ⟨gp, 0, none⟩) M cp) ps) (hr : wr.ownsRow B' 32 3 o n cs) : (Value.slice (some ⟨gp, 0, none⟩) M cp).ownBlock = none ∨ (Value.slice (some ⟨gp, 0, none⟩) M cp).ownBlock ≠ o.ownBlock := rows_ne (by decide) hr hp.1

/-- what is over the place is another row -/
theorem FrS.ov {w wr w' : World} {gp M cp : Nat} {ps : List PlC} {gb N cb : Nat} {ts : List SpC} {ov ov' : Value} {os os' : List SpC} {av : Value} {fs : List SpB} (h : FrS w wr gp M cp ps gb N cb ts ov os av fs) (hg : wr.grownBy w' ov.ownBlock) (hr : RowT w w.heap.size w' ov' os') (hat : ov'.ownBlock = ov.ownBlock ∨ ∃ g, ov'.ownBlock = some g ∧ wr.heap.size ≤ g) : FrS w w' gp M cp ps gb N cb ts ov' os' av fs := by
  have hbl := h.beg.1.lt gb rfl
  refine ⟨h.bel.grown hg h.bel.size (fun q hq => (h.ovr.1.lt q hq).1), h.plc.kept hg (neP h.plc h.ovr.1), h.beg.kept hg (.inr (fun e => h.n1 e.symm)), hr, h.all.kept h.ovr.1 hg h.n5, ?_, h.n3, ?_⟩
  · rcases hat with e | ⟨g, e, hg⟩
    · rw [e]; exact h.n1
    · rw [e]; intro e2; cases e2; omega
  · rcases hat with e | ⟨g, e, hg⟩
    · rw [e]; exact h.n5
    · rw [e]
      refine .inr (fun e2 => ?_)
      have := (h.all.lt g e2).2
      omega

/-- one more is told -/
theorem FrS.al {w wr w' : World} {gp M cp : Nat} {ps : List PlC} {gb N cb : Nat} {ts : List SpC} {ov : Value} {os : List SpC} {av av' : Value} {fs fs' : List SpB} (h : FrS w wr gp M cp ps gb N cb ts ov os av fs) (hg : wr.grownBy w' av.ownBlock) (hr : AllS w.heap.size w' av' fs') (hat : av'.ownBlock = av.ownBlock ∨ ∃ g, av'.ownBlock = some g ∧ wr.heap.size ≤ g) : FrS w w' gp M cp ps gb N cb ts ov os av' fs' := by
  have hbl := h.beg.1.lt gb rfl
  obtain ⟨cs, hrow, _⟩ := h.all
  have n5' : ov.ownBlock = none ∨ ov.ownBlock ≠ av.ownBlock := by
    rcases h.n5 with e | e
    · rw [e]; cases hh : ov.ownBlock with
      | none => exact .inl rfl
      | some q => exact .inr (by simp)
    · exact .inr (fun e2 => e e2.symm)
  refine ⟨h.bel.grown hg h.bel.size (fun q hq => (h.all.lt q hq).1), h.plc.kept hg (neP h.plc hrow), h.beg.kept hg (.inr (fun e => h.n3 e.symm)), h.ovr.kept hg n5', hr, h.n1, ?_, ?_⟩
  · rcases hat with e | ⟨g, e, hg⟩
    · rw [e]; exact h.n3
    · rw [e]; intro e2; cases e2; omega
  · rcases hat with e | ⟨g, e, hg⟩
    · rw [e]; exact h.n5
    · rw [e]
      refine .inr (fun e2 => ?_)
      have := (h.ovr.1.lt g e2.symm).2
      omega

/-- what is over the places, in pure terms: i rounds are done, q have begun -/
structure OvI (P : List (List UInt8)) (ts os : List SpC) (i q : Nat) : Prop where
  le : q ≤ ts.length
  len : os.length ≤ q
  sub : ∀ t ∈ os, t ∈ ts.take q
  has : ∀ t ∈ ts.take q, ∀ j (h : j < P.length), i ≤ j → covT P[j] t = true → t ∈ os
  low : ∀ t ∈ ts.take q, ∀ j (h : j < P.length), i ≤ j → ¬ Lib.compareBytes P[j] t.e.1 < 0
  hi : ∀ t ∈ ts.drop q, ∀ j (h : j < P.length), j < i → Lib.compareBytes P[j] t.e.1 < 0

theorem OvI.start (P : List (List UInt8)) (ts : List SpC) : OvI P ts [] 0 0 :=
  ⟨Nat.zero_le _, Nat.le_refl _, by simp, by simp, by simp, fun t ht j h hj => absurd hj (Nat.not_lt_zero _)⟩

/-- within round i: what is over the place is what has begun and covers it -/
structure OvM (P : List (List UInt8)) (ts os : List SpC) (i q : Nat) (hi : i < P.length) : Prop where
  le : q ≤ ts.length
  len : os.length ≤ q
  iff : ∀ t, t ∈ os ↔ t ∈ ts.take q ∧ covT P[i] t = true
  low : ∀ t ∈ ts.take q, ¬ Lib.compareBytes P[i] t.e.1 < 0
  hi : ∀ t ∈ ts.drop q, ∀ j (h : j < P.length), j < i → Lib.compareBytes P[j] t.e.1 < 0

theorem OvI.del {P : List (List UInt8)} {ts os : List SpC} {i q : Nat} (h : OvI P ts os i q) (hi : i < P.length) : OvM P ts (os.filter (covT P[i])) i q hi := by
  refine ⟨h.le, Nat.le_trans (List.length_filter_le _ _) h.len, fun t => ?_, fun t ht => h.low t ht i hi (Nat.le_refl _), h.hi⟩
  rw [List.mem_filter]
  exact ⟨fun ⟨h1, h2⟩ => ⟨h.sub t h1, h2⟩, fun ⟨h1, h2⟩ => ⟨h.has t h1 i hi (Nat.le_refl _) h2, h2⟩⟩

/-- the places rise -/
def RiseL (P : List (List UInt8)) : Prop := ∀ i j (hj : j < P.length) (h : i < j), Lib.compareBytes (P[i]'(by omega)) P[j] < 0

theorem OvM.next {P : List (List UInt8)} {ts os : List SpC} {i q : Nat} {hi : i < P.length} (h : OvM P ts os i q hi) (hq : q < ts.length) (hP : RiseL P) (hm : ∀ t ∈ ts, t.e.1 ∈ P) (hU : ∀ t ∈ ts, Lib.compareBytes t.e.1 t.e.2.1 < 0) (hb : ¬ Lib.compareBytes P[i] ts[q].e.1 < 0) : OvM P ts (os ++ [ts[q]]) i (q + 1) hi := by
  have htk : ts.take (q + 1) = ts.take q ++ [ts[q]] := List.take_succ_eq_append_getElem hq
  have hc : covT P[i] ts[q] = true := by
    unfold covT
    rw [cov_iff]
    refine ⟨hb, ?_⟩
    obtain ⟨a, ha, ea⟩ := List.getElem_of_mem (hm ts[q] (List.getElem_mem hq))
    have hai : a = i := by
      rcases Nat.lt_trichotomy a i with h1 | h1 | h1
      · have h2 := h.hi ts[q] (List.mem_drop_iff_getElem.2 ⟨0, by omega, by simp⟩) a ha h1
        rw [ea, Mth.cmp_zero.2 rfl] at h2
        omega
      · exact h1
      · have h2 := hP i a ha h1
        rw [ea] at h2
        exact absurd h2 hb
    subst hai
    rw [ea]
    exact hU _ (List.getElem_mem hq)
  refine ⟨hq, by rw [List.length_append]; have := h.len; simp; omega, fun t => ?_, fun t ht => ?_, fun t ht j hj hji => h.hi t ?_ j hj hji⟩
  · rw [htk, List.mem_append, List.mem_append, h.iff t, List.mem_singleton]
    constructor
    · rintro (⟨h1, h2⟩ | rfl)
      · exact ⟨.inl h1, h2⟩
      · exact ⟨.inr rfl, hc⟩
    · rintro ⟨h1 | rfl, h2⟩
      · exact .inl ⟨h1, h2⟩
      · exact .inr rfl
  · rw [htk, List.mem_append, List.mem_singleton] at ht
    rcases ht with ht | rfl
    · exact h.low t ht
    · exact hb
  · rw [List.drop_eq_getElem_cons hq]
    exact List.mem_cons_of_mem _ ht

theorem OvM.done {P : List (List UInt8)} {ts os : List SpC} {i q : Nat} {hi : i < P.length} (h : OvM P ts os i q hi) (hP : RiseL P) (hb : ∀ t ∈ ts.drop q, Lib.compareBytes P[i] t.e.1 < 0) : OvI P ts os (i + 1) q := by
  refine ⟨h.le, h.len, fun t ht => ((h.iff t).1 ht).1, fun t ht j hj hij hc => (h.iff t).2 ⟨ht, ?_⟩, fun t ht j hj hij hlt => ?_, fun t ht j hj hji => ?_⟩
  · unfold covT at hc ⊢
    rw [cov_iff] at hc ⊢
    exact ⟨h.low t ht, Mth.cmp_trans (hP i j hj (by omega)) hc.2⟩
  · exact h.low t ht (Mth.cmp_trans (hP i j hj (by omega)) hlt)
  · by_cases e : j = i
    · subst e; exact hb t ht
    · exact h.hi t ht j hj (by omega)

/-- the numbers over the place -/
theorem OvM.nums {P : List (List UInt8)} {ts os : List SpC} {i q : Nat} {hi : i < P.length} {ss : List SpB} (h : OvM P ts os i q hi) (hb : ∀ t ∈ ts.drop q, Lib.compareBytes P[i] t.e.1 < 0) (hp : (ts.map (·.e)).Perm ss) : srtU gtNN (os.map (·.e.2.2)) = sqs ss P[i] := by
  unfold sqs
  refine srtU_is ordN (pw_srtU ordN _) (fun n => ?_)
  rw [mem_srtU ordN, List.mem_map, List.mem_map]
  constructor
  · rintro ⟨t, ht, rfl⟩
    obtain ⟨h1, h2⟩ := (h.iff t).1 ht
    exact ⟨t.e, List.mem_filter.2 ⟨hp.mem_iff.1 (List.mem_map.2 ⟨t, List.mem_of_mem_take h1, rfl⟩), h2⟩, rfl⟩
  · rintro ⟨s, hs, rfl⟩
    obtain ⟨h1, h2⟩ := List.mem_filter.1 hs
    obtain ⟨t, ht, rfl⟩ := List.mem_map.1 (hp.mem_iff.2 h1)
    refine ⟨t, (h.iff t).2 ⟨?_, h2⟩, rfl⟩
    rw [← List.take_append_drop q ts, List.mem_append] at ht
    rcases ht with ht | ht
    · exact ht
    · have h3 := hb t ht
      exact absurd h3 (cov_iff.1 h2).1

theorem rise_drop {ts : List SpC} (h : RiseT ts) {q : Nat} (hq : q < ts.length) {p : List UInt8} (hb : Lib.compareBytes p ts[q].e.1 < 0) : ∀ t ∈ ts.drop q, Lib.compareBytes p t.e.1 < 0 := by
  intro t ht
  rw [List.drop_eq_getElem_cons hq] at ht
  rcases List.mem_cons.1 ht with rfl | ht
  · exact hb
  · obtain ⟨i, hi, rfl⟩ := List.getElem_of_mem ht
    rw [List.length_drop] at hi
    rw [List.getElem_drop]
    exact cb_lt_le hb (List.pairwise_iff_getElem.1 h q (q + 1 + i) hq (by omega) (by omega))

end Go.Proofs.Ytifdomhmmhepcaa

/- (*tomb.Set).Fragments. -/
namespace Go.Proofs.Ytifdomhmmhepcaa
set_option maxRecDepth 100000
open Go.RowKit
set_option linter.unusedVariables false
set_option linter.unusedSimpArgs false

theorem own_mono9 {w : World} {B B' : Nat} {e : TypeId} {k n : Nat} {v : Value} {xs : List Value} (h : w.ownsRow B e k v n xs) (hB : B' ≤ B) : w.ownsRow B' e k v n xs := by
  refine ⟨h.1, ?_⟩
  rcases h.2 with h | ⟨g, cap, cur, e1, hb, hr⟩
  · exact .inl h
  · exact .inr ⟨g, cap, cur, e1, Nat.le_trans hB hb, hr⟩

theorem rowT_own {w0 w1 w : World} {B B' : Nat} {wr : World} {v : Value} {ts cs : List SpC} (h : RowT w1 B wr v ts) (hB : B' ≤ B) (hp : ts.Perm cs) (hg : ∀ t ∈ cs, GdS w0 t) : RowT w0 B' wr v ts := ⟨own_mono9 h.1 hB, fun t ht => hg t (hp.mem_iff.1 ht)⟩
theorem rowP_own {w0 w1 : World} {B B' : Nat} {wr : World} {v : Value} {ps : List PlC} {cs : List SpC} (h : RowP w1 B wr v ps) (hB : B' ≤ B) (hp : ∀ p ∈ ps, p ∈ plC cs) (hg : ∀ t ∈ cs, GdS w0 t) : RowP w0 B' wr v ps := ⟨own_mono9 h.1 hB, fun t ht => plC_gd hg t (hp t ht)⟩

theorem wrapS9 {a lf a1 : Int} (h : a + lf = a1) (h0 : 0 ≤ a1) (h1 : a1 ≤ 2000000) : IntKind.i64.wrap (a + lf) = a1 ∧ wrap64 (a + lf) = a1 ∧ IntKind.i64.wrap a1 = a1 ∧ wrap64 a1 = a1 := by
  rw [h]
  refine ⟨?_, ?_, ?_, ?_⟩
  · rw [IntKind.wrap_i64]; omega
  · unfold wrap64; omega
  · rw [IntKind.wrap_i64]; omega
  · unfold wrap64; omega

theorem less_q9 (w : World) (a b : Value) (l m : List UInt8) (x : Bool) (ha : Rd w a l) (hb : Rd w b m) (hx : decide (Lib.compareBytes l m < 0) = x) : Calls Try.prog 29 #[a, b] w fun e w' => e = .returned (.bool x) ∧ ∃ n, w' = w.drewN n :=
  (less_b w a b l m x ha hb hx).mono (fun e w' h => ⟨h.1, 0, h.2⟩)

theorem fragTo_part (ss : List SpB) (P : List (List UInt8)) (i : Nat) (hi : i + 1 < P.length) : fragTo ss P (i + 1) = fragTo ss P i ++ (sqs ss P[i]).map (fun n => (P[i], P[i + 1], n)) := by
  rw [fragTo_next]
  have e1 : P.getD i [] = P[i] := by simp [List.getD, List.getElem?_eq_getElem (show i < P.length by omega)]
  have e2 : P.getD (i + 1) [] = P[i + 1] := by simp [List.getD, List.getElem?_eq_getElem hi]
  rw [e1, e2]

/-- what Fragments answers -/
def FrgPost (w : World) (ss : List SpB) (e : Ending) (w' : World) : Prop := ∃ v', e = .returned v' ∧ RdS w' v' (fragN ss) ∧ Below w.heap.size w w'

set_option maxHeartbeats 8000000 in
theorem tfrag_any (w : World) (t : Nat) (v : Value) (ss : List SpB) (hc : w.cell? ⟨t, 0, none⟩ = some v) (hv : RdS w v ss) (hU : Up9 ss) (hn : ss.length ≤ 1000) (hL : ∀ s ∈ ss, s.1.length ≤ 1000 ∧ s.2.1.length ≤ 1000) :
    Calls Try.prog 18 #[.pointer (some ⟨t, 0, none⟩)] w (FrgPost w ss) := by
  obtain ⟨cs, hcs, hce⟩ := RdC.of hv
  obtain ⟨i0, hi, hz0, hz1, hz2⟩ := info_parts infoSp
  have HGD : Hid (∀ t ∈ cs, GdS w t) := hcs.gd
  obtain ⟨va, vc, rfl⟩ := hv.shape
  obtain ⟨N, hN⟩ : ∃ N, ss.length = N := ⟨_, rfl⟩
  rw [hN] at hc hcs hn
  have HN : Hid (ss.length = N ∧ cs.length = N) := ⟨hN, by rw [← hN, ← hce, List.length_map]⟩
  have HCE : Hid (cs.map (·.e) = ss) := hce
  have he : ∀ w : World, (binOp .eql 27 (.pointer (some ⟨t, 0, none⟩)) (.pointer none)).run Try.prog w = .ok (.bool false) w := fun _ => rfl
  have hvl := vals_any w va N vc
  have hb1 : Below w.heap.size w (w.alloc (.cells #[.slice va N vc] 22)) := (Below.refl _ w).alloc (Nat.le_refl _) _
  have hs1 := sorted_any (w.alloc (.cells #[.slice va N vc] 22)) w.heap.size (.slice va N vc) cs (hcs.below hb1 (Nat.le_refl _)) (Boxed.new w 22 (.slice va N vc)).cell (by have := HN.out.2; omega)
  have HB1 : Hid (Below w.heap.size w (w.alloc (.cells #[.slice va N vc] 22))) := hb1
  have HCS : Hid (RdC w (.slice va N vc) cs) := hcs
  have HC : Hid (w.cell? ⟨t, 0, none⟩ = some (.slice va N vc)) := hc
  have HU : Hid (Up9 ss) := hU
  have HL : Hid (∀ s ∈ ss, s.1.length ≤ 1000 ∧ s.2.1.length ≤ 1000) := hL
  clear hN hce hv hcs hb1 hU hL
  go_enter Try.func18, Try.ntmps18
  go_wp2_with fail
  refine hvl.mono ?_
  rintro e w1 ⟨rfl, rfl⟩
  clear hvl
  go_wp2_with fail
  refine hs1.mono ?_
  rintro e w2 ⟨bv, ts, rfl, hp, hr, hrow, hb2⟩
  have HB2 : Hid (Below w.heap.size w w2) := HB1.out.trans (hb2.mono HB1.out.size)
  have HT : Hid (ts.Perm cs ∧ RiseT ts) := ⟨hp, hr⟩
  have HBG : Hid (RowT w w.heap.size w2 bv ts) := rowT_own (w := w) hrow HB1.out.size hp HGD.out
  have hpl := tplaces_any w2 t _ cs ((HB2.out.cell (p := ⟨t, 0, none⟩) (World.block_lt_of_cell? w _ HC.out)).trans HC.out) (HCS.out.below HB2.out (Nat.le_refl _)) (by have := HN.out.2; omega)
  clear hs1 hp hr hrow hb2 hc
  go_wp2_with fail
  refine hpl.mono ?_
  rintro e w3 ⟨pv, ps, rfl, hrp, hpe, hpm, hb3⟩
  have HB3 : Hid (Below w.heap.size w w3) := bsplit HB2.out hb3
  have HPL : Hid (RowP w w.heap.size w3 pv ps) := rowP_own hrp HB2.out.size hpm HGD.out
  have HPE : Hid (ps.map (·.2) = plcs ss) := by show _ = _; rw [hpe, HCE.out]
  have HBG3 : Hid (RowT w w.heap.size w3 bv ts) := HBG.out.below hb3
  have HTN : Hid (ts.length = N) := by show _ = _; rw [HT.out.1.length_eq]; exact HN.out.2
  clear hpl hrp hpe hpm hb3 HBG
  obtain ⟨pa, pc, epv, hpc1, hpc2⟩ := HPL.out.shape
  obtain ⟨ba, bc, ebv, hbc1, hbc2⟩ := HBG3.out.shape
  rw [HTN.out] at ebv hbc1
  subst ebv
  obtain ⟨M, hM⟩ : ∃ M, ps.length = M := ⟨_, rfl⟩
  rw [hM] at epv hpc1
  subst epv
  have HM : Hid (ps.length = M) := hM
  clear hM
  have HTM : Hid (∀ t ∈ ts, t.e ∈ ss) := fun t ht => by rw [← HCE.out]; exact List.mem_map.2 ⟨t, HT.out.1.mem_iff.1 ht, rfl⟩
  have HPR : Hid (RiseL (plcs ss)) := plcs_lt ss
  have HPLN : Hid ((plcs ss).length = M) := by show _ = _; rw [← HPE.out, List.length_map]; exact HM.out
  by_cases hN0 : N = 0
  · have hss : ss = [] := List.eq_nil_of_length_eq_zero (HN.out.1.trans hN0)
    have hM0 : M = 0 := by
      have h9 := HPLN.out
      rw [hss] at h9
      exact h9.symm
    subst hM0
    have hlt : ¬ (0 : Int) < -1 := by omega
    have HF : Hid (fragN ss = []) := by show _ = _; rw [hss]; rfl
    clear hss
    go_wp2_with fail
    go_loopg [3, 25] 0 (fun gk av iv wr => av = .slice none 0 0 ∧ iv = .int .i64 0 ∧ wr = w3)
    case atStart => exact ⟨rfl, rfl, rfl⟩
    case round =>
      obtain ⟨rfl, rfl, rfl⟩ := hrel
      go_wp2_with fail
      go_wp2
      go_ret
      exact ⟨_, rfl, by rw [HF.out]; exact LsS.nil _ _, HB3.out⟩
  have hNp : 0 < N := by omega
  have hM0 : 0 < M := by
    have hs0 : 0 < ss.length := by rw [HN.out.1]; exact hNp
    have h9 := List.length_pos_of_mem (mem_plcs.2 ⟨ss[0], List.getElem_mem hs0, .inl rfl⟩)
    rw [HPLN.out] at h9
    exact h9
  obtain ⟨gp, c9, eg, _⟩ := HPL.out.form (by rw [HM.out]; exact hM0)
  rw [HM.out] at eg
  cases eg
  obtain ⟨gb, c9, eg, _⟩ := HBG3.out.form (by rw [HTN.out]; exact hNp)
  rw [HTN.out] at eg
  cases eg
  obtain ⟨K, hK⟩ : ∃ K, M - 1 = K := ⟨_, rfl⟩
  have hKI : (M : Int) - 1 = (K : Int) := by omega
  have HKM : Hid (M = K + 1) := by show _ = _; omega
  have hMb : M ≤ 2000 := by have h9 := plcs_len ss; rw [HPLN.out, HN.out.1] at h9; omega
  clear hK
  have HST : Hid (FrS w w3 gp M pc ps gb N bc ts (.slice none 0 0) [] (.slice none 0 0) []) := ⟨HB3.out, HPL.out, HBG3.out, RowT.nil _ _ _, AllS.nil _ _, by simp [Value.ownBlock], by simp [Value.ownBlock], .inl rfl⟩
  clear HBG3 HPL
  go_wp2_with fail
  go_loopg [3, 4, 5, 25] K (fun gk av ov bv iv wr => ∃ i q m o c n l d f : Nat, ∃ aa oa : Option Addr, ∃ os : List SpC, gk + i = K ∧ iv = .int .i64 (i : Int) ∧ bv = .slice (some ⟨gb, o, none⟩) m c ∧ ov = .slice oa n l ∧ av = .slice aa d f ∧ (m ≤ c ∧ c ≤ 9223372036854775807) ∧ Hid ((m = 0 ∨ o = q * 3) ∧ m + q = N ∧ os.length = n ∧ (fragTo ss (plcs ss) i).length = d) ∧ Hid (OvI (plcs ss) ts os i q) ∧ Hid (FrS w wr gp M pc ps gb N bc ts ov os av (fragTo ss (plcs ss) i)))
  case atStart => exact ⟨0, 0, N, 0, bc, 0, 0, 0, 0, none, none, [], by omega, rfl, rfl, rfl, rfl, ⟨hbc1, hbc2⟩, ⟨.inr rfl, rfl, rfl, rfl⟩, OvI.start _ _, HST⟩
  case round =>
    obtain ⟨i, q, m, o, c, n, l, d, f, aa, oa, os, hj, rfl, rfl, rfl, rfl, hmc, HX, HO, HS⟩ := hrel
    by_cases hlt : i < K
    · obtain ⟨q1, q2⟩ := gk_nxt hj hlt
      have hKM := HKM.out
      have hiP : i < (plcs ss).length := by rw [HPLN.out]; omega
      have hiP2 : i + 1 < (plcs ss).length := by rw [HPLN.out]; omega
      have hip : i < ps.length := by rw [HM.out]; omega
      have hip2 : i + 1 < ps.length := by rw [HM.out]; omega
      obtain ⟨c0, _⟩ := HS.out.plc.at HM.out i hip
      obtain ⟨c1, _⟩ := HS.out.plc.at HM.out (i + 1) hip2
      have rx := HS.out.plc.2 ps[i] (List.getElem_mem hip)
      have ry := HS.out.plc.2 ps[i + 1] (List.getElem_mem hip2)
      have e1 : ps[i].2 = (plcs ss)[i] := by simp only [← HPE.out, List.getElem_map]
      have e2 : ps[i + 1].2 = (plcs ss)[i + 1] := by simp only [← HPE.out, List.getElem_map]
      unfold GdP at rx ry
      rw [e1] at rx
      rw [e2] at ry
      obtain ⟨p, hp⟩ : ∃ p, (plcs ss)[i] = p := ⟨_, rfl⟩
      obtain ⟨p2, hp2⟩ : ∃ p, (plcs ss)[i + 1] = p := ⟨_, rfl⟩
      rw [hp] at rx
      rw [hp2] at ry
      have HP : Hid ((plcs ss)[i] = p ∧ (plcs ss)[i + 1] = p2) := ⟨hp, hp2⟩
      obtain ⟨xa, xc, ex⟩ := rx.len
      obtain ⟨ya, yc, ey⟩ := ry.len
      rw [ex] at c0 rx
      rw [ey] at c1 ry
      obtain ⟨pl, hpl⟩ : ∃ n, p.length = n := ⟨_, rfl⟩
      obtain ⟨pl2, hpl2⟩ : ∃ n, p2.length = n := ⟨_, rfl⟩
      rw [hpl] at c0 rx
      rw [hpl2] at c1 ry
      have HRX : Hid (Rd w (.slice xa pl xc) p ∧ Rd w (.slice ya pl2 yc) p2) := ⟨rx, ry⟩
      obtain ⟨i2, hi2⟩ : ∃ z, i + 1 = z := ⟨_, rfl⟩
      have hI2 : (i : Int) + 1 = (i2 : Int) := by omega
      have HI2 : Hid (i + 1 = i2) := hi2
      have hiM : i < M := by omega
      have hiM2 : i2 < M := by omega
      have hiI0 : (0 : Int) ≤ (i : Int) := by omega
      have hiI1 : (i : Int) < (M : Int) := by omega
      have hiJ0 : (0 : Int) ≤ (i2 : Int) := by omega
      have hiJ1 : (i2 : Int) < (M : Int) := by omega
      have HW : Hid _ := wrapS9 hI2 hiJ0 (by omega)
      rw [hi2] at c1
      clear hi2
      clear rx ry e1 e2 hp hp2 ex ey hpl hpl2 hKM
      have hgp : gp < wr.heap.size := World.block_lt_of_cell? _ _ c0
      have c0 : wr.drew.cell? ⟨gp, i, none⟩ = some (.slice xa pl xc) := c0
      have c1 : wr.drew.cell? ⟨gp, i2, none⟩ = some (.slice ya pl2 yc) := c1
      have hbA := below_box4 wr (.cells #[.slice none 0 0] 29)
      have hbB := below_box4 wr (.cells #[.slice xa pl xc] 29)
      have d0 : (wr.alloc (.cells #[.slice none 0 0] 29)).drew.cell? ⟨gp, i, none⟩ = some (.slice xa pl xc) := (hbA.cell (p := ⟨gp, i, none⟩) hgp).trans c0
      have d1 : (wr.alloc (.cells #[.slice none 0 0] 29)).drew.cell? ⟨gp, i2, none⟩ = some (.slice ya pl2 yc) := (hbA.cell (p := ⟨gp, i2, none⟩) hgp).trans c1
      have s0 : (wr.alloc (.cells #[.slice xa pl xc] 29)).drew.cell? ⟨gp, i, none⟩ = some (.slice xa pl xc) := (hbB.cell (p := ⟨gp, i, none⟩) hgp).trans c0
      have s1 : (wr.alloc (.cells #[.slice xa pl xc] 29)).drew.cell? ⟨gp, i2, none⟩ = some (.slice ya pl2 yc) := (hbB.cell (p := ⟨gp, i2, none⟩) hgp).trans c1
      clear hbA hbB
      go_wp2_with fail
      obtain ⟨W1, W2, W3, W4⟩ := HW.out
      go_region_held3 (fun w' => w'.cell? ⟨gp, i, none⟩ = some (.slice xa pl xc) ∧ w'.cell? ⟨gp, i2, none⟩ = some (.slice ya pl2 yc)) (first | with_reducible exact ⟨s0, s1⟩ | with_reducible exact ⟨d0, d1⟩ | with_reducible exact ⟨c0, c1⟩) (fail)
      clear W1 W2 W3 W4
      obtain ⟨fb, hfb⟩ : ∃ z, wr.heap.size = z := ⟨_, rfl⟩
      obtain ⟨w4, hw4⟩ : ∃ W, (wr.alloc (.cells #[.slice xa pl xc] 29)).drew = W := ⟨_, rfl⟩
      rw [hw4, hfb]
      have hb4 : Below wr.heap.size wr w4 := by rw [← hw4]; exact (below_box4 wr _).drew
      have HBX : Hid (Boxed w4 fb 29 (.slice xa pl xc)) := by show Boxed _ _ _ _; rw [← hw4, ← hfb]; exact Boxed.new wr _ _
      have HS4 : Hid (FrS w w4 gp M pc ps gb N bc ts (.slice oa n l) os (.slice aa d f) (fragTo ss (plcs ss) i)) := HS.out.below hb4
      have HNF : Hid ((Value.slice oa n l).ownBlock ≠ some fb) := fun e => by have := (HS.out.ovr.1.lt fb e).2; omega
      have hdl := tdel_any w w4 w.heap.size fb (.slice oa n l) (.slice xa pl xc) p os HS4.out.ovr HS4.out.bel (Nat.le_refl _) HBX.out.cell HRX.out.1 HNF.out
      have HPB : Hid (p.length ≤ 1000 ∧ p2.length ≤ 1000) := by
        have hpl : ∀ x ∈ plcs ss, x.length ≤ 1000 := fun x hx => by
          obtain ⟨s, hs, h⟩ := mem_plcs.1 hx
          rcases h with rfl | rfl
          · exact (HL.out s hs).1
          · exact (HL.out s hs).2
        exact ⟨by rw [← HP.out.1]; exact hpl _ (List.getElem_mem _), by rw [← HP.out.2]; exact hpl _ (List.getElem_mem _)⟩
      clear hb4 hw4 hfb hgp c0 c1 d0 d1 s0 s1 hI2 hiM hiM2 hiI0 hiI1 hiJ0 hiJ1 HI2 HW HST HB1 HB2 HB3
      go_wp2_with fail
      refine hdl.mono ?_
      rintro e w5 ⟨v5, rfl, hr5, hg5, ho5⟩
      have HS5 : Hid (FrS w w5 gp M pc ps gb N bc ts v5 (os.filter (covT p)) (.slice aa d f) (fragTo ss (plcs ss) i)) := HS4.out.ov hg5 hr5 (.inl ho5)
      have HBX5 : Hid (Boxed w5 fb 29 (.slice xa pl xc)) := HBX.out.kept hg5 (fun e => HNF.out e.symm)
      have HM5 : Hid (OvM (plcs ss) ts (os.filter (covT p)) i q hiP) := by
        have h9 := HO.out.del hiP
        rw [HP.out.1] at h9
        exact h9
      obtain ⟨oa5, l5, e5, _⟩ := hr5.shape
      subst e5
      obtain ⟨n5, hn5⟩ : ∃ z, (os.filter (covT p)).length = z := ⟨_, rfl⟩
      rw [hn5] at HS5 ⊢
      have HX5 : Hid ((m = 0 ∨ o = q * 3) ∧ m + q = N ∧ (os.filter (covT p)).length = n5 ∧ (fragTo ss (plcs ss) i).length = d) := ⟨HX.out.1, HX.out.2.1, hn5, HX.out.2.2.2⟩
      obtain ⟨os5, hos5⟩ : ∃ z, os.filter (covT p) = z := ⟨_, rfl⟩
      rw [hos5] at HS5 HM5 HX5
      obtain ⟨G, hG⟩ : ∃ G, gk = G := ⟨_, rfl⟩
      rw [hG] at q1 q2
      clear hdl hr5 hg5 ho5 hn5 hos5 HS4 HNF HS HO HX HBX
      go_wp2_with fail
      go_loopg [4, 5] N (fun gq ov bv wr => ∃ q m o c n l : Nat, ∃ oa : Option Addr, ∃ os : List SpC, (N ≤ gq + q ∧ q ≤ N) ∧ bv = .slice (some ⟨gb, o, none⟩) m c ∧ ov = .slice oa n l ∧ (m ≤ c ∧ c ≤ 9223372036854775807) ∧ Hid ((m = 0 ∨ o = q * 3) ∧ m + q = N ∧ os.length = n ∧ (fragTo ss (plcs ss) i).length = d) ∧ Hid (OvM (plcs ss) ts os i q hiP) ∧ Hid (FrS w wr gp M pc ps gb N bc ts ov os (.slice aa d f) (fragTo ss (plcs ss) i)) ∧ Hid (Boxed wr fb 29 (.slice xa pl xc)))
      case atStart => exact ⟨q, m, o, c, n5, l5, oa5, os5, ⟨by omega, by have := HX5.out.2.1; omega⟩, rfl, rfl, hmc, HX5, HM5, HS5, HBX5⟩
      case round =>
        clear HS5 HBX5 HM5 HX5 hmc
        obtain ⟨q, m, o, c, n, l, oa, os, hqN, rfl, rfl, hmc, HX, HM9, HS, HBX⟩ := hrel
        have kb := HBX.out.cell
        by_cases hm0 : m = 0
        · subst hm0
          have hd0 : decide ((0 : Int) > 0) = false := by decide
          have HBD : Hid (∀ t ∈ ts.drop q, Lib.compareBytes (plcs ss)[i] t.e.1 < 0) := by
            intro t ht
            rw [List.drop_eq_nil_of_le (by have := HX.out.2.1; have := HTN.out; omega)] at ht
            exact absurd ht (List.not_mem_nil)
          go_wp2_with fail
          go_quiet (fail)
          clear kb
          obtain ⟨wX, hwX⟩ : ∃ W, wr.drewN nq = W := ⟨_, rfl⟩
          rw [hwX]
          have hbX : Below wr.heap.size wr wX := by rw [← hwX]; exact below_drewN (Below.refl _ _) _
          have HSX : Hid (FrS w wX gp M pc ps gb N bc ts (.slice oa n l) os (.slice aa d f) (fragTo ss (plcs ss) i)) := HS.out.below hbX
          have HBXX : Hid (Boxed wX fb 29 (.slice xa pl xc)) := (hbX.block fb HBX.out.lt).trans HBX.out
          obtain ⟨wr0, hwr0⟩ : ∃ z, wX.heap.size = z := ⟨_, rfl⟩
          have HW0 : Hid (wX.heap.size = wr0) := hwr0
          clear hwX hbX hwr0
          have hsq := tseqs_any wX (.slice oa n l) os (HSX.out.ovr.rdc HSX.out.bel) (by have := HM9.out.len; have := HM9.out.le; have := HTN.out; omega)
          go_wp2_with fail
          refine hsq.mono ?_
          rintro e w6 ⟨nv, ns, rfl, hrn, hne, hb6⟩
          rw [HW0.out] at hrn
          have HNS : Hid (ns = sqs ss (plcs ss)[i]) := by show _ = _; rw [hne]; exact HM9.out.nums HBD.out (by rw [← HCE.out]; exact HT.out.1.map _)
          have HS6 : Hid (FrS w w6 gp M pc ps gb N bc ts (.slice oa n l) os (.slice aa d f) (fragTo ss (plcs ss) i)) := HSX.out.below hb6
          have HBX6 : Hid (Boxed w6 fb 29 (.slice xa pl xc)) := (hb6.block fb HBXX.out.lt).trans HBXX.out
          have HRN : Hid (RowN wr0 w6 nv ns) := hrn
          obtain ⟨na, nc, env, hnc1, hnc2⟩ := hrn.shape
          obtain ⟨L, hLn⟩ : ∃ L, ns.length = L := ⟨_, rfl⟩
          rw [hLn] at env hnc1
          subst env
          have HLL : Hid (ns.length = L) := hLn
          have HOV : Hid (OvI (plcs ss) ts os (i + 1) q) := HM9.out.done HPR.out HBD.out
          have HLB : Hid (L ≤ 1000) := by
            show L ≤ 1000
            have h9 := sqs_len ss (plcs ss)[i]
            rw [← HNS.out, HLL.out, HN.out.1] at h9
            omega
          clear hsq hrn hne hb6 hLn
          go_wp2_with fail
          go_loopg [3, 63] L (fun gy av jv wz => ∃ j d f : Nat, ∃ aa : Option Addr, gy + j = L ∧ jv = .int .i64 (j : Int) ∧ av = .slice aa d f ∧ Hid (((fragTo ss (plcs ss) i) ++ (ns.take j).map (fun n => (p, p2, n))).length = d) ∧ Hid (FrS w wz gp M pc ps gb N bc ts (.slice oa n l) os av ((fragTo ss (plcs ss) i) ++ (ns.take j).map (fun n => (p, p2, n)))) ∧ Hid (Boxed wz fb 29 (.slice xa pl xc)) ∧ Hid (RowN wr0 wz (.slice na L nc) ns))
          case atStart => exact ⟨0, d, f, aa, by omega, rfl, rfl, by show _ = _; rw [List.take_zero, List.map_nil, List.append_nil]; exact HX.out.2.2.2, by show FrS _ _ _ _ _ _ _ _ _ _ _ _ _ _; rw [List.take_zero, List.map_nil, List.append_nil]; exact HS6.out, HBX6, HRN⟩
          case round =>
            obtain ⟨j, d, f, aa, hjL, rfl, rfl, HD, HSZ, HBZ, HNZ⟩ := hrel
            by_cases hltj : j < L
            · have hj2 : j < ns.length := by rw [HLL.out]; exact hltj
              obtain ⟨y1, y2⟩ := gk_nxt hjL hltj
              obtain ⟨gn, c9, eg, _⟩ := HNZ.out.form (by rw [HLL.out]; omega)
              rw [HLL.out] at eg
              cases eg
              obtain ⟨k0, _⟩ := HNZ.out.at HLL.out j hj2
              obtain ⟨sq, hsq⟩ : ∃ z : Nat, ns[j] = z := ⟨_, rfl⟩
              rw [hsq] at k0
              have HNX : Hid ((ns.take (j + 1)).map (fun n => (p, p2, n)) = (ns.take j).map (fun n => (p, p2, n)) ++ [(p, p2, sq)]) := by
                show _ = _
                rw [List.take_succ_eq_append_getElem hj2, List.map_append, hsq]
                rfl
              have kb := HBZ.out.cell
              have hap := tapart_any wr (.slice xa pl xc) (.slice ya pl2 yc) p p2 (sq : Int) ((HRX.out.1.below HSZ.out.bel (Nat.le_refl _)).arg) ((HRX.out.2.below HSZ.out.bel (Nat.le_refl _)).arg) (by have := HPB.out.1; omega) (by have := HPB.out.2; omega)
              clear hsq
              go_wp2_with fail
              refine hap.mono ?_
              rintro e w7 ⟨ux, uy, rfl, ox, oy, hb7⟩
              obtain ⟨u1, u2, rfl⟩ := ox.rd.len
              obtain ⟨u3, u4, rfl⟩ := oy.rd.len
              obtain ⟨l1, hl1⟩ : ∃ n, p.length = n := ⟨_, rfl⟩
              obtain ⟨l2, hl2⟩ : ∃ n, p2.length = n := ⟨_, rfl⟩
              rw [hl1] at ox ⊢
              rw [hl2] at oy ⊢
              have hbe := below_box4 w7 (.cells #[.slice u1 l1 u2, .slice u3 l2 u4, .int .u64 (sq : Int)] 32)
              have hlit := laidT3 w7 (.slice u1 l1 u2) (.slice u3 l2 u4) (.int .u64 (sq : Int)) 32
              have hbt := bsplit hb7 hbe
              have HSE : Hid (FrS w (w7.alloc (.cells #[.slice u1 l1 u2, .slice u3 l2 u4, .int .u64 (sq : Int)] 32)) gp M pc ps gb N bc ts (.slice oa n l) os (.slice aa d f) ((fragTo ss (plcs ss) i) ++ (ns.take j).map (fun n => (p, p2, n)))) := HSZ.out.below hbt
              have HBE : Hid (Boxed (w7.alloc (.cells #[.slice u1 l1 u2, .slice u3 l2 u4, .int .u64 (sq : Int)] 32)) fb 29 (.slice xa pl xc)) := (hbt.block fb HBZ.out.lt).trans HBZ.out
              have HNE : Hid (RowN wr0 (w7.alloc (.cells #[.slice u1 l1 u2, .slice u3 l2 u4, .int .u64 (sq : Int)] 32)) (.slice (some ⟨gn, 0, none⟩) L nc) ns) := HNZ.out.below hbt
              have HWS : Hid (w.heap.size ≤ wr.heap.size) := HSZ.out.bel.size
              have HOX : Hid (OwnN w.heap.size _ (.slice u1 l1 u2) p) := (ox.below hbe (Nat.le_refl _)).mono (by have := HWS.out; omega)
              have HOY : Hid (OwnN w.heap.size _ (.slice u3 l2 u4) p2) := (oy.below hbe (Nat.le_refl _)).mono (by have := HWS.out; omega)
              have hse := HSE.out.bel.size
              obtain ⟨cs9, hrow, hel⟩ := HSE.out.all
              rw [HD.out] at hrow
              have HROW : Hid _ := hrow
              have HEL : Hid _ := hel
              have hd9 : d ≤ 3000000 := by
                have h9 := HD.out
                rw [List.length_append, List.length_map, List.length_take, HLL.out] at h9
                have h8 := fragTo_len ss (plcs ss) i
                rw [HN.out.1] at h8
                have h7 : i * N ≤ 2000 * 1000 := Nat.mul_le_mul (by omega) (by omega)
                have := HLB.out
                omega
              have HPS : Hid (∀ g4 c4 w4, w4.ownsRow w.heap.size 32 3 (.slice (some ⟨g4, 0, none⟩) (d + 1) c4) (d + 1) (cs9 ++ [.slice u1 l1 u2, .slice u3 l2 u4, .int .u64 (sq : Int)]) → (w7.alloc (.cells #[.slice u1 l1 u2, .slice u3 l2 u4, .int .u64 (sq : Int)] 32)).grownBy w4 (Value.slice aa d f).ownBlock → ((Value.slice aa d f).ownBlock = some g4 ∨ g4 = (w7.alloc (.cells #[.slice u1 l1 u2, .slice u3 l2 u4, .int .u64 (sq : Int)] 32)).heap.size) → (((fragTo ss (plcs ss) i) ++ (ns.take (j + 1)).map (fun n => (p, p2, n))).length = d + 1) ∧ FrS w w4 gp M pc ps gb N bc ts (.slice oa n l) os (.slice (some ⟨g4, 0, none⟩) (d + 1) c4) ((fragTo ss (plcs ss) i) ++ (ns.take (j + 1)).map (fun n => (p, p2, n))) ∧ Boxed w4 fb 29 (.slice xa pl xc) ∧ RowN wr0 w4 (.slice (some ⟨gn, 0, none⟩) L nc) ns) := by
                intro g4 c4 w4 hown hgrow hat
                rw [HNX.out, ← List.append_assoc]
                refine ⟨by rw [List.length_append, HD.out]; rfl, HSE.out.al hgrow (AllS.push (p, p2, sq) HD.out HROW.out HEL.out HOX.out HOY.out hown hgrow) ?_, HBE.out.kept hgrow (HBE.out.not_row (by decide) HROW.out), World.ownsRow.kept HNE.out hgrow (rows_ne (by decide) HROW.out HNE.out)⟩
                rcases hat with h9 | h9
                · exact .inl h9.symm
                · exact .inr ⟨g4, rfl, by rw [h9]; exact Nat.le_refl _⟩
              clear hap hb7 ox oy hl1 hl2 hbe hbt hel kb k0
              go_wp2_with (first | (at_builtin; refine wpList_append_lies _ rfl (.tmp 67) (.tmp 73) 22 rfl w.heap.size 32 i0 (.agg #[.slice none 0 0, .slice none 0 0, .int .u64 0]) 3 56 Try.underlying22 hi hz0 hz1 hz2 rfl (by decide) (.slice aa d f) d cs9 rfl hrow ⟨w7.heap.size, 0, none⟩ 1 1 [.slice u1 l1 u2, .slice u3 l2 u4, .int .u64 (sq : Int)] rfl rfl hlit (oneS _ _ _ _ _ _ _) (by decide) (by simp only [maxLen]; omega) (by omega) hse _ rfl ?_; intro g4 c4 w4 hown hgrow hat hlt4; have HP4 : Hid _ := HPS.out g4 c4 w4 hown hgrow hat; clear hown hgrow hat hlt4) | fail)
              clear hrow hlit hse
              go_roundg (gk - 1)
              case measure => exact y1
              case rel => exact ⟨j + 1, d + 1, c4, _, y2, by go_num, rfl, HP4.out.1, HP4.out.2.1, HP4.out.2.2.1, HP4.out.2.2.2⟩
            · have hjE : j = L := by omega
              subst hjE
              have HFE : Hid (fragTo ss (plcs ss) (i + 1) = (fragTo ss (plcs ss) i) ++ (ns.take j).map (fun n => (p, p2, n))) := by
                show _ = _
                rw [fragTo_part ss (plcs ss) i hiP2, ← HNS.out, ← HLL.out, List.take_length, HP.out.1, HP.out.2]
              go_wp2_with fail
              go_roundg (G - 1)
              case measure => omega
              case rel => exact ⟨i + 1, q, 0, o, c, n, l, d, f, aa, oa, os, q2, by go_num, rfl, rfl, rfl, hmc, ⟨.inl rfl, HX.out.2.1, HX.out.2.2.1, by rw [HFE.out]; exact HD.out⟩, HOV, by show FrS _ _ _ _ _ _ _ _ _ _ _ _ _ _; rw [HFE.out]; exact HSZ.out⟩
        · have hq1 : q < N := by have := HX.out.2.1; omega
          have hq2 : q < ts.length := by rw [HTN.out]; exact hq1
          obtain ⟨b0, b1, b2, _⟩ := HS.out.beg.at HTN.out q hq2
          have HO1 : Hid (o = q * 3) := HX.out.1.elim (fun h => absurd h hm0) (fun h => h)
          rw [← HO1.out] at b0 b1 b2
          obtain ⟨rx, ry⟩ := HS.out.beg.2 ts[q] (List.getElem_mem hq2)
          have HGT : Hid (GdS w ts[q]) := ⟨rx, ry⟩
          obtain ⟨x1, x2, ex⟩ := rx.len
          obtain ⟨y1, y2, ey⟩ := ry.len
          obtain ⟨nl, hnl⟩ : ∃ nl, ts[q].e.1.length = nl := ⟨_, rfl⟩
          obtain ⟨ml, hml⟩ : ∃ ml, ts[q].e.2.1.length = ml := ⟨_, rfl⟩
          obtain ⟨sq, hsq⟩ : ∃ z : Int, (ts[q].e.2.2 : Int) = z := ⟨_, rfl⟩
          obtain ⟨r, hr⟩ : ∃ r, decide (Lib.compareBytes p ts[q].e.1 < 0) = r := ⟨_, rfl⟩
          rw [ex, hnl] at b0 rx
          rw [ey, hml] at b1
          rw [hsq] at b2
          have HEE : Hid (ts[q].x = .slice x1 nl x2 ∧ ts[q].y = .slice y1 ml y2 ∧ (ts[q].e.2.2 : Int) = sq) := ⟨by rw [ex, hnl], by rw [ey, hml], hsq⟩
          obtain ⟨fl, hfl⟩ : ∃ z, ts[q].e.1 = z := ⟨_, rfl⟩
          rw [hfl] at hr rx
          have rp := HRX.out.1.below HS.out.bel (Nat.le_refl _)
          have rq := rx.below HS.out.bel (Nat.le_refl _)
          have HRR : Hid (decide (Lib.compareBytes p fl < 0) = r) := hr
          have HFL : Hid (ts[q].e.1 = fl) := hfl
          have hmI : (0 : Int) < (m : Int) := by omega
          have hmN : 0 < m := by omega
          have hd1 : decide ((m : Int) > 0) = true := decide_eq_true hmI
          clear rx ry ex ey hnl hml hsq hr hfl
          go_wp2_with fail
          go_quiet (first | (go_at_call 29; refine Calls.quiet_of (less_q9 _ _ _ p fl r (by exact rp) (by exact rq) HRR.out)))
          clear rp rq kb b0 b1 b2
          obtain ⟨wX, hwX⟩ : ∃ W, wr.drewN nq = W := ⟨_, rfl⟩
          rw [hwX]
          have hbX : Below wr.heap.size wr wX := by rw [← hwX]; exact below_drewN (Below.refl _ _) _
          have HSX : Hid (FrS w wX gp M pc ps gb N bc ts (.slice oa n l) os (.slice aa d f) (fragTo ss (plcs ss) i)) := HS.out.below hbX
          have HBXX : Hid (Boxed wX fb 29 (.slice xa pl xc)) := (hbX.block fb HBX.out.lt).trans HBX.out
          obtain ⟨wr0, hwr0⟩ : ∃ z, wX.heap.size = z := ⟨_, rfl⟩
          have HW0 : Hid (wX.heap.size = wr0) := hwr0
          clear hwX hbX hwr0
          cases r
          · have HNB : Hid (¬ Lib.compareBytes p fl < 0) := of_decide_eq_false HRR.out
            obtain ⟨b0, b1, b2, _⟩ := HSX.out.beg.at HTN.out q hq2
            rw [← HO1.out] at b0 b1 b2
            rw [HEE.out.1] at b0
            rw [HEE.out.2.1] at b1
            rw [HEE.out.2.2] at b2
            have hbe := below_box4 wX (.cells #[.slice x1 nl x2, .slice y1 ml y2, .int .u64 sq] 32)
            have hlit := laidT3 wX (.slice x1 nl x2) (.slice y1 ml y2) (.int .u64 sq) 32
            have HSE : Hid (FrS w (wX.alloc (.cells #[.slice x1 nl x2, .slice y1 ml y2, .int .u64 sq] 32)) gp M pc ps gb N bc ts (.slice oa n l) os (.slice aa d f) (fragTo ss (plcs ss) i)) := HSX.out.below hbe
            have HBE : Hid (Boxed (wX.alloc (.cells #[.slice x1 nl x2, .slice y1 ml y2, .int .u64 sq] 32)) fb 29 (.slice xa pl xc)) := (hbe.block fb HBXX.out.lt).trans HBXX.out
            have hrow := HSE.out.ovr.1
            rw [HX.out.2.2.1] at hrow
            have hse := HSE.out.bel.size
            have hn9 : n ≤ 1000 := by have := HM9.out.len; have := HM9.out.le; have := HTN.out; have := HX.out.2.2.1; omega
            have HPS : Hid (∀ g4 c4 w4, w4.ownsRow w.heap.size 32 3 (.slice (some ⟨g4, 0, none⟩) (n + 1) c4) (n + 1) (flatS os ++ [.slice x1 nl x2, .slice y1 ml y2, .int .u64 sq]) → (wX.alloc (.cells #[.slice x1 nl x2, .slice y1 ml y2, .int .u64 sq] 32)).grownBy w4 (Value.slice oa n l).ownBlock → ((Value.slice oa n l).ownBlock = some g4 ∨ g4 = (wX.alloc (.cells #[.slice x1 nl x2, .slice y1 ml y2, .int .u64 sq] 32)).heap.size) → ((os ++ [ts[q]]).length = n + 1) ∧ FrS w w4 gp M pc ps gb N bc ts (.slice (some ⟨g4, 0, none⟩) (n + 1) c4) (os ++ [ts[q]]) (.slice aa d f) (fragTo ss (plcs ss) i) ∧ Boxed w4 fb 29 (.slice xa pl xc)) := by
              intro g4 c4 w4 hown hgrow hat
              have hln : (os ++ [ts[q]]).length = n + 1 := by rw [List.length_append, HX.out.2.2.1]; rfl
              refine ⟨hln, HSE.out.ov hgrow ⟨?_, fun t ht => ?_⟩ ?_, HBE.out.kept hgrow (HBE.out.not_row (by decide) HSE.out.ovr.1)⟩
              · rw [hln, flatS_push, HEE.out.1, HEE.out.2.1, HEE.out.2.2]
                exact hown
              · rcases List.mem_append.1 ht with h9 | h9
                · exact HSE.out.ovr.2 t h9
                · rw [List.mem_singleton] at h9
                  rw [h9]
                  exact HGT.out
              · rcases hat with h9 | h9
                · exact .inl h9.symm
                · exact .inr ⟨g4, rfl, by rw [h9]; exact Nat.le_refl _⟩
            have HMN : Hid (OvM (plcs ss) ts (os ++ [ts[q]]) i (q + 1) hiP) := HM9.out.next hq2 HPR.out (fun t ht => mem_plcs.2 ⟨t.e, HTM.out t ht, .inl rfl⟩) (fun t ht => HU.out t.e (HTM.out t ht)) (by rw [HP.out.1, HFL.out]; exact HNB.out)
            clear hbe
            go_wp2_with (first | (at_builtin; refine wpList_append_lies _ rfl (.tmp 52) (.tmp 56) 22 rfl w.heap.size 32 i0 (.agg #[.slice none 0 0, .slice none 0 0, .int .u64 0]) 3 56 Try.underlying22 hi hz0 hz1 hz2 rfl (by decide) (.slice oa n l) n (flatS os) rfl hrow ⟨wX.heap.size, 0, none⟩ 1 1 [.slice x1 nl x2, .slice y1 ml y2, .int .u64 sq] rfl rfl hlit (oneS _ _ _ _ _ _ _) (by decide) (by simp only [maxLen]; omega) (by omega) hse _ rfl ?_; intro g4 c4 w4 hown hgrow hat hlt4; have HP4 : Hid _ := HPS.out g4 c4 w4 hown hgrow hat; clear hown hgrow hat hlt4) | fail)
            clear hrow hlit hse b0 b1 b2
            · go_roundg (gk - 1)
              case measure => omega
              case rel => exact ⟨q + 1, m - 1, o, 0, n + 1, c4, _, os ++ [ts[q]], by omega, rfl, rfl, by omega, ⟨.inl (by omega), by have := HX.out.2.1; omega, HP4.out.1, HX.out.2.2.2⟩, HMN, HP4.out.2.1, HP4.out.2.2⟩
            · go_roundg (gk - 1)
              case measure => omega
              case rel => exact ⟨q + 1, m - 1, o + 3, c - 1, n + 1, c4, _, os ++ [ts[q]], by omega, rfl, rfl, by omega, ⟨.inr (by have := HO1.out; omega), by have := HX.out.2.1; omega, HP4.out.1, HX.out.2.2.2⟩, HMN, HP4.out.2.1, HP4.out.2.2⟩
          · have HBD : Hid (∀ t ∈ ts.drop q, Lib.compareBytes (plcs ss)[i] t.e.1 < 0) := rise_drop HT.out.2 hq2 (by rw [HP.out.1, HFL.out]; exact of_decide_eq_true HRR.out)
            have hsq := tseqs_any wX (.slice oa n l) os (HSX.out.ovr.rdc HSX.out.bel) (by have := HM9.out.len; have := HM9.out.le; have := HTN.out; omega)
            go_wp2_with fail
            refine hsq.mono ?_
            rintro e w6 ⟨nv, ns, rfl, hrn, hne, hb6⟩
            rw [HW0.out] at hrn
            have HNS : Hid (ns = sqs ss (plcs ss)[i]) := by show _ = _; rw [hne]; exact HM9.out.nums HBD.out (by rw [← HCE.out]; exact HT.out.1.map _)
            have HS6 : Hid (FrS w w6 gp M pc ps gb N bc ts (.slice oa n l) os (.slice aa d f) (fragTo ss (plcs ss) i)) := HSX.out.below hb6
            have HBX6 : Hid (Boxed w6 fb 29 (.slice xa pl xc)) := (hb6.block fb HBXX.out.lt).trans HBXX.out
            have HRN : Hid (RowN wr0 w6 nv ns) := hrn
            obtain ⟨na, nc, env, hnc1, hnc2⟩ := hrn.shape
            obtain ⟨L, hLn⟩ : ∃ L, ns.length = L := ⟨_, rfl⟩
            rw [hLn] at env hnc1
            subst env
            have HLL : Hid (ns.length = L) := hLn
            have HOV : Hid (OvI (plcs ss) ts os (i + 1) q) := HM9.out.done HPR.out HBD.out
            have HLB : Hid (L ≤ 1000) := by
              show L ≤ 1000
              have h9 := sqs_len ss (plcs ss)[i]
              rw [← HNS.out, HLL.out, HN.out.1] at h9
              omega
            clear hsq hrn hne hb6 hLn
            go_wp2_with fail
            go_loopg [3, 63] L (fun gy av jv wz => ∃ j d f : Nat, ∃ aa : Option Addr, gy + j = L ∧ jv = .int .i64 (j : Int) ∧ av = .slice aa d f ∧ Hid (((fragTo ss (plcs ss) i) ++ (ns.take j).map (fun n => (p, p2, n))).length = d) ∧ Hid (FrS w wz gp M pc ps gb N bc ts (.slice oa n l) os av ((fragTo ss (plcs ss) i) ++ (ns.take j).map (fun n => (p, p2, n)))) ∧ Hid (Boxed wz fb 29 (.slice xa pl xc)) ∧ Hid (RowN wr0 wz (.slice na L nc) ns))
            case atStart => exact ⟨0, d, f, aa, by omega, rfl, rfl, by show _ = _; rw [List.take_zero, List.map_nil, List.append_nil]; exact HX.out.2.2.2, by show FrS _ _ _ _ _ _ _ _ _ _ _ _ _ _; rw [List.take_zero, List.map_nil, List.append_nil]; exact HS6.out, HBX6, HRN⟩
            case round =>
              obtain ⟨j, d, f, aa, hjL, rfl, rfl, HD, HSZ, HBZ, HNZ⟩ := hrel
              by_cases hltj : j < L
              · have hj2 : j < ns.length := by rw [HLL.out]; exact hltj
                obtain ⟨y1, y2⟩ := gk_nxt hjL hltj
                obtain ⟨gn, c9, eg, _⟩ := HNZ.out.form (by rw [HLL.out]; omega)
                rw [HLL.out] at eg
                cases eg
                obtain ⟨k0, _⟩ := HNZ.out.at HLL.out j hj2
                obtain ⟨sq, hsq⟩ : ∃ z : Nat, ns[j] = z := ⟨_, rfl⟩
                rw [hsq] at k0
                have HNX : Hid ((ns.take (j + 1)).map (fun n => (p, p2, n)) = (ns.take j).map (fun n => (p, p2, n)) ++ [(p, p2, sq)]) := by
                  show _ = _
                  rw [List.take_succ_eq_append_getElem hj2, List.map_append, hsq]
                  rfl
                have kb := HBZ.out.cell
                have hap := tapart_any wr (.slice xa pl xc) (.slice ya pl2 yc) p p2 (sq : Int) ((HRX.out.1.below HSZ.out.bel (Nat.le_refl _)).arg) ((HRX.out.2.below HSZ.out.bel (Nat.le_refl _)).arg) (by have := HPB.out.1; omega) (by have := HPB.out.2; omega)
                clear hsq
                go_wp2_with fail
                refine hap.mono ?_
                rintro e w7 ⟨ux, uy, rfl, ox, oy, hb7⟩
                obtain ⟨u1, u2, rfl⟩ := ox.rd.len
                obtain ⟨u3, u4, rfl⟩ := oy.rd.len
                obtain ⟨l1, hl1⟩ : ∃ n, p.length = n := ⟨_, rfl⟩
                obtain ⟨l2, hl2⟩ : ∃ n, p2.length = n := ⟨_, rfl⟩
                rw [hl1] at ox ⊢
                rw [hl2] at oy ⊢
                have hbe := below_box4 w7 (.cells #[.slice u1 l1 u2, .slice u3 l2 u4, .int .u64 (sq : Int)] 32)
                have hlit := laidT3 w7 (.slice u1 l1 u2) (.slice u3 l2 u4) (.int .u64 (sq : Int)) 32
                have hbt := bsplit hb7 hbe
                have HSE : Hid (FrS w (w7.alloc (.cells #[.slice u1 l1 u2, .slice u3 l2 u4, .int .u64 (sq : Int)] 32)) gp M pc ps gb N bc ts (.slice oa n l) os (.slice aa d f) ((fragTo ss (plcs ss) i) ++ (ns.take j).map (fun n => (p, p2, n)))) := HSZ.out.below hbt
                have HBE : Hid (Boxed (w7.alloc (.cells #[.slice u1 l1 u2, .slice u3 l2 u4, .int .u64 (sq : Int)] 32)) fb 29 (.slice xa pl xc)) := (hbt.block fb HBZ.out.lt).trans HBZ.out
                have HNE : Hid (RowN wr0 (w7.alloc (.cells #[.slice u1 l1 u2, .slice u3 l2 u4, .int .u64 (sq : Int)] 32)) (.slice (some ⟨gn, 0, none⟩) L nc) ns) := HNZ.out.below hbt
                have HWS : Hid (w.heap.size ≤ wr.heap.size) := HSZ.out.bel.size
                have HOX : Hid (OwnN w.heap.size _ (.slice u1 l1 u2) p) := (ox.below hbe (Nat.le_refl _)).mono (by have := HWS.out; omega)
                have HOY : Hid (OwnN w.heap.size _ (.slice u3 l2 u4) p2) := (oy.below hbe (Nat.le_refl _)).mono (by have := HWS.out; omega)
                have hse := HSE.out.bel.size
                obtain ⟨cs9, hrow, hel⟩ := HSE.out.all
                rw [HD.out] at hrow
                have HROW : Hid _ := hrow
                have HEL : Hid _ := hel
                have hd9 : d ≤ 3000000 := by
                  have h9 := HD.out
                  rw [List.length_append, List.length_map, List.length_take, HLL.out] at h9
                  have h8 := fragTo_len ss (plcs ss) i
                  rw [HN.out.1] at h8
                  have h7 : i * N ≤ 2000 * 1000 := Nat.mul_le_mul (by omega) (by omega)
                  have := HLB.out
                  omega
                have HPS : Hid (∀ g4 c4 w4, w4.ownsRow w.heap.size 32 3 (.slice (some ⟨g4, 0, none⟩) (d + 1) c4) (d + 1) (cs9 ++ [.slice u1 l1 u2, .slice u3 l2 u4, .int .u64 (sq : Int)]) → (w7.alloc (.cells #[.slice u1 l1 u2, .slice u3 l2 u4, .int .u64 (sq : Int)] 32)).grownBy w4 (Value.slice aa d f).ownBlock → ((Value.slice aa d f).ownBlock = some g4 ∨ g4 = (w7.alloc (.cells #[.slice u1 l1 u2, .slice u3 l2 u4, .int .u64 (sq : Int)] 32)).heap.size) → (((fragTo ss (plcs ss) i) ++ (ns.take (j + 1)).map (fun n => (p, p2, n))).length = d + 1) ∧ FrS w w4 gp M pc ps gb N bc ts (.slice oa n l) os (.slice (some ⟨g4, 0, none⟩) (d + 1) c4) ((fragTo ss (plcs ss) i) ++ (ns.take (j + 1)).map (fun n => (p, p2, n))) ∧ Boxed w4 fb 29 (.slice xa pl xc) ∧ RowN wr0 w4 (.slice (some ⟨gn, 0, none⟩) L nc) ns) := by
                  intro g4 c4 w4 hown hgrow hat
                  rw [HNX.out, ← List.append_assoc]
                  refine ⟨by rw [List.length_append, HD.out]; rfl, HSE.out.al hgrow (AllS.push (p, p2, sq) HD.out HROW.out HEL.out HOX.out HOY.out hown hgrow) ?_, HBE.out.kept hgrow (HBE.out.not_row (by decide) HROW.out), World.ownsRow.kept HNE.out hgrow (rows_ne (by decide) HROW.out HNE.out)⟩
                  rcases hat with h9 | h9
                  · exact .inl h9.symm
                  · exact .inr ⟨g4, rfl, by rw [h9]; exact Nat.le_refl _⟩
                clear hap hb7 ox oy hl1 hl2 hbe hbt hel kb k0
                go_wp2_with (first | (at_builtin; refine wpList_append_lies _ rfl (.tmp 67) (.tmp 73) 22 rfl w.heap.size 32 i0 (.agg #[.slice none 0 0, .slice none 0 0, .int .u64 0]) 3 56 Try.underlying22 hi hz0 hz1 hz2 rfl (by decide) (.slice aa d f) d cs9 rfl hrow ⟨w7.heap.size, 0, none⟩ 1 1 [.slice u1 l1 u2, .slice u3 l2 u4, .int .u64 (sq : Int)] rfl rfl hlit (oneS _ _ _ _ _ _ _) (by decide) (by simp only [maxLen]; omega) (by omega) hse _ rfl ?_; intro g4 c4 w4 hown hgrow hat hlt4; have HP4 : Hid _ := HPS.out g4 c4 w4 hown hgrow hat; clear hown hgrow hat hlt4) | fail)
                clear hrow hlit hse
                go_roundg (gk - 1)
                case measure => exact y1
                case rel => exact ⟨j + 1, d + 1, c4, _, y2, by go_num, rfl, HP4.out.1, HP4.out.2.1, HP4.out.2.2.1, HP4.out.2.2.2⟩
              · have hjE : j = L := by omega
                subst hjE
                have HFE : Hid (fragTo ss (plcs ss) (i + 1) = (fragTo ss (plcs ss) i) ++ (ns.take j).map (fun n => (p, p2, n))) := by
                  show _ = _
                  rw [fragTo_part ss (plcs ss) i hiP2, ← HNS.out, ← HLL.out, List.take_length, HP.out.1, HP.out.2]
                go_wp2_with fail
                go_roundg (G - 1)
                case measure => omega
                case rel => exact ⟨i + 1, q, m, o, c, n, l, d, f, aa, oa, os, q2, by go_num, rfl, rfl, rfl, hmc, ⟨HX.out.1, HX.out.2.1, HX.out.2.2.1, by rw [HFE.out]; exact HD.out⟩, HOV, by show FrS _ _ _ _ _ _ _ _ _ _ _ _ _ _; rw [HFE.out]; exact HSZ.out⟩
    · have hiK : i = K := by omega
      subst hiK
      go_wp2_with fail
      go_wp2
      go_ret
      have hfr : fragTo ss (plcs ss) i = fragN ss := by
        unfold fragN
        rw [HPLN.out]
        have := HKM.out
        rw [show M - 1 = i by omega]
      exact ⟨_, rfl, by rw [← hfr]; exact HS.out.all.rd, HS.out.bel⟩

end Go.Proofs.Ytifdomhmmhepcaa

/- (*tomb.Set).Add. -/
namespace Go.Proofs.Ytifdomhmmhepcaa
set_option maxRecDepth 100000
open Go.RowKit
set_option linter.unusedVariables false
set_option linter.unusedSimpArgs false

/-- a set that is one's own: from block B on -/
def SetO (B : Nat) (w : World) (t : Nat) (ss : List SpB) : Prop := B ≤ t ∧ ∃ v, Boxed w t 52 v ∧ AllS B w v ss

theorem SetO.at {B t : Nat} {w : World} {ss : List SpB} (h : SetO B w t ss) : SetAt w t ss := by
  obtain ⟨_, v, hv, ha⟩ := h
  exact ⟨v, hv.cell, ha.rd⟩

theorem SetO.below {B t : Nat} {w w' : World} {ss : List SpB} (h : SetO B w t ss) (hb : Below w.heap.size w w') : SetO B w' t ss := by
  obtain ⟨h0, v, hv, ha⟩ := h
  exact ⟨h0, v, (hb.block t hv.lt).trans hv, ha.below hb⟩

/-- what turns lies ahead of it -/
theorem SetO.aside {B t r : Nat} {w w' : World} {ss : List SpB} (h : SetO B w t ss) (hg : w.grownBy w' (some r)) (hr : r < B) : SetO B w' t ss := by
  obtain ⟨h0, v, hv, cs, hrow, hel⟩ := h
  have hk : ∀ q, B ≤ q → q < w.heap.size → w'.heap[q]? = w.heap[q]? := fun q h1 h2 => hg.block q h2 (fun e => by cases e; omega)
  have hN : ∀ x l, OwnN B w x l → OwnN B w' x l := fun x l ho => by
    rcases ho with ho | ho
    · exact .inl ho
    · obtain ⟨g, c, rfl⟩ := ho.shape
      exact .inr (Own.of_row (ho.row.kept hg (.inr (fun e => by have h9 := (ho.row.lt g rfl).1; simp [Value.ownBlock] at e; omega))) (by simp))
  refine ⟨h0, v, (hk t h0 hv.lt).trans hv, cs, hrow.kept hg ?_, fun j hj => ?_⟩
  · cases hb : v.ownBlock with
    | none => exact .inl rfl
    | some q => exact .inr (fun e => by have := (hrow.lt q hb).1; cases e; omega)
  · obtain ⟨x, y, c0, c1, c2, ox, oy⟩ := hel j hj
    exact ⟨x, y, c0, c1, c2, hN _ _ ox, hN _ _ oy⟩

/-- its box is written over -/
theorem AllS.kept9 {B t : Nat} {T : TypeId} {w : World} {v u o : Value} {es : List SpB} (h : AllS B w v es) (hb : Boxed w t T o) (hT : T ≠ 32 ∧ T ≠ 5 := by decide) : AllS B (w.setCell ⟨t, 0, none⟩ u) v es := by
  obtain ⟨cs, hrow, hel⟩ := h
  have hg := grownBy_setCell' w t u
  have hN : ∀ x l, OwnN B w x l → OwnN B (w.setCell ⟨t, 0, none⟩ u) x l := fun x l ho => by
    rcases ho with ho | ho
    · exact .inl ho
    · obtain ⟨g, c, rfl⟩ := ho.shape
      exact .inr (Own.of_row (ho.row.kept hg (.inr (fun e => hb.not_row hT.2 ho.row e.symm))) (by simp))
  refine ⟨cs, hrow.kept hg ?_, fun j hj => ?_⟩
  · exact .inr (fun e => hb.not_row hT.1 hrow e.symm)
  · obtain ⟨x, y, c0, c1, c2, ox, oy⟩ := hel j hj
    exact ⟨x, y, c0, c1, c2, hN _ _ ox, hN _ _ oy⟩

/-- what Add answers -/
def AddPost (B : Nat) (w : World) (t : Nat) (ss : List SpB) (o : SpB) (c : Int) (e : Ending) (w' : World) : Prop :=
  e = .returned (.int .i64 c) ∧ SetO B w' t (if c = 0 then ss ++ [o] else ss) ∧ Below B w w'

theorem boxed_set9 {w : World} {t : Nat} {T : TypeId} {v u : Value} (h : Boxed w t T v) : Boxed (w.setCell ⟨t, 0, none⟩ u) t T u := h.set u

set_option maxHeartbeats 4000000 in
theorem tadd_any (w : World) (B t : Nat) (ss : List SpB) (x y : Value) (l m : List UInt8) (s : Nat) (c : Int) (hS : SetO B w t ss) (hB : B ≤ w.heap.size) (hx : Rd w x l) (hy : Rd w y m) (hn : ss.length ≤ 100000) (hc : chkSp l m (s : Int) = c) :
    Calls Try.prog 13 #[.pointer (some ⟨t, 0, none⟩), spV x y (s : Int)] w (AddPost B w t ss (l, m, s) c) := by
  obtain ⟨i0, hi, hz0, hz1, hz2⟩ := info_parts infoSp
  obtain ⟨hBt, v, hv, ha⟩ := hS
  obtain ⟨xa, xc, rfl⟩ := hx.len
  obtain ⟨ya, yc, rfl⟩ := hy.len
  obtain ⟨nl, hnl⟩ : ∃ nl, l.length = nl := ⟨_, rfl⟩
  obtain ⟨ml, hml⟩ : ∃ ml, m.length = ml := ⟨_, rfl⟩
  rw [hnl] at hx ⊢
  rw [hml] at hy ⊢
  obtain ⟨va, vc, ev⟩ := ha.rd.shape
  subst ev
  obtain ⟨N, hN⟩ : ∃ N, ss.length = N := ⟨_, rfl⟩
  rw [hN] at hv ha hn
  have HN : Hid (ss.length = N) := hN
  have hb0 := below_box w #[.slice xa nl xc, .slice ya ml yc, .int .u64 (s : Int)] 32
  have HB0 : Hid (Below w.heap.size w (w.alloc (.cells #[.slice xa nl xc, .slice ya ml yc, .int .u64 (s : Int)] 32))) := hb0
  have BX := box_new w (.slice xa nl xc) (.slice ya ml yc) (.int .u64 (s : Int)) 32
  have hck := tcheck_any (w.alloc (.cells #[.slice xa nl xc, .slice ya ml yc, .int .u64 (s : Int)] 32)) (.slice xa nl xc) (.slice ya ml yc) l m (s : Int) c (hx.below hb0 (Nat.le_refl _)) (hy.below hb0 (Nat.le_refl _)) hc
  have he : ∀ w : World, (binOp .eql 27 (.pointer (some ⟨t, 0, none⟩)) (.pointer none)).run Try.prog w = .ok (.bool false) w := fun _ => rfl
  have HS : Hid (B ≤ t ∧ Boxed w t 52 (.slice va N vc) ∧ AllS B w (.slice va N vc) ss) := ⟨hBt, hv, ha⟩
  have HX : Hid (Rd w (.slice xa nl xc) l ∧ Rd w (.slice ya ml yc) m) := ⟨hx, hy⟩
  have HLM : Hid (l.length = nl ∧ m.length = ml) := ⟨hnl, hml⟩
  have HC : Hid (chkSp l m (s : Int) = c) := hc
  have BX' := BX
  obtain ⟨z0, z1, z2, _, _, _⟩ := BX'
  clear hN hb0 hx hy hnl hml hc ha
  go_enter Try.func13, Try.ntmps13
  go_wp2_with fail
  refine hck.mono ?_
  rintro e w1 ⟨rfl, hb1⟩
  have hbw : Below w.heap.size w w1 := bsplit HB0.out hb1
  have HBW : Hid (Below w.heap.size w w1) := hbw
  have HB1 : Hid (Below B w w1) := hbw.mono hB
  have HS1 : Hid (Boxed w1 t 52 (.slice va N vc) ∧ AllS B w1 (.slice va N vc) ss) := ⟨(hbw.block t HS.out.2.1.lt).trans HS.out.2.1, HS.out.2.2.below hbw⟩
  clear z0 z1 z2
  have B1 := BX.below hb1 (Nat.le_refl _)
  clear hck hb1 hbw BX
  by_cases h0 : c = 0
  · subst h0
    have hlen : l.length ≤ 64 ∧ m.length ≤ 64 := by
      have h9 := HC.out
      unfold chkSp at h9
      split at h9
      · rename_i hh; exact ⟨hh.1.2, hh.2.1.2⟩
      · omega
    have ra := (HX.out.1.below HBW.out (Nat.le_refl _)).arg
    have rb := (HX.out.2.below HBW.out (Nat.le_refl _)).arg
    have hap := tapart_any w1.drew (.slice xa nl xc) (.slice ya ml yc) l m (s : Int) (arg_drew ra) (arg_drew rb) (by omega) (by omega)
    have tb : w1.drew.cell? ⟨t, 0, none⟩ = some (.slice va N vc) := HS1.out.1.cell
    have bs := B1.drew
    have HNE : Hid (t ≠ w.heap.size ∧ ∀ q, (Value.slice va N vc).ownBlock = some q → q < w.heap.size) := ⟨by have := HS.out.2.1.lt; omega, fun q hq => (HS.out.2.2.lt q hq).2⟩
    have HSD : Hid (Boxed w1.drew t 52 (.slice va N vc) ∧ AllS B w1.drew (.slice va N vc) ss) := HS1.out
    have HBD : Hid (Below w.heap.size w w1.drew) := HBW.out.drew
    clear hlen ra rb B1
    go_wp2_with fail
    obtain ⟨z0, z1, z2, _, _, _⟩ := bs
    go_region_law
      (first
        | (go_simp
           go_at_call 30
           refine Calls.mono hap ?_
           rintro e w2 ⟨ux, uy, rfl, ox, oy, hb2⟩
           obtain ⟨u1, u2, hu⟩ := ox.rd.len
           subst hu
           obtain ⟨u3, u4, hu⟩ := oy.rd.len
           subst hu
           rw [HLM.out.1] at ox ⊢
           rw [HLM.out.2] at oy ⊢
           have t2 := (hb2.cell (p := ⟨t, 0, none⟩) (World.block_lt_of_cell? _ _ tb)).trans tb
           have hbe := below_box4 w2 (.cells #[.slice u1 nl u2, .slice u3 ml u4, .int .u64 (s : Int)] 32)
           have t3 := (hbe.cell (p := ⟨t, 0, none⟩) (World.block_lt_of_cell? _ _ t2)).trans t2)
        | (have hA2 := (HSD.out.2.below hb2).below hbe
           have hT2 : Boxed (w2.alloc (.cells #[.slice u1 nl u2, .slice u3 ml u4, .int .u64 (s : Int)] 32)) t 52 (.slice va N vc) := (hbe.block t (Nat.lt_of_lt_of_le HSD.out.1.lt hb2.size)).trans ((hb2.block t HSD.out.1.lt).trans HSD.out.1)
           have hB2 : Below B w (w2.alloc (.cells #[.slice u1 nl u2, .slice u3 ml u4, .int .u64 (s : Int)] 32)) := (bsplit (bsplit HBD.out hb2) hbe).mono hB
           have oxe := (ox.below hbe (Nat.le_refl _)).mono (C := B) (by have := HBD.out.size; omega)
           have oye := (oy.below hbe (Nat.le_refl _)).mono (C := B) (by have := HBD.out.size; omega)
           obtain ⟨cs, hrow, hel⟩ := hA2
           rw [HN.out] at hrow
           refine step_append_lies _ rfl (.tmp 17) (.tmp 20) 22 rfl B 32 i0 (.agg #[.slice none 0 0, .slice none 0 0, .int .u64 0]) 3 56 Try.underlying22 hi hz0 hz1 hz2 rfl (by decide) (.slice va N vc) N cs rfl hrow ⟨w2.heap.size, 0, none⟩ 1 1 [.slice u1 nl u2, .slice u3 ml u4, .int .u64 (s : Int)] rfl rfl (laidT3 _ _ _ _ _) (oneS _ _ _ _ _ _ _) (by decide) (by simp only [maxLen]; omega) (by omega) (Nat.le_trans hB (bsplit (bsplit HBD.out hb2) hbe).size) _ rfl ?_
           intro g4 c4 w4 hown hgrow hat hlt4
           have hT4 := hT2.kept hgrow (hT2.not_row (by decide) hrow)
           have t4 := hT4.cell
           have f4 := hT4.frozen
           have HPU : Hid (AllS B w4 (.slice (some ⟨g4, 0, none⟩) (N + 1) c4) (ss ++ [(l, m, s)])) := AllS.push (l, m, s) HN.out hrow hel oxe oye hown hgrow
           have HB4 : Hid (Below B w w4) := hB2.grown hgrow (Nat.le_trans hB hB2.size) (fun k' e => (hrow.lt k' e).1)
           have HT4 : Hid (Boxed w4 t 52 (.slice va N vc)) := hT4)
        | fail)
    all_goals
      go_wp2
      go_ret
      refine ⟨rfl, ?_, HB4.out.setCell (p := ⟨t, 0, none⟩) HS.out.1 _⟩
      rw [if_pos rfl]
      obtain ⟨cs4, hr4, he4⟩ := HPU.out
      exact ⟨HS.out.1, _, HT4.out.set _, AllS.kept9 HPU.out HT4.out⟩
  · go_wp2
    go_ret
    refine ⟨rfl, ?_, HB1.out⟩
    rw [if_neg h0]
    exact ⟨HS.out.1, _, HS1.out.1, HS1.out.2⟩

end Go.Proofs.Ytifdomhmmhepcaa

/- tomb.New, All, Len; a nil set. -/
namespace Go.Proofs.Ytifdomhmmhepcaa
set_option maxRecDepth 100000
open Go.RowKit
set_option linter.unusedVariables false
set_option linter.unusedSimpArgs false

/-- is a span right? -/
def okS (e : SpB) : Bool := decide (chkSp e.1 e.2.1 (e.2.2 : Int) = 0)
def rightS (es : List SpB) : List SpB := es.filter okS

theorem rightS_next {es : List SpB} {j : Nat} (h : j < es.length) : rightS (es.take (j + 1)) = if chkSp es[j].1 es[j].2.1 (es[j].2.2 : Int) = 0 then rightS (es.take j) ++ [es[j]] else rightS (es.take j) := by
  unfold rightS
  rw [List.take_succ_eq_append_getElem h, List.filter_append]
  by_cases h0 : chkSp es[j].1 es[j].2.1 (es[j].2.2 : Int) = 0
  · rw [if_pos h0]
    have : okS es[j] = true := by unfold okS; exact decide_eq_true h0
    simp [this]
  · rw [if_neg h0]
    have : okS es[j] = false := by unfold okS; exact decide_eq_false h0
    simp [this]

theorem rightS_len (es : List SpB) : (rightS es).length ≤ es.length := List.length_filter_le _ _

theorem chk_ok {e : SpB} (h : okS e = true) : (1 ≤ e.1.length ∧ e.1.length ≤ 64) ∧ (1 ≤ e.2.1.length ∧ e.2.1.length ≤ 64) ∧ Lib.compareBytes e.1 e.2.1 < 0 ∧ 1 ≤ e.2.2 ∧ e.2.2 ≤ 72057594037927935 := by
  unfold okS chkSp at h
  rw [decide_eq_true_iff] at h
  split at h
  · rename_i hh; exact ⟨hh.1, hh.2.1, hh.2.2.1, by omega, by omega⟩
  · omega

theorem right_up (es : List SpB) : Up9 (rightS es) := fun s hs => (chk_ok (List.mem_filter.1 hs).2).2.2.1

theorem right_lens (es : List SpB) : ∀ s ∈ rightS es, s.1.length ≤ 1000 ∧ s.2.1.length ≤ 1000 := fun s hs => by
  have h := chk_ok (List.mem_filter.1 hs).2
  omega

set_option maxHeartbeats 4000000 in
theorem tnew_any (w : World) (v : Value) (es : List SpB) (hv : RdS w v es) (hn : es.length ≤ 2000) :
    Calls Try.prog 10 #[v] w fun e w' => e = .returned (.pointer (some ⟨w.heap.size, 0, none⟩)) ∧ SetO w.heap.size w' w.heap.size (rightS es) ∧ Below w.heap.size w w' := by
  have HV : Hid (RdS w v es) := hv
  obtain ⟨ao, cap, rfl, h1, h2, _⟩ := hv
  unfold maxLen at h2
  obtain ⟨N, hN⟩ : ∃ N, es.length = N := ⟨_, rfl⟩
  rw [hN] at h1 HV hn ⊢
  have HN : Hid (es.length = N) := hN
  have HB0 : Hid (Below w.heap.size w (w.alloc (.cells #[.slice none 0 0] 52))) := below_box4 w _
  have HS0 : Hid (SetO w.heap.size (w.alloc (.cells #[.slice none 0 0] 52)) w.heap.size (rightS [])) := ⟨Nat.le_refl _, _, Boxed.new w _ _, AllS.nil _ _⟩
  clear hN
  go_enter Try.func10, Try.ntmps10
  go_wp2_with fail
  go_loopg [10] N (fun gk iv wr => ∃ j : Nat, gk + j = N ∧ iv = .int .i64 (j : Int) ∧ Hid (SetO w.heap.size wr w.heap.size (rightS (es.take j))) ∧ Hid (Below w.heap.size w wr))
  case atStart => exact ⟨0, by omega, rfl, by rw [List.take_zero]; exact HS0, HB0⟩
  case round =>
    obtain ⟨j, hj, rfl, HS, HB⟩ := hrel
    by_cases hlt : j < N
    · have hlt2 : j < es.length := by rw [HN.out]; exact hlt
      obtain ⟨_, _, e, _, _, h3⟩ := rdS_below HV.out HB.out (Nat.le_refl _)
      rw [HN.out] at e
      cases e
      obtain ⟨b, off, rfl, xv, yv, c0, c1, c2, rx, ry⟩ := h3 j hlt2
      obtain ⟨x1, x2, ex⟩ := rx.len
      obtain ⟨y1, y2, ey⟩ := ry.len
      subst ex ey
      obtain ⟨q1, q2⟩ := gk_nxt hj hlt
      obtain ⟨⟨sl, sm, sq⟩, ho⟩ : ∃ o, es[j] = o := ⟨_, rfl⟩
      rw [ho] at c0 c1 c2 rx ry
      simp only at c0 c1 c2 rx ry
      have hb0 := below_box wr #[.slice x1 sl.length x2, .slice y1 sm.length y2, .int .u64 (sq : Int)] 32
      obtain ⟨z0, z1, z2, _, _, _⟩ := box_new wr (.slice x1 sl.length x2) (.slice y1 sm.length y2) (.int .u64 (sq : Int)) 32
      obtain ⟨c, hc⟩ : ∃ c, chkSp sl sm (sq : Int) = c := ⟨_, rfl⟩
      have had := tadd_any (wr.alloc (.cells #[.slice x1 sl.length x2, .slice y1 sm.length y2, .int .u64 (sq : Int)] 32)) w.heap.size w.heap.size (rightS (es.take j)) (.slice x1 sl.length x2) (.slice y1 sm.length y2) sl sm sq c (HS.out.below hb0) (Nat.le_trans HB.out.size hb0.size) (rx.below hb0 (Nat.le_refl _)) (ry.below hb0 (Nat.le_refl _)) (by have h9 := rightS_len (es.take j); rw [List.length_take] at h9; omega) hc
      have HNX : Hid (rightS (es.take (j + 1)) = if c = 0 then rightS (es.take j) ++ [(sl, sm, sq)] else rightS (es.take j)) := by show _ = _; rw [rightS_next hlt2, ho, ← hc]
      have HB1 : Hid (Below w.heap.size w (wr.alloc (.cells #[.slice x1 sl.length x2, .slice y1 sm.length y2, .int .u64 (sq : Int)] 32))) := bsplit HB.out hb0
      obtain ⟨nl, hnl⟩ : ∃ nl, sl.length = nl := ⟨_, rfl⟩
      obtain ⟨ml, hml⟩ : ∃ ml, sm.length = ml := ⟨_, rfl⟩
      rw [hnl, hml] at had HB1 z0 z1 z2
      rw [hnl] at c0
      rw [hml] at c1
      clear ho hb0 h3 rx ry hc hnl hml
      go_wp2_with fail
      refine had.mono ?_
      rintro e w2 ⟨rfl, hs2, hb2⟩
      have HS2 : Hid (SetO w.heap.size w2 w.heap.size (rightS (es.take (j + 1)))) := by show SetO _ _ _ _; rw [HNX.out]; exact hs2
      have HB2 : Hid (Below w.heap.size w w2) := HB1.out.trans hb2
      clear had hs2 hb2 z0 z1 z2 c0 c1 c2
      go_wp2_with fail
      go_roundg (gk - 1)
      case measure => exact q1
      case rel => exact ⟨j + 1, q2, by go_num, HS2, HB2⟩
    · have hjN : j = N := by omega
      subst hjN
      have HT : Hid (es.take j = es) := by show _ = _; rw [← HN.out, List.take_length]
      go_wp2_with fail
      go_wp2
      go_ret
      refine ⟨rfl, ?_, HB.out⟩
      have h9 := HS.out
      rw [HT.out] at h9
      exact h9

set_option maxHeartbeats 4000000 in
theorem tall_any (w : World) (t : Nat) (ss : List SpB) (ht : SetAt w t ss) (hn : ss.length ≤ 2000) (hL : ∀ s ∈ ss, s.1.length ≤ 1000 ∧ s.2.1.length ≤ 1000) :
    Calls Try.prog 16 #[.pointer (some ⟨t, 0, none⟩)] w fun e w' => ∃ v, e = .returned v ∧ AllS w.heap.size w' v ss ∧ Below w.heap.size w w' := by
  obtain ⟨i0, hi, hz0, hz1, hz2⟩ := info_parts infoSp
  obtain ⟨v, hc, hv⟩ := ht
  have HV : Hid (RdS w v ss) := hv
  obtain ⟨ao, cap, rfl, h1, h2, _⟩ := hv
  unfold maxLen at h2
  obtain ⟨N, hN⟩ : ∃ N, ss.length = N := ⟨_, rfl⟩
  rw [hN] at h1 HV hn hc
  have HN : Hid (ss.length = N) := hN
  have HL : Hid (∀ s ∈ ss, s.1.length ≤ 1000 ∧ s.2.1.length ≤ 1000) := hL
  have he : ∀ w : World, (binOp .eql 27 (.pointer (some ⟨t, 0, none⟩)) (.pointer none)).run Try.prog w = .ok (.bool false) w := fun _ => rfl
  clear hN hL
  go_enter Try.func16, Try.ntmps16
  go_wp2_with fail
  go_loopg [3, 13] N (fun gk av iv wr => ∃ j f : Nat, ∃ aa : Option Addr, gk + j = N ∧ iv = .int .i64 (j : Int) ∧ av = .slice aa j f ∧ Hid (AllS w.heap.size wr av (ss.take j)) ∧ Hid (Below w.heap.size w wr))
  case atStart => exact ⟨0, 0, none, by omega, rfl, rfl, by rw [List.take_zero]; exact AllS.nil _ _, Below.refl _ _⟩
  case round =>
    obtain ⟨j, f, aa, hj, rfl, rfl, HA, HB⟩ := hrel
    by_cases hlt : j < N
    · have hlt2 : j < ss.length := by rw [HN.out]; exact hlt
      obtain ⟨_, _, e, _, _, h3⟩ := rdS_below HV.out HB.out (Nat.le_refl _)
      rw [HN.out] at e
      cases e
      obtain ⟨b, off, rfl, xv, yv, c0, c1, c2, rx, ry⟩ := h3 j hlt2
      obtain ⟨x1, x2, ex⟩ := rx.len
      obtain ⟨y1, y2, ey⟩ := ry.len
      subst ex ey
      obtain ⟨q1, q2⟩ := gk_nxt hj hlt
      have hbd := HL.out _ (List.getElem_mem hlt2)
      obtain ⟨⟨sl, sm, sq⟩, ho⟩ : ∃ o, ss[j] = o := ⟨_, rfl⟩
      rw [ho] at c0 c1 c2 rx ry hbd
      simp only at c0 c1 c2 rx ry hbd
      have HTL : Hid ((ss.take j).length = j) := by show _ = _; rw [List.length_take, HN.out]; omega
      have HR : Hid (ss.take (j + 1) = ss.take j ++ [(sl, sm, sq)]) := by show _ = _; rw [List.take_succ_eq_append_getElem hlt2, ho]
      have hb0 := below_box wr #[.slice x1 sl.length x2, .slice y1 sm.length y2, .int .u64 (sq : Int)] 32
      obtain ⟨z0, z1, z2, _, _, _⟩ := box_new wr (.slice x1 sl.length x2) (.slice y1 sm.length y2) (.int .u64 (sq : Int)) 32
      have hap := tapart_any (wr.alloc (.cells #[.slice x1 sl.length x2, .slice y1 sm.length y2, .int .u64 (sq : Int)] 32)) (.slice x1 sl.length x2) (.slice y1 sm.length y2) sl sm (sq : Int) (rx.below hb0 (Nat.le_refl _)).arg (ry.below hb0 (Nat.le_refl _)).arg (by omega) (by omega)
      have HA1 : Hid (AllS w.heap.size (wr.alloc (.cells #[.slice x1 sl.length x2, .slice y1 sm.length y2, .int .u64 (sq : Int)] 32)) (.slice aa j f) (ss.take j)) := HA.out.below hb0
      have HB1 : Hid (Below w.heap.size w (wr.alloc (.cells #[.slice x1 sl.length x2, .slice y1 sm.length y2, .int .u64 (sq : Int)] 32))) := bsplit HB.out hb0
      obtain ⟨nl, hnl⟩ : ∃ nl, sl.length = nl := ⟨_, rfl⟩
      obtain ⟨ml, hml⟩ : ∃ ml, sm.length = ml := ⟨_, rfl⟩
      rw [hnl, hml] at hap HA1 HB1 z0 z1 z2
      rw [hnl] at c0
      rw [hml] at c1
      have HLM : Hid (sl.length = nl ∧ sm.length = ml) := ⟨hnl, hml⟩
      clear ho hb0 h3 rx ry hnl hml hbd
      go_wp2_with fail
      refine hap.mono ?_
      rintro e w7 ⟨ux, uy, rfl, ox, oy, hb7⟩
      obtain ⟨u1, u2, rfl⟩ := ox.rd.len
      obtain ⟨u3, u4, rfl⟩ := oy.rd.len
      rw [HLM.out.1] at ox ⊢
      rw [HLM.out.2] at oy ⊢
      have hbe := below_box4 w7 (.cells #[.slice u1 nl u2, .slice u3 ml u4, .int .u64 (sq : Int)] 32)
      have hlit := laidT3 w7 (.slice u1 nl u2) (.slice u3 ml u4) (.int .u64 (sq : Int)) 32
      have HBE : Hid (Below w.heap.size w (w7.alloc (.cells #[.slice u1 nl u2, .slice u3 ml u4, .int .u64 (sq : Int)] 32))) := bsplit (bsplit HB1.out hb7) hbe
      have hse := HBE.out.size
      have HS9 : Hid (w.heap.size ≤ (wr.alloc (.cells #[.slice x1 nl x2, .slice y1 ml y2, .int .u64 (sq : Int)] 32)).heap.size) := HB1.out.size
      have oxe := (ox.below hbe (Nat.le_refl _)).mono (C := w.heap.size) (by have := HS9.out; omega)
      have oye := (oy.below hbe (Nat.le_refl _)).mono (C := w.heap.size) (by have := HS9.out; omega)
      obtain ⟨cs9, hrow, hel⟩ := (HA1.out.below hb7).below hbe
      rw [HTL.out] at hrow
      have HPS : Hid (∀ g4 c4 w4, w4.ownsRow w.heap.size 32 3 (.slice (some ⟨g4, 0, none⟩) (j + 1) c4) (j + 1) (cs9 ++ [.slice u1 nl u2, .slice u3 ml u4, .int .u64 (sq : Int)]) → (w7.alloc (.cells #[.slice u1 nl u2, .slice u3 ml u4, .int .u64 (sq : Int)] 32)).grownBy w4 (Value.slice aa j f).ownBlock → AllS w.heap.size w4 (.slice (some ⟨g4, 0, none⟩) (j + 1) c4) (ss.take (j + 1)) ∧ Below w.heap.size w w4) := by
        intro g4 c4 w4 hown hgrow
        rw [HR.out]
        exact ⟨AllS.push (sl, sm, sq) HTL.out hrow hel oxe oye hown hgrow, HBE.out.grown hgrow HBE.out.size (fun k' e => (hrow.lt k' e).1)⟩
      clear hap hb7 ox oy hbe hel oxe oye z0 z1 z2 c0 c1 c2
      go_wp2_with (first | (at_builtin; refine wpList_append_lies _ rfl (.tmp 17) (.tmp 20) 22 rfl w.heap.size 32 i0 (.agg #[.slice none 0 0, .slice none 0 0, .int .u64 0]) 3 56 Try.underlying22 hi hz0 hz1 hz2 rfl (by decide) (.slice aa j f) j cs9 rfl hrow ⟨w7.heap.size, 0, none⟩ 1 1 [.slice u1 nl u2, .slice u3 ml u4, .int .u64 (sq : Int)] rfl rfl hlit (oneS _ _ _ _ _ _ _) (by decide) (by simp only [maxLen]; omega) (by omega) hse _ rfl ?_; intro g4 c4 w4 hown hgrow hat hlt4; have HP4 : Hid _ := HPS.out g4 c4 w4 hown hgrow; clear hown hgrow hat hlt4) | fail)
      clear hrow hlit hse
      go_roundg (gk - 1)
      case measure => exact q1
      case rel => exact ⟨j + 1, c4, _, q2, by go_num, rfl, HP4.out.1, HP4.out.2⟩
    · have hjN : j = N := by omega
      subst hjN
      have HT : Hid (ss.take j = ss) := by show _ = _; rw [← HN.out, List.take_length]
      go_wp2_with fail
      go_wp2
      go_ret
      refine ⟨_, rfl, ?_, HB.out⟩
      have h9 := HA.out
      rw [HT.out] at h9
      exact h9

theorem tlen_any (w : World) (t : Nat) (ss : List SpB) (ht : SetAt w t ss) :
    Calls Try.prog 17 #[.pointer (some ⟨t, 0, none⟩)] w fun e w' => e = .returned (.int .i64 (ss.length : Int)) ∧ w' = w := by
  obtain ⟨v, hc, hv⟩ := ht
  obtain ⟨a, c, rfl⟩ := hv.shape
  obtain ⟨N, hN⟩ : ∃ N, ss.length = N := ⟨_, rfl⟩
  rw [hN] at hc ⊢
  have he : ∀ w : World, (binOp .eql 27 (.pointer (some ⟨t, 0, none⟩)) (.pointer none)).run Try.prog w = .ok (.bool false) w := fun _ => rfl
  clear hv hN
  go_enter Try.func17, Try.ntmps17
  go_wp2
  go_ret
  exact ⟨rfl, rfl⟩

theorem eqNil9 : ∀ w : World, (binOp .eql 27 (.pointer none) (.pointer none)).run Try.prog w = .ok (.bool true) w := fun _ => rfl

theorem nilLen_any (w : World) : Calls Try.prog 17 #[.pointer none] w fun e w' => e = .returned (.int .i64 0) ∧ w' = w := by
  have he := eqNil9
  go_enter Try.func17, Try.ntmps17
  go_wp2
  go_ret
  exact ⟨rfl, rfl⟩

theorem nilAll_any (w : World) : Calls Try.prog 16 #[.pointer none] w fun e w' => e = .returned (.slice none 0 0) ∧ w' = w := by
  have he := eqNil9
  go_enter Try.func16, Try.ntmps16
  go_wp2
  go_ret
  exact ⟨rfl, rfl⟩

theorem nilFrag_any (w : World) : Calls Try.prog 18 #[.pointer none] w fun e w' => e = .returned (.slice none 0 0) ∧ w' = w := by
  have he := eqNil9
  go_enter Try.func18, Try.ntmps18
  go_wp2
  go_ret
  exact ⟨rfl, rfl⟩

theorem nilCover_any (w : World) (a : Option Addr) (n c : Nat) (s : Int) : Calls Try.prog 19 #[.pointer none, .slice a n c, .int .u64 s] w fun e w' => e = .returned (.int .u64 0) ∧ w' = w := by
  have he := eqNil9
  go_enter Try.func19, Try.ntmps19
  go_wp2
  go_ret
  exact ⟨rfl, rfl⟩

theorem nilAdd_any (w : World) (a b : Option Addr) (n c m d : Nat) (s : Int) : Calls Try.prog 13 #[.pointer none, spV (.slice a n c) (.slice b m d) s] w fun e w' => e = .returned (.int .i64 6) ∧ Below w.heap.size w w' := by
  have he := eqNil9
  have HB : Hid (Below w.heap.size w (w.alloc (.cells #[.slice a n c, .slice b m d, .int .u64 s] 32))) := below_box4 w _
  go_enter Try.func13, Try.ntmps13
  go_wp2
  go_ret
  exact ⟨rfl, HB.out⟩

end Go.Proofs.Ytifdomhmmhepcaa

/- The document's answer for tomb: Check, Covers, Cover. -/
namespace Go.Proofs.Ytifdomhmmhepcaa
set_option maxRecDepth 20000
open Go.RowKit
set_option linter.unusedVariables false
set_option linter.unusedSimpArgs false

set_option maxHeartbeats 2000000 in
theorem rtcovers_any (w : World) (x y kv : Value) (l m k : List UInt8) (s : Int) (r : Bool) (hx : Rd w x l) (hy : Rd w y m) (hk : Rd w kv k) (hr : covB l m k = r) :
    Calls Try.prog 40 #[spV x y s, kv] w fun e w' => e = .returned (.bool r) ∧ Below w.heap.size w w' := by
  obtain ⟨xa, xc, rfl⟩ := hx.len
  obtain ⟨ya, yc, rfl⟩ := hy.len
  obtain ⟨ka, kc, rfl⟩ := hk.len
  have hb0 := below_box w #[.slice xa l.length xc, .slice ya m.length yc, .int .u64 s] 32
  have HB0 : Hid (Below w.heap.size w (w.alloc (.cells #[.slice xa l.length xc, .slice ya m.length yc, .int .u64 s] 32))) := hb0
  obtain ⟨r1, hr1⟩ : ∃ r, decide (Lib.compareBytes k l < 0) = r := ⟨_, rfl⟩
  obtain ⟨r2, hr2⟩ : ∃ r, decide (Lib.compareBytes k m < 0) = r := ⟨_, rfl⟩
  have HC : Hid (r = (!r1 && r2)) := by show r = _; rw [← hr, ← hr1, ← hr2]; rfl
  have e1 := refless_any (w.alloc (.cells #[.slice xa l.length xc, .slice ya m.length yc, .int .u64 s] 32)) _ _ k l r1 (hk.below hb0 (Nat.le_refl _)) (hx.below hb0 (Nat.le_refl _)) hr1
  have e2 := refless_any (w.alloc (.cells #[.slice xa l.length xc, .slice ya m.length yc, .int .u64 s] 32)) _ _ k m r2 (hk.below hb0 (Nat.le_refl _)) (hy.below hb0 (Nat.le_refl _)) hr2
  obtain ⟨c0, c1, c2, _, _, _⟩ := box_new w (.slice xa l.length xc) (.slice ya m.length yc) (.int .u64 s) 32
  clear hr hr1 hr2 hx hy hk hb0
  go_enter Try.func40, Try.ntmps40
  go_wp2_with fail
  refine e1.mono ?_
  rintro o w1 ⟨rfl, rfl⟩
  cases r1
  · go_wp2_with fail
    refine e2.mono ?_
    rintro o w1 ⟨rfl, rfl⟩
    go_wp2
    go_ret
    exact ⟨ret_bool (by rw [HC.out]; simp), HB0.out⟩
  · go_wp2
    go_ret
    exact ⟨ret_bool (by rw [HC.out]; rfl), HB0.out⟩

set_option maxHeartbeats 2000000 in
theorem rtcheck_any (w : World) (x y : Value) (l m : List UInt8) (s c : Int) (hx : Rd w x l) (hy : Rd w y m) (hc : chkSp l m s = c) :
    Calls Try.prog 12 #[spV x y s] w fun e w' => e = .returned (.int .i64 c) ∧ Below w.heap.size w w' := by
  obtain ⟨xa, xc, rfl⟩ := hx.len
  obtain ⟨ya, yc, rfl⟩ := hy.len
  have hb0 := below_box w #[.slice xa l.length xc, .slice ya m.length yc, .int .u64 s] 32
  have HB0 : Hid (Below w.heap.size w (w.alloc (.cells #[.slice xa l.length xc, .slice ya m.length yc, .int .u64 s] 32))) := hb0
  obtain ⟨r3, hr3⟩ : ∃ r, decide (Lib.compareBytes l m < 0) = r := ⟨_, rfl⟩
  have e3 := refless_any (w.alloc (.cells #[.slice xa l.length xc, .slice ya m.length yc, .int .u64 s] 32)) _ _ l m r3 (hx.below hb0 (Nat.le_refl _)) (hy.below hb0 (Nat.le_refl _)) hr3
  obtain ⟨nl, hnl⟩ : ∃ z, l.length = z := ⟨_, rfl⟩
  obtain ⟨ml, hml⟩ : ∃ z, m.length = z := ⟨_, rfl⟩
  have HC : Hid (c = if (1 ≤ nl ∧ nl ≤ 64) ∧ (1 ≤ ml ∧ ml ≤ 64) ∧ r3 = true ∧ 1 ≤ s ∧ s ≤ 72057594037927935 then 0 else 4) := by
    show c = _
    rw [← hc, ← hr3, ← hnl, ← hml]
    unfold chkSp
    simp
  rw [hnl, hml] at e3 HB0 ⊢
  obtain ⟨c0, c1, c2, _, _, _⟩ := box_new w (.slice xa nl xc) (.slice ya ml yc) (.int .u64 s) 32
  clear hc hr3 hx hy hb0 hnl hml
  cases r3
  all_goals
    go_enter Try.func12, Try.ntmps12
    go_wp2_with (go_at_call 24; refine e3.mono ?_; rintro o w1 ⟨rfl, rfl⟩)
    all_goals go_ret
    all_goals (refine ⟨ret_int ?_, HB0.out⟩; rw [HC.out]; simp <;> omega)

set_option maxHeartbeats 4000000 in
theorem rtcover_any (w : World) (v : Value) (ss : List SpB) (kv : Value) (k : List UInt8) (seq : Int) (hv : RdS w v ss) (hk : Rd w kv k) :
    Calls Try.prog 21 #[v, kv, .int .u64 seq] w fun e w' => e = .returned (.int .u64 (covN ss k seq : Int)) ∧ Below w.heap.size w w' := by
  obtain ⟨ka, kc, rfl⟩ := hk.len
  obtain ⟨kl, hkl⟩ : ∃ z, k.length = z := ⟨_, rfl⟩
  rw [hkl] at hk ⊢
  have HK : Hid (Rd w (.slice ka kl kc) k) := hk
  have HV : Hid (RdS w v ss) := hv
  obtain ⟨ao, cap, rfl, h1, h2, _⟩ := hv
  unfold maxLen at h2
  obtain ⟨N, hN⟩ : ∃ N, ss.length = N := ⟨_, rfl⟩
  rw [hN] at h1 HV ⊢
  have HN : Hid (ss.length = N) := hN
  clear hN hk hkl
  go_enter Try.func21, Try.ntmps21
  go_wp2_with fail
  go_loopg [12, 7] N (fun gk iv mv wr => ∃ j m : Nat, gk + j = N ∧ iv = .int .i64 (j : Int) ∧ mv = .int .u64 (m : Int) ∧ Hid (m = covN (ss.take j) k seq) ∧ Hid (Below w.heap.size w wr))
  case atStart => exact ⟨0, 0, by omega, rfl, rfl, rfl, Below.refl _ _⟩
  case round =>
    obtain ⟨j, m, hj, rfl, rfl, HS, HB⟩ := hrel
    by_cases hlt : j < N
    · have hlt2 : j < ss.length := by rw [HN.out]; exact hlt
      obtain ⟨_, _, e, _, _, h3⟩ := rdS_below HV.out HB.out (Nat.le_refl _)
      rw [HN.out] at e
      cases e
      obtain ⟨b, off, rfl, xv, yv, c0, c1, c2, rx, ry⟩ := h3 j hlt2
      obtain ⟨x1, x2, ex⟩ := rx.len
      obtain ⟨y1, y2, ey⟩ := ry.len
      subst ex ey
      obtain ⟨⟨sl, sm, sq⟩, ho⟩ : ∃ o, ss[j] = o := ⟨_, rfl⟩
      rw [ho] at c0 c1 c2 rx ry
      obtain ⟨q1, q2⟩ := gk_nxt hj hlt
      simp only at c0 c1 c2 rx ry
      obtain ⟨nl, hnl⟩ : ∃ nl, sl.length = nl := ⟨_, rfl⟩
      obtain ⟨ml, hml⟩ : ∃ ml, sm.length = ml := ⟨_, rfl⟩
      rw [hnl] at c0 rx
      rw [hml] at c1 ry
      have hb0 := below_box wr #[.slice x1 nl x2, .slice y1 ml y2, .int .u64 (sq : Int)] 32
      have HB0 : Hid (Below w.heap.size w (wr.alloc (.cells #[.slice x1 nl x2, .slice y1 ml y2, .int .u64 (sq : Int)] 32))) := bsplit HB.out hb0
      have BX := box_new wr (.slice x1 nl x2) (.slice y1 ml y2) (.int .u64 (sq : Int)) 32
      obtain ⟨r, hr⟩ : ∃ r, covB sl sm k = r := ⟨_, rfl⟩
      have hcv := rtcovers_any (wr.alloc (.cells #[.slice x1 nl x2, .slice y1 ml y2, .int .u64 (sq : Int)] 32)) (.slice x1 nl x2) (.slice y1 ml y2) (.slice ka kl kc) sl sm k (sq : Int) r (rx.below hb0 (Nat.le_refl _)) (ry.below hb0 (Nat.le_refl _)) ((HK.out.below HB.out (Nat.le_refl _)).below hb0 (Nat.le_refl _)) hr
      have HX : Hid (covN (ss.take (j + 1)) k seq = if (sq : Int) ≤ seq ∧ r = true then max m sq else m) := by
        show _ = _
        rw [covN_next ss k seq j hlt2, ho, ← HS.out, ← hr]
        rfl
      have BX' := BX
      obtain ⟨z0, z1, z2, _, _, _⟩ := BX'
      clear ho hb0 h3 rx ry hnl hml hr
      by_cases hle : (sq : Int) ≤ seq
      · by_cases hgt : (m : Int) < (sq : Int)
        · have hmx : max m sq = sq := by omega
          rw [hmx] at HX
          go_wp2_with fail
          refine hcv.mono ?_
          rintro e w2 ⟨rfl, hb2⟩
          have HB2 : Hid (Below w.heap.size w w2) := bsplit HB0.out hb2
          clear z0 z1 z2
          obtain ⟨z0, z1, z2, _, _, _⟩ := BX.below hb2 (Nat.le_refl _)
          clear hcv hb2 BX hmx
          cases r
          · go_wp2_with fail
            go_roundg (gk - 1)
            case measure => exact q1
            case rel => exact ⟨j + 1, m, q2, by go_num, rfl, by show _ = _; rw [HX.out, if_neg (by simp)], HB2⟩
          · go_wp2_with fail
            go_roundg (gk - 1)
            case measure => exact q1
            case rel => exact ⟨j + 1, sq, q2, by go_num, rfl, by show _ = _; rw [HX.out, if_pos (by simp [hle])], HB2⟩
        · have hmx : max m sq = m := by omega
          rw [hmx] at HX
          go_wp2_with fail
          refine hcv.mono ?_
          rintro e w2 ⟨rfl, hb2⟩
          have HB2 : Hid (Below w.heap.size w w2) := bsplit HB0.out hb2
          clear z0 z1 z2
          obtain ⟨z0, z1, z2, _, _, _⟩ := BX.below hb2 (Nat.le_refl _)
          clear hcv hb2 BX hmx
          cases r
          all_goals
            go_wp2_with fail
            go_roundg (gk - 1)
            case measure => exact q1
            case rel => exact ⟨j + 1, m, q2, by go_num, rfl, by show _ = _; rw [HX.out, ite_self], HB2⟩
      · go_wp2_with fail
        refine hcv.mono ?_
        rintro e w2 ⟨rfl, hb2⟩
        have HB2 : Hid (Below w.heap.size w w2) := bsplit HB0.out hb2
        clear z0 z1 z2
        obtain ⟨z0, z1, z2, _, _, _⟩ := BX.below hb2 (Nat.le_refl _)
        clear hcv hb2 BX
        cases r
        all_goals
          go_wp2_with fail
          go_roundg (gk - 1)
          case measure => exact q1
          case rel => exact ⟨j + 1, m, q2, by go_num, rfl, by show _ = _; rw [HX.out, if_neg (fun h => by have := h.1; omega)], HB2⟩
    · have hjN : j = N := by omega
      subst hjN
      go_wp2_with fail
      go_wp2
      go_ret
      exact ⟨ret_int (by rw [HS.out, ← HN.out, List.take_length]), HB.out⟩

end Go.Proofs.Ytifdomhmmhepcaa

/- bartizanref09.Same. -/
namespace Go.Proofs.Ytifdomhmmhepcaa
open Go.RowKit
set_option linter.unusedVariables false
set_option linter.unusedSimpArgs false

theorem sameq9 (w : World) (a b : Value) (l l' : List UInt8) (x : Bool) (ha : Rd w a l) (hb : Rd w b l') (hx : (l == l') = x) :
    Calls Try.prog 23 #[a, b] w fun e w' => e = .returned (.bool x) ∧ ∃ n, w' = w.drewN n :=
  (same_b w a b l l' x ha hb hx).mono (fun e w' h => ⟨h.1, 0, h.2⟩)

theorem retB9 {a b : Bool} (h : a = b) : Ending.returned (.bool a) = .returned (.bool b) := by rw [h]

set_option maxHeartbeats 16000000 in
set_option maxRecDepth 20000 in
theorem samesp_any (w : World) (va vb : Value) (os ps : List SpB) (r : Bool) (ha : RdS w va os) (hb : RdS w vb ps) (hr : os = ps ↔ r = true) :
    Calls Try.prog 15 #[va, vb] w fun e w' => e = .returned (.bool r) ∧ ∃ n, w' = w.drewN n := by
  obtain ⟨ao, ac, rfl, h1, h2, h3⟩ := ha
  obtain ⟨bo, bc, rfl, g1, g2, g3⟩ := hb
  unfold maxLen at h2 g2
  have H3 : Hid _ := h3
  have G3 : Hid _ := g3
  have HR : Hid _ := hr
  clear h3 g3 hr
  by_cases hl : os.length = ps.length
  · have HL : Hid _ := hl
    obtain ⟨n, hn⟩ : ∃ n, os.length = n := ⟨_, rfl⟩
    rw [hn] at hl h1 ⊢
    rw [← hl] at g1 ⊢
    have HN : Hid _ := hn
    clear hn hl
    go_enter Try.func15, Try.ntmps15
    go_wp2_with fail
    go_loopg [13] n (fun gk iv wr => ∃ j m : Nat, gk + j = n ∧ iv = .int .i64 (j : Int) ∧ wr = w.drewN m ∧ os.take j = ps.take j)
    case atStart => exact ⟨0, 0, rfl, rfl, rfl, by simp⟩
    case round =>
      obtain ⟨j, m, hj, rfl, hwr, ht⟩ := hrel
      have HW : Hid (∀ n, wr.drewN n = w.drewN (m + n)) := by intro n; rw [hwr]; exact World.drewN_drewN _ _ _
      have HW0 : Hid _ := hwr
      have HT : Hid _ := ht
      clear ht
      by_cases hlt : j < n
      · have hlo : j < os.length := by rw [HN.out]; exact hlt
        have hlp : j < ps.length := by rw [← HL.out, HN.out]; exact hlt
        obtain ⟨b, off, rfl, xv, yv, c0, c1, c2, rx, ry⟩ := H3.out j hlo
        obtain ⟨b', off', rfl, xv', yv', d0, d1, d2, rx', ry'⟩ := G3.out j hlp
        obtain ⟨⟨ol, oo, osq⟩, ho⟩ : ∃ o, os[j] = o := ⟨_, rfl⟩
        obtain ⟨⟨pl, po, psq⟩, hp⟩ : ∃ o, ps[j] = o := ⟨_, rfl⟩
        rw [ho] at c2 rx ry
        rw [hp] at d2 rx' ry'
        simp only at c2 rx ry d2 rx' ry'
        have e0 : ∀ p, w.cell? p = wr.cell? p := by intro p; rw [hwr]; rfl
        have e1 : ∀ v l, Rd w v l → Rd wr v l := by rw [hwr]; exact fun _ _ h => h
        rw [e0] at c0 c1 c2 d0 d1 d2
        replace rx := e1 _ _ rx
        replace rx' := e1 _ _ rx'
        replace ry := e1 _ _ ry
        replace ry' := e1 _ _ ry'
        clear e0 e1
        clear hwr
        have HO : Hid (os[j] = (ol, oo, osq)) := ho
        have HP : Hid (ps[j] = (pl, po, psq)) := hp
        clear ho hp
        obtain ⟨q, hq⟩ : ∃ q, (ol == pl) = q := ⟨_, rfl⟩
        have HQ : Hid _ := hq
        obtain ⟨q2, hq2⟩ : ∃ q2, (oo == po) = q2 := ⟨_, rfl⟩
        have HQ2 : Hid _ := hq2
        clear hq hq2
        cases q
        · have hno : Hid (r = false) := by
            show _ = _
            rw [← Bool.not_eq_true]
            intro hrt
            have heq := HR.out.2 hrt
            subst heq
            have e := HO.out.symm.trans HP.out
            simp only [Prod.mk.injEq] at e
            have := HQ.out
            rw [e.1] at this
            simp at this
          go_wp2_with fail
          go_quiet (first
            | (go_at_call 23; refine Calls.quiet_of (sameq9 _ _ _ ol pl false (by exact rx) (by exact rx') HQ.out)))
          go_wp2
          go_ret
          exact ⟨retB9 (by rw [hno.out]), _, HW.out _⟩
        · cases q2
          · have hno : Hid (r = false) := by
              show _ = _
              rw [← Bool.not_eq_true]
              intro hrt
              have heq := HR.out.2 hrt
              subst heq
              have e := HO.out.symm.trans HP.out
              simp only [Prod.mk.injEq] at e
              have := HQ2.out
              rw [e.2.1] at this
              simp at this
            go_wp2_with fail
            go_quiet (first
              | (go_at_call 23; refine Calls.quiet_of (sameq9 _ _ _ ol pl true (by exact rx) (by exact rx') HQ.out))
              | (go_at_call 23; refine Calls.quiet_of (sameq9 _ _ _ oo po false (by exact ry) (by exact ry') HQ2.out)))
            go_wp2
            go_ret
            exact ⟨retB9 (by rw [hno.out]), _, HW.out _⟩
          · by_cases hs : osq = psq
            · subst hs
              have hyes : Hid (os.take (j + 1) = ps.take (j + 1)) := by
                show _ = _
                rw [List.take_succ_eq_append_getElem hlo, List.take_succ_eq_append_getElem hlp, HT.out, HO.out, HP.out, eq_of_beq HQ.out, eq_of_beq HQ2.out]
              go_wp2_with fail
              go_quiet (first
                | (go_at_call 23; refine Calls.quiet_of (sameq9 _ _ _ ol pl true (by exact rx) (by exact rx') HQ.out))
                | (go_at_call 23; refine Calls.quiet_of (sameq9 _ _ _ oo po true (by exact ry) (by exact ry') HQ2.out)))
              go_wp2
              go_roundg (gk - 1)
              case measure => omega
              case rel => exact ⟨j + 1, _, by omega, by go_num, HW.out _, hyes.out⟩
            · have hsI : ¬ (osq : Int) = (psq : Int) := by omega
              have hsq : decide ((osq : Int) = (psq : Int)) = false := decide_eq_false hsI
              have hsq2 : ((osq : Int) != (psq : Int)) = true := by simp [hsI]
              have hno : Hid (r = false) := by
                show _ = _
                rw [← Bool.not_eq_true]
                intro hrt
                have heq := HR.out.2 hrt
                subst heq
                have e := HO.out.symm.trans HP.out
                simp only [Prod.mk.injEq] at e
                exact hs e.2.2
              go_wp2_with fail
              go_quiet (first
                | (go_at_call 23; refine Calls.quiet_of (sameq9 _ _ _ ol pl true (by exact rx) (by exact rx') HQ.out))
                | (go_at_call 23; refine Calls.quiet_of (sameq9 _ _ _ oo po true (by exact ry) (by exact ry') HQ2.out)))
              go_wp2
              go_ret
              exact ⟨retB9 (by rw [hno.out]), _, HW.out _⟩
      · obtain rfl : j = n := by omega
        have hyes : Hid (r = true) := by
          show _ = _
          apply HR.out.1
          have e := HT.out
          rw [List.take_of_length_le (by rw [HN.out]; omega), List.take_of_length_le (by rw [← HL.out, HN.out]; omega)] at e
          exact e
        clear hwr
        go_wp2
        go_ret
        exact ⟨retB9 (by rw [hyes.out]), _, HW0.out⟩
  · have hno : Hid (r = false) := by
      show _ = _
      rw [← Bool.not_eq_true]
      intro hrt
      exact hl (by rw [HR.out.2 hrt])
    obtain ⟨n, hn⟩ : ∃ n, os.length = n := ⟨_, rfl⟩
    obtain ⟨m, hm⟩ : ∃ n, ps.length = n := ⟨_, rfl⟩
    rw [hn, hm] at hl ⊢
    have hI : ¬ (n : Int) = (m : Int) := by omega
    have hbq : ((n : Int) == (m : Int)) = false := by simpa using hI
    clear hn hm hl h1 h2 g1 g2
    go_enter Try.func15, Try.ntmps15
    go_wp2
    go_ret
    exact ⟨retB9 (by rw [hno.out]), 0, rfl⟩

end Go.Proofs.Ytifdomhmmhepcaa

/- bartizanref09.Few and Right. -/
namespace Go.Proofs.Ytifdomhmmhepcaa
set_option maxRecDepth 20000
open Go.RowKit
set_option linter.unusedVariables false
set_option linter.unusedSimpArgs false

def cutS (e : SpB) : SpB := (e.1.take 80, e.2.1.take 80, e.2.2)
def fewS (n : Nat) (es : List SpB) : List SpB := (es.take n).map cutS

theorem fewS_take {n j : Nat} {es : List SpB} (h : j < es.length) (hn : j < n) : fewS n (es.take (j + 1)) = fewS n (es.take j) ++ [cutS es[j]] := by
  unfold fewS
  rw [List.take_take, List.take_take, Nat.min_eq_right (by omega), Nat.min_eq_right (by omega), List.take_succ_eq_append_getElem h, List.map_append]
  rfl

theorem fewS_stay {n j : Nat} {es : List SpB} (hn : ¬ j < n) : fewS n (es.take (j + 1)) = fewS n (es.take j) := by
  unfold fewS
  rw [List.take_take, List.take_take, Nat.min_eq_left (by omega), Nat.min_eq_left (by omega)]

theorem fewS_len (n : Nat) (es : List SpB) : (fewS n es).length ≤ n := by unfold fewS; rw [List.length_map, List.length_take]; omega

theorem fewS_lens (n : Nat) (es : List SpB) : ∀ s ∈ fewS n es, s.1.length ≤ 80 ∧ s.2.1.length ≤ 80 := fun s hs => by
  obtain ⟨e, _, rfl⟩ := List.mem_map.1 hs
  unfold cutS
  simp only [List.length_take]
  omega

set_option maxHeartbeats 4000000 in
theorem fewsp_any (w : World) (v : Value) (es : List SpB) (n : Nat) (hv : ArgS w v es) (hn : n ≤ 1000) :
    Calls Try.prog 9 #[v, .int .i64 (n : Int)] w fun e w' => ∃ x, e = .returned x ∧ AllS w.heap.size w' x (fewS n es) ∧ Below w.heap.size w w' := by
  obtain ⟨i0, hi, hz0, hz1, hz2⟩ := info_parts infoSp
  have HV : Hid (ArgS w v es) := hv
  obtain ⟨ao, cap, rfl, h1, h2, _⟩ := hv
  unfold maxLen at h2
  obtain ⟨N, hN⟩ : ∃ N, es.length = N := ⟨_, rfl⟩
  rw [hN] at h1 HV ⊢
  have HN : Hid (es.length = N) := hN
  clear hN
  go_enter Try.func9, Try.ntmps9
  go_wp2_with fail
  go_loopg [5, 10] N (fun gk pv iv wr => ∃ j d f : Nat, ∃ aa : Option Addr, gk + j = N ∧ iv = .int .i64 (j : Int) ∧ pv = .slice aa d f ∧ Hid ((fewS n (es.take j)).length = d) ∧ Hid (AllS w.heap.size wr pv (fewS n (es.take j))) ∧ Hid (Below w.heap.size w wr))
  case atStart => exact ⟨0, 0, 0, none, by omega, rfl, rfl, by show _ = _; unfold fewS; simp, by show AllS _ _ _ _; unfold fewS; simp only [List.take_zero, List.take_nil, List.map_nil]; exact AllS.nil _ _, Below.refl _ _⟩
  case round =>
    obtain ⟨j, d, f, aa, hj, rfl, rfl, HD, HA, HB⟩ := hrel
    by_cases hlt : j < N
    · have hlt2 : j < es.length := by rw [HN.out]; exact hlt
      obtain ⟨_, _, e, _, _, h3⟩ := argS_below HV.out HB.out (Nat.le_refl _)
      rw [HN.out] at e
      cases e
      obtain ⟨b, off, rfl, xv, yv, c0, c1, c2, rx, ry⟩ := h3 j hlt2
      obtain ⟨x1, x2, ex⟩ := Arg.shape rx
      obtain ⟨y1, y2, ey⟩ := Arg.shape ry
      subst ex ey
      obtain ⟨q1, q2⟩ := gk_nxt hj hlt
      obtain ⟨⟨sl, sm, sq⟩, ho⟩ : ∃ o, es[j] = o := ⟨_, rfl⟩
      rw [ho] at c0 c1 c2 rx ry
      simp only at c0 c1 c2 rx ry
      obtain ⟨nl, hnl⟩ : ∃ nl, sl.length = nl := ⟨_, rfl⟩
      obtain ⟨ml, hml⟩ : ∃ ml, sm.length = ml := ⟨_, rfl⟩
      rw [hnl] at c0 rx
      rw [hml] at c1 ry
      have hb0 := below_box4 wr (.cells #[.slice x1 nl x2, .slice y1 ml y2, .int .u64 (sq : Int)] 32)
      have bx := (box_new wr (.slice x1 nl x2) (.slice y1 ml y2) (.int .u64 (sq : Int)) 32).drew
      have HBx : Hid (Box (wr.alloc (.cells #[.slice x1 nl x2, .slice y1 ml y2, .int .u64 (sq : Int)] 32)) wr.heap.size (.slice x1 nl x2) (.slice y1 ml y2) (.int .u64 (sq : Int))) := box_new wr _ _ _ _
      by_cases hjn : j < n
      · have hjI : (j : Int) < (n : Int) := by omega
        obtain ⟨ck, HCK⟩ : ∃ ck, Hid (sl.take 80 = ck) := ⟨_, rfl⟩
        obtain ⟨co, HCO⟩ : ∃ co, Hid (sm.take 80 = co) := ⟨_, rfl⟩
        have HR : Hid (fewS n (es.take (j + 1)) = fewS n (es.take j) ++ [(ck, co, sq)]) := by show _ = _; rw [fewS_take hlt2 hjn, ho]; unfold cutS; rw [← HCK.out, ← HCO.out]
        have rx0 := arg_drew (rx.below hb0 (Nat.le_refl _))
        have ry0 := arg_drew (ry.below hb0 (Nat.le_refl _))
        have HA0 : Hid (AllS w.heap.size (wr.alloc (.cells #[.slice x1 nl x2, .slice y1 ml y2, .int .u64 (sq : Int)] 32)).drew (.slice aa d f) (fewS n (es.take j))) := HA.out.below hb0.drew
        have HB0 : Hid (Below w.heap.size w (wr.alloc (.cells #[.slice x1 nl x2, .slice y1 ml y2, .int .u64 (sq : Int)] 32)).drew) := (bsplit HB.out hb0).drew
        have HNE : Hid (some wr.heap.size ≠ (Value.slice aa d f).ownBlock) := fun e => by have := (HA.out.lt _ e.symm).2; omega
        have HDB : Hid (d ≤ 1000) := by show d ≤ 1000; have h9 := fewS_len n (es.take j); rw [HD.out] at h9; omega
        clear ho hb0 h3 rx ry hnl hml
        go_wp2_with fail
        go_region_held3 (fun w' => w'.cell? ⟨wr.heap.size, 0, none⟩ = some (.slice x1 nl x2) ∧ w'.cell? ⟨wr.heap.size, 1, none⟩ = some (.slice y1 ml y2) ∧ w'.cell? ⟨wr.heap.size, 2, none⟩ = some (.int .u64 (sq : Int)))
          (first | with_reducible exact ⟨b4.c0, b4.c1, b4.c2⟩ | with_reducible exact ⟨be.c0, be.c1, be.c2⟩ | with_reducible exact ⟨by2.c0, by2.c1, by2.c2⟩ | with_reducible exact ⟨bx2.c0, bx2.c1, bx2.c2⟩ | with_reducible exact ⟨bx.c0, bx.c1, bx.c2⟩)
          (first
            | (go_at_call 20; refine (cut_any _ _ sl 80 rx0 (by omega)).mono ?_; rintro e wx ⟨x, rfl, ox, hbx⟩; rw [HCK.out] at ox; obtain ⟨gx, kx, hx⟩ := ox.shape; subst hx; have bx2 := bx.below hbx (Nat.le_refl _); clear rx0)
            | (go_at_call 20; refine (cut_any _ _ sm 80 (ry0.below hbx (Nat.le_refl _)) (by omega)).mono ?_; rintro e wy ⟨y, rfl, oy, hby⟩; rw [HCO.out] at oy; obtain ⟨gy, ky, hy⟩ := oy.shape; subst hy; have by2 := bx2.below hby (Nat.le_refl _); have be := by2.alloc (.cells #[.slice (some ⟨gx, 0, none⟩) ck.length kx, .slice (some ⟨gy, 0, none⟩) co.length ky, .int .u64 (sq : Int)] 32))
            | (have hbe := below_box4 wy (.cells #[.slice (some ⟨gx, 0, none⟩) ck.length kx, .slice (some ⟨gy, 0, none⟩) co.length ky, .int .u64 (sq : Int)] 32)
               have hA9 := ((HA0.out.below hbx).below hby).below hbe
               have hB9 := bsplit (bsplit (bsplit HB0.out hbx) hby) hbe
               have oxe := (OwnN.mono (.inr ((ox.below hby (Nat.le_refl _)).below hbe (Nat.le_refl _))) (by have := HB0.out.size; omega) : OwnN w.heap.size _ _ ck)
               have oye := (OwnN.mono (.inr (oy.below hbe (Nat.le_refl _))) (by have := HB0.out.size; have := hbx.size; omega) : OwnN w.heap.size _ _ co)
               obtain ⟨cs, hrow, hel⟩ := hA9
               rw [HD.out] at hrow
               have hd9 := HDB.out
               refine step_append_lies _ rfl (.tmp 18) (.tmp 28) 22 rfl w.heap.size 32 i0 (.agg #[.slice none 0 0, .slice none 0 0, .int .u64 0]) 3 56 Try.underlying22 hi hz0 hz1 hz2 rfl (by decide) (.slice aa d f) d cs rfl hrow ⟨wy.heap.size, 0, none⟩ 1 1 [.slice (some ⟨gx, 0, none⟩) ck.length kx, .slice (some ⟨gy, 0, none⟩) co.length ky, .int .u64 (sq : Int)] rfl rfl (laidT3 _ _ _ _ _) (oneS _ _ _ _ _ _ _) (by decide) (by simp only [maxLen]; omega) (by omega) hB9.size _ rfl ?_
               intro g4 c4 w4 hown hgrow hat hlt4
               have b4 := be.grown hgrow HNE.out
               have HPU : Hid (AllS w.heap.size w4 (.slice (some ⟨g4, 0, none⟩) (d + 1) c4) (fewS n (es.take j) ++ [(ck, co, sq)])) := AllS.push (ck, co, sq) HD.out hrow hel oxe oye hown hgrow
               have HB4 : Hid (Below w.heap.size w w4) := hB9.grown hgrow hB9.size (fun k' e => (hrow.lt k' e).1)))
        go_wp2_with fail
        go_roundg (gk - 1)
        case measure => exact q1
        case rel => exact ⟨j + 1, d + 1, c4, _, q2, by go_num, rfl, by show _ = _; rw [HR.out, List.length_append, HD.out]; rfl, by show AllS _ _ _ _; rw [HR.out]; exact HPU.out, HB4⟩
      · have hjI : ¬ (j : Int) < (n : Int) := by omega
        have HST : Hid (fewS n (es.take (j + 1)) = fewS n (es.take j)) := fewS_stay hjn
        have HA0 : Hid (AllS w.heap.size (wr.alloc (.cells #[.slice x1 nl x2, .slice y1 ml y2, .int .u64 (sq : Int)] 32)) (.slice aa d f) (fewS n (es.take j))) := HA.out.below hb0
        have HB0 : Hid (Below w.heap.size w (wr.alloc (.cells #[.slice x1 nl x2, .slice y1 ml y2, .int .u64 (sq : Int)] 32))) := bsplit HB.out hb0
        clear ho hb0 h3 rx ry hnl hml bx
        go_wp2_with fail
        go_roundg (gk - 1)
        case measure => exact q1
        case rel => exact ⟨j + 1, d, f, aa, q2, by go_num, rfl, by show _ = _; rw [HST.out]; exact HD.out, by show AllS _ _ _ _; rw [HST.out]; exact HA0.out, HB0⟩
    · have hjN : j = N := by omega
      subst hjN
      have HT : Hid (es.take j = es) := by show _ = _; rw [← HN.out, List.take_length]
      go_wp2_with fail
      go_wp2
      go_ret
      refine ⟨_, rfl, ?_, HB.out⟩
      have h9 := HA.out
      rw [HT.out] at h9
      exact h9

end Go.Proofs.Ytifdomhmmhepcaa

/- []byte(s): a row of the call's own that reads as the string's bytes. -/
namespace Go.Proofs.Ytifdomhmmhepcaa
open Go.RowKit

theorem conv_str (w : World) (t : ByteArray) (l : List UInt8) (hl : t.data.toList = l) (hm : l.length ≤ 100) :
    ∃ cap w', (convert 9 29 (.string t)).run Try.prog w = .ok (.slice (some ⟨w.heap.size, 0, none⟩) l.length cap) w' ∧ Rd w' (.slice (some ⟨w.heap.size, 0, none⟩) l.length cap) l ∧ Below w.heap.size w w' ∧ w'.heap.size = w.heap.size + 1 := by
  subst hl
  have hsz : t.size = t.data.toList.length := by rw [Array.length_toList]; rfl
  have hcap := grownCap_ge w t.size 0 5
  have hcap2 := grownCap_le_maxLen w t.size 0 5 (by rw [hsz]; unfold maxLen; omega)
  refine ⟨grownCap w t.size 0 5, Lib.bytesWorld w 5 t, ?_, .inr ⟨w.heap.size, 0, grownCap w t.size 0 5, rfl, by rw [← hsz]; exact hcap, hcap2, fun j u hu => ?_⟩, ?_, Lib.bytesWorld_size w 5 t⟩
  · have := Lib.run_convert_string_bytes (P := Try.prog) w 9 29 5 t Try.underlying9 Try.underlying29 Try.underlying5
    rw [this, hsz]
  · have hj : j < t.data.toList.length := by have := (List.getElem?_eq_some_iff.1 hu).1; rwa [bv_length] at this
    rw [Nat.zero_add, Lib.bytesWorld_cell w 5 t j (by rw [hsz]; exact hj), ← hu, bv_get _ j hj]
    have hj2 : j < t.data.size := by rwa [Array.length_toList] at hj
    have e : t.data[j]? = some t.data[j] := Array.getElem?_eq_getElem hj2
    simp [List.getD]
    rw [e]
    rfl
  · refine ⟨?_, ?_, ?_, ?_, fun k hk => Lib.bytesWorld_at_old w 5 t k hk⟩
    all_goals first | rfl | (rw [Lib.bytesWorld_size]; omega)

end Go.Proofs.Ytifdomhmmhepcaa

/- bartizanlaw09.span, awake. -/
namespace Go.Proofs.Ytifdomhmmhepcaa
set_option maxRecDepth 100000
open Go.RowKit
set_option linter.unusedVariables false
set_option linter.unusedSimpArgs false

set_option maxHeartbeats 1000000 in
theorem span9_any (w : World) (t u : ByteArray) (s : Nat) (l m : List UInt8) (hl : t.data.toList = l) (hl2 : l.length ≤ 100) (hm : u.data.toList = m) (hm2 : m.length ≤ 100) :
    Calls Try.prog 27 #[.string t, .string u, .int .u64 (s : Int)] w fun e w' => ∃ x y, e = .returned (spV x y (s : Int)) ∧ Rd w' x l ∧ Rd w' y m ∧ Below w.heap.size w w' := by
  have hb0 := below_box4 w (.cells #[.slice none 0 0, .slice none 0 0, .int .u64 0] 32)
  have br := box_new w (.slice none 0 0) (.slice none 0 0) (.int .u64 0) 32
  obtain ⟨cap, w1, hc, hr, hb, hs⟩ := conv_str (w.alloc (.cells #[.slice none 0 0, .slice none 0 0, .int .u64 0] 32)) t l hl hl2
  obtain ⟨cap2, w2, hc2, hr2, hb2, hs2⟩ := conv_str w1 u m hm hm2
  obtain ⟨c0, c1, c2, f0, f1, f2⟩ := (br.below hb (Nat.le_refl _)).below hb2 (Nat.le_refl _)
  have e1 : (w.alloc (.cells #[.slice none 0 0, .slice none 0 0, .int .u64 0] 32)).heap.size = w.heap.size + 1 := by simp
  have HB : Hid (Below w.heap.size w w2) := bsplit (bsplit hb0 hb) hb2
  rw [e1] at hc hr hs
  rw [hs] at hc2 hr2
  have HR : Hid (Rd w2 (.slice (some ⟨w.heap.size + 1, 0, none⟩) l.length cap) l ∧ Rd w2 (.slice (some ⟨w.heap.size + 1 + 1, 0, none⟩) m.length cap2) m) := ⟨hr.below hb2 (Nat.le_refl _), hr2⟩
  clear hb0 br hb hr hs hl hb2 hr2 hs2 hm e1
  go_enter Try.func27, Try.ntmps27
  go_wp2
  have hst : ∀ (g n c : Nat) (b : List UInt8), g ≠ w.heap.size → ∀ u0 u1 u2, Rd w2 (.slice (some ⟨g, 0, none⟩) n c) b → Rd (((w2.setCell ⟨w.heap.size, 0, none⟩ u0).setCell ⟨w.heap.size, 1, none⟩ u1).setCell ⟨w.heap.size, 2, none⟩ u2) (.slice (some ⟨g, 0, none⟩) n c) b := fun g n c b hg u0 u1 u2 h => by
    have go : ∀ (W : World) (i : Nat) (u : Value), Rd W (.slice (some ⟨g, 0, none⟩) n c) b → Rd (W.setCell ⟨w.heap.size, i, none⟩ u) (.slice (some ⟨g, 0, none⟩) n c) b := fun W i u h => by
      rcases h with ⟨h, _⟩ | ⟨b1, off, cc, e, h1, h2, h3⟩
      · simp at h
      · cases e
        exact .inr ⟨_, _, _, rfl, h1, h2, fun j v hv => (cell_other _ ⟨w.heap.size, i, none⟩ ⟨g, 0 + j, none⟩ _ hg).trans (h3 j v hv)⟩
    exact go _ _ _ (go _ _ _ (go _ _ _ h))
  exact bodyPost_ret (v := spV (.slice (some ⟨w.heap.size + 1, 0, none⟩) l.length cap) (.slice (some ⟨w.heap.size + 1 + 1, 0, none⟩) m.length cap2) (s : Int)) (by simp [results, Try.results27, go_sem, c0, c1, c2]) rfl ⟨_, _, rfl, hst _ _ _ _ (by omega) _ _ _ HR.out.1, hst _ _ _ _ (by omega) _ _ _ HR.out.2, below_store3 HB.out (Nat.le_refl _) _ _ _⟩

theorem rd9one (w : World) (b : UInt8) (i : Int) (hi : (b.toNat : Int) = i) : Rd (w.alloc (.cells #[.int .u8 i] 5 (1, 2))) (.slice (some ⟨w.heap.size, 0, none⟩) 1 1) [b] := by
  refine .inr ⟨w.heap.size, 0, 1, rfl, by simp, by simp [maxLen], fun j u hu => ?_⟩
  rw [World.cell?_alloc_mark]
  subst hi
  have hj : j = 0 := by have := (List.getElem?_eq_some_iff.1 hu).1; simp [bv] at this; omega
  subst hj
  simpa [bv] using hu

theorem conv9one (w : World) (i : Int) (g : Nat) (hg : g = w.heap.size) : (convert 29 29 (.slice (some ⟨g, 0, none⟩) 1 1)).run Try.prog (w.alloc (.cells #[.int .u8 i] 5)) = .ok (.slice (some ⟨g, 0, none⟩) 1 1) (w.alloc (.cells #[.int .u8 i] 5 (1, 2))) :=
  Joins.run_convert_bytes_const_at w 29 5 _ 1 1 g hg Try.underlying29 Try.underlying5

/-- spans as they are typed -/
theorem rdS_lit (w : World) (ts : List SpC) (h : ∀ t ∈ ts, GdS w t) (hn : ts.length ≤ 1000) : RdS (w.alloc (.cells (flatS ts).toArray 32)) (.slice (some ⟨w.heap.size, 0, none⟩) ts.length ts.length) (ts.map (·.e)) := by
  have hb := below_box4 w (.cells (flatS ts).toArray 32)
  have hr : RowT w w.heap.size (w.alloc (.cells (flatS ts).toArray 32)) (.slice (some ⟨w.heap.size, 0, none⟩) ts.length ts.length) ts := by
    refine ⟨?_, h⟩
    have h9 := World.ownsRow_lit (base := w.heap.size) (e := 32) (size := 3) w (flatS ts).toArray ts.length (Nat.le_refl _) (by unfold maxLen; omega) (by simp [flatS_len])
    simpa using h9
  exact hr.rd hb

def exA : List SpB := [([97], [99], 5), ([98], [100], 7)]
theorem exA1 : rightS exA = exA := by decide +kernel
theorem exA2 : fragN exA = [([97], [98], 5), ([98], [99], 7), ([98], [99], 5), ([99], [100], 7)] := by decide +kernel
theorem exA3 : covN exA [98] 9 = 7 := by decide +kernel
theorem exA4 : covN exA [98] 6 = 5 := by decide +kernel
theorem exA5 : covN exA [99] 6 = 0 := by decide +kernel

set_option maxHeartbeats 4000000 in
theorem tawake_any (w : World) : Calls Try.prog 8 #[] w fun e w' => e = .returned (.bool true) ∧ Below w.heap.size w w' := by
  go_enter Try.func8, Try.ntmps8
  go_wp2_with fail
  refine (span9_any w _ _ 5 [97] [99] rfl (by simp) rfl (by simp)).mono ?_
  rintro e w1 ⟨x1, y1, rfl, rx1, ry1, hb1⟩
  go_wp2_with fail
  refine (span9_any w1 _ _ 7 [98] [100] rfl (by simp) rfl (by simp)).mono ?_
  rintro e w2 ⟨x2, y2, rfl, rx2, ry2, hb2⟩
  have HB2 : Hid (Below w.heap.size w w2) := bsplit hb1 hb2
  have hlit := rdS_lit w2 [⟨x1, y1, ([97], [99], 5)⟩, ⟨x2, y2, ([98], [100], 7)⟩] (by
    intro t ht
    simp at ht
    rcases ht with rfl | rfl
    · exact ⟨rx1.below hb2 (Nat.le_refl _), ry1.below hb2 (Nat.le_refl _)⟩
    · exact ⟨rx2, ry2⟩) (by simp)
  obtain ⟨xa1, xc1, rfl⟩ := rx1.len
  obtain ⟨ya1, yc1, rfl⟩ := ry1.len
  obtain ⟨xa2, xc2, rfl⟩ := rx2.len
  obtain ⟨ya2, yc2, rfl⟩ := ry2.len
  have hnw := tnew_any _ _ _ hlit (by simp)
  have HB3 : Hid (Below w.heap.size w (w2.alloc (.cells (flatS [⟨.slice xa1 [97].length xc1, .slice ya1 [99].length yc1, ([97], [99], 5)⟩, ⟨.slice xa2 [98].length xc2, .slice ya2 [100].length yc2, ([98], [100], 7)⟩]).toArray 32))) := bsplit HB2.out (below_box4 w2 _)
  simp only [flatS, celS, List.flatMap_cons, List.flatMap_nil, List.append_nil, List.cons_append, List.nil_append, List.length_cons, List.length_nil, Nat.zero_add, List.map_cons, List.map_nil, Nat.reduceAdd, Int.cast_ofNat_Int] at hnw HB3
  clear hlit rx1 ry1 rx2 ry2 hb1 hb2
  go_wp2_with fail
  refine hnw.mono ?_
  rintro e w4 ⟨rfl, hs4, hb4⟩
  have HB4 : Hid (Below w.heap.size w w4) := bsplit HB3.out hb4
  obtain ⟨tb, htb⟩ : ∃ z, (w2.alloc (.cells #[.slice xa1 1 xc1, .slice ya1 1 yc1, .int .u64 5, .slice xa2 1 xc2, .slice ya2 1 yc2, .int .u64 7] 32)).heap.size = z := ⟨_, rfl⟩
  rw [htb] at hs4 ⊢
  have HS4 : Hid (SetO tb w4 tb exA) := by
    change SetO tb w4 tb (rightS exA) at hs4
    rw [exA1] at hs4
    exact hs4
  clear hnw hs4 hb4 htb HB3 HB2
  have k1 := conv9one w4 98 w4.heap.size rfl
  have g1 := below_box4 w4 (.cells #[.int .u8 98] 5 (1, 2))
  have HR1 : Hid (Rd (w4.alloc (.cells #[.int .u8 98] 5 (1, 2))) (.slice (some ⟨w4.heap.size, 0, none⟩) 1 1) [98]) := rd9one w4 98 98 rfl
  have HB5 : Hid (Below w.heap.size w (w4.alloc (.cells #[.int .u8 98] 5 (1, 2)))) := bsplit HB4.out g1
  have HS5 : Hid (SetO tb (w4.alloc (.cells #[.int .u8 98] 5 (1, 2))) tb exA) := HS4.out.below g1
  have hc1 := tcover_any (w4.alloc (.cells #[.int .u8 98] 5 (1, 2))) tb exA (.slice (some ⟨w4.heap.size, 0, none⟩) 1 1) [98] 9 HS5.out.at HR1.out
  rw [exA3] at hc1
  clear g1
  go_wp2_with fail
  refine hc1.mono ?_
  rintro e w5 ⟨rfl, hb5⟩
  have HB6 : Hid (Below w.heap.size w w5) := bsplit HB5.out hb5
  have HS6 : Hid (SetO tb w5 tb exA) := HS5.out.below hb5
  have HR6 : Hid (Rd w5 (.slice (some ⟨w4.heap.size, 0, none⟩) 1 1) [98]) := HR1.out.below hb5 (Nat.le_refl _)
  have hc2 := tcover_any w5 tb exA (.slice (some ⟨w4.heap.size, 0, none⟩) 1 1) [98] 6 HS6.out.at HR6.out
  rw [exA4] at hc2
  clear hc1 hb5 k1
  go_wp2_with fail
  refine hc2.mono ?_
  rintro e w6 ⟨rfl, hb6⟩
  have HB7 : Hid (Below w.heap.size w w6) := bsplit HB6.out hb6
  have HS7 : Hid (SetO tb w6 tb exA) := HS6.out.below hb6
  have k1 := conv9one w6 99 w6.heap.size rfl
  have g1 := below_box4 w6 (.cells #[.int .u8 99] 5 (1, 2))
  have HR7 : Hid (Rd (w6.alloc (.cells #[.int .u8 99] 5 (1, 2))) (.slice (some ⟨w6.heap.size, 0, none⟩) 1 1) [99]) := rd9one w6 99 99 rfl
  have HB8 : Hid (Below w.heap.size w (w6.alloc (.cells #[.int .u8 99] 5 (1, 2)))) := bsplit HB7.out g1
  have HS8 : Hid (SetO tb (w6.alloc (.cells #[.int .u8 99] 5 (1, 2))) tb exA) := HS7.out.below g1
  have hc3 := tcover_any (w6.alloc (.cells #[.int .u8 99] 5 (1, 2))) tb exA (.slice (some ⟨w6.heap.size, 0, none⟩) 1 1) [99] 6 HS8.out.at HR7.out
  rw [exA5] at hc3
  clear hc2 hb6 g1
  go_wp2_with fail
  refine hc3.mono ?_
  rintro e w7 ⟨rfl, hb7⟩
  have HB9 : Hid (Below w.heap.size w w7) := bsplit HB8.out hb7
  have HS9 : Hid (SetO tb w7 tb exA) := HS8.out.below hb7
  obtain ⟨v9, hv9, hr9⟩ := HS9.out.at
  have hfr := tfrag_any w7 tb v9 exA hv9 hr9 (by rw [← exA1]; exact right_up exA) (by decide) (by rw [← exA1]; exact right_lens exA)
  clear hc3 hb7 k1 hv9 hr9
  go_wp2_with fail
  refine hfr.mono ?_
  rintro e w8 ⟨fv, rfl, hrf, hb8⟩
  rw [exA2] at hrf
  have HB10 : Hid (Below w.heap.size w w8) := bsplit HB9.out hb8
  have HRF : Hid (RdS w8 fv _) := hrf
  obtain ⟨fa, fc, efv⟩ := hrf.shape
  subst efv
  clear hfr hb8 hrf
  go_wp2_with fail
  refine (span9_any w8 _ _ 5 [97] [98] rfl (by simp) rfl (by simp)).mono ?_
  rintro e wa ⟨x1, y1, rfl, rx1, ry1, hb1⟩
  go_wp2_with fail
  refine (span9_any wa _ _ 7 [98] [99] rfl (by simp) rfl (by simp)).mono ?_
  rintro e wb ⟨x2, y2, rfl, rx2, ry2, hb2⟩
  go_wp2_with fail
  refine (span9_any wb _ _ 5 [98] [99] rfl (by simp) rfl (by simp)).mono ?_
  rintro e wc ⟨x3, y3, rfl, rx3, ry3, hb3⟩
  go_wp2_with fail
  refine (span9_any wc _ _ 7 [99] [100] rfl (by simp) rfl (by simp)).mono ?_
  rintro e wd ⟨x4, y4, rfl, rx4, ry4, hb4⟩
  have HBD : Hid (Below w.heap.size w wd) := bsplit (bsplit (bsplit (bsplit HB10.out hb1) hb2) hb3) hb4
  have HRD : Hid (RdS wd (.slice fa _ fc) _) := rdS_below (rdS_below (rdS_below (rdS_below HRF.out hb1 (Nat.le_refl _)) hb2 (Nat.le_refl _)) hb3 (Nat.le_refl _)) hb4 (Nat.le_refl _)
  have hlit := rdS_lit wd [⟨x1, y1, ([97], [98], 5)⟩, ⟨x2, y2, ([98], [99], 7)⟩, ⟨x3, y3, ([98], [99], 5)⟩, ⟨x4, y4, ([99], [100], 7)⟩] (by
    intro t ht
    simp at ht
    rcases ht with rfl | rfl | rfl | rfl
    · exact ⟨((rx1.below hb2 (Nat.le_refl _)).below hb3 (Nat.le_refl _)).below hb4 (Nat.le_refl _), ((ry1.below hb2 (Nat.le_refl _)).below hb3 (Nat.le_refl _)).below hb4 (Nat.le_refl _)⟩
    · exact ⟨(rx2.below hb3 (Nat.le_refl _)).below hb4 (Nat.le_refl _), (ry2.below hb3 (Nat.le_refl _)).below hb4 (Nat.le_refl _)⟩
    · exact ⟨rx3.below hb4 (Nat.le_refl _), ry3.below hb4 (Nat.le_refl _)⟩
    · exact ⟨rx4, ry4⟩) (by simp)
  obtain ⟨xa1, xc1, rfl⟩ := rx1.len
  obtain ⟨ya1, yc1, rfl⟩ := ry1.len
  obtain ⟨xa2, xc2, rfl⟩ := rx2.len
  obtain ⟨ya2, yc2, rfl⟩ := ry2.len
  obtain ⟨xa3, xc3, rfl⟩ := rx3.len
  obtain ⟨ya3, yc3, rfl⟩ := ry3.len
  obtain ⟨xa4, xc4, rfl⟩ := rx4.len
  obtain ⟨ya4, yc4, rfl⟩ := ry4.len
  have hbl := below_box4 wd (.cells (flatS [⟨.slice xa1 [97].length xc1, .slice ya1 [98].length yc1, ([97], [98], 5)⟩, ⟨.slice xa2 [98].length xc2, .slice ya2 [99].length yc2, ([98], [99], 7)⟩, ⟨.slice xa3 [98].length xc3, .slice ya3 [99].length yc3, ([98], [99], 5)⟩, ⟨.slice xa4 [99].length xc4, .slice ya4 [100].length yc4, ([99], [100], 7)⟩]).toArray 32)
  have hsm := samesp_any _ _ _ _ _ true (rdS_below HRD.out hbl (Nat.le_refl _)) hlit (by simp)
  have HBL : Hid (Below w.heap.size w (wd.alloc (.cells (flatS [⟨.slice xa1 [97].length xc1, .slice ya1 [98].length yc1, ([97], [98], 5)⟩, ⟨.slice xa2 [98].length xc2, .slice ya2 [99].length yc2, ([98], [99], 7)⟩, ⟨.slice xa3 [98].length xc3, .slice ya3 [99].length yc3, ([98], [99], 5)⟩, ⟨.slice xa4 [99].length xc4, .slice ya4 [100].length yc4, ([99], [100], 7)⟩]).toArray 32))) := bsplit HBD.out hbl
  simp only [flatS, celS, List.flatMap_cons, List.flatMap_nil, List.append_nil, List.cons_append, List.nil_append, List.length_cons, List.length_nil, Nat.zero_add, List.map_cons, List.map_nil, Nat.reduceAdd, Int.cast_ofNat_Int] at hsm HBL
  clear hlit rx1 ry1 rx2 ry2 rx3 ry3 rx4 ry4 hb1 hb2 hb3 hb4 hbl
  go_wp2_with fail
  refine hsm.mono ?_
  rintro e we ⟨rfl, nn, rfl⟩
  clear hsm
  go_wp2
  go_ret
  exact ⟨rfl, below_drewN HBL.out _⟩

end Go.Proofs.Ytifdomhmmhepcaa

/- bartizanref09.Right. -/
namespace Go.Proofs.Ytifdomhmmhepcaa
set_option maxRecDepth 100000
open Go.RowKit
set_option linter.unusedVariables false
set_option linter.unusedSimpArgs false

def okC (t : SpC) : Bool := okS t.e

theorem filC_map (cs : List SpC) : (cs.filter okC).map (·.e) = rightS (cs.map (·.e)) := by
  unfold rightS okC
  rw [List.filter_map]
  rfl

theorem filC_next {cs : List SpC} {j : Nat} (h : j < cs.length) : (cs.take (j + 1)).filter okC = if chkSp cs[j].e.1 cs[j].e.2.1 (cs[j].e.2.2 : Int) = 0 then (cs.take j).filter okC ++ [cs[j]] else (cs.take j).filter okC := by
  rw [List.take_succ_eq_append_getElem h, List.filter_append]
  by_cases h0 : chkSp cs[j].e.1 cs[j].e.2.1 (cs[j].e.2.2 : Int) = 0
  · rw [if_pos h0]
    have : okC cs[j] = true := by unfold okC okS; exact decide_eq_true h0
    simp [this]
  · rw [if_neg h0]
    have : okC cs[j] = false := by unfold okC okS; exact decide_eq_false h0
    simp [this]

set_option maxHeartbeats 4000000 in
theorem rright_any (w : World) (v : Value) (es : List SpB) (hv : RdS w v es) (hn : es.length ≤ 2000) :
    Calls Try.prog 14 #[v] w fun e w' => ∃ x, e = .returned x ∧ RdS w' x (rightS es) ∧ Below w.heap.size w w' := by
  obtain ⟨i0, hi, hz0, hz1, hz2⟩ := info_parts infoSp
  obtain ⟨cs, hcs, hce⟩ := RdC.of hv
  have HCE : Hid (cs.map (·.e) = es) := hce
  have HV : Hid (RdC w v cs) := hcs
  obtain ⟨ao, cap, rfl, h1, h2, _⟩ := hcs
  unfold maxLen at h2
  obtain ⟨N, hN⟩ : ∃ N, cs.length = N := ⟨_, rfl⟩
  have hN2 : es.length = N := by rw [← hce, List.length_map, hN]
  rw [hN] at h1 HV ⊢
  rw [hN2] at hn
  have HN : Hid (cs.length = N) := hN
  clear hN hce hv hN2
  go_enter Try.func14, Try.ntmps14
  go_wp2_with fail
  go_loopg [3, 8] N (fun gk pv iv wr => ∃ j d f : Nat, ∃ aa : Option Addr, gk + j = N ∧ iv = .int .i64 (j : Int) ∧ pv = .slice aa d f ∧ Hid (((cs.take j).filter okC).length = d) ∧ Hid (RowT w w.heap.size wr pv ((cs.take j).filter okC)) ∧ Hid (Below w.heap.size w wr))
  case atStart => exact ⟨0, 0, 0, none, by omega, rfl, rfl, by show _ = _; simp, by show RowT _ _ _ _ _; rw [List.take_zero, List.filter_nil]; exact RowT.nil _ _ _, Below.refl _ _⟩
  case round =>
    obtain ⟨j, d, f, aa, hj, rfl, rfl, HD, HA, HB⟩ := hrel
    by_cases hlt : j < N
    · have hlt2 : j < cs.length := by rw [HN.out]; exact hlt
      obtain ⟨_, _, e, _, _, h3⟩ := HV.out.below HB.out (Nat.le_refl _)
      rw [HN.out] at e
      cases e
      obtain ⟨b, off, rfl, c0, c1, c2, rx, ry⟩ := h3 j hlt2
      obtain ⟨x1, x2, ex⟩ := rx.len
      obtain ⟨y1, y2, ey⟩ := ry.len
      obtain ⟨q1, q2⟩ := gk_nxt hj hlt
      have HNX := filC_next hlt2
      have HGD : Hid (GdS w cs[j]) := HV.out.gd _ (List.getElem_mem hlt2)
      obtain ⟨c, hc⟩ : ∃ c, chkSp cs[j].e.1 cs[j].e.2.1 (cs[j].e.2.2 : Int) = c := ⟨_, rfl⟩
      rw [hc] at HNX
      obtain ⟨nl, hnl⟩ : ∃ nl, cs[j].e.1.length = nl := ⟨_, rfl⟩
      obtain ⟨ml, hml⟩ : ∃ ml, cs[j].e.2.1.length = ml := ⟨_, rfl⟩
      obtain ⟨sq, hsq⟩ : ∃ z : Int, (cs[j].e.2.2 : Int) = z := ⟨_, rfl⟩
      have HEE : Hid (cs[j].x = .slice x1 nl x2 ∧ cs[j].y = .slice y1 ml y2 ∧ (cs[j].e.2.2 : Int) = sq) := ⟨by rw [ex, hnl], by rw [ey, hml], hsq⟩
      rw [HEE.out.1] at c0 rx
      rw [HEE.out.2.1] at c1 ry
      rw [hsq] at c2 hc
      have hb0 := below_box wr #[.slice x1 nl x2, .slice y1 ml y2, .int .u64 sq] 32
      have BX := box_new wr (.slice x1 nl x2) (.slice y1 ml y2) (.int .u64 sq) 32
      have hck := rtcheck_any (wr.alloc (.cells #[.slice x1 nl x2, .slice y1 ml y2, .int .u64 sq] 32)) _ _ _ _ sq c (rx.below hb0 (Nat.le_refl _)) (ry.below hb0 (Nat.le_refl _)) hc
      have HA1 : Hid (RowT w w.heap.size (wr.alloc (.cells #[.slice x1 nl x2, .slice y1 ml y2, .int .u64 sq] 32)) (.slice aa d f) ((cs.take j).filter okC)) := HA.out.below hb0
      have HB1 : Hid (Below w.heap.size w (wr.alloc (.cells #[.slice x1 nl x2, .slice y1 ml y2, .int .u64 sq] 32))) := bsplit HB.out hb0
      have HNX' : Hid ((cs.take (j + 1)).filter okC = if c = 0 then (cs.take j).filter okC ++ [cs[j]] else (cs.take j).filter okC) := HNX
      have hd9 : d ≤ 2000 := by have h9 := List.length_filter_le okC (cs.take j); rw [HD.out, List.length_take] at h9; omega
      have BX' := BX
      obtain ⟨z0, z1, z2, _, _, _⟩ := BX'
      clear ex ey hnl hml hsq hc rx ry h3 hb0 HNX
      go_wp2_with fail
      refine hck.mono ?_
      rintro e w2 ⟨rfl, hb2⟩
      clear z0 z1 z2
      obtain ⟨z0, z1, z2, _, _, _⟩ := BX.below hb2 (Nat.le_refl _)
      have HA2 : Hid (RowT w w.heap.size w2 (.slice aa d f) ((cs.take j).filter okC)) := HA1.out.below hb2
      have HB2 : Hid (Below w.heap.size w w2) := bsplit HB1.out hb2
      clear hck hb2 BX c0 c1 c2
      by_cases h0 : c = 0
      · subst h0
        have hbe := below_box4 w2 (.cells #[.slice x1 nl x2, .slice y1 ml y2, .int .u64 sq] 32)
        have hlit := laidT3 w2 (.slice x1 nl x2) (.slice y1 ml y2) (.int .u64 sq) 32
        have HBE : Hid (Below w.heap.size w (w2.alloc (.cells #[.slice x1 nl x2, .slice y1 ml y2, .int .u64 sq] 32))) := bsplit HB2.out hbe
        have hse := HBE.out.size
        have hA9 := HA2.out.below hbe
        have hrow := hA9.1
        rw [HD.out] at hrow
        have HPS : Hid (∀ g4 c4 w4, w4.ownsRow w.heap.size 32 3 (.slice (some ⟨g4, 0, none⟩) (d + 1) c4) (d + 1) (flatS ((cs.take j).filter okC) ++ [.slice x1 nl x2, .slice y1 ml y2, .int .u64 sq]) → (w2.alloc (.cells #[.slice x1 nl x2, .slice y1 ml y2, .int .u64 sq] 32)).grownBy w4 (Value.slice aa d f).ownBlock → ((cs.take (j + 1)).filter okC).length = d + 1 ∧ RowT w w.heap.size w4 (.slice (some ⟨g4, 0, none⟩) (d + 1) c4) ((cs.take (j + 1)).filter okC) ∧ Below w.heap.size w w4) := by
          intro g4 c4 w4 hown hgrow
          have hln : ((cs.take (j + 1)).filter okC).length = d + 1 := by rw [HNX'.out, if_pos rfl, List.length_append, HD.out]; rfl
          refine ⟨hln, ⟨?_, fun t ht => HV.out.gd t (List.mem_of_mem_take (List.mem_filter.1 ht).1)⟩, HBE.out.grown hgrow HBE.out.size (fun k' e => (hrow.lt k' e).1)⟩
          rw [hln, HNX'.out, if_pos rfl, flatS_push, HEE.out.1, HEE.out.2.1, HEE.out.2.2]
          exact hown
        clear hbe hA9
        go_wp2_with (first | (at_builtin; refine wpList_append_lies _ rfl (.tmp 15) (.tmp 17) 22 rfl w.heap.size 32 i0 (.agg #[.slice none 0 0, .slice none 0 0, .int .u64 0]) 3 56 Try.underlying22 hi hz0 hz1 hz2 rfl (by decide) (.slice aa d f) d (flatS ((cs.take j).filter okC)) rfl hrow ⟨w2.heap.size, 0, none⟩ 1 1 [.slice x1 nl x2, .slice y1 ml y2, .int .u64 sq] rfl rfl hlit (oneS _ _ _ _ _ _ _) (by decide) (by simp only [maxLen]; omega) (by omega) hse _ rfl ?_; intro g4 c4 w4 hown hgrow hat hlt4; have HP4 : Hid _ := HPS.out g4 c4 w4 hown hgrow; clear hown hgrow hat hlt4) | fail)
        clear hrow hlit hse z0 z1 z2
        go_roundg (gk - 1)
        case measure => exact q1
        case rel => exact ⟨j + 1, d + 1, c4, _, q2, by go_num, rfl, HP4.out.1, HP4.out.2.1, HP4.out.2.2⟩
      · have h0b : (c == 0) = false := by simpa using h0
        have HST : Hid ((cs.take (j + 1)).filter okC = (cs.take j).filter okC) := by show _ = _; rw [HNX'.out, if_neg h0]
        clear z0 z1 z2
        go_wp2_with fail
        go_roundg (gk - 1)
        case measure => exact q1
        case rel => exact ⟨j + 1, d, f, aa, q2, by go_num, rfl, by show _ = _; rw [HST.out]; exact HD.out, by show RowT _ _ _ _ _; rw [HST.out]; exact HA2.out, HB2⟩
    · have hjN : j = N := by omega
      subst hjN
      have HT : Hid (cs.take j = cs) := by show _ = _; rw [← HN.out, List.take_length]
      go_wp2_with fail
      go_wp2
      go_ret
      refine ⟨_, rfl, ?_, HB.out⟩
      have h9 := HA.out.rd HB.out
      rw [HT.out, filC_map, HCE.out] at h9
      exact h9

end Go.Proofs.Ytifdomhmmhepcaa

/- The document's fragments, in pure terms. -/
namespace Go.Proofs.Ytifdomhmmhepcaa
set_option linter.unusedVariables false

/-- is a place above one (or is it, if same)? -/
def cndP (at_ : List UInt8) (same : Bool) (p : List UInt8) : Bool := decide (Lib.compareBytes at_ p < 0) || (same && (at_ == p))
def ltO (p : List UInt8) : Option (List UInt8) → Bool
  | none => true
  | some b => decide (Lib.compareBytes p b < 0)
def okO (a : List UInt8) (s : Bool) : Option (List UInt8) → Prop
  | none => True
  | some b => cndP a s b = true
def updP (at_ : List UInt8) (same : Bool) (o : Option (List UInt8)) (p : List UInt8) : Option (List UInt8) :=
  if cndP at_ same p = true ∧ ltO p o = true then some p else o
def nxtP (at_ : List UInt8) (same : Bool) (l : List (List UInt8)) : Option (List UInt8) := l.foldl (updP at_ same) none

theorem nxt_gen (a : List UInt8) (s : Bool) : ∀ (l : List (List UInt8)) (o : Option (List UInt8)), okO a s o →
    match l.foldl (updP a s) o with
      | none => o = none ∧ ∀ q ∈ l, cndP a s q = false
      | some p => cndP a s p = true ∧ (p ∈ l ∨ o = some p) ∧ (∀ q ∈ l, cndP a s q = true → ¬ Lib.compareBytes q p < 0) ∧ ∀ b, o = some b → ¬ Lib.compareBytes b p < 0
  | [], none, _ => ⟨rfl, fun q h => absurd h (List.not_mem_nil)⟩
  | [], some b, h => ⟨h, .inr rfl, fun q h => absurd h (List.not_mem_nil), fun b' e => by cases e; rw [Mth.cmp_zero.2 rfl]; omega⟩
  | x :: r, o, h => by
    rw [List.foldl_cons]
    by_cases hu : cndP a s x = true ∧ ltO x o = true
    · have e : updP a s o x = some x := by unfold updP; rw [if_pos hu]
      rw [e]
      have ih := nxt_gen a s r (some x) hu.1
      cases hres : r.foldl (updP a s) (some x) with
      | none => rw [hres] at ih; exact absurd ih.1 (by simp)
      | some p =>
        rw [hres] at ih
        obtain ⟨i1, i2, i3, i4⟩ := ih
        have hxp := i4 x rfl
        refine ⟨i1, ?_, fun q hq hc => ?_, fun b hb => ?_⟩
        · rcases i2 with h9 | h9
          · exact .inl (List.mem_cons_of_mem _ h9)
          · cases h9; exact .inl (List.mem_cons_self ..)
        · rcases List.mem_cons.1 hq with rfl | hq
          · exact hxp
          · exact i3 q hq hc
        · subst hb
          exact fun h9 => hxp (Mth.cmp_trans (of_decide_eq_true hu.2) h9)
    · have e : updP a s o x = o := by unfold updP; rw [if_neg hu]
      rw [e]
      have ih := nxt_gen a s r o h
      cases hres : r.foldl (updP a s) o with
      | none =>
        rw [hres] at ih
        refine ⟨ih.1, fun q hq => ?_⟩
        rcases List.mem_cons.1 hq with rfl | hq
        · cases hc : cndP a s q with
          | false => rfl
          | true => exact absurd ⟨hc, by rw [ih.1]; rfl⟩ hu
        · exact ih.2 q hq
      | some p =>
        rw [hres] at ih
        obtain ⟨i1, i2, i3, i4⟩ := ih
        refine ⟨i1, i2.elim (fun h9 => .inl (List.mem_cons_of_mem _ h9)) .inr, fun q hq hc => ?_, i4⟩
        rcases List.mem_cons.1 hq with rfl | hq
        · cases o with
          | none => exact absurd ⟨hc, rfl⟩ hu
          | some b =>
            have hqb : ¬ Lib.compareBytes q b < 0 := fun h9 => hu ⟨hc, decide_eq_true h9⟩
            exact fun h9 => i4 b rfl (cb_le_lt hqb h9)
        · exact i3 q hq hc

theorem nxt_spec (a : List UInt8) (s : Bool) (l : List (List UInt8)) : match nxtP a s l with
      | none => ∀ q ∈ l, cndP a s q = false
      | some p => cndP a s p = true ∧ p ∈ l ∧ ∀ q ∈ l, cndP a s q = true → ¬ Lib.compareBytes q p < 0 := by
  have h := nxt_gen a s l none trivial
  unfold nxtP
  cases hres : l.foldl (updP a s) none with
  | none => rw [hres] at h; exact h.2
  | some p => rw [hres] at h; exact ⟨h.1, h.2.1.elim id (fun h9 => by cases h9), h.2.2.1⟩

theorem mem_pl {ss : List SpB} {p : List UInt8} : p ∈ plB ss ↔ p ∈ plcs ss := mem_plB.trans mem_plcs.symm

theorem cmp_nil (p : List UInt8) : cndP [] true p = true := by
  unfold cndP
  cases p with
  | nil => simp
  | cons x r =>
    have : Lib.compareBytes [] (x :: r) < 0 := by
      rcases Mth.cmp_vals [] (x :: r) with h | h | h
      · omega
      · exact absurd (Mth.cmp_zero.1 h) (by simp)
      · have h2 := Mth.cmp_neg (x :: r) []
        have : Lib.compareBytes (x :: r) [] = 1 := by simp [Lib.compareBytes]
        omega
    simp [this]

/-- the first place -/
theorem nxt_first (ss : List SpB) : nxtP [] true (plB ss) = (plcs ss)[0]? := by
  have h := nxt_spec [] true (plB ss)
  cases hres : nxtP [] true (plB ss) with
  | none =>
    rw [hres] at h
    have hn : (plcs ss).length = 0 := by
      refine Nat.eq_zero_of_not_pos fun hp => ?_
      have h9 := h _ (mem_pl.2 (List.getElem_mem hp))
      rw [cmp_nil] at h9
      cases h9
    rw [List.getElem?_eq_none (by omega)]
  | some p =>
    rw [hres] at h
    obtain ⟨_, hm, hl⟩ := h
    obtain ⟨i, hi, rfl⟩ := List.getElem_of_mem (mem_pl.1 hm)
    have h0 : i = 0 := by
      refine Nat.eq_zero_of_not_pos fun hp => ?_
      exact hl _ (mem_pl.2 (List.getElem_mem (show 0 < (plcs ss).length by omega))) (cmp_nil _) (plcs_lt ss 0 i hi hp)
    subst h0
    rw [List.getElem?_eq_getElem hi]

/-- the next place -/
theorem nxt_next (ss : List SpB) (i : Nat) (hi : i < (plcs ss).length) : nxtP (plcs ss)[i] false (plB ss) = (plcs ss)[i + 1]? := by
  have hc : ∀ j (hj : j < (plcs ss).length), cndP (plcs ss)[i] false (plcs ss)[j] = true ↔ i < j := fun j hj => by
    unfold cndP
    simp only [Bool.false_and, Bool.or_false, decide_eq_true_iff]
    constructor
    · intro h
      refine Nat.lt_of_not_le fun hle => ?_
      rcases Nat.lt_or_eq_of_le hle with h9 | h9
      · exact cb_asym (plcs_lt ss j i hi h9) h
      · subst h9; rw [Mth.cmp_zero.2 rfl] at h; omega
    · exact plcs_lt ss i j hj
  have h := nxt_spec (plcs ss)[i] false (plB ss)
  cases hres : nxtP (plcs ss)[i] false (plB ss) with
  | none =>
    rw [hres] at h
    have hn : ¬ i + 1 < (plcs ss).length := fun hp => by
      have h9 := h _ (mem_pl.2 (List.getElem_mem hp))
      rw [(hc (i + 1) hp).2 (by omega)] at h9
      cases h9
    rw [List.getElem?_eq_none (by omega)]
  | some p =>
    rw [hres] at h
    obtain ⟨h1, hm, hl⟩ := h
    obtain ⟨j, hj, rfl⟩ := List.getElem_of_mem (mem_pl.1 hm)
    have hij := (hc j hj).1 h1
    have h0 : j = i + 1 := by
      refine Nat.le_antisymm (Nat.le_of_not_lt fun hp => ?_) hij
      exact hl _ (mem_pl.2 (List.getElem_mem (show i + 1 < (plcs ss).length by omega))) ((hc (i + 1) (by omega)).2 (by omega)) (plcs_lt ss (i + 1) j hj hp)
    subst h0
    rw [List.getElem?_eq_getElem hj]

/-- the greatest number below one, over a place -/
def bstS (p : List UInt8) (seq : Nat) (m : Nat) (s : SpB) : Nat := if covB s.1 s.2.1 p = true ∧ s.2.2 < seq ∧ m < s.2.2 then s.2.2 else m
def bstN (ss : List SpB) (p : List UInt8) (seq : Nat) : Nat := ss.foldl (bstS p seq) 0

theorem bst_gen (p : List UInt8) (seq : Nat) : ∀ (ss : List SpB) (m : Nat), m ≤ ss.foldl (bstS p seq) m ∧ (∀ s ∈ ss, covB s.1 s.2.1 p = true → s.2.2 < seq → s.2.2 ≤ ss.foldl (bstS p seq) m) ∧ (ss.foldl (bstS p seq) m = m ∨ ∃ s ∈ ss, covB s.1 s.2.1 p = true ∧ s.2.2 < seq ∧ s.2.2 = ss.foldl (bstS p seq) m)
  | [], m => ⟨Nat.le_refl _, fun s h => absurd h (List.not_mem_nil), .inl rfl⟩
  | a :: r, m => by
    obtain ⟨h1, h2, h3⟩ := bst_gen p seq r (bstS p seq m a)
    have hm : m ≤ bstS p seq m a := by unfold bstS; split <;> omega
    rw [List.foldl_cons]
    refine ⟨Nat.le_trans hm h1, fun s hs a1 a2 => ?_, ?_⟩
    · rcases List.mem_cons.1 hs with e | hs
      · subst e
        refine Nat.le_trans ?_ h1
        unfold bstS
        split
        · omega
        · rename_i hn
          refine Nat.le_of_not_lt fun h9 => hn ⟨a1, a2, h9⟩
      · exact h2 s hs a1 a2
    · rcases h3 with e | ⟨s, hs, e⟩
      · rw [e]
        unfold bstS
        split
        · rename_i hc
          exact .inr ⟨a, List.mem_cons_self .., hc.1, hc.2.1, rfl⟩
        · exact .inl rfl
      · exact .inr ⟨s, List.mem_cons_of_mem _ hs, e⟩

/-- one by one they are the numbers, falling -/
theorem bst_at {ss : List SpB} {p : List UInt8} (hr : ∀ s ∈ ss, 1 ≤ s.2.2 ∧ s.2.2 < 144115188075855872) (i : Nat) (hi : i ≤ (sqs ss p).length) (seq : Nat) (hseq : (i = 0 ∧ seq = 144115188075855872) ∨ ∃ h : i - 1 < (sqs ss p).length, 0 < i ∧ seq = (sqs ss p)[i - 1]) : bstN ss p seq = (sqs ss p).getD i 0 := by
  have hpw0 : (sqs ss p).Pairwise (fun a b => gtNN a b = true) := pw_srtU ordN _
  have hpw := List.pairwise_iff_getElem.1 hpw0
  have hpw2 : ∀ a b (ha : a < (sqs ss p).length) (hb : b < (sqs ss p).length), a < b → (sqs ss p)[b] < (sqs ss p)[a] := fun a b ha hb hab => by
    have := hpw a b ha hb hab
    simpa [gtNN] using this
  have hlt : ∀ j (hj : j < (sqs ss p).length), (sqs ss p)[j] < seq ↔ i ≤ j := fun j hj => by
    rcases hseq with ⟨h0, h1⟩ | ⟨h, h0, h1⟩
    · subst h0 h1
      obtain ⟨s, hs, _, e⟩ := mem_sqs.1 (List.getElem_mem hj)
      rw [← e]
      exact ⟨fun _ => Nat.zero_le _, fun _ => (hr s hs).2⟩
    · subst h1
      constructor
      · intro h2
        refine Nat.le_of_not_lt fun h3 => ?_
        rcases Nat.lt_or_eq_of_le (show j ≤ i - 1 by omega) with h4 | h4
        · have := hpw2 j (i - 1) hj h h4; omega
        · subst h4; omega
      · intro h2
        exact hpw2 (i - 1) j h hj (by omega)
  obtain ⟨_, g2, g3⟩ := bst_gen p seq ss 0
  by_cases hil : i < (sqs ss p).length
  · have e : (sqs ss p).getD i 0 = (sqs ss p)[i] := by simp [List.getD, List.getElem?_eq_getElem hil]
    rw [e]
    obtain ⟨s, hs, hc, es⟩ := mem_sqs.1 (List.getElem_mem hil)
    have hge := g2 s hs hc (by rw [es]; exact (hlt i hil).2 (Nat.le_refl _))
    have hs1 := (hr s hs).1
    unfold bstN
    rcases g3 with e0 | ⟨u, hu, hcu, hul, eu⟩
    · omega
    · obtain ⟨j, hj, ej⟩ := List.getElem_of_mem (mem_sqs.2 ⟨u, hu, hcu, rfl⟩)
      have hij := (hlt j hj).1 (by rw [ej]; exact hul)
      rcases Nat.lt_or_eq_of_le hij with h9 | h9
      · have := hpw2 i j hil hj h9
        omega
      · subst h9
        rw [← eu, ← ej]
  · have e : (sqs ss p).getD i 0 = 0 := by simp [List.getD, List.getElem?_eq_none (show (sqs ss p).length ≤ i by omega)]
    rw [e]
    unfold bstN
    rcases g3 with e0 | ⟨u, hu, hcu, hul, eu⟩
    · exact e0
    · obtain ⟨j, hj, ej⟩ := List.getElem_of_mem (mem_sqs.2 ⟨u, hu, hcu, rfl⟩)
      have hij := (hlt j hj).1 (by rw [ej]; exact hul)
      omega

end Go.Proofs.Ytifdomhmmhepcaa

/- bartizanref09.next. -/
namespace Go.Proofs.Ytifdomhmmhepcaa
set_option maxRecDepth 100000
open Go.RowKit
set_option linter.unusedVariables false
set_option linter.unusedSimpArgs false

/-- the best place so far, as it lies -/
def BstR (w : World) (v : Value) (b : Bool) : Option (List UInt8) → Prop
  | none => v = .slice none 0 0 ∧ b = false
  | some p => Rd w v p ∧ b = true

theorem BstR.shape {w : World} {v : Value} {b : Bool} {o : Option (List UInt8)} (h : BstR w v b o) : ∃ a n c, v = .slice a n c := by
  cases o with
  | none => exact ⟨none, 0, 0, h.1⟩
  | some p => obtain ⟨a, c, e⟩ := h.1.len; exact ⟨a, _, c, e⟩

theorem plB_next {ss : List SpB} {j : Nat} (h : j < ss.length) : plB (ss.take (j + 1)) = plB (ss.take j) ++ [ss[j].1, ss[j].2.1] := by
  unfold plB
  rw [List.take_succ_eq_append_getElem h, List.flatMap_append]
  rfl

/-- what next answers -/
def NxtPost (w0 w : World) (o : Option (List UInt8)) (e : Ending) (w' : World) : Prop := ∃ v b, e = .returned (.tuple #[v, .bool b]) ∧ BstR w0 v b o ∧ Below w.heap.size w w'

set_option maxHeartbeats 8000000 in
theorem rnext_any (w0 w : World) (v av : Value) (ss : List SpB) (a : List UInt8) (sm9 : Bool) (hv : RdS w0 v ss) (ha : Rd w0 av a) (hb0 : Below w0.heap.size w0 w) :
    Calls Try.prog 41 #[v, av, .bool sm9] w (NxtPost w0 w (nxtP a sm9 (plB ss))) := by
  obtain ⟨aa, ac, rfl⟩ := ha.len
  obtain ⟨an, han⟩ : ∃ n, a.length = n := ⟨_, rfl⟩
  rw [han] at ha ⊢
  have HAA : Hid (Rd w0 (.slice aa an ac) a) := ha
  have HV : Hid (RdS w0 v ss) := hv
  have HBB : Hid (Below w0.heap.size w0 w) := hb0
  obtain ⟨ao, cap, rfl, h1, h2, _⟩ := hv
  unfold maxLen at h2
  obtain ⟨N, hN⟩ : ∃ N, ss.length = N := ⟨_, rfl⟩
  rw [hN] at h1 HV ⊢
  have HN : Hid (ss.length = N) := hN
  clear hN ha han hb0
  go_enter Try.func41, Try.ntmps41
  go_wp2_with fail
  go_loopg [8, 9, 16] N (fun gk bv sv iv wr => ∃ j n c : Nat, ∃ p : Option Addr, ∃ bb : Bool, gk + j = N ∧ iv = .int .i64 (j : Int) ∧ bv = .slice p n c ∧ sv = .bool bb ∧ Hid (BstR w0 bv bb (nxtP a sm9 (plB (ss.take j)))) ∧ Hid (Below w.heap.size w wr))
  case atStart => exact ⟨0, 0, 0, none, false, by omega, rfl, rfl, rfl, ⟨rfl, rfl⟩, Below.refl _ _⟩
  case round =>
    obtain ⟨j, n, c, p, bb, hj, rfl, rfl, rfl, HBS, HB⟩ := hrel
    by_cases hlt : j < N
    · have hlt2 : j < ss.length := by rw [HN.out]; exact hlt
      obtain ⟨_, _, e, _, _, h3⟩ := rdS_below HV.out (bsplit HBB.out HB.out) (Nat.le_refl _)
      obtain ⟨_, _, e', _, _, h3'⟩ := HV.out
      rw [HN.out] at e e'
      cases e
      cases e'
      obtain ⟨b, off, eb, xv, yv, c0, c1, c2, rx, ry⟩ := h3 j hlt2
      cases eb
      obtain ⟨b', off', eb', xv', yv', c0', c1', c2', rx', ry'⟩ := h3' j hlt2
      cases eb'
      have exx : xv' = xv := by
        have h9 := ((bsplit HBB.out HB.out).cell (p := ⟨b, off + j * 3, none⟩) (World.block_lt_of_cell? w0 _ c0')).trans c0'
        rw [c0] at h9
        exact (Option.some.inj h9).symm
      have eyy : yv' = yv := by
        have h9 := ((bsplit HBB.out HB.out).cell (p := ⟨b, off + j * 3 + 1, none⟩) (World.block_lt_of_cell? w0 _ c1')).trans c1'
        rw [c1] at h9
        exact (Option.some.inj h9).symm
      subst exx eyy
      obtain ⟨x1, x2, ex⟩ := rx.len
      obtain ⟨y1, y2, ey⟩ := ry.len
      subst ex ey
      obtain ⟨q1, q2⟩ := gk_nxt hj hlt
      obtain ⟨⟨sl, sm, sq⟩, ho⟩ : ∃ o, ss[j] = o := ⟨_, rfl⟩
      have HNX : Hid (plB (ss.take (j + 1)) = plB (ss.take j) ++ [sl, sm]) := by show _ = _; rw [plB_next hlt2, ho]
      rw [ho] at c0 c1 c2 rx' ry'
      simp only at c0 c1 c2 rx' ry'
      obtain ⟨nl, hnl⟩ : ∃ nl, ss[j].1.length = nl := ⟨_, rfl⟩
      obtain ⟨ml, hml⟩ : ∃ ml, ss[j].2.1.length = ml := ⟨_, rfl⟩
      rw [ho] at hnl hml
      simp only at hnl hml
      rw [hnl] at c0 rx'
      rw [hml] at c1 ry'
      have HXY : Hid (Rd w0 (.slice x1 nl x2) sl ∧ Rd w0 (.slice y1 ml y2) sm) := ⟨rx', ry'⟩
      obtain ⟨z0, z1, z2, _, _, _⟩ := box_new wr (.slice x1 nl x2) (.slice y1 ml y2) (.int .u64 (sq : Int)) 32
      have hbA := below_box4 wr (.cells #[.slice x1 nl x2, .slice y1 ml y2, .int .u64 (sq : Int)] 32)
      have hbB := below_box4 (wr.alloc (.cells #[.slice x1 nl x2, .slice y1 ml y2, .int .u64 (sq : Int)] 32)) (.cells #[.slice x1 nl x2, .slice y1 ml y2] 29)
      have hlay := laidT2 (wr.alloc (.cells #[.slice x1 nl x2, .slice y1 ml y2, .int .u64 (sq : Int)] 32)) (.slice x1 nl x2) (.slice y1 ml y2) 29
      have hs1 : (wr.alloc (.cells #[.slice x1 nl x2, .slice y1 ml y2, .int .u64 (sq : Int)] 32)).heap.size = wr.heap.size + 1 := by simp
      rw [hs1] at hlay
      obtain ⟨W2, hW2⟩ : ∃ W, (wr.alloc (.cells #[.slice x1 nl x2, .slice y1 ml y2, .int .u64 (sq : Int)] 32)).alloc (.cells #[.slice x1 nl x2, .slice y1 ml y2] 29) = W := ⟨_, rfl⟩
      rw [hW2] at hlay hbB
      have HLAY : Hid (W2.cell? ⟨wr.heap.size + 1, 0, none⟩ = some (.slice x1 nl x2) ∧ W2.cell? ⟨wr.heap.size + 1, 1, none⟩ = some (.slice y1 ml y2)) := by
        have k0 := hlay 0 _ rfl
        have k1 := hlay 1 _ rfl
        rw [Addr.add_lit] at k0 k1
        exact ⟨k0, k1⟩
      have HBW : Hid (Below w.heap.size w W2) := bsplit (bsplit HB.out hbA) hbB
      have HW2 : Hid ((wr.alloc (.cells #[.slice x1 nl x2, .slice y1 ml y2, .int .u64 (sq : Int)] 32)).alloc (.cells #[.slice x1 nl x2, .slice y1 ml y2] 29) = W2) := hW2
      obtain ⟨G, hG⟩ : ∃ G, gk = G := ⟨_, rfl⟩
      obtain ⟨B9, hB9⟩ : ∃ z, wr.heap.size + 1 = z := ⟨_, rfl⟩
      have HB9 : Hid (wr.heap.size + 1 = B9) := hB9
      clear h3 h3' rx ry rx' ry' c0' c1' c2' hnl hml ho hbA hbB hlay hs1 hW2 hB9
      go_wp2_with fail
      rw [HW2.out, HB9.out]
      rw [HB9.out] at HLAY
      clear z0 z1 z2 HW2 c0 c1 c2
      go_loopg [8, 9, 26] 2 (fun gq bv sv kv wq => ∃ k n c : Nat, ∃ p : Option Addr, ∃ bb : Bool, gq + k = 2 ∧ kv = .int .i64 (k : Int) ∧ bv = .slice p n c ∧ sv = .bool bb ∧ Hid (BstR w0 bv bb ((plB (ss.take j) ++ [sl, sm].take k).foldl (updP a sm9) none)) ∧ Hid (Below W2.heap.size W2 wq))
      case atStart => exact ⟨0, n, c, p, bb, by omega, rfl, rfl, rfl, by have h9 := HBS.out; unfold nxtP at h9; show BstR _ _ _ _; rw [List.take_zero, List.append_nil]; exact h9, Below.refl _ _⟩
      case round =>
        clear HBS
        obtain ⟨k, n, c, p, bb, hk, rfl, rfl, rfl, HBS, HBQ⟩ := hrel
        by_cases hlt3 : k < 2
        · obtain ⟨y9, y8⟩ := gk_nxt hk hlt3
          obtain ⟨ea, en, ec, eb, hcell, hrd, htk⟩ : ∃ ea en ec, ∃ eb : List UInt8, W2.cell? ⟨B9, k, none⟩ = some (.slice ea en ec) ∧ Rd w0 (.slice ea en ec) eb ∧ [sl, sm].take (k + 1) = [sl, sm].take k ++ [eb] := by
            rcases (show k = 0 ∨ k = 1 by omega) with rfl | rfl
            · exact ⟨x1, nl, x2, sl, HLAY.out.1, HXY.out.1, rfl⟩
            · exact ⟨y1, ml, y2, sm, HLAY.out.2, HXY.out.2, rfl⟩
          have kc : wr.cell? ⟨B9, k, none⟩ = some (.slice ea en ec) := (HBQ.out.cell (p := ⟨B9, k, none⟩) (World.block_lt_of_cell? _ _ hcell)).trans hcell
          have HBr : Hid (Below w.heap.size w wr) := bsplit HBW.out HBQ.out
          have HEB : Hid (Rd w0 (.slice ea en ec) eb) := hrd
          have HTK : Hid ((plB (ss.take j) ++ [sl, sm].take (k + 1)).foldl (updP a sm9) none = updP a sm9 ((plB (ss.take j) ++ [sl, sm].take k).foldl (updP a sm9) none) eb) := by
            show _ = _
            rw [htk, ← List.append_assoc, List.foldl_append]
            rfl
          obtain ⟨o, ho⟩ : ∃ o, (plB (ss.take j) ++ [sl, sm].take k).foldl (updP a sm9) none = o := ⟨_, rfl⟩
          rw [ho] at HBS HTK
          have hkI : (k : Int) < 2 := by omega
          obtain ⟨r1, hr1⟩ : ∃ r, decide (Lib.compareBytes a eb < 0) = r := ⟨_, rfl⟩
          obtain ⟨r2, hr2⟩ : ∃ r, (a == eb) = r := ⟨_, rfl⟩
          have HC : Hid (cndP a sm9 eb = (r1 || (sm9 && r2))) := by show _ = _; unfold cndP; rw [hr1, hr2]
          have hl1 := refless_any wr _ _ a eb r1 (HAA.out.below (bsplit HBB.out HBr.out) (Nat.le_refl _)) (hrd.below (bsplit HBB.out HBr.out) (Nat.le_refl _)) hr1
          have hl2 := same_b wr _ _ a eb r2 (HAA.out.below (bsplit HBB.out HBr.out) (Nat.le_refl _)) (hrd.below (bsplit HBB.out HBr.out) (Nat.le_refl _)) hr2
          clear ho hcell hrd htk hr1 hr2
          go_wp2_with fail
          refine hl1.mono ?_
          rintro e wl ⟨rfl, hwl⟩
          subst hwl
          clear hl1 kc
          cases r1
          · cases sm9
            · have HUP : Hid (updP a false o eb = o) := by show _ = _; unfold updP; rw [if_neg (fun h => by rw [HC.out] at h; simp at h)]
              go_wp2_with fail
              go_roundg (gk - 1)
              case measure => exact y9
              case rel => exact ⟨k + 1, n, c, p, bb, y8, by go_num, rfl, rfl, by show BstR _ _ _ _; rw [HTK.out, HUP.out]; exact HBS.out, HBQ⟩
            · go_wp2_with fail
              refine hl2.mono ?_
              rintro e wn ⟨rfl, hwn⟩
              subst hwn
              clear hl2
              cases r2
              · have HUP : Hid (updP a true o eb = o) := by show _ = _; unfold updP; rw [if_neg (fun h => by rw [HC.out] at h; simp at h)]
                go_wp2_with fail
                go_roundg (gk - 1)
                case measure => exact y9
                case rel => exact ⟨k + 1, n, c, p, bb, y8, by go_num, rfl, rfl, by show BstR _ _ _ _; rw [HTK.out, HUP.out]; exact HBS.out, HBQ⟩
              · cases bb
                · have HLO : Hid (o = none) := by
                    show _ = _
                    cases o with
                    | none => rfl
                    | some q => exact absurd HBS.out.2 (by simp)
                  have HUP : Hid (updP a true o eb = some eb) := by show _ = _; unfold updP; rw [if_pos ⟨by rw [HC.out]; simp, by rw [HLO.out]; rfl⟩]
                  go_wp2_with fail
                  go_roundg (gk - 1)
                  case measure => exact y9
                  case rel => exact ⟨k + 1, en, ec, ea, true, y8, by go_num, rfl, rfl, by show BstR _ _ _ _; rw [HTK.out, HUP.out]; exact ⟨HEB.out, rfl⟩, HBQ⟩
                · obtain ⟨q, HQ, hq⟩ : ∃ q, Hid (o = some q) ∧ Rd w0 (.slice p n c) q := by
                    have h9 := HBS.out
                    cases o with
                    | none => exact absurd h9.2 (by simp)
                    | some q => exact ⟨q, rfl, h9.1⟩
                  obtain ⟨r3, hr3⟩ : ∃ r, decide (Lib.compareBytes eb q < 0) = r := ⟨_, rfl⟩
                  have HR3 : Hid (ltO eb o = r3) := by show _ = _; rw [HQ.out]; exact hr3
                  have hl3 := refless_any wn _ _ eb q r3 (HEB.out.below (bsplit HBB.out HBr.out) (Nat.le_refl _)) (hq.below (bsplit HBB.out HBr.out) (Nat.le_refl _)) hr3
                  clear hq hr3
                  go_wp2_with fail
                  refine hl3.mono ?_
                  rintro e wm ⟨rfl, hwm⟩
                  subst hwm
                  clear hl3
                  cases r3
                  · have HUP : Hid (updP a true o eb = o) := by show _ = _; unfold updP; rw [if_neg (fun h => by rw [HR3.out] at h; exact absurd h.2 (by simp))]
                    go_wp2_with fail
                    go_roundg (gk - 1)
                    case measure => exact y9
                    case rel => exact ⟨k + 1, n, c, p, true, y8, by go_num, rfl, rfl, by show BstR _ _ _ _; rw [HTK.out, HUP.out]; exact HBS.out, HBQ⟩
                  · have HUP : Hid (updP a true o eb = some eb) := by show _ = _; unfold updP; rw [if_pos ⟨by rw [HC.out]; simp, HR3.out⟩]
                    go_wp2_with fail
                    go_roundg (gk - 1)
                    case measure => exact y9
                    case rel => exact ⟨k + 1, en, ec, ea, true, y8, by go_num, rfl, rfl, by show BstR _ _ _ _; rw [HTK.out, HUP.out]; exact ⟨HEB.out, rfl⟩, HBQ⟩
          · clear hl2
            cases bb
            · have HLO : Hid (o = none) := by
                show _ = _
                cases o with
                | none => rfl
                | some q => exact absurd HBS.out.2 (by simp)
              have HUP : Hid (updP a sm9 o eb = some eb) := by show _ = _; unfold updP; rw [if_pos ⟨by rw [HC.out]; simp, by rw [HLO.out]; rfl⟩]
              go_wp2_with fail
              go_roundg (gk - 1)
              case measure => exact y9
              case rel => exact ⟨k + 1, en, ec, ea, true, y8, by go_num, rfl, rfl, by show BstR _ _ _ _; rw [HTK.out, HUP.out]; exact ⟨HEB.out, rfl⟩, HBQ⟩
            · obtain ⟨q, HQ, hq⟩ : ∃ q, Hid (o = some q) ∧ Rd w0 (.slice p n c) q := by
                have h9 := HBS.out
                cases o with
                | none => exact absurd h9.2 (by simp)
                | some q => exact ⟨q, rfl, h9.1⟩
              obtain ⟨r3, hr3⟩ : ∃ r, decide (Lib.compareBytes eb q < 0) = r := ⟨_, rfl⟩
              have HR3 : Hid (ltO eb o = r3) := by show _ = _; rw [HQ.out]; exact hr3
              have hl3 := refless_any wl _ _ eb q r3 (HEB.out.below (bsplit HBB.out HBr.out) (Nat.le_refl _)) (hq.below (bsplit HBB.out HBr.out) (Nat.le_refl _)) hr3
              clear hq hr3
              go_wp2_with fail
              refine hl3.mono ?_
              rintro e wm ⟨rfl, hwm⟩
              subst hwm
              clear hl3
              cases r3
              · have HUP : Hid (updP a sm9 o eb = o) := by show _ = _; unfold updP; rw [if_neg (fun h => by rw [HR3.out] at h; exact absurd h.2 (by simp))]
                go_wp2_with fail
                go_roundg (gk - 1)
                case measure => exact y9
                case rel => exact ⟨k + 1, n, c, p, true, y8, by go_num, rfl, rfl, by show BstR _ _ _ _; rw [HTK.out, HUP.out]; exact HBS.out, HBQ⟩
              · have HUP : Hid (updP a sm9 o eb = some eb) := by show _ = _; unfold updP; rw [if_pos ⟨by rw [HC.out]; simp, HR3.out⟩]
                go_wp2_with fail
                go_roundg (gk - 1)
                case measure => exact y9
                case rel => exact ⟨k + 1, en, ec, ea, true, y8, by go_num, rfl, rfl, by show BstR _ _ _ _; rw [HTK.out, HUP.out]; exact ⟨HEB.out, rfl⟩, HBQ⟩
        · have hkE : k = 2 := by omega
          subst hkE
          have HBr : Hid (Below w.heap.size w wr) := bsplit HBW.out HBQ.out
          have hkI : ¬ (2 : Int) < 2 := by omega
          go_wp2_with fail
          go_roundg (G - 1)
          case measure => omega
          case rel => exact ⟨j + 1, n, c, p, bb, by rw [← hG]; exact q2, by go_num, rfl, rfl, by show BstR _ _ _ _; unfold nxtP; rw [HNX.out]; exact HBS.out, HBr⟩
    · have hjN : j = N := by omega
      subst hjN
      have HT : Hid (ss.take j = ss) := by show _ = _; rw [← HN.out, List.take_length]
      go_wp2_with fail
      go_wp2
      go_ret2
      refine ⟨_, bb, rfl, ?_, HB.out⟩
      have h9 := HBS.out
      rw [HT.out] at h9
      exact h9

end Go.Proofs.Ytifdomhmmhepcaa

/- bartizanref09.Fragments. -/
namespace Go.Proofs.Ytifdomhmmhepcaa
set_option maxRecDepth 100000
open Go.RowKit
set_option linter.unusedVariables false
set_option linter.unusedSimpArgs false

theorem bst_next (ss : List SpB) (p : List UInt8) (seq j : Nat) (h : j < ss.length) : bstN (ss.take (j + 1)) p seq = bstS p seq (bstN (ss.take j) p seq) ss[j] := by
  unfold bstN
  rw [List.take_succ_eq_append_getElem h, List.foldl_append]
  rfl

set_option maxHeartbeats 16000000 in
theorem rfrag_any (w : World) (v : Value) (ss : List SpB) (hv : RdS w v ss) (hR : ∀ s ∈ ss, 1 ≤ s.2.2 ∧ s.2.2 < 144115188075855872) (hn : ss.length ≤ 100) :
    Calls Try.prog 22 #[v] w (FrgPost w ss) := by
  obtain ⟨i0, hi, hz0, hz1, hz2⟩ := info_parts infoSp
  have HV : Hid (RdS w v ss) := hv
  have hnx := rnext_any w w v (.slice none 0 0) ss [] true hv (.inl ⟨rfl, rfl⟩) (Below.refl _ _)
  rw [nxt_first] at hnx
  obtain ⟨ao, cap, rfl, h1, h2, _⟩ := hv
  unfold maxLen at h2
  obtain ⟨N, hN⟩ : ∃ N, ss.length = N := ⟨_, rfl⟩
  rw [hN] at h1 HV hn hnx ⊢
  have HN : Hid (ss.length = N) := hN
  have HR : Hid (∀ s ∈ ss, 1 ≤ s.2.2 ∧ s.2.2 < 144115188075855872) := hR
  have HPL : Hid ((plcs ss).length ≤ 2 * N) := by show _ ≤ _; rw [← hN]; exact plcs_len ss
  obtain ⟨T, hT⟩ : ∃ T, 2 * N = T := ⟨_, rfl⟩
  have hTI : (2 : Int) * (N : Int) = (T : Int) := by omega
  have HT : Hid (2 * N = T) := hT
  clear hN hR hT
  go_enter Try.func22, Try.ntmps22
  go_wp2_with fail
  refine hnx.mono ?_
  rintro e w1 ⟨bv, bb, rfl, hbs, hb1⟩
  have HB1 : Hid (Below w.heap.size w w1) := hb1
  clear hnx hb1
  by_cases hN0 : N = 0
  · subst hN0
    have hss : ss = [] := List.eq_nil_of_length_eq_zero HN.out
    have HF : Hid (fragN ss = []) := by show _ = _; rw [hss]; rfl
    clear hss hbs hTI
    go_wp2_with fail
    go_loopg [3, 20] 0 (fun gk av iv wr => av = .slice none 0 0 ∧ iv = .int .i64 0 ∧ wr = w1)
    case atStart => exact ⟨rfl, rfl, rfl⟩
    case round =>
      obtain ⟨rfl, rfl, rfl⟩ := hrel
      go_wp2_with fail
      go_wp2
      go_ret
      exact ⟨_, rfl, by rw [HF.out]; exact LsS.nil _ _, HB1.out⟩
  have hP0 : 0 < (plcs ss).length := by
    have hs0 : 0 < ss.length := by rw [HN.out]; omega
    exact List.length_pos_of_mem (mem_plcs.2 ⟨ss[0], List.getElem_mem hs0, .inl rfl⟩)
  rw [List.getElem?_eq_getElem hP0] at hbs
  obtain ⟨hrd0, hbb⟩ := hbs
  subst hbb
  obtain ⟨pa0, pc0, ebv⟩ := hrd0.len
  obtain ⟨pn0, hpn0⟩ : ∃ n, (plcs ss)[0].length = n := ⟨_, rfl⟩
  rw [hpn0] at ebv
  subst ebv
  have HRD0 : Hid (Rd w (.slice pa0 pn0 pc0) (plcs ss)[0]) := hrd0
  clear hrd0 hpn0
  go_wp2_with fail
  go_loopg [3, 4, 20] T (fun gk ov av iv wr => ∃ i d f pn pc : Nat, ∃ oa pa : Option Addr, ∃ os : List SpC, gk + i = T ∧ iv = .int .i64 (i : Int) ∧ ov = .slice oa d f ∧ av = .slice pa pn pc ∧ ∃ hiP : i < (plcs ss).length, Hid (os.length = d ∧ os.map (·.e) = fragTo ss (plcs ss) i) ∧ Hid (Rd w av (plcs ss)[i]) ∧ Hid (RowT w w.heap.size wr ov os) ∧ Hid (Below w.heap.size w wr))
  case atStart => exact ⟨0, 0, 0, pn0, pc0, none, pa0, [], by omega, rfl, rfl, rfl, hP0, ⟨rfl, rfl⟩, HRD0, RowT.nil _ _ _, HB1⟩
  case round =>
    obtain ⟨i, d, f, pn, pc, oa, pa, os, hj, rfl, rfl, rfl, hiP, HDO, HRA, HA, HB⟩ := hrel
    have hiT : i < T := by have := HPL.out; have := HT.out; omega
    obtain ⟨q1, q2⟩ := gk_nxt hj hiT
    have hnx := rnext_any w wr (.slice ao N cap) (.slice pa pn pc) ss (plcs ss)[i] false HV.out HRA.out HB.out
    rw [nxt_next ss i hiP] at hnx
    have hiI : (i : Int) < (T : Int) := by omega
    go_wp2_with fail
    refine hnx.mono ?_
    rintro e w2 ⟨bv, bb, rfl, hbs, hb2⟩
    have HB2 : Hid (Below w.heap.size w w2) := bsplit HB.out hb2
    have HA2 : Hid (RowT w w.heap.size w2 (.slice oa d f) os) := HA.out.below hb2
    clear hnx hb2 HA HB
    by_cases hiP2 : i + 1 < (plcs ss).length
    · rw [List.getElem?_eq_getElem hiP2] at hbs
      obtain ⟨hrd, hbb⟩ := hbs
      subst hbb
      obtain ⟨pa2, pc2, ebv⟩ := hrd.len
      obtain ⟨pn2, hpn2⟩ : ∃ n, (plcs ss)[i + 1].length = n := ⟨_, rfl⟩
      rw [hpn2] at ebv
      subst ebv
      obtain ⟨p, hp⟩ : ∃ p, (plcs ss)[i] = p := ⟨_, rfl⟩
      obtain ⟨p2, hp2⟩ : ∃ p, (plcs ss)[i + 1] = p := ⟨_, rfl⟩
      have HP : Hid ((plcs ss)[i] = p ∧ (plcs ss)[i + 1] = p2) := ⟨hp, hp2⟩
      rw [hp2] at hrd
      have HRT : Hid (Rd w (.slice pa2 pn2 pc2) p2) := hrd
      have HRP : Hid (Rd w (.slice pa pn pc) p) := by have h9 := HRA.out; rw [hp] at h9; exact h9
      obtain ⟨ns, hns⟩ : ∃ z, sqs ss p = z := ⟨_, rfl⟩
      have HNS : Hid (sqs ss p = ns) := hns
      have HNL : Hid (ns.length ≤ N) := by show _ ≤ _; rw [← hns, ← HN.out]; exact sqs_len ss p
      have HN1 : Hid (∀ n ∈ ns, 1 ≤ n) := by
        intro n hn
        rw [← hns] at hn
        obtain ⟨s, hs, _, e⟩ := mem_sqs.1 hn
        rw [← e]
        exact (HR.out s hs).1
      have HDB : Hid (os.length ≤ i * 100 ∧ i ≤ 200) := by
        refine ⟨?_, by have := HPL.out; omega⟩
        have h9 := congrArg List.length HDO.out.2
        rw [List.length_map] at h9
        have h8 := fragTo_len ss (plcs ss) i
        rw [HN.out] at h8
        have h7 : i * N ≤ i * 100 := Nat.mul_le_mul_left _ hn
        omega
      obtain ⟨G, hG⟩ : ∃ G, gk = G := ⟨_, rfl⟩
      clear hrd hpn2 hp hp2 hns
      go_wp2_with fail
      go_loopg [3, 8, 34] N (fun gq ov sv mv wq => ∃ m d f sq : Nat, ∃ oa : Option Addr, ∃ os : List SpC, (N ≤ gq + m ∧ m ≤ N ∧ m ≤ ns.length) ∧ mv = .int .i64 (m : Int) ∧ ov = .slice oa d f ∧ sv = .int .u64 (sq : Int) ∧ Hid ((m = 0 ∧ sq = 144115188075855872) ∨ ∃ h : m - 1 < ns.length, 0 < m ∧ sq = ns[m - 1]) ∧ Hid (os.length = d ∧ d ≤ i * 100 + m) ∧ Hid (os.map (·.e) = fragTo ss (plcs ss) i ++ (ns.take m).map (fun n => (p, p2, n))) ∧ Hid (RowT w w.heap.size wq ov os) ∧ Hid (Below w.heap.size w wq))
      case atStart => exact ⟨0, d, f, 144115188075855872, oa, os, by omega, rfl, rfl, rfl, .inl ⟨rfl, rfl⟩, ⟨HDO.out.1, by have h8 := HDB.out.1; have h9 := HDO.out.1; omega⟩, by show _ = _; rw [HDO.out.2, List.take_zero, List.map_nil, List.append_nil], HA2, HB2⟩
      case round =>
        clear HA2 HB2 HDO
        obtain ⟨m, d, f, sq, oa, os, hm, rfl, rfl, rfl, HSQ, HD9, HOE, HA, HB⟩ := hrel
        have HD : Hid (os.length = d) := HD9.out.1
        by_cases hlt : m < N
        · have hmI : (m : Int) < (N : Int) := by omega
          have HBA : Hid (bstN ss p sq = ns.getD m 0) := by
            show _ = _
            rw [← HNS.out]
            have h9 := HSQ.out
            rw [← HNS.out] at h9
            exact bst_at HR.out m (by rw [HNS.out]; exact hm.2.2) sq h9
          obtain ⟨G2, hG2⟩ : ∃ G, gk = G := ⟨_, rfl⟩
          go_wp2_with fail
          go_loopg [9, 38] N (fun gy bv jv wy => ∃ j be : Nat, gy + j = N ∧ jv = .int .i64 (j : Int) ∧ bv = .int .u64 (be : Int) ∧ Hid (be = bstN (ss.take j) p sq) ∧ Hid (RowT w w.heap.size wy (.slice oa d f) os) ∧ Hid (Below w.heap.size w wy))
          case atStart => exact ⟨0, 0, by omega, rfl, rfl, rfl, HA, HB⟩
          case round =>
            clear HA HB
            obtain ⟨j, be, hjN, rfl, rfl, HBE, HA, HB⟩ := hrel
            by_cases hlt3 : j < N
            · have hlt2 : j < ss.length := by rw [HN.out]; exact hlt3
              obtain ⟨y9, y8⟩ := gk_nxt hjN hlt3
              obtain ⟨_, _, e, _, _, h3⟩ := rdS_below HV.out HB.out (Nat.le_refl _)
              rw [HN.out] at e
              cases e
              obtain ⟨b, off, rfl, xv, yv, c0, c1, c2, rx, ry⟩ := h3 j hlt2
              obtain ⟨x1, x2, ex⟩ := rx.len
              obtain ⟨y1, y2, ey⟩ := ry.len
              subst ex ey
              obtain ⟨⟨sl, sm, qq⟩, ho⟩ : ∃ o, ss[j] = o := ⟨_, rfl⟩
              rw [ho] at c0 c1 c2 rx ry
              simp only at c0 c1 c2 rx ry
              obtain ⟨nl, hnl⟩ : ∃ nl, sl.length = nl := ⟨_, rfl⟩
              obtain ⟨ml, hml⟩ : ∃ ml, sm.length = ml := ⟨_, rfl⟩
              rw [hnl] at c0 rx
              rw [hml] at c1 ry
              have hb0 := below_box4 wr (.cells #[.slice x1 nl x2, .slice y1 ml y2, .int .u64 (qq : Int)] 32)
              have BX := box_new wr (.slice x1 nl x2) (.slice y1 ml y2) (.int .u64 (qq : Int)) 32
              obtain ⟨r, hr⟩ : ∃ r, covB sl sm p = r := ⟨_, rfl⟩
              have hcv := rtcovers_any (wr.alloc (.cells #[.slice x1 nl x2, .slice y1 ml y2, .int .u64 (qq : Int)] 32)) (.slice x1 nl x2) (.slice y1 ml y2) (.slice pa pn pc) sl sm p (qq : Int) r (rx.below hb0 (Nat.le_refl _)) (ry.below hb0 (Nat.le_refl _)) ((HRP.out.below HB.out (Nat.le_refl _)).below hb0 (Nat.le_refl _)) hr
              have HX : Hid (bstN (ss.take (j + 1)) p sq = if r = true ∧ qq < sq ∧ be < qq then qq else be) := by
                show _ = _
                rw [bst_next ss p sq j hlt2, ho, ← HBE.out, ← hr]
                rfl
              have HA1 : Hid (RowT w w.heap.size (wr.alloc (.cells #[.slice x1 nl x2, .slice y1 ml y2, .int .u64 (qq : Int)] 32)) (.slice oa d f) os) := HA.out.below hb0
              have HB1' : Hid (Below w.heap.size w (wr.alloc (.cells #[.slice x1 nl x2, .slice y1 ml y2, .int .u64 (qq : Int)] 32))) := bsplit HB.out hb0
              have BX' := BX
              obtain ⟨z0, z1, z2, _, _, _⟩ := BX'
              clear ho hb0 h3 rx ry hnl hml hr
              go_wp2_with fail
              refine hcv.mono ?_
              rintro e w5 ⟨rfl, hb5⟩
              have HA5 : Hid (RowT w w.heap.size w5 (.slice oa d f) os) := HA1.out.below hb5
              have HB5 : Hid (Below w.heap.size w w5) := bsplit HB1'.out hb5
              clear z0 z1 z2
              obtain ⟨z0, z1, z2, _, _, _⟩ := BX.below hb5 (Nat.le_refl _)
              clear hcv hb5 BX c0 c1 c2
              cases r
              · go_wp2_with fail
                go_roundg (gk - 1)
                case measure => exact y9
                case rel => exact ⟨j + 1, be, y8, by go_num, rfl, by show _ = _; rw [HX.out, if_neg (fun h => by simp at h)], HA5, HB5⟩
              · by_cases hq1 : qq < sq
                · have hq1I : (qq : Int) < (sq : Int) := by omega
                  by_cases hq2 : be < qq
                  · have hq2I : (be : Int) < (qq : Int) := by omega
                    go_wp2_with fail
                    go_roundg (gk - 1)
                    case measure => exact y9
                    case rel => exact ⟨j + 1, qq, y8, by go_num, rfl, by show _ = _; rw [HX.out, if_pos ⟨by simp, hq1, hq2⟩], HA5, HB5⟩
                  · have hq2I : ¬ (be : Int) < (qq : Int) := by omega
                    go_wp2_with fail
                    go_roundg (gk - 1)
                    case measure => exact y9
                    case rel => exact ⟨j + 1, be, y8, by go_num, rfl, by show _ = _; rw [HX.out, if_neg (fun h => hq2 h.2.2)], HA5, HB5⟩
                · have hq1I : ¬ (qq : Int) < (sq : Int) := by omega
                  go_wp2_with fail
                  go_roundg (gk - 1)
                  case measure => exact y9
                  case rel => exact ⟨j + 1, be, y8, by go_num, rfl, by show _ = _; rw [HX.out, if_neg (fun h => hq1 h.2.1)], HA5, HB5⟩
            · have hjE : j = N := by omega
              subst hjE
              have HBV : Hid (be = ns.getD m 0) := by
                show _ = _
                rw [HBE.out, ← HN.out, List.take_length]
                exact HBA.out
              by_cases hbe : be = 0
              · subst hbe
                have hml : m = ns.length := by
                  refine Nat.le_antisymm hm.2.2 (Nat.le_of_not_lt fun h9 => ?_)
                  have h8 := HBV.out
                  rw [show ns.getD m 0 = ns[m] by simp [List.getD, List.getElem?_eq_getElem h9]] at h8
                  have h7 := HN1.out ns[m] (List.getElem_mem h9)
                  omega
                have HME : Hid (sqs ss p = ns ∧ m = ns.length) := ⟨HNS.out, hml⟩
                clear hml
                have HFE : Hid (fragTo ss (plcs ss) (i + 1) = os.map (·.e)) := by
                  show _ = _
                  rw [fragTo_part ss (plcs ss) i hiP2, HOE.out, HP.out.1, HP.out.2, HME.out.1, HME.out.2, List.take_length]
                go_wp2_with fail
                go_roundg (G - 1)
                case measure => omega
                case rel => exact ⟨i + 1, d, f, pn2, pc2, oa, pa2, os, by rw [← hG]; exact q2, by go_num, rfl, rfl, hiP2, ⟨HD.out, HFE.out.symm⟩, by show Rd _ _ _; rw [HP.out.2]; exact HRT.out, HA, HB⟩
              · have hml : m < ns.length := by
                  refine Nat.lt_of_not_le fun h9 => hbe ?_
                  rw [HBV.out]
                  simp [List.getD, List.getElem?_eq_none h9]
                have HBM : Hid (be = ns[m]) := by show _ = _; rw [HBV.out]; simp [List.getD, List.getElem?_eq_getElem hml]
                have hbI : ((be : Int) == 0) = false := by simpa using hbe
                have hbe2 := below_box4 wr (.cells #[.slice pa pn pc, .slice pa2 pn2 pc2, .int .u64 (be : Int)] 32)
                have hlit := laidT3 wr (.slice pa pn pc) (.slice pa2 pn2 pc2) (.int .u64 (be : Int)) 32
                have HBX : Hid (Below w.heap.size w (wr.alloc (.cells #[.slice pa pn pc, .slice pa2 pn2 pc2, .int .u64 (be : Int)] 32))) := bsplit HB.out hbe2
                have hse := HBX.out.size
                have hA9 := HA.out.below hbe2
                have hrow := hA9.1
                rw [HD.out] at hrow
                have hd9 : d ≤ 30000 := by have h8 := HD9.out.2; have h9 := HDB.out.2; omega
                have HPS : Hid (∀ g4 c4 w4, w4.ownsRow w.heap.size 32 3 (.slice (some ⟨g4, 0, none⟩) (d + 1) c4) (d + 1) (flatS os ++ [.slice pa pn pc, .slice pa2 pn2 pc2, .int .u64 (be : Int)]) → (wr.alloc (.cells #[.slice pa pn pc, .slice pa2 pn2 pc2, .int .u64 (be : Int)] 32)).grownBy w4 (Value.slice oa d f).ownBlock → (os ++ [(⟨.slice pa pn pc, .slice pa2 pn2 pc2, (p, p2, be)⟩ : SpC)]).length = d + 1 ∧ RowT w w.heap.size w4 (.slice (some ⟨g4, 0, none⟩) (d + 1) c4) (os ++ [(⟨.slice pa pn pc, .slice pa2 pn2 pc2, (p, p2, be)⟩ : SpC)]) ∧ Below w.heap.size w w4) := by
                  intro g4 c4 w4 hown hgrow
                  have hln : (os ++ [(⟨.slice pa pn pc, .slice pa2 pn2 pc2, (p, p2, be)⟩ : SpC)]).length = d + 1 := by rw [List.length_append, HD.out]; rfl
                  refine ⟨hln, ⟨?_, fun t ht => ?_⟩, HBX.out.grown hgrow HBX.out.size (fun k' e => (hrow.lt k' e).1)⟩
                  · rw [hln, flatS_push]
                    exact hown
                  · rcases List.mem_append.1 ht with h9 | h9
                    · exact HA.out.2 t h9
                    · rw [List.mem_singleton] at h9
                      rw [h9]
                      exact ⟨HRP.out, HRT.out⟩
                have HOE2 : Hid ((os ++ [(⟨.slice pa pn pc, .slice pa2 pn2 pc2, (p, p2, be)⟩ : SpC)]).map (·.e) = fragTo ss (plcs ss) i ++ (ns.take (m + 1)).map (fun n => (p, p2, n))) := by
                  show _ = _
                  rw [List.map_append, HOE.out, List.take_succ_eq_append_getElem hml, List.map_append, ← HBM.out, List.append_assoc]
                  rfl
                clear hbe2 hA9
                go_wp2_with (first | (at_builtin; refine wpList_append_lies _ rfl (.tmp 62) (.tmp 67) 22 rfl w.heap.size 32 i0 (.agg #[.slice none 0 0, .slice none 0 0, .int .u64 0]) 3 56 Try.underlying22 hi hz0 hz1 hz2 rfl (by decide) (.slice oa d f) d (flatS os) rfl hrow ⟨wr.heap.size, 0, none⟩ 1 1 [.slice pa pn pc, .slice pa2 pn2 pc2, .int .u64 (be : Int)] rfl rfl hlit (oneS _ _ _ _ _ _ _) (by decide) (by simp only [maxLen]; omega) (by omega) hse _ rfl ?_; intro g4 c4 w4 hown hgrow hat hlt4; have HP4 : Hid _ := HPS.out g4 c4 w4 hown hgrow; clear hown hgrow hat hlt4) | fail)
                clear hrow hlit hse
                go_roundg (G2 - 1)
                case measure => omega
                case rel => exact ⟨m + 1, d + 1, c4, be, _, os ++ [(⟨.slice pa pn pc, .slice pa2 pn2 pc2, (p, p2, be)⟩ : SpC)], by omega, by go_num, rfl, rfl, .inr ⟨by omega, by omega, HBM.out⟩, ⟨HP4.out.1, by have h8 := HD9.out.2; omega⟩, HOE2, HP4.out.2.1, HP4.out.2.2⟩
        · have hmN : m = N := by omega
          subst hmN
          have hml : m = ns.length := by have := HNL.out; omega
          have HME : Hid (sqs ss p = ns ∧ m = ns.length) := ⟨HNS.out, hml⟩
          clear hml
          have HFE : Hid (fragTo ss (plcs ss) (i + 1) = os.map (·.e)) := by
            show _ = _
            rw [fragTo_part ss (plcs ss) i hiP2, HOE.out, HP.out.1, HP.out.2, HME.out.1, HME.out.2, List.take_length]
          go_wp2_with fail
          go_roundg (G - 1)
          case measure => omega
          case rel => exact ⟨i + 1, d, f, pn2, pc2, oa, pa2, os, by rw [← hG]; exact q2, by go_num, rfl, rfl, hiP2, ⟨HD.out, HFE.out.symm⟩, by show Rd _ _ _; rw [HP.out.2]; exact HRT.out, HA, HB⟩
    · rw [List.getElem?_eq_none (by omega)] at hbs
      obtain ⟨ebv, ebb⟩ := hbs
      subst ebv ebb
      have HFN : Hid (os.map (·.e) = fragN ss) := by
        show _ = _
        unfold fragN
        rw [HDO.out.2, show (plcs ss).length - 1 = i by omega]
      go_wp2_with fail
      go_wp2
      go_ret
      exact ⟨_, rfl, by rw [← HFN.out]; exact HA2.out.rd HB2.out, HB2.out⟩

end Go.Proofs.Ytifdomhmmhepcaa

/- TombFragments. -/
namespace Go.Proofs.Ytifdomhmmhepcaa
set_option maxRecDepth 100000
open Go.ChangeShapes Go.WideShapes Go.ChangeAt Go.RowKit
set_option linter.unusedVariables false
set_option linter.unusedSimpArgs false

theorem rightS_idem (es : List SpB) : rightS (rightS es) = rightS es := by
  unfold rightS
  rw [List.filter_filter]
  simp

set_option maxHeartbeats 8000000 in
theorem tfrags (w : World) (v0 : Value) (l : List SpB) (h0 : ArgS w v0 l) :
    Calls Try.prog 4 #[v0] w fun e w' => e = .returned (.bool true) ∧ Below w.heap.size w w' := by
  obtain ⟨a0, c0, rfl⟩ := LsS.shape h0
  obtain ⟨n0, hn0⟩ : ∃ n, l.length = n := ⟨_, rfl⟩
  rw [hn0] at h0 ⊢
  have H0 : Hid (ArgS w (.slice a0 n0 c0) l) := h0
  clear h0 hn0
  have haw := tawake_any w
  go_enter Try.func4, Try.ntmps4
  go_wp2_with fail
  refine haw.mono ?_
  rintro e w1 ⟨rfl, hb1⟩
  have hf1 := fewsp_any w1 _ l 14 (argS_below H0.out hb1 (Nat.le_refl _)) (by decide)
  have HB1 : Hid (Below w.heap.size w w1) := hb1
  clear haw hb1
  go_wp2_with fail
  refine hf1.mono ?_
  rintro e w2 ⟨fv, rfl, al, hb2⟩
  have HB2 : Hid (Below w.heap.size w w2) := bsplit HB1.out hb2
  have hri := rright_any w2 fv (fewS 14 l) al.rd (by have := fewS_len 14 l; omega)
  obtain ⟨R, hR⟩ : ∃ R, rightS (fewS 14 l) = R := ⟨_, rfl⟩
  have HR : Hid (R.length ≤ 14 ∧ rightS R = R ∧ Up9 R ∧ (∀ s ∈ R, s.1.length ≤ 1000 ∧ s.2.1.length ≤ 1000) ∧ (∀ s ∈ R, 1 ≤ s.2.2 ∧ s.2.2 < 144115188075855872)) := by
    rw [← hR]
    exact ⟨Nat.le_trans (rightS_len _) (fewS_len _ _), rightS_idem _, right_up _, right_lens _, fun s hs => by have h9 := chk_ok (List.mem_filter.1 hs).2; omega⟩
  rw [hR] at hri
  clear hf1 al hb2 hR
  go_wp2_with fail
  refine hri.mono ?_
  rintro e w3 ⟨lv, rfl, hl3, hb3⟩
  have HB3 : Hid (Below w.heap.size w w3) := bsplit HB2.out hb3
  have hnw := tnew_any w3 lv R hl3 (by have := HR.out.1; omega)
  rw [HR.out.2.1] at hnw
  obtain ⟨la, lc, elv⟩ := hl3.shape
  subst elv
  obtain ⟨nR, hnR⟩ : ∃ n, R.length = n := ⟨_, rfl⟩
  rw [hnR] at hl3 hnw ⊢
  have HL3 : Hid (RdS w3 (.slice la nR lc) R) := hl3
  obtain ⟨ta, hta⟩ : ∃ z, w3.heap.size = z := ⟨_, rfl⟩
  have HTA : Hid (w3.heap.size = ta) := hta
  rw [hta] at hnw
  clear hri hb3 hnR hl3 hta
  go_wp2_with fail
  refine hnw.mono ?_
  rintro e w4 ⟨rfl, sa, hb4⟩
  rw [← HTA.out] at hb4
  have HB4 : Hid (Below w.heap.size w w4) := bsplit HB3.out hb4
  have HL4 : Hid (RdS w4 (.slice la nR lc) R) := rdS_below HL3.out hb4 (Nat.le_refl _)
  obtain ⟨v9, hv9, hr9⟩ := sa.at
  have hfr := tfrag_any w4 ta v9 R hv9 hr9 HR.out.2.2.1 (by have := HR.out.1; omega) HR.out.2.2.2.1
  clear hnw hb4 sa hv9 hr9
  go_wp2_with fail
  refine hfr.mono ?_
  rintro e w5 ⟨gv, rfl, hg5, hb5⟩
  have HB5 : Hid (Below w.heap.size w w5) := bsplit HB4.out hb5
  have hrf := rfrag_any w5 (.slice la nR lc) R (rdS_below HL4.out hb5 (Nat.le_refl _)) HR.out.2.2.2.2 (by have := HR.out.1; omega)
  obtain ⟨F, hF⟩ : ∃ F, fragN R = F := ⟨_, rfl⟩
  have HNB : Hid (F.Pairwise Nb9) := by rw [← hF]; exact frag_nb R
  have HFL : Hid (F.length ≤ 400) := by
    show _ ≤ 400
    rw [← hF]
    have h8 := fragN_len R
    have h9 := HR.out.1
    have h7 : 2 * R.length * R.length ≤ 28 * 14 := Nat.mul_le_mul (by omega) (by omega)
    omega
  have HFF : Hid (fragN R = F) := hF
  rw [hF] at hg5
  obtain ⟨ga, gc, egv⟩ := hg5.shape
  subst egv
  obtain ⟨nF, hnF⟩ : ∃ n, F.length = n := ⟨_, rfl⟩
  rw [hnF] at hg5 ⊢
  have HNF : Hid (F.length = nF) := hnF
  have HG5 : Hid (RdS w5 (.slice ga nF gc) F) := hg5
  clear hfr hb5 hg5 hF hnF
  go_wp2_with fail
  refine hrf.mono ?_
  rintro e w6 ⟨rv, rfl, hr6, hb6⟩
  rw [HFF.out] at hr6
  have HG6 : Hid (RdS w6 (.slice ga nF gc) F) := rdS_below HG5.out hb6 (Nat.le_refl _)
  have HB6 : Hid (Below w.heap.size w w6) := bsplit HB5.out hb6
  have hsm := samesp_any w6 _ rv F F true HG6.out hr6 (by simp)
  clear hrf hr6 hb6
  go_wp2_with fail
  refine hsm.mono ?_
  rintro e w7 ⟨rfl, nn, rfl⟩
  obtain ⟨W7, hW7⟩ : ∃ W, w6.drewN nn = W := ⟨_, rfl⟩
  rw [hW7]
  have HB7 : Hid (Below w.heap.size w W7) := by show Below _ _ _; rw [← hW7]; exact below_drewN HB6.out _
  have HG7 : Hid (RdS W7 (.slice ga nF gc) F) := by show RdS _ _ _; rw [← hW7]; exact HG6.out
  have hgc : nF ≤ gc ∧ gc ≤ 9223372036854775807 := by
    obtain ⟨a9, c9, e9, z1, z2, _⟩ := HG7.out
    rw [HNF.out] at e9 z1
    cases e9
    exact ⟨z1, z2⟩
  have hnF4 : nF ≤ 400 := by have := HFL.out; have := HNF.out; omega
  clear hsm hW7 HG5 HG6 HB1 HB2 HB3 HB4 HB5 HB6 HL3 HL4 HTA
  go_wp2_with fail
  go_loopg [4] nF (fun gk iv wr => ∃ i : Nat, (nF ≤ gk + i ∧ 0 < i ∧ (i ≤ nF ∨ i = 1)) ∧ iv = .int .i64 (i : Int) ∧ Hid (RdS wr (.slice ga nF gc) F) ∧ Hid (Below w.heap.size w wr))
  case atStart => exact ⟨1, by omega, rfl, HG7, HB7⟩
  case round =>
    obtain ⟨i, hi9, rfl, HG, HB⟩ := hrel
    by_cases hlt : i < nF
    · have hi2 : i < F.length := by rw [HNF.out]; exact hlt
      have hi1 : i - 1 < F.length := by omega
      have HNb : Hid (Nb9 F[i - 1] F[i]) := List.pairwise_iff_getElem.1 HNB.out (i - 1) i hi1 hi2 (by omega)
      obtain ⟨_, _, e, _, _, h3⟩ := HG.out
      rw [HNF.out] at e
      cases e
      obtain ⟨b, off, eb, xv, yv, c0, c1, c2, rx, ry⟩ := h3 i hi2
      cases eb
      obtain ⟨b', off', eb', xw, yw, d0, d1, d2, rw9, rv9⟩ := h3 (i - 1) hi1
      cases eb'
      obtain ⟨x1, x2, ex⟩ := rx.len
      obtain ⟨y1, y2, ey⟩ := ry.len
      obtain ⟨x3, x4, ex3⟩ := rw9.len
      obtain ⟨y3, y4, ey3⟩ := rv9.len
      subst ex ey ex3 ey3
      obtain ⟨⟨sl, sm, sq⟩, ho⟩ : ∃ o, F[i] = o := ⟨_, rfl⟩
      obtain ⟨⟨tl, tm, tq⟩, ho2⟩ : ∃ o, F[i - 1] = o := ⟨_, rfl⟩
      rw [ho] at c0 c1 c2 rx ry HNb
      rw [ho2] at d0 d1 d2 rw9 rv9 HNb
      simp only at c0 c1 c2 rx ry d0 d1 d2 rw9 rv9
      obtain ⟨nl, hnl⟩ : ∃ nl, sl.length = nl := ⟨_, rfl⟩
      obtain ⟨ml, hml⟩ : ∃ ml, sm.length = ml := ⟨_, rfl⟩
      obtain ⟨nt, hnt⟩ : ∃ nl, tl.length = nl := ⟨_, rfl⟩
      obtain ⟨mt, hmt⟩ : ∃ ml, tm.length = ml := ⟨_, rfl⟩
      rw [hnl] at c0 rx
      rw [hml] at c1 ry
      rw [hnt] at d0 rw9
      rw [hmt] at d1 rv9
      obtain ⟨ip, hip⟩ : ∃ z, i - 1 = z := ⟨_, rfl⟩
      rw [hip] at d0 d1 d2
      have hipI : (i : Int) - 1 = (ip : Int) := by omega
      have hip0 : (0 : Int) ≤ (ip : Int) := by omega
      have hip1 : (ip : Int) < (nF : Int) := by omega
      have hipN : ip < nF := by omega
      have hiI0 : (0 : Int) ≤ (i : Int) := by omega
      have hiI1 : (i : Int) < (nF : Int) := by omega
      have HWR : Hid (IntKind.i64.wrap (ip : Int) = (ip : Int) ∧ wrap64 (ip : Int) = (ip : Int) ∧ IntKind.i64.wrap ((i : Int) - 1) = (ip : Int) ∧ wrap64 ((i : Int) - 1) = (ip : Int)) := by
        refine ⟨?_, ?_, ?_, ?_⟩
        · rw [IntKind.wrap_i64]; omega
        · unfold wrap64; omega
        · rw [hipI, IntKind.wrap_i64]; omega
        · rw [hipI]; unfold wrap64; omega
      have HX : Hid (Rd wr (.slice x1 nl x2) sl ∧ Rd wr (.slice y1 ml y2) sm ∧ Rd wr (.slice x3 nt x4) tl ∧ Rd wr (.slice y3 mt y4) tm) := ⟨rx, ry, rw9, rv9⟩
      have hblt : b < wr.heap.size := World.block_lt_of_cell? _ _ c0
      have HSX : Hid (∀ W, Below wr.heap.size wr W → (W.cell? ⟨b, off + ip * 3, none⟩ = some (.slice x3 nt x4) ∧ W.cell? ⟨b, off + ip * 3 + 1, none⟩ = some (.slice y3 mt y4) ∧ W.cell? ⟨b, off + ip * 3 + 2, none⟩ = some (.int .u64 (tq : Int))) ∧ W.cell? ⟨b, off + i * 3, none⟩ = some (.slice x1 nl x2) ∧ W.cell? ⟨b, off + i * 3 + 1, none⟩ = some (.slice y1 ml y2) ∧ W.cell? ⟨b, off + i * 3 + 2, none⟩ = some (.int .u64 (sq : Int))) := fun W hW =>
        ⟨⟨(hW.cell (p := ⟨b, off + ip * 3, none⟩) hblt).trans d0, (hW.cell (p := ⟨b, off + ip * 3 + 1, none⟩) hblt).trans d1, (hW.cell (p := ⟨b, off + ip * 3 + 2, none⟩) hblt).trans d2⟩, (hW.cell (p := ⟨b, off + i * 3, none⟩) hblt).trans c0, (hW.cell (p := ⟨b, off + i * 3 + 1, none⟩) hblt).trans c1, (hW.cell (p := ⟨b, off + i * 3 + 2, none⟩) hblt).trans c2⟩
      clear h3 rx ry rw9 rv9 hnl hml hnt hmt ho ho2 hip
      go_wp2_with fail
      obtain ⟨W1, W2, W3, W4⟩ := HWR.out
      go_region_held3 (fun w' => (w'.cell? ⟨b, off + ip * 3, none⟩ = some (.slice x3 nt x4) ∧ w'.cell? ⟨b, off + ip * 3 + 1, none⟩ = some (.slice y3 mt y4) ∧ w'.cell? ⟨b, off + ip * 3 + 2, none⟩ = some (.int .u64 (tq : Int))) ∧ w'.cell? ⟨b, off + i * 3, none⟩ = some (.slice x1 nl x2) ∧ w'.cell? ⟨b, off + i * 3 + 1, none⟩ = some (.slice y1 ml y2) ∧ w'.cell? ⟨b, off + i * 3 + 2, none⟩ = some (.int .u64 (sq : Int)))
        (exact HSX.out _ (by
          repeat (first | with_reducible exact Below.refl _ _ | refine Below.drew ?_ | refine Below.alloc ?_ (by first | exact Nat.le_refl _ | (simp)) _ | refine Below.setCell ?_ (by first | exact Nat.le_refl _ | exact Nat.le_succ _) _))) (fail)
      · clear W1 W2 W3 W4 c0 c1 c2 d0 d1 d2
        have hs1 : (wr.alloc (.cells #[.slice x3 nt x4, .slice y3 mt y4, .int .u64 (tq : Int)] 32)).heap.size = wr.heap.size + 1 := by simp
        have BA := ((box_new wr (.slice x3 nt x4) (.slice y3 mt y4) (.int .u64 (tq : Int)) 32).alloc (.cells #[.slice x1 nl x2, .slice y1 ml y2, .int .u64 (sq : Int)] 32)).drew
        have BB := (box_new (wr.alloc (.cells #[.slice x3 nt x4, .slice y3 mt y4, .int .u64 (tq : Int)] 32)) (.slice x1 nl x2) (.slice y1 ml y2) (.int .u64 (sq : Int)) 32).drew
        rw [hs1] at BB
        have hbW : Below wr.heap.size wr ((wr.alloc (.cells #[.slice x3 nt x4, .slice y3 mt y4, .int .u64 (tq : Int)] 32)).alloc (.cells #[.slice x1 nl x2, .slice y1 ml y2, .int .u64 (sq : Int)] 32)).drew := (((Below.refl _ wr).alloc (Nat.le_refl _) _).alloc (by simp) _).drew
        obtain ⟨W, hW⟩ : ∃ W, ((wr.alloc (.cells #[.slice x3 nt x4, .slice y3 mt y4, .int .u64 (tq : Int)] 32)).alloc (.cells #[.slice x1 nl x2, .slice y1 ml y2, .int .u64 (sq : Int)] 32)).drew = W := ⟨_, rfl⟩
        rw [hW] at BA BB hbW ⊢
        have HG2 : Hid (RdS W (.slice (some ⟨b, off, none⟩) nF gc) F) := rdS_below HG.out hbW (Nat.le_refl _)
        have HB2 : Hid (Below w.heap.size w W) := bsplit HB.out hbW
        have HX2 : Hid (Rd W (.slice x1 nl x2) sl ∧ Rd W (.slice y1 ml y2) sm ∧ Rd W (.slice x3 nt x4) tl ∧ Rd W (.slice y3 mt y4) tm) := ⟨HX.out.1.below hbW (Nat.le_refl _), HX.out.2.1.below hbW (Nat.le_refl _), HX.out.2.2.1.below hbW (Nat.le_refl _), HX.out.2.2.2.below hbW (Nat.le_refl _)⟩
        obtain ⟨k0, k1, k2, _, _, _⟩ := BA
        obtain ⟨z0, z1, z2, _, _, _⟩ := BB
        clear hW hs1 hbW
        by_cases heq : tl = sl
        · have hn9 : tm = sm ∧ sq < tq := HNb.out.1 heq
          have hsm := same_b W _ _ tl sl true HX2.out.2.2.1 HX2.out.1 (by rw [heq]; simp)
          have hsm2 := same_b W _ _ tm sm true HX2.out.2.2.2 HX2.out.2.1 (by rw [hn9.1]; simp)
          have hqI : ¬ (tq : Int) ≤ (sq : Int) := by have := hn9.2; omega
          go_wp2_with fail
          refine hsm.mono ?_
          rintro e wx ⟨rfl, hwx⟩
          subst hwx
          clear hsm
          go_wp2_with fail
          refine hsm2.mono ?_
          rintro e wy ⟨rfl, hwy⟩
          subst hwy
          clear hsm2
          go_wp2_with fail
          go_roundg (gk - 1)
          case measure => omega
          case rel => exact ⟨i + 1, by omega, by go_num, HG2, HB2⟩
        · have hn9 := HNb.out.2 heq
          have hsm := same_b W _ _ tl sl false HX2.out.2.2.1 HX2.out.1 (by simpa using heq)
          have hls := refless_any W _ _ sl tm false HX2.out.1 HX2.out.2.2.2 (decide_eq_false hn9)
          go_wp2_with fail
          refine hsm.mono ?_
          rintro e wx ⟨rfl, hwx⟩
          subst hwx
          clear hsm
          go_wp2_with fail
          refine hls.mono ?_
          rintro e wy ⟨rfl, hwy⟩
          subst hwy
          clear hls
          go_wp2_with fail
          go_roundg (gk - 1)
          case measure => omega
          case rel => exact ⟨i + 1, by omega, by go_num, HG2, HB2⟩
      · clear W1 W2 W3 W4 c0 c1 c2 d0 d1 d2
        have hs1 : (wr.alloc (.cells #[.slice x1 nl x2, .slice y1 ml y2, .int .u64 (sq : Int)] 32)).heap.size = wr.heap.size + 1 := by simp
        have BA := (box_new (wr.alloc (.cells #[.slice x1 nl x2, .slice y1 ml y2, .int .u64 (sq : Int)] 32)) (.slice x3 nt x4) (.slice y3 mt y4) (.int .u64 (tq : Int)) 32).drew
        have BB := ((box_new wr (.slice x1 nl x2) (.slice y1 ml y2) (.int .u64 (sq : Int)) 32).alloc (.cells #[.slice x3 nt x4, .slice y3 mt y4, .int .u64 (tq : Int)] 32)).drew
        rw [hs1] at BA
        have hbW : Below wr.heap.size wr ((wr.alloc (.cells #[.slice x1 nl x2, .slice y1 ml y2, .int .u64 (sq : Int)] 32)).alloc (.cells #[.slice x3 nt x4, .slice y3 mt y4, .int .u64 (tq : Int)] 32)).drew := (((Below.refl _ wr).alloc (Nat.le_refl _) _).alloc (by simp) _).drew
        obtain ⟨W, hW⟩ : ∃ W, ((wr.alloc (.cells #[.slice x1 nl x2, .slice y1 ml y2, .int .u64 (sq : Int)] 32)).alloc (.cells #[.slice x3 nt x4, .slice y3 mt y4, .int .u64 (tq : Int)] 32)).drew = W := ⟨_, rfl⟩
        rw [hW] at BA BB hbW ⊢
        have HG2 : Hid (RdS W (.slice (some ⟨b, off, none⟩) nF gc) F) := rdS_below HG.out hbW (Nat.le_refl _)
        have HB2 : Hid (Below w.heap.size w W) := bsplit HB.out hbW
        have HX2 : Hid (Rd W (.slice x1 nl x2) sl ∧ Rd W (.slice y1 ml y2) sm ∧ Rd W (.slice x3 nt x4) tl ∧ Rd W (.slice y3 mt y4) tm) := ⟨HX.out.1.below hbW (Nat.le_refl _), HX.out.2.1.below hbW (Nat.le_refl _), HX.out.2.2.1.below hbW (Nat.le_refl _), HX.out.2.2.2.below hbW (Nat.le_refl _)⟩
        obtain ⟨k0, k1, k2, _, _, _⟩ := BA
        obtain ⟨z0, z1, z2, _, _, _⟩ := BB
        clear hW hs1 hbW
        by_cases heq : tl = sl
        · have hn9 : tm = sm ∧ sq < tq := HNb.out.1 heq
          have hsm := same_b W _ _ tl sl true HX2.out.2.2.1 HX2.out.1 (by rw [heq]; simp)
          have hsm2 := same_b W _ _ tm sm true HX2.out.2.2.2 HX2.out.2.1 (by rw [hn9.1]; simp)
          have hqI : ¬ (tq : Int) ≤ (sq : Int) := by have := hn9.2; omega
          go_wp2_with fail
          refine hsm.mono ?_
          rintro e wx ⟨rfl, hwx⟩
          subst hwx
          clear hsm
          go_wp2_with fail
          refine hsm2.mono ?_
          rintro e wy ⟨rfl, hwy⟩
          subst hwy
          clear hsm2
          go_wp2_with fail
          go_roundg (gk - 1)
          case measure => omega
          case rel => exact ⟨i + 1, by omega, by go_num, HG2, HB2⟩
        · have hn9 := HNb.out.2 heq
          have hsm := same_b W _ _ tl sl false HX2.out.2.2.1 HX2.out.1 (by simpa using heq)
          have hls := refless_any W _ _ sl tm false HX2.out.1 HX2.out.2.2.2 (decide_eq_false hn9)
          go_wp2_with fail
          refine hsm.mono ?_
          rintro e wx ⟨rfl, hwx⟩
          subst hwx
          clear hsm
          go_wp2_with fail
          refine hls.mono ?_
          rintro e wy ⟨rfl, hwy⟩
          subst hwy
          clear hls
          go_wp2_with fail
          go_roundg (gk - 1)
          case measure => omega
          case rel => exact ⟨i + 1, by omega, by go_num, HG2, HB2⟩
    · have hiI : ¬ (i : Int) < (nF : Int) := by omega
      go_wp2_with fail
      go_wp2
      go_ret
      exact ⟨rfl, HB.out⟩

theorem tombFragments_walk (a0 : Option Addr) (len0 cap0 : Nat) (z0 : List SpB) (w : World) (w0 : ArgS w (.slice a0 len0 cap0) z0 ∧ ∀ e ∈ z0, e.2.2 < 18446744073709551616) :
    Calls Try.prog 4 #[.slice a0 len0 cap0] w fun e w' => e = .returned (.bool true) ∧ Below w.heap.size w w' :=
  tfrags w _ z0 w0.1

end Go.Proofs.Ytifdomhmmhepcaa
