/- (*tomb.Set).places and tomb.seqs. -/
import Derived.Test.YtifdomhmmhepcaaTbCompN
import Derived.Deep.AppendLies
namespace Go.Proofs.Ytifdomhmmhepcaa
set_option maxRecDepth 20000
open Go.RowKit
set_option linter.unusedVariables false
set_option linter.unusedSimpArgs false

theorem laidT1 (w : World) (v0 : Value) (t : TypeId) : ∀ j u, [v0][j]? = some u → (w.alloc (.cells #[v0] t)).cell? ((⟨w.heap.size, 0, none⟩ : Addr).add j) = some u := by
  intro j u hu
  rw [Addr.add_lit, Nat.zero_add]
  have hg : (w.alloc (.cells #[v0] t)).heap[w.heap.size]? = some (.cells #[v0] t) := heap_alloc_new w _
  rw [cell_of_row _ _ j _ _ _ hg]
  simpa using hu

theorem laidT2 (w : World) (v0 v1 : Value) (t : TypeId) : ∀ j u, [v0, v1][j]? = some u → (w.alloc (.cells #[v0, v1] t)).cell? ((⟨w.heap.size, 0, none⟩ : Addr).add j) = some u := by
  intro j u hu
  rw [Addr.add_lit, Nat.zero_add]
  have hg : (w.alloc (.cells #[v0, v1] t)).heap[w.heap.size]? = some (.cells #[v0, v1] t) := heap_alloc_new w _
  rw [cell_of_row _ _ j _ _ _ hg]
  simpa using hu

theorem laidT3 (w : World) (v0 v1 v2 : Value) (t : TypeId) : ∀ j u, [v0, v1, v2][j]? = some u → (w.alloc (.cells #[v0, v1, v2] t)).cell? ((⟨w.heap.size, 0, none⟩ : Addr).add j) = some u := by
  intro j u hu
  rw [Addr.add_lit, Nat.zero_add]
  have hg : (w.alloc (.cells #[v0, v1, v2] t)).heap[w.heap.size]? = some (.cells #[v0, v1, v2] t) := heap_alloc_new w _
  rw [cell_of_row _ _ j _ _ _ hg]
  simpa using hu

/-- a slice of spans, cell by cell -/
def RdC (w : World) (v : Value) (cs : List SpC) : Prop :=
  ∃ ao cap, v = .slice ao cs.length cap ∧ cs.length ≤ cap ∧ cap ≤ maxLen ∧ ∀ j (h : j < cs.length), ∃ b off, ao = some ⟨b, off, none⟩ ∧ w.cell? ⟨b, off + j * 3, none⟩ = some cs[j].x ∧ w.cell? ⟨b, off + j * 3 + 1, none⟩ = some cs[j].y ∧ w.cell? ⟨b, off + j * 3 + 2, none⟩ = some (.int .u64 (cs[j].e.2.2 : Int)) ∧ GdS w cs[j]

theorem RdC.of {w : World} {v : Value} {ss : List SpB} (h : RdS w v ss) : ∃ cs, RdC w v cs ∧ cs.map (·.e) = ss := by
  obtain ⟨ao, cap, rfl, h1, h2, h3⟩ := h
  have hex : ∀ i, i < ss.length → ∃ t : SpC, (∃ hi : i < ss.length, t.e = ss[i]) ∧ ∃ b off, ao = some ⟨b, off, none⟩ ∧ w.cell? ⟨b, off + i * 3, none⟩ = some t.x ∧ w.cell? ⟨b, off + i * 3 + 1, none⟩ = some t.y ∧ w.cell? ⟨b, off + i * 3 + 2, none⟩ = some (.int .u64 (t.e.2.2 : Int)) ∧ GdS w t := by
    intro i hi
    obtain ⟨b, off, e, x, y, c0, c1, c2, r1, r2⟩ := h3 i hi
    exact ⟨⟨x, y, ss[i]⟩, ⟨hi, rfl⟩, b, off, e, c0, c1, c2, r1, r2⟩
  letI : Inhabited SpC := ⟨⟨.slice none 0 0, .slice none 0 0, ([], [], 0)⟩⟩
  obtain ⟨L, hL⟩ := Deep.choose_lt hex
  refine ⟨(List.range ss.length).map L, ⟨ao, cap, by simp, by simpa using h1, h2, fun j hj => ?_⟩, ?_⟩
  · have hj' : j < ss.length := by simpa using hj
    obtain ⟨_, b, off, e, c0, c1, c2, g⟩ := hL j hj'
    exact ⟨b, off, e, by simpa using c0, by simpa using c1, by simpa using c2, by simpa using g⟩
  · apply List.ext_getElem
    · simp
    · intro j h1 h2
      have hj' : j < ss.length := h2
      obtain ⟨⟨_, e⟩, _⟩ := hL j hj'
      simp [e]

theorem RdC.below {w w' : World} {v : Value} {cs : List SpC} {B : Nat} (h : RdC w v cs) (hb : Below B w w') (hB : w.heap.size ≤ B) : RdC w' v cs := by
  obtain ⟨ao, cap, rfl, h1, h2, h3⟩ := h
  refine ⟨ao, cap, rfl, h1, h2, fun j hj => ?_⟩
  obtain ⟨b, off, e, c0, c1, c2, r1, r2⟩ := h3 j hj
  have hl : b < B := Nat.lt_of_lt_of_le (World.block_lt_of_cell? w _ c0) hB
  exact ⟨b, off, e, (hb.cell (p := ⟨b, off + j * 3, none⟩) hl).trans c0, (hb.cell (p := ⟨b, off + j * 3 + 1, none⟩) hl).trans c1, (hb.cell (p := ⟨b, off + j * 3 + 2, none⟩) hl).trans c2, r1.below hb hB, r2.below hb hB⟩

theorem RdC.gd {w : World} {v : Value} {cs : List SpC} (h : RdC w v cs) : ∀ t ∈ cs, GdS w t := by
  intro t ht
  obtain ⟨ao, cap, rfl, h1, h2, h3⟩ := h
  obtain ⟨j, hj, rfl⟩ := List.getElem_of_mem ht
  obtain ⟨_, _, _, _, _, _, g⟩ := h3 j hj
  exact g

/-- the places of spans, with their values -/
def plC (cs : List SpC) : List PlC := cs.flatMap (fun t => [(t.x, t.e.1), (t.y, t.e.2.1)])

theorem plC_map (cs : List SpC) : (plC cs).map (·.2) = plB (cs.map (·.e)) := by
  unfold plC plB
  rw [List.map_flatMap, List.flatMap_map]
  rfl

theorem plC_len (cs : List SpC) : (plC cs).length = 2 * cs.length := by
  unfold plC
  induction cs with
  | nil => rfl
  | cons a r ih => rw [List.flatMap_cons, List.length_append, ih]; simp only [List.length_cons, List.length_nil]; omega

theorem plC_next {cs : List SpC} {j : Nat} (h : j < cs.length) : plC (cs.take (j + 1)) = plC (cs.take j) ++ [(cs[j].x, cs[j].e.1), (cs[j].y, cs[j].e.2.1)] := by
  unfold plC
  rw [List.take_succ_eq_append_getElem h, List.flatMap_append]
  rfl

theorem plC_gd {w : World} {cs : List SpC} (h : ∀ t ∈ cs, GdS w t) : ∀ p ∈ plC cs, GdP w p := by
  intro p hp
  obtain ⟨t, ht, h1⟩ := List.mem_flatMap.1 hp
  simp at h1
  rcases h1 with rfl | rfl
  · exact (h t ht).1
  · exact (h t ht).2

theorem infoBy : (Try.prog.info? 29).map (fun i => (i.zero, i.size, i.bytes)) = some (some (.slice none 0 0), 1, 24) := by kernel_rfl
theorem infoU : (Try.prog.info? 30).map (fun i => (i.zero, i.size, i.bytes)) = some (some (.int .u64 0), 1, 8) := by kernel_rfl

theorem ones2 (a b : Option Addr) (n m c d : Nat) : ∀ u ∈ [Value.slice a n c, .slice b m d], u.oneCell' = true := by
  intro u hu
  simp at hu
  rcases hu with rfl | rfl <;> rfl

/-- what places answers -/
def PlcPost (w : World) (cs : List SpC) (e : Ending) (w' : World) : Prop :=
  ∃ v ps, e = .returned v ∧ RowP w w.heap.size w' v ps ∧ ps.map (·.2) = plcs (cs.map (·.e)) ∧ (∀ p ∈ ps, p ∈ plC cs) ∧ Below w.heap.size w w'

theorem plc_is {cs : List SpC} {ps : List PlC} (hp : ps.Perm (plC cs)) (hs : RiseP ps) : (ddTo eqP ps ps.length).map (·.2) = plcs (cs.map (·.e)) := by
  obtain ⟨h1, h2⟩ := ddTo_rise ordB (fun p : PlC => p.2) (l := ps) (eq := eqP) eqP_iff (List.Pairwise.imp (fun {a b} h => by rwa [ltBB_iff]) hs) ps.length (Nat.le_refl _)
  refine srtU_is ordB h1 (fun x => ?_)
  rw [h2 x, List.take_length, ← plC_map]
  exact (hp.map _).mem_iff

set_option maxHeartbeats 4000000 in
theorem tplaces_any (w : World) (t : Nat) (v : Value) (cs : List SpC) (hc : w.cell? ⟨t, 0, none⟩ = some v) (hv : RdC w v cs) (hn : cs.length ≤ 100000) :
    Calls Try.prog 35 #[.pointer (some ⟨t, 0, none⟩)] w (PlcPost w cs) := by
  obtain ⟨i0, hi, hz0, hz1, hz2⟩ := info_parts infoBy
  have HV : Hid (RdC w v cs) := hv
  obtain ⟨ao, cap, rfl, h1, h2, _⟩ := hv
  unfold maxLen at h2
  obtain ⟨N, hN⟩ : ∃ N, cs.length = N := ⟨_, rfl⟩
  rw [hN] at h1 HV hc hn
  have HN : Hid (cs.length = N) := hN
  clear hN
  go_enter Try.func35, Try.ntmps35
  go_wp2_with fail
  go_loopg [3, 11] N (fun gk pv iv wr => ∃ j m c' : Nat, ∃ a' : Option Addr, gk + j = N ∧ iv = .int .i64 (j : Int) ∧ pv = .slice a' m c' ∧ Hid (m = 2 * j ∧ (plC (cs.take j)).length = m) ∧ Hid (RowP w w.heap.size wr pv (plC (cs.take j))) ∧ Hid (Below w.heap.size w wr))
  case atStart => exact ⟨0, 0, 0, none, by omega, rfl, rfl, ⟨rfl, by simp [plC]⟩, ⟨by simp [plC]; exact World.ownsRow_nil _ _ _ _, by simp [plC]⟩, Below.refl _ _⟩
  case round =>
    obtain ⟨j, m, c', a', hj, rfl, rfl, HM, HO, HB⟩ := hrel
    by_cases hlt : j < N
    · have hlt2 : j < cs.length := by rw [HN.out]; exact hlt
      obtain ⟨_, _, e, _, _, h3⟩ := HV.out.below HB.out (Nat.le_refl _)
      rw [HN.out] at e
      cases e
      obtain ⟨b, off, rfl, c0, c1, c2, rx, ry⟩ := h3 j hlt2
      obtain ⟨x1, x2, ex⟩ := rx.len
      obtain ⟨y1, y2, ey⟩ := ry.len
      obtain ⟨q1, q2⟩ := gk_nxt hj hlt
      have HNX : Hid (plC (cs.take (j + 1)) = plC (cs.take j) ++ [(cs[j].x, cs[j].e.1), (cs[j].y, cs[j].e.2.1)]) := plC_next hlt2
      have HEE : Hid (cs[j].x = .slice x1 cs[j].e.1.length x2 ∧ cs[j].y = .slice y1 cs[j].e.2.1.length y2) := ⟨ex, ey⟩
      have HGD : Hid (GdS w cs[j]) := HV.out.gd _ (List.getElem_mem hlt2)
      rw [ex] at c0
      rw [ey] at c1
      obtain ⟨nl, hnl⟩ : ∃ nl, cs[j].e.1.length = nl := ⟨_, rfl⟩
      obtain ⟨ml, hml⟩ : ∃ ml, cs[j].e.2.1.length = ml := ⟨_, rfl⟩
      obtain ⟨sq, hsq⟩ : ∃ z : Int, (cs[j].e.2.2 : Int) = z := ⟨_, rfl⟩
      rw [hnl] at c0 HEE
      rw [hml] at c1 HEE
      rw [hsq] at c2
      have hb0 := below_box wr #[.slice x1 nl x2, .slice y1 ml y2, .int .u64 sq] 32
      obtain ⟨z0, z1, z2, _, _, _⟩ := box_new wr (.slice x1 nl x2) (.slice y1 ml y2) (.int .u64 sq) 32
      have hbe := below_box4 (wr.alloc (.cells #[.slice x1 nl x2, .slice y1 ml y2, .int .u64 sq] 32)) (.cells #[.slice x1 nl x2, .slice y1 ml y2] 29)
      have hlit := laidT2 (wr.alloc (.cells #[.slice x1 nl x2, .slice y1 ml y2, .int .u64 sq] 32)) (.slice x1 nl x2) (.slice y1 ml y2) 29
      have hb2 := hb0
      have HBE : Hid (Below w.heap.size w ((wr.alloc (.cells #[.slice x1 nl x2, .slice y1 ml y2, .int .u64 sq] 32)).alloc (.cells #[.slice x1 nl x2, .slice y1 ml y2] 29))) := bsplit (bsplit HB.out hb2) hbe
      have hse := HBE.out.size
      have hrow := ((HO.out.below hb2).below hbe).1
      rw [HM.out.2] at hrow
      have HLT : Hid (∀ k', (Value.slice a' m c').ownBlock = some k' → w.heap.size ≤ k') := fun k' e => (hrow.lt k' e).1
      have hm9 : m ≤ 200000 := by have := HM.out.1; omega
      have hs1 : (wr.alloc (.cells #[.slice x1 nl x2, .slice y1 ml y2, .int .u64 sq] 32)).heap.size = wr.heap.size + 1 := by simp
      rw [hs1] at hlit
      have HPS : Hid (∀ g4 c4 w4, w4.ownsRow w.heap.size 29 1 (.slice (some ⟨g4, 0, none⟩) (m + 2) c4) (m + 2) ((plC (cs.take j)).map (·.1) ++ [.slice x1 nl x2, .slice y1 ml y2]) → ((wr.alloc (.cells #[.slice x1 nl x2, .slice y1 ml y2, .int .u64 sq] 32)).alloc (.cells #[.slice x1 nl x2, .slice y1 ml y2] 29)).grownBy w4 (Value.slice a' m c').ownBlock → (m + 2 = 2 * (j + 1) ∧ (plC (cs.take (j + 1))).length = m + 2) ∧ RowP w w.heap.size w4 (.slice (some ⟨g4, 0, none⟩) (m + 2) c4) (plC (cs.take (j + 1))) ∧ Below w.heap.size w w4) := by
        intro g4 c4 w4 hown hgrow
        refine ⟨⟨by have := HM.out.1; omega, by rw [HNX.out, List.length_append, HM.out.2]; rfl⟩, ⟨?_, plC_gd (fun t ht => HV.out.gd t (List.mem_of_mem_take ht))⟩, HBE.out.grown hgrow HBE.out.size HLT.out⟩
        rw [HNX.out, List.length_append, HM.out.2, List.map_append]
        simp only [List.map_cons, List.map_nil, List.length_cons, List.length_nil]
        rw [HEE.out.1, HEE.out.2]
        exact hown
      clear hs1 hb0 h3 rx ry hnl hml hsq ex ey hb2 hbe
      go_wp2_with (first | (at_builtin; refine wpList_append_lies _ rfl (.tmp 15) (.tmp 20) 23 rfl w.heap.size 29 i0 (.slice none 0 0) 1 24 Try.underlying23 hi hz0 hz1 hz2 rfl (by decide) (.slice a' m c') m ((plC (cs.take j)).map (·.1)) rfl hrow ⟨wr.heap.size + 1, 0, none⟩ 2 2 [.slice x1 nl x2, .slice y1 ml y2] rfl rfl hlit (ones2 _ _ _ _ _ _) (by decide) (by simp only [maxLen]; omega) (by omega) hse _ rfl ?_; intro g4 c4 w4 hown hgrow hat hlt4; have HP4 : Hid _ := HPS.out g4 c4 w4 hown hgrow; clear hown hgrow hat hlt4) | fail)
      clear hrow hlit hse
      go_roundg (gk - 1)
      case measure => exact q1
      case rel => exact ⟨j + 1, m + 2, c4, _, q2, by go_num, rfl, HP4.out.1, HP4.out.2.1, HP4.out.2.2⟩
    · have hjN : j = N := by omega
      subst hjN
      have HT : Hid (cs.take j = cs) := by show _ = _; rw [← HN.out, List.take_length]
      have hrow := HO.out
      rw [HT.out] at hrow
      have HRO : Hid (RowP w w.heap.size wr (.slice a' m c') (plC cs)) := hrow
      have HML : Hid ((plC cs).length = m) := by have h := HM.out.2; rw [HT.out] at h; exact h
      clear hrow
      by_cases h0 : j = 0
      · subst h0
        have hm0 : m = 0 := by have := HM.out.1; omega
        subst hm0
        have hso := AnyF.slices_SortFunc_none (P := Try.prog) (ρ := sortBy_ren) { sortBy with } a' c' (.func (.func 34) #[] #[]) wr
        change Calls Try.prog 48 _ _ _ at hso
        have hco := pcomp_any w wr w.heap.size (.slice a' 0 c') (plC cs) HRO.out HB.out (Nat.le_refl _)
        go_wp2_with fail
        refine hso.mono ?_
        rintro e w1 ⟨rfl, rfl⟩
        go_wp2_with fail
        refine hco.mono ?_
        rintro e w2 ⟨v', rfl, hr2, hg2, _⟩
        have HR2 : Hid _ := hr2
        have HB2 : Hid (Below w.heap.size w w2) := HB.out.grown hg2 HB.out.size (fun k' e => (HRO.out.1.lt k' e).1)
        clear hso hco hr2 hg2
        go_wp2
        go_ret
        refine ⟨v', _, rfl, HR2.out, ?_, fun p hp => by have h9 := ddTo_mem _ (Nat.le_refl _) p hp; rwa [List.take_length] at h9, HB2.out⟩
        have hcs : plC cs = [] := List.eq_nil_of_length_eq_zero HML.out
        have h9 := plc_is (cs := cs) (ps := plC cs) (List.Perm.refl _) (by rw [hcs]; exact List.Pairwise.nil)
        exact h9
      · have hm0 : 0 < m := by have := HM.out.1; omega
        have hm9 : m ≤ 200000 := by have := HM.out.1; omega
        obtain ⟨g, c9, eg, _⟩ := HRO.out.form (by rw [HML.out]; exact hm0)
        rw [HML.out] at eg
        cases eg
        have hso := psort_any w wr w.heap.size g m c' (plC cs) HML.out HRO.out HB.out (Nat.le_refl _) hm0 (by omega)
        go_wp2_with fail
        refine hso.mono ?_
        rintro e w1 ⟨rfl, ps, hp, hpw, hr1, hg1⟩
        have HB1 : Hid (Below w.heap.size w w1) := HB.out.grown hg1 HB.out.size (fun k' e => (HRO.out.1.lt k' e).1)
        have hco := pcomp_any w w1 w.heap.size _ ps hr1 HB1.out (Nat.le_refl _)
        have HR1 : Hid _ := hr1
        have HPP : Hid (ps.Perm (plC cs) ∧ RiseP ps) := ⟨hp, hpw⟩
        clear hso hr1 hg1 hp hpw
        go_wp2_with fail
        refine hco.mono ?_
        rintro e w2 ⟨v', rfl, hr2, hg2, _⟩
        have HR2 : Hid _ := hr2
        have HB2 : Hid (Below w.heap.size w w2) := HB1.out.grown hg2 HB1.out.size (fun k' e => (HR1.out.1.lt k' e).1)
        clear hco hr2 hg2
        go_wp2
        go_ret
        exact ⟨v', _, rfl, HR2.out, plc_is HPP.out.1 HPP.out.2, fun p hp => HPP.out.1.mem_iff.1 (by have h9 := ddTo_mem _ (Nat.le_refl _) p hp; rwa [List.take_length] at h9), HB2.out⟩

end Go.Proofs.Ytifdomhmmhepcaa
