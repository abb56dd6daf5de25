/- slices.AppendSeq, Collect and SortedFunc of spans. -/
import Derived.Test.YtifdomhmmhepcaaTbVals
import Derived.RangeFuncBox
namespace Go.Proofs.Ytifdomhmmhepcaa
open Go.RowKit Go.Shelf
set_option linter.unusedVariables false
set_option linter.unusedSimpArgs false

attribute [local go_sem] Oper.semAt_some

theorem flatS_push (l : List SpC) (t : SpC) : flatS (l ++ [t]) = flatS l ++ [t.x, t.y, .int .u64 (t.e.2.2 : Int)] := by rw [flatS_append, flatS_one]

/-- the spans of those that were handed out -/
def preS {cs : List SpC} (pre : List {t : SpC // t ∈ cs}) : List SpC := pre.map (·.1)
def AnyV (v : Value) : Prop := v = v
theorem anyV (v : Value) : AnyV v := rfl

set_option maxRecDepth 100000 in
set_option maxHeartbeats 4000000 in
theorem appseq_any (w : World) (Bl : Nat) (v : Value) (cs : List SpC) (hv : RdC w v cs) (cl : w.cell? ⟨Bl, 0, none⟩ = some v) (hn : cs.length ≤ 100000) :
    Calls Try.prog 56 #[.slice none 0 0, .func (.func 46) #[] #[.pointer (some ⟨Bl, 0, none⟩)]] w fun e w' => ∃ v', e = .returned v' ∧ RowT w w.heap.size w' v' cs ∧ Below w.heap.size w w' := by
  obtain ⟨i0, hi, hz0, hz1, hz2⟩ := info_parts infoSp
  have hsq := vals_stops 3 (by omega) w Bl v cs hv cl
  have HG : Hid (∀ t ∈ cs, GdS w t) := hv.gd
  have bO := Boxed.new w 22 (.slice none 0 0)
  have hB0 : Below w.heap.size w (w.alloc (.cells #[.slice none 0 0] 22)) := (Below.refl _ w).alloc (Nat.le_refl _) _
  refine (callsIn_wide (n := 4)).1 ?_
  refine callsIn_of_wp_marks Try.func56 rfl trivial ?_ rfl
  simp only [Try.ntmps56, List.size_toArray, List.length_cons, List.length_nil, Nat.reduceAdd, Nat.reduceSub, Array.replicate_succ, Array.replicate_zero, List.push_toArray, List.append_toArray, List.nil_append, List.cons_append]
  clear hv cl
  gi_wp2_with fail
  refine wpIn_rangeFunc_ownH rfl (by omega) (gf := 46) (lb := #[.pointer (some ⟨Bl, 0, none⟩)]) rfl trivial (enters_of Try.func46 (by kernel_rfl) rfl)
    hsq (fun h k => h.trans k) (belowK_b (by simp)) hB0 (fun _ => rfl)
    (fun (pre : List {t : SpC // t ∈ cs}) W => (∃ v, Boxed W w.heap.size 22 v ∧ W.ownsRow w.heap.size 32 3 v pre.length (flatS (preS pre)) ∧ AnyV v) ∧ Below w.heap.size w W)
    (fun c (pre : List {t : SpC // t ∈ cs}) W => False)
    (OwnFrom.and (Go.Own.from (holdsRow_own w.heap.size w.heap.size 22 32 3 (fun pre : List {t : SpC // t ∈ cs} => pre.length) (fun pre => flatS (preS pre)) (fun pre v => AnyV v)) _) (ownFrom_below (Nat.le_refl _) (by simp)))
    (fun c s A B row hs hg hr => hs)
    ⟨⟨_, bO, World.ownsRow_nil _ _ _ _, anyV _⟩, hB0⟩
    (fun (x : {t : SpC // t ∈ cs}) a' W => ∃ Bx, (W.cell? ⟨Bx, 0, none⟩ = some x.1.x ∧ W.cell? ⟨Bx, 1, none⟩ = some x.1.y ∧ W.cell? ⟨Bx, 2, none⟩ = some (.int .u64 (x.1.e.2.2 : Int))) ∧ a' = { tmps := #[.slice none 0 0, .func (.func 46) #[] #[.pointer (some ⟨Bl, 0, none⟩)], .pointer (some ⟨w.heap.size, 0, none⟩), undef, .slice none 0 0, .pointer (some ⟨Bx, 0, none⟩), .func (.func 46) #[] #[.pointer (some ⟨Bl, 0, none⟩)], spV x.1.x x.1.y (x.1.e.2.2 : Int), undef, undef, undef, undef, undef], defers := [] })
    (fun x a' _ X Y row hs hg hr => by
      obtain ⟨Bx, h2, h3⟩ := hs
      exact ⟨Bx, ⟨cell_kept h2.1 hg (fun r e => (hr r e).2), cell_kept h2.2.1 hg (fun r e => (hr r e).2), cell_kept h2.2.2 hg (fun r e => (hr r e).2)⟩, h3⟩)
    ?assign ?body ?done ?stop
  case assign =>
    rintro l pre x W K ⟨⟨v, hv, hrow, _⟩, hBW⟩ hK
    obtain ⟨rx, ry⟩ := HG.out x.1 x.2
    obtain ⟨x1, xc, ex⟩ := rx.len
    obtain ⟨y1, yc, ey⟩ := ry.len
    have HX : Hid (x.1.x = .slice x1 x.1.e.1.length xc) := ex
    have HY : Hid (x.1.y = .slice y1 x.1.e.2.1.length yc) := ey
    have HK : Hid _ := hK
    have HROW : Hid (W.ownsRow w.heap.size 32 3 v pre.length (flatS (preS pre))) := hrow
    rw [ex, ey]
    clear rx ry ex ey hK hrow
    simp only [spV]
    gi_wp2
    obtain ⟨c0, c1, c2, _, _, _⟩ := box_new W (.slice x1 x.1.e.1.length xc) (.slice y1 x.1.e.2.1.length yc) (.int .u64 (x.1.e.2.2 : Int)) 32
    refine HK.out _ _ ((KeepsOthers.alloc _ _).from _) ((Below.refl _ W).alloc hBW.size _) ⟨⟨v, hv.alloc _, HROW.out.alloc _, anyV _⟩, hBW.alloc hBW.size _⟩ ⟨W.heap.size, ?_, ?_⟩
    · rw [HX.out, HY.out]
      exact ⟨c0, c1, c2⟩
    · rw [HX.out, HY.out]
  case body =>
    rintro l pre x a' W hl hlr ⟨⟨v, hv, hrow, _⟩, hBW⟩ ⟨Bx, ⟨b0, b1, b2⟩, rfl⟩ hpl
    obtain ⟨rx, ry⟩ := HG.out x.1 x.2
    obtain ⟨x1, xc, ex⟩ := rx.len
    obtain ⟨y1, yc, ey⟩ := ry.len
    have HX : Hid (x.1.x = .slice x1 x.1.e.1.length xc ∧ x.1.y = .slice y1 x.1.e.2.1.length yc) := ⟨ex, ey⟩
    rw [ex] at b0
    rw [ey] at b1
    rw [ex, ey]
    have hlit := laidT3 W (.slice x1 x.1.e.1.length xc) (.slice y1 x.1.e.2.1.length yc) (.int .u64 (x.1.e.2.2 : Int)) 32
    have HSN : Hid (flatS (preS (pre ++ [x])) = flatS (preS pre) ++ [.slice x1 x.1.e.1.length xc, .slice y1 x.1.e.2.1.length yc, .int .u64 (x.1.e.2.2 : Int)]) := by
      show _ = _
      unfold preS
      rw [List.map_append, List.map_cons, List.map_nil, flatS_push, ex, ey]
    have HLN : Hid ((pre ++ [x]).length = pre.length + 1) := by show _ = _; simp
    have HMX : Hid (pre.length ≤ 100000) := by show _ ≤ _; omega
    have hc := hv.cell
    clear rx ry ex ey
    simp only [spV]
    gi_wp2_with (gi_at_builtin; refine wpListIn_append_own _ rfl _ _ 22 rfl w.heap.size 32 i0 (.agg #[.slice none 0 0, .slice none 0 0, .int .u64 0]) 3 56 Try.underlying22 hi hz0 hz1 hz2 rfl (by decide) _ _ _ rfl (hrow.alloc _) ⟨W.heap.size, 0, none⟩ 1 1 [.slice x1 x.1.e.1.length xc, .slice y1 x.1.e.2.1.length yc, .int .u64 (x.1.e.2.2 : Int)] rfl rfl hlit (oneS _ _ _ _ _ _ _) (by have := HMX.out; simp only [maxLen]; omega) (by have := HMX.out; omega) (by have := hBW.size; simp; omega) ?_; intro v' w1 hown' hgrow _; obtain ⟨g', cap', rfl⟩ := ownsRow_succ hown'; obtain ⟨hv1, hv2, hr2, hk2, hb2⟩ := hv.appended (by decide) hrow hBW.size (Nat.le_refl _) hown' hgrow; have hc1 := hv1.cell; have hf1 := hv1.frozen)
    refine ⟨hk2.from _, hb2, ⟨_, hv2, ?_, anyV _⟩, hBW.trans hb2⟩
    rw [HSN.out, HLN.out]
    exact hr2
  case done =>
    rintro D ys W hD hys ⟨⟨v, hv, hrow, _⟩, hB⟩ hK
    have hc := hv.cell
    have hyl : ys.length = cs.length := by have := congrArg List.length hys; rwa [List.length_map] at this
    unfold preS at hrow
    rw [hys, hyl] at hrow
    have HROW : Hid (W.ownsRow w.heap.size 32 3 v cs.length (flatS cs)) := hrow
    clear hrow
    gi_wp2
    refine ⟨by simp, .inl ⟨_, _, rfl, run_takeDeferred hK, ?_⟩⟩
    exact ⟨_, results_tmp rfl _ _ _, v, rfl, ⟨ownsRow_putObj HROW.out _ hK rfl, HG.out⟩, hB.trans (belowK_b (w := w) (Nat.le_refl _) W D _ _ (by simp at hD; omega) hK rfl rfl)⟩
  case stop =>
    rintro D c pre W _ _ h _
    exact h.elim

theorem collect_any (w : World) (Bl : Nat) (v : Value) (cs : List SpC) (hv : RdC w v cs) (cl : w.cell? ⟨Bl, 0, none⟩ = some v) (hn : cs.length ≤ 100000) :
    Calls Try.prog 44 #[.func (.func 46) #[] #[.pointer (some ⟨Bl, 0, none⟩)]] w fun e w' => ∃ v', e = .returned v' ∧ RowT w w.heap.size w' v' cs ∧ Below w.heap.size w w' := by
  have h := appseq_any w Bl v cs hv cl hn
  clear hv cl
  go_enter Try.func44, Try.ntmps44
  go_wp2_with fail
  refine h.mono ?_
  rintro e w' ⟨v', rfl, h1, h2⟩
  have H1 : Hid (RowT w w.heap.size w' v' cs ∧ Below w.heap.size w w') := ⟨h1, h2⟩
  clear h h1 h2
  go_wp2
  go_ret
  exact ⟨v', rfl, H1.out.1, H1.out.2⟩

/-- what slices.SortedFunc answers -/
def SrtPost (w : World) (cs : List SpC) (e : Ending) (w' : World) : Prop :=
  ∃ v' ts, e = .returned v' ∧ ts.Perm cs ∧ RiseT ts ∧ RowT w w.heap.size w' v' ts ∧ Below w.heap.size w w'

theorem sorted_any (w : World) (Bl : Nat) (v : Value) (cs : List SpC) (hv : RdC w v cs) (cl : w.cell? ⟨Bl, 0, none⟩ = some v) (hn : cs.length ≤ 100000) :
    Calls Try.prog 31 #[.func (.func 46) #[] #[.pointer (some ⟨Bl, 0, none⟩)], .func (.func 33) #[] #[]] w (SrtPost w cs) := by
  have h := collect_any w Bl v cs hv cl hn
  clear hv cl
  go_enter Try.func31, Try.ntmps31
  go_wp2_with fail
  refine h.mono ?_
  rintro e w1 ⟨v', rfl, h1, h2⟩
  have H1 : Hid (RowT w w.heap.size w1 v' cs ∧ Below w.heap.size w w1) := ⟨h1, h2⟩
  obtain ⟨a, c, rfl, k1, k2⟩ := h1.shape
  clear h h1 h2
  obtain ⟨N, hN⟩ : ∃ N, cs.length = N := ⟨_, rfl⟩
  rw [hN] at H1 hn k1 ⊢
  have HN : Hid (cs.length = N) := hN
  by_cases h0 : N = 0
  · subst h0
    have hso := AnyF.slices_SortFunc_none (P := Try.prog) (ρ := sortSp_ren) { sortSp with } a c (.func (.func 33) #[] #[]) w1
    change Calls Try.prog 45 _ _ _ at hso
    clear hN
    go_wp2_with fail
    refine hso.mono ?_
    rintro e w2 ⟨rfl, rfl⟩
    clear hso
    go_wp2
    go_ret
    refine ⟨_, cs, rfl, List.Perm.refl _, ?_, H1.out.1, H1.out.2⟩
    rw [List.eq_nil_of_length_eq_zero HN.out]
    exact List.Pairwise.nil
  · obtain ⟨g, c9, eg, _⟩ := H1.out.1.form (by rw [HN.out]; omega)
    rw [HN.out] at eg
    cases eg
    have hso := tsort_any w w1 w.heap.size g N c cs hN H1.out.1 H1.out.2 (Nat.le_refl _) (by omega) (by omega)
    clear hN
    go_wp2_with fail
    refine hso.mono ?_
    rintro e w2 ⟨rfl, ts, hp, hr, hrow, hg⟩
    have H2 : Hid (ts.Perm cs ∧ RiseT ts ∧ RowT w w.heap.size w2 (.slice (some ⟨g, 0, none⟩) N c) ts ∧ Below w.heap.size w w2) := ⟨hp, hr, hrow, H1.out.2.grown hg H1.out.2.size (fun k' e => (H1.out.1.1.lt k' e).1)⟩
    clear hso hp hr hrow hg
    go_wp2
    go_ret
    exact ⟨_, ts, rfl, H2.out.1, H2.out.2.1, H2.out.2.2.1, H2.out.2.2.2⟩

end Go.Proofs.Ytifdomhmmhepcaa
