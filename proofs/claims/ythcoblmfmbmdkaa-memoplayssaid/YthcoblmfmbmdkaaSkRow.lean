/- (*skip.List).row's function: it goes along a row. -/
import Derived.Test.YthcoblmfmbmdkaaSkFind
import Derived.RangeFuncNested
import Derived.RangeFuncBound
import Derived.RangeFuncCalls
import Derived.RangeFuncLeaves
import Derived.RangeFuncFrom
import Derived.Shelf.Abstract
import Derived.Shelf.RegionOpen
import Derived.WalkKit
import Derived.OwnWalkIn
import Derived.TacticsInMore
import Derived.LoopNIn
import Derived.LoopIn
namespace Go.Proofs.Ythcoblmfmbmdkaa
open Go.RowKit Go.Shelf
set_option linter.unusedVariables false

attribute [local go_sem] Oper.semAt_some

/-- what a round must keep: the list, and the row's number -/
def KpR (n0 Bh : Nat) (A B : World) : Prop := Below n0 A B ∧ ∀ v, A.cell? ⟨Bh, 0, none⟩ = some v → B.cell? ⟨Bh, 0, none⟩ = some v

theorem kpR_t {n0 Bh : Nat} {A B C : World} (h : KpR n0 Bh A B) (k : KpR n0 Bh B C) : KpR n0 Bh A C := ⟨h.1.trans k.1, fun v hv => k.2 v (h.2 v hv)⟩

theorem kpR_b {n0 Bh : Nat} {w : World} (hn : n0 ≤ w.heap.size) (W : World) (l : Nat) (o o' : Obj) (hl : w.heap.size ≤ l) (h : W.heap[l]? = some o) (hc : o.isCells = false) (hw : o.isWalk = false) : KpR n0 Bh W (W.putObj l o') := by
  refine ⟨belowK_b hn W l o o' hl h hc hw, fun v hv => cell_kept hv (grownBy_putObj' W l o') (fun r e => ?_)⟩
  cases e
  exact ⟨_, h, hc⟩

/-- the towers of a row -/
def rowT (ts : List Tow) (q : Nat) : List Tow := ts.filter (fun t => decide (q < t.h))

/-- where a block stands -/
def posT (ts : List Tow) (b : Nat) : Nat := ts.findIdx (fun t => t.b == b)

def leftT (ts : List Tow) (v : Value) : Nat := match v with
  | .pointer (some a) => ts.length - posT ts a.block
  | _ => 0

theorem row_none {ts : List Tow} {a q : Nat} (h : ∀ i (hi : i < ts.length), a ≤ i → ¬ q < ts[i].h) : rowT (ts.take a) q = rowT ts q := by
  unfold rowT
  conv => rhs; rw [← List.take_append_drop a ts, List.filter_append]
  rw [show (ts.drop a).filter (fun t => decide (q < t.h)) = [] from List.filter_eq_nil_iff.2 (fun t ht => by
    obtain ⟨i, hi, rfl⟩ := List.getElem_of_mem ht
    rw [List.length_drop] at hi
    rw [List.getElem_drop]
    simpa using h (a + i) (by omega) (by omega)), List.append_nil]

theorem row_next {ts : List Tow} {a q j : Nat} (hj : j < ts.length) (haj : a ≤ j) (hq : q < ts[j].h) (h : ∀ i (hi : i < ts.length), a ≤ i → i < j → ¬ q < ts[i].h) : rowT (ts.take (j + 1)) q = rowT (ts.take a) q ++ [ts[j]] := by
  unfold rowT
  rw [List.take_succ_eq_append_getElem hj, List.filter_append]
  have e1 : [ts[j]].filter (fun t => decide (q < t.h)) = [ts[j]] := by simp [hq]
  rw [e1]
  congr 1
  have e2 : ts.take j = ts.take a ++ (ts.drop a).take (j - a) := by
    rw [← List.take_add, show a + (j - a) = j by omega]
  rw [e2, List.filter_append, show ((ts.drop a).take (j - a)).filter (fun t => decide (q < t.h)) = [] from List.filter_eq_nil_iff.2 (fun t ht => by
    obtain ⟨i, hi, h1, h2, rfl⟩ := mem_mid ht
    simpa using h i hi h1 h2), List.append_nil]

theorem row_pre {ts : List Tow} {a q : Nat} : rowT (ts.take a) q <+: rowT ts q := by
  unfold rowT
  exact (List.take_prefix a ts).filter _

theorem pos_at {w : World} {l : Nat} {ts : List Tow} (h : SkAt w l ts) {j : Nat} (hj : j < ts.length) : posT ts ts[j].b = j := by
  unfold posT
  rw [List.findIdx_eq hj]
  refine ⟨by simp, fun i hi => ?_⟩
  have hne : ts[i].b ≠ ts[j].b := fun e => by
    have := h.inj (i + 1) (j + 1) (by omega) (by omega) (by rw [nb_succ l (by omega), nb_succ l hj]; exact e)
    omega
  simpa using hne

set_option maxRecDepth 100000 in
set_option maxHeartbeats 4000000 in
theorem row_stops (n : Nat) (hn : 1 ≤ n) (v w : World) (l h q Bl Bh : Nat) (ts : List Tow) (hS : SkAt v l ts) (hvw : Below v.heap.size v w) (hq : h = q + 1) (h8 : q < 8) (cl : w.cell? ⟨Bl, 0, none⟩ = some (.pointer (some ⟨l, 0, none⟩))) (ch : w.cell? ⟨Bh, 0, none⟩ = some (.int .i64 (h : Int))) :
    SeqStopsK Fence.wide n Try.prog 72 #[.pointer (some ⟨Bl, 0, none⟩), .pointer (some ⟨Bh, 0, none⟩)] (fun t : {t : Tow // t ∈ ts} => #[enV t.1.x (t.1.e.2.1 : Int) (t.1.e.2.2.1.toNat : Int) t.1.y]) (KpR v.heap.size Bh) (fun xs => xs.map (·.1) = rowT ts q) (fun pre => pre.map (·.1) <+: rowT ts q) (ts.length + 1) w := fun yl J Jx W hW hJ hJx hY h0 => by
  have hvW : Below v.heap.size v W := hvw.trans (hW.mono hvw.size)
  have hSW := hS.below hvW
  have clW : W.cell? ⟨Bl, 0, none⟩ = some (.pointer (some ⟨l, 0, none⟩)) := by rw [hW.cell (p := ⟨Bl, 0, none⟩) (World.block_lt_of_cell? w _ cl)]; exact cl
  have chW : W.cell? ⟨Bh, 0, none⟩ = some (.int .i64 (h : Int)) := by rw [hW.cell (p := ⟨Bh, 0, none⟩) (World.block_lt_of_cell? w _ ch)]; exact ch
  have hIr := isRow_any W (h : Int) true (decide_eq_true ⟨by omega, by omega⟩)
  have n0 := (hSW.nod 0 (Nat.zero_le _)).cel q h8
  have hnb : nb l ts 0 = l := rfl
  have hnh : nh ts 0 = 8 := rfl
  rw [hnb, hnh, if_pos h8, List.drop_zero] at n0
  have HS : Hid (SkAt v l ts) := hS
  have hqI : (h : Int) - 1 = (q : Int) := by omega
  have hq0 : (0 : Int) ≤ (q : Int) := by omega
  have hq8 : (q : Int) < 8 := by omega
  obtain ⟨fv, hfv⟩ : ∃ v, ptrT (fstT ts q) = v := ⟨_, rfl⟩
  rw [hfv] at n0
  have HFV : Hid (ptrT (fstT ts q) = fv) := hfv
  clear hnb hnh hfv hSW cl ch hS hq
  refine callsIn_of_wp Try.func72 rfl trivial ?_ rfl
  simp only [Try.ntmps72, List.size_toArray, List.length_cons, List.length_nil, Nat.reduceAdd, Nat.reduceSub, Array.replicate_succ, Array.replicate_zero, List.push_toArray, List.append_toArray, List.nil_append, List.cons_append]
  gi_wp2_with fail
  refine ⟨trivial, ?_⟩
  refine (callsIn_wide.2 hIr).mono ?_
  rintro e w1 ⟨rfl, hw1⟩
  subst w1
  gi_wp2_with fail
  gi_region
  gi_wp2
  have hJ0 : J [] W.drew := hJ [] W _ none h0 ⟨rfl, rfl, rfl, Nat.le_refl _, fun _ _ _ => rfl⟩ (fun r e => by cases e)
  have HJ : Hid (AbidesFrom W.heap.size J) := hJ
  have hBW : Below v.heap.size v W.drew := hvW.drew
  clear hJ hJx h0 hW clW hIr n0
  gi_loopw [4] (fun tv wr => ∃ a : Nat, a ≤ ts.length ∧ tv = ptrT (fstT (ts.drop a) q) ∧ (∃ pre : List {t : Tow // t ∈ ts}, pre.map (·.1) = rowT (ts.take a) q ∧ J pre wr) ∧ Below v.heap.size v wr ∧ wr.cell? ⟨Bh, 0, none⟩ = some (.int .i64 (h : Int))) (fun tv wr => leftT ts tv)
  case atStart => exact ⟨0, Nat.zero_le _, by rw [List.drop_zero, HFV.out], ⟨[], by simp [rowT], hJ0⟩, hBW, chW⟩
  case round =>
    obtain ⟨a, han, rfl, ⟨pre, hpre, hJa⟩, hBa, hca⟩ := hrel
    have hSa := HS.out.below hBa
    rcases fst_drop ts a q with ⟨hf, hno⟩ | ⟨j, hj, haj, hjh, hf, hno⟩
    · rw [hf]
      have HJ9 : Hid (∃ xs : List {t : Tow // t ∈ ts}, xs.map (·.1) = rowT ts q ∧ J xs wr) := ⟨pre, by rw [hpre]; exact row_none hno, hJa⟩
      simp only [ptrT]
      clear hY hJa hf hno hSa hpre
      gi_wp2
      go_end0
      exact ⟨⟨_, rfl⟩, .inl HJ9.out⟩
    · rw [hf]
      simp only [ptrT]
      obtain ⟨xj, hxj⟩ : ∃ z : {t : Tow // t ∈ ts}, z.1 = ts[j] := ⟨⟨ts[j], List.getElem_mem hj⟩, rfl⟩
      have HPN : Hid ((pre ++ [xj]).map (·.1) = rowT (ts.take (j + 1)) q) := by
        show _ = _
        rw [row_next hj haj hjh hno, List.map_append, hpre, List.map_cons, List.map_nil, hxj]
      obtain ⟨fn, tmps, assign, body, hy, hR⟩ := hY pre xj wr hJa (by
        have h0 := congrArg List.length hpre
        rw [List.length_map] at h0
        have h1 : (rowT (ts.take a) q).length ≤ (ts.take a).length := List.length_filter_le _ _
        rw [List.length_take] at h1
        omega)
      have hent := hSa.ent ts[j] (List.getElem_mem hj)
      have hpos := pos_at HS.out hj
      obtain ⟨t, ht⟩ : ∃ t, ts[j] = t := ⟨_, rfl⟩
      rw [hxj, ht] at hy
      rw [ht] at hent hpos hjh
      obtain ⟨⟨c0, c1, c2, c3⟩, rx, ry⟩ := hent
      obtain ⟨x1, xc, ex⟩ := rx.len
      obtain ⟨y1, yc, ey⟩ := ry.len
      rw [ex] at c0
      rw [ey] at c3
      rw [ex, ey] at hy
      obtain ⟨tb, htb⟩ : ∃ z, t.b = z := ⟨_, rfl⟩
      rw [ht, htb]
      rw [htb] at c0 c1 c2 c3
      clear hY hJa hf hno hSa rx ry hpre hxj
      gi_wp2_with fail
      refine hR.mono ?_
      rintro e W3 (⟨rfl, hJ3, hK3⟩ | ⟨rfl, hJx3⟩)
      · have hB3 := hBa.trans hK3.1
        have hc3 := hK3.2 _ hca
        have HJ3 : Hid (J (pre ++ [xj]) W3.drew) := HJ.out _ W3 _ none hJ3 ⟨rfl, rfl, rfl, Nat.le_refl _, fun _ _ _ => rfl⟩ (fun r e => by cases e)
        have hS3 := HS.out.below hB3
        have n3 := (hS3.nod (j + 1) (by omega)).cel q h8
        rw [nb_succ l hj, nh_succ hj, ht, htb, if_pos hjh] at n3
        obtain ⟨nv, hnv⟩ : ∃ v, ptrT (fstT (ts.drop (j + 1)) q) = v := ⟨_, rfl⟩
        rw [hnv] at n3
        have HNV : Hid (ptrT (fstT (ts.drop (j + 1)) q) = nv) := hnv
        have HM : Hid (leftT ts nv < leftT ts (.pointer (some ⟨tb, 0, none⟩))) := by
          show _ < _
          rw [← hnv]
          have e1 : leftT ts (.pointer (some ⟨tb, 0, none⟩)) = ts.length - j := by unfold leftT; rw [← htb]; simp only [hpos]
          rw [e1]
          rcases fst_drop ts (j + 1) q with ⟨hf2, _⟩ | ⟨j2, hj2, haj2, _, hf2, _⟩
          · rw [hf2]; simp only [ptrT, leftT]; omega
          · rw [hf2]; simp only [ptrT, leftT]; rw [pos_at HS.out hj2]; omega
        clear hR hK3 c0 c1 c2 c3 hS3 hnv hca hy
        gi_wp2_with fail
        gi_region
        gi_wp2
        go_roundw
        case rel => exact ⟨j + 1, by omega, HNV.out.symm, ⟨_, HPN.out, HJ3.out⟩, hB3.drew, hc3⟩
        case measure => exact HM.out
      · have HPP : Hid ((pre ++ [xj]).map (·.1) <+: rowT ts q) := by show _ <+: _; rw [HPN.out]; exact row_pre
        gi_wp2
        refine bodyPost_ret (results_none rfl _ _ _) rfl ?_
        exact ⟨⟨_, rfl⟩, .inr ⟨_, HPP.out, hJx3⟩⟩

end Go.Proofs.Ythcoblmfmbmdkaa
