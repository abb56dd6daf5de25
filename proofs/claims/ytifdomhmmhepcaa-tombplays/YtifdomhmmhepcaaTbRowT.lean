/- Spans in a row of one's own; their bytes were there in an earlier world. -/
import Derived.Test.YtifdomhmmhepcaaTbPure
import Derived.Laws.OwnMore
import Derived.Laws.CopyRow
import Derived.Lib.SliceRun
namespace Go.Proofs.Ytifdomhmmhepcaa
set_option maxRecDepth 20000
open Go.RowKit
set_option linter.unusedVariables false
set_option linter.unusedSimpArgs false

/-- a span's cells, and what they say -/
structure SpC where
  x : Value
  y : Value
  e : SpB

def celS (t : SpC) : List Value := [t.x, t.y, .int .u64 (t.e.2.2 : Int)]
def flatS (ts : List SpC) : List Value := ts.flatMap celS
def GdS (w0 : World) (t : SpC) : Prop := Rd w0 t.x t.e.1 ∧ Rd w0 t.y t.e.2.1

theorem flatS_len : ∀ ts : List SpC, (flatS ts).length = ts.length * 3
  | [] => rfl
  | t :: r => by
    have h := flatS_len r
    unfold flatS at h ⊢
    rw [List.flatMap_cons, List.length_append, h]
    simp [celS]; omega

theorem flatS_append (a b : List SpC) : flatS (a ++ b) = flatS a ++ flatS b := by unfold flatS; rw [List.flatMap_append]

theorem flatS_one (t : SpC) : flatS [t] = [t.x, t.y, .int .u64 (t.e.2.2 : Int)] := by unfold flatS; simp [celS]

theorem flatS_get : ∀ (ts : List SpC) (j i : Nat) (hj : j < ts.length), i < 3 → (flatS ts)[j * 3 + i]? = (celS ts[j])[i]?
  | [], j, i, hj, _ => absurd hj (Nat.not_lt_zero _)
  | t :: r, 0, i, hj, hi => by
    unfold flatS
    rw [List.flatMap_cons, Nat.zero_mul, Nat.zero_add, List.getElem?_append_left (by simpa [celS] using hi)]
    rfl
  | t :: r, j + 1, i, hj, hi => by
    have h := flatS_get r j i (by simpa using hj) hi
    unfold flatS at h ⊢
    rw [List.flatMap_cons, List.getElem?_append_right (by simp [celS]; omega)]
    have e : (j + 1) * 3 + i - (celS t).length = j * 3 + i := by simp [celS]; omega
    rw [e]
    simpa using h

theorem flatS_take : ∀ (ts : List SpC) (k : Nat), (flatS ts).take (k * 3) = flatS (ts.take k)
  | [], k => by simp [flatS]
  | t :: r, 0 => by simp [flatS]
  | t :: r, k + 1 => by
    have h := flatS_take r k
    unfold flatS at h ⊢
    rw [List.take_succ_cons, List.flatMap_cons, List.flatMap_cons, ← h, show (k + 1) * 3 = (celS t).length + k * 3 by simp [celS]; omega, List.take_length_add_append]

theorem flatS_set : ∀ (ts : List SpC) (i : Nat) (t : SpC), i < ts.length → (((flatS ts).set (i * 3) t.x).set (i * 3 + 1) t.y).set (i * 3 + 2) (.int .u64 (t.e.2.2 : Int)) = flatS (ts.set i t)
  | [], i, t, h => absurd h (Nat.not_lt_zero _)
  | a :: r, 0, t, h => by unfold flatS; simp [celS]
  | a :: r, i + 1, t, h => by
    have h := flatS_set r i t (by simpa using h)
    unfold flatS at h ⊢
    rw [List.set_cons_succ, List.flatMap_cons, List.flatMap_cons, ← h]
    have e1 : (i + 1) * 3 = i * 3 + 3 := by omega
    rw [e1, show i * 3 + 3 + 1 = i * 3 + 1 + 3 by omega, show i * 3 + 3 + 2 = i * 3 + 2 + 3 by omega]
    simp [celS]

theorem rd_oneT {w : World} {v : Value} {l : List UInt8} (h : Rd w v l) : v.oneCell' = true := by
  obtain ⟨a, c, rfl⟩ := h.len
  rfl

theorem flatS_ones {w0 : World} {ts : List SpC} (h : ∀ t ∈ ts, GdS w0 t) : ∀ u ∈ flatS ts, u.oneCell' = true := by
  intro u hu
  obtain ⟨t, ht, hc⟩ := List.mem_flatMap.1 hu
  obtain ⟨h1, h2⟩ := h t ht
  simp [celS] at hc
  rcases hc with rfl | rfl | rfl
  · exact rd_oneT h1
  · exact rd_oneT h2
  · rfl

/-- a row of one's own -/
def RowT (w0 : World) (B : Nat) (wr : World) (v : Value) (ts : List SpC) : Prop := wr.ownsRow B 32 3 v ts.length (flatS ts) ∧ ∀ t ∈ ts, GdS w0 t

theorem RowT.nil (w0 : World) (B : Nat) (wr : World) : RowT w0 B wr (.slice none 0 0) [] := ⟨World.ownsRow_nil _ _ _ _, fun t h => absurd h (List.not_mem_nil)⟩

theorem RowT.kept {w0 : World} {B : Nat} {w w' : World} {v : Value} {ts : List SpC} {row : Option Nat} (h : RowT w0 B w v ts) (hg : w.grownBy w' row) (hne : v.ownBlock = none ∨ v.ownBlock ≠ row) : RowT w0 B w' v ts := ⟨h.1.kept hg hne, h.2⟩

theorem RowT.below {w0 : World} {B : Nat} {w w' : World} {v : Value} {ts : List SpC} (h : RowT w0 B w v ts) (hb : Below w.heap.size w w') : RowT w0 B w' v ts := ⟨row_below h.1 hb, h.2⟩

theorem RowT.shape {w0 : World} {B : Nat} {w : World} {v : Value} {ts : List SpC} (h : RowT w0 B w v ts) : ∃ a c, v = .slice a ts.length c ∧ ts.length ≤ c ∧ c ≤ 9223372036854775807 := by
  rcases h.1.2 with ⟨e, hn⟩ | ⟨g, cap, cur, e, _, _, h1, h2, _⟩
  · exact ⟨none, 0, by rw [e, hn], by omega, by omega⟩
  · exact ⟨_, cap, e, h1, h2⟩

theorem RowT.form {w0 : World} {B : Nat} {w : World} {v : Value} {ts : List SpC} (h : RowT w0 B w v ts) (hn : 0 < ts.length) : ∃ g c, v = .slice (some ⟨g, 0, none⟩) ts.length c ∧ ts.length ≤ c ∧ c ≤ 9223372036854775807 := by
  rcases h.1.2 with ⟨e, hn⟩ | ⟨g, cap, cur, e, _, _, h1, h2, _⟩
  · omega
  · exact ⟨_, cap, e, h1, h2⟩

/-- the cells of one -/
theorem RowT.at {w0 : World} {B g n c : Nat} {w : World} {ts : List SpC} (h : RowT w0 B w (.slice (some ⟨g, 0, none⟩) n c) ts) (hn : ts.length = n) (j : Nat) (hj : j < ts.length) :
    w.cell? ⟨g, j * 3, none⟩ = some ts[j].x ∧ w.cell? ⟨g, j * 3 + 1, none⟩ = some ts[j].y ∧ w.cell? ⟨g, j * 3 + 2, none⟩ = some (.int .u64 (ts[j].e.2.2 : Int)) ∧ w.frozen? ⟨g, j * 3, none⟩ = false ∧ w.frozen? ⟨g, j * 3 + 1, none⟩ = false ∧ w.frozen? ⟨g, j * 3 + 2, none⟩ = false := by
  subst hn
  have e : ∀ i, i < 3 → w.cell? ⟨g, j * 3 + i, none⟩ = (celS ts[j])[i]? := fun i hi => by
    rw [h.1.cellAt (j * 3 + i) (by omega), flatS_get ts j i hj hi]
  exact ⟨e 0 (by omega), e 1 (by omega), e 2 (by omega), h.1.frozenAt _, h.1.frozenAt _, h.1.frozenAt _⟩

theorem RowT.rd {w0 : World} {B : Nat} {w : World} {v : Value} {ts : List SpC} (h : RowT w0 B w v ts) (hb : Below w0.heap.size w0 w) : RdS w v (ts.map (·.e)) := by
  obtain ⟨a, c, rfl, h1, h2⟩ := h.shape
  refine ⟨a, c, by rw [List.length_map], by rw [List.length_map]; exact h1, h2, fun j hj => ?_⟩
  rw [List.length_map] at hj
  obtain ⟨g, c', e, _⟩ := h.form (by omega)
  cases e
  obtain ⟨c0, c1, c2, _⟩ := h.at rfl j hj
  obtain ⟨r1, r2⟩ := h.2 ts[j] (List.getElem_mem hj)
  rw [List.getElem_map]
  refine ⟨g, 0, rfl, ts[j].x, ts[j].y, ?_, ?_, ?_, r1.below hb (Nat.le_refl _), r2.below hb (Nat.le_refl _)⟩
  · rw [Nat.zero_add]; exact c0
  · rw [Nat.zero_add]; exact c1
  · rw [Nat.zero_add]; exact c2

/-- one is written over -/
theorem RowT.put {w0 : World} {B g n c : Nat} {w : World} {ts : List SpC} (h : RowT w0 B w (.slice (some ⟨g, 0, none⟩) n c) ts) (hn : ts.length = n) (i : Nat) (hi : i < ts.length) (t : SpC) (ht : GdS w0 t) :
    RowT w0 B (((w.setCell ⟨g, i * 3, none⟩ t.x).setCell ⟨g, i * 3 + 1, none⟩ t.y).setCell ⟨g, i * 3 + 2, none⟩ (.int .u64 (t.e.2.2 : Int))) (.slice (some ⟨g, 0, none⟩) n c) (ts.set i t) ∧ w.grownBy (((w.setCell ⟨g, i * 3, none⟩ t.x).setCell ⟨g, i * 3 + 1, none⟩ t.y).setCell ⟨g, i * 3 + 2, none⟩ (.int .u64 (t.e.2.2 : Int))) (some g) := by
  subst hn
  obtain ⟨k1, g1⟩ := h.1.stored (i * 3) t.x
  obtain ⟨k2, g2⟩ := k1.stored (i * 3 + 1) t.y
  obtain ⟨k3, g3⟩ := k2.stored (i * 3 + 2) (.int .u64 (t.e.2.2 : Int))
  rw [flatS_set ts i t hi] at k3
  have tr : ∀ {a b c : World}, a.grownBy b (some g) → b.grownBy c (some g) → a.grownBy c (some g) := fun p q => ⟨q.os.trans p.os, q.tape.trans p.tape, q.output.trans p.output, Nat.le_trans p.size q.size, fun k hk hne => (q.block k (Nat.lt_of_lt_of_le hk p.size) hne).trans (p.block k hk hne)⟩
  refine ⟨⟨by rw [List.length_set]; exact k3, fun u hu => ?_⟩, tr (tr g1 g2) g3⟩
  rcases List.mem_or_eq_of_mem_set hu with h9 | h9
  · exact h.2 u h9
  · rw [h9]; exact ht

theorem grownBy_trans {a b c : World} {r : Option Nat} (p : a.grownBy b r) (q : b.grownBy c r) : a.grownBy c r := ⟨q.os.trans p.os, q.tape.trans p.tape, q.output.trans p.output, Nat.le_trans p.size q.size, fun k hk hne => (q.block k (Nat.lt_of_lt_of_le hk p.size) hne).trans (p.block k hk hne)⟩

theorem grownBy_of_below {a b : World} (h : Below a.heap.size a b) (r : Option Nat) : a.grownBy b r := ⟨h.os, h.tape, h.output, h.size, fun k hk _ => h.block k hk⟩

theorem zero_ones {z : Value} {n : Nat} (h1 : ∀ u ∈ z.cells.toList, u.oneCell' = true) (hz : 0 < z.cells.size) : ∀ u ∈ (Builtin.zeroCells z.cells n).toList, u.oneCell' = true := by
  intro u hu
  simp only [Builtin.zeroCells, Array.toList_map, List.mem_map] at hu
  obtain ⟨i, _, rfl⟩ := hu
  rw [getElem!_pos z.cells _ (Nat.mod_lt _ hz)]
  exact h1 _ (by simp)

/-- clear(s[m:]), then s[:m] -/
theorem clear_own {P : Program} {w : World} {B g n cap m size : Nat} {t e ty : TypeId} {z : Value} {cs : List Value} (ht : P.underlying t = some (.slice e)) (hv : ∀ w, (zeroValue e).run P w = .ok z w) (hz : z.cells.size = size) (hs : 0 < size) (h1 : ∀ u ∈ z.cells.toList, u.oneCell' = true)
    (h : w.ownsRow B e size (.slice (some ⟨g, 0, none⟩) n cap) n cs) (hm : m < n) : ∃ w', (Builtin.clear_ #[t] ty #[.slice (some ⟨g, m * size, none⟩) (n - m) (cap - m)]).run P w = .ok (.tuple #[]) w' ∧ w'.ownsRow B e size (.slice (some ⟨g, 0, none⟩) m cap) m (cs.take (m * size)) ∧ w.grownBy w' (some g) := by
  rcases h.2 with ⟨h', _⟩ | ⟨g', cap', cur, h', hb, hg, hnc, hcm, hcs, htake⟩
  · simp at h'
  · simp only [Value.slice.injEq, Option.some.injEq, Addr.mk.injEq, and_true, true_and] at h'
    obtain ⟨rfl, rfl⟩ := h'
    have hzl : (Builtin.zeroCells z.cells (n - m)).toList.length = (n - m) * size := by simp [Builtin.zeroCells, hz]
    have hle : m * size + (n - m) * size ≤ cap * size := by
      rw [← Nat.add_mul]
      exact Nat.mul_le_mul_right _ (by omega)
    have hst := run_storeCells_at P g (m * size) e (Builtin.zeroCells z.cells (n - m)).toList 0 cur w hg (by rw [Nat.add_zero, hzl, hcs]; exact hle) (zero_ones h1 (by omega))
    obtain ⟨k, hk⟩ : ∃ k, n - m = k + 1 := ⟨n - m - 1, by omega⟩
    refine ⟨w.setRow g (cur.toList.take (m * size + 0) ++ (Builtin.zeroCells z.cells (n - m)).toList ++ cur.toList.drop (m * size + 0 + (Builtin.zeroCells z.cells (n - m)).toList.length)).toArray, ?_, ?_, ?_⟩
    · rw [hk] at hst ⊢
      simp [Builtin.clear_, run_underlying ht, hv, hst]
    · have hmn : m * size ≤ n * size := Nat.mul_le_mul_right _ (by omega)
      have hcl : cs.length = n * size := h.1
      have hml : m * size ≤ cur.toList.length := by rw [Array.length_toList, hcs]; exact Nat.mul_le_mul_right _ (by omega)
      refine ⟨by rw [List.length_take, hcl]; omega, .inr ⟨g, cap, _, rfl, hb, setRow_heap w g cur _ e _ hg, by omega, hcm, ?_, ?_⟩⟩
      · simp only [List.size_toArray, List.length_append, List.length_take, List.length_drop, hzl, Array.length_toList, hcs]
        omega
      · rw [← htake, List.take_take, Nat.add_zero, Nat.min_eq_left hmn]
        simp only [List.append_assoc]
        rw [List.take_append_of_le_length (by rw [List.length_take]; omega), List.take_take, Nat.min_self]
    · exact ⟨rfl, rfl, rfl, by simp [World.setRow], fun k hk hne => by
        have : k ≠ g := fun e => hne (by rw [e])
        simp [World.setRow, Array.getElem?_modify, Ne.symm this]⟩

end Go.Proofs.Ytifdomhmmhepcaa
