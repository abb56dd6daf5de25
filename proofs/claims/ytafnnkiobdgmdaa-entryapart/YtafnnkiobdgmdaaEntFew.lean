/- bartizanref07.Few: entries in a row of one's own. -/
import Derived.Test.YtafnnkiobdgmdaaEntRow
import Derived.Deep.AppendLies
import Derived.Deep.RegionHeld3
import Derived.Deep.LoopGhost
namespace Go.Proofs.Ytafnnkiobdgmdaa
open Go.RowKit
set_option linter.unusedVariables false

/-- the four cells of an entry that came in -/
def NtArg (w : World) (b o : Nat) (n : NtB) : Prop :=
  ∃ x y, w.cell? ⟨b, o, none⟩ = some (.int .u8 (n.1.toNat : Int)) ∧ w.cell? ⟨b, o + 1, none⟩ = some (.int .u64 (n.2.1 : Int)) ∧ w.cell? ⟨b, o + 2, none⟩ = some x ∧ w.cell? ⟨b, o + 3, none⟩ = some y ∧ Arg w x n.2.2.1 ∧ ArgO w y n.2.2.2

def ArgN (w : World) (v : Value) (ns : List NtB) : Prop :=
  ∃ ao cap, v = .slice ao ns.length cap ∧ ns.length ≤ cap ∧ cap ≤ maxLen ∧ ∀ j (h : j < ns.length), ∃ b off, ao = some ⟨b, off, none⟩ ∧ NtArg w b (off + j * 4) ns[j]

theorem NtArg.below {B : Nat} {w w' : World} {b o : Nat} {n : NtB} (h : NtArg w b o n) (hb : Below B w w') (hB : w.heap.size ≤ B) : NtArg w' b o n := by
  obtain ⟨x, y, c0, c1, c2, c3, rx, ry⟩ := h
  have hl : b < B := Nat.lt_of_lt_of_le (World.block_lt_of_cell? w _ c0) hB
  exact ⟨x, y, (hb.cell (p := ⟨b, o, none⟩) hl).trans c0, (hb.cell (p := ⟨b, o + 1, none⟩) hl).trans c1, (hb.cell (p := ⟨b, o + 2, none⟩) hl).trans c2, (hb.cell (p := ⟨b, o + 3, none⟩) hl).trans c3, rx.below hb hB, LsO.belowA ry hb hB⟩

theorem ArgN.below {B : Nat} {w w' : World} {v : Value} {ns : List NtB} (h : ArgN w v ns) (hb : Below B w w') (hB : w.heap.size ≤ B) : ArgN w' v ns := by
  obtain ⟨ao, cap, rfl, h1, h2, h3⟩ := h
  refine ⟨ao, cap, rfl, h1, h2, fun j hj => ?_⟩
  obtain ⟨b, off, e, h⟩ := h3 j hj
  exact ⟨b, off, e, h.below hb hB⟩

theorem RdN.arg {w : World} {v : Value} {ns : List NtB} (h : RdN w v ns) : ArgN w v ns := by
  obtain ⟨ao, cap, rfl, h1, h2, h3⟩ := h
  refine ⟨ao, cap, rfl, h1, h2, fun j hj => ?_⟩
  obtain ⟨b, off, e, x, y, c0, c1, c2, c3, rx, ry⟩ := h3 j hj
  exact ⟨b, off, e, x, y, c0, c1, c2, c3, rx.arg, LsO.arg ry⟩

/-- entries in a row of the call's own, and what they hold -/
def OwnNt (B : Nat) (w : World) (v : Value) (ns : List NtB) : Prop :=
  ∃ cs, w.ownsRow B 26 4 v ns.length cs ∧ ∀ j (h : j < ns.length), ∃ x y, cs[j * 4]? = some (.int .u8 (ns[j].1.toNat : Int)) ∧ cs[j * 4 + 1]? = some (.int .u64 (ns[j].2.1 : Int)) ∧ cs[j * 4 + 2]? = some x ∧ cs[j * 4 + 3]? = some y ∧ OwnN B w x ns[j].2.2.1 ∧ OwnO B w y ns[j].2.2.2

theorem OwnNt.nil (B : Nat) (w : World) : OwnNt B w (.slice none 0 0) [] := ⟨[], World.ownsRow_nil _ _ _ _, fun _ h => absurd h (Nat.not_lt_zero _)⟩

theorem OwnNt.below {B C : Nat} {w w' : World} {v : Value} {ns : List NtB} (h : OwnNt B w v ns) (hb : Below C w w') (hC : w.heap.size ≤ C) : OwnNt B w' v ns := by
  obtain ⟨cs, hr, hj⟩ := h
  have hb' : Below w.heap.size w w' := ⟨hb.os, hb.tape, hb.output, hb.size, fun i hi => hb.block i (Nat.lt_of_lt_of_le hi hC)⟩
  refine ⟨cs, row_below hr hb', fun j h => ?_⟩
  obtain ⟨x, y, c0, c1, c2, c3, ox, oy⟩ := hj j h
  exact ⟨x, y, c0, c1, c2, c3, ox.below hb hC, oy.below hb hC⟩

theorem OwnNt.drew {B : Nat} {w : World} {v : Value} {ns : List NtB} (h : OwnNt B w v ns) : OwnNt B w.drew v ns := h

theorem OwnNt.rd {B : Nat} {w : World} {v : Value} {ns : List NtB} (h : OwnNt B w v ns) : RdN w v ns := by
  obtain ⟨cs, hr, hj⟩ := h
  have hr2 := hr
  rcases hr.2 with ⟨e, hn⟩ | ⟨g, cap, cur, e, hb, hg, h1, h2, h3, h4⟩
  · exact ⟨none, 0, by rw [e, hn], by omega, Nat.zero_le _, fun j hj => by omega⟩
  · subst e
    refine ⟨_, cap, rfl, h1, h2, fun j h => ⟨g, 0, rfl, ?_⟩⟩
    obtain ⟨x, y, c0, c1, c2, c3, ox, oy⟩ := hj j h
    have hc := hr2.cells (g := g) rfl
    refine ⟨x, y, ?_, ?_, ?_, ?_, ox.rd, oy.rd⟩
    · have := hc _ _ c0; rwa [Addr.add_lit] at this
    · have := hc _ _ c1; rwa [Addr.add_lit] at this
    · have := hc _ _ c2; rwa [Addr.add_lit] at this
    · have := hc _ _ c3; rwa [Addr.add_lit] at this

/-- rows of unlike elements lie apart -/
theorem rows_ne {w : World} {B B' n m s s' : Nat} {e e' : TypeId} {v v' : Value} {cs cs' : List Value} (hne : e ≠ e') (h : w.ownsRow B e s v n cs) (h' : w.ownsRow B' e' s' v' m cs') : v'.ownBlock = none ∨ v'.ownBlock ≠ v.ownBlock := by
  rcases h'.2 with ⟨e1, _⟩ | ⟨g', cap', cur', e1, _, hg', _⟩
  · subst e1; exact .inl rfl
  · subst e1
    refine .inr ?_
    rcases h.2 with ⟨e2, _⟩ | ⟨g, cap, cur, e2, _, hg, _⟩
    · subst e2; simp [Value.ownBlock]
    · subst e2
      intro e3
      simp only [Value.ownBlock, Option.some.injEq] at e3
      subst e3
      rw [hg] at hg'
      simp at hg'
      exact hne hg'.2

theorem ownN_kept {w w' : World} {B B' n s : Nat} {e : TypeId} {v x : Value} {cs : List Value} {l : List UInt8} (h : OwnN B' w x l) (he : e ≠ 5) (hr : w.ownsRow B e s v n cs) (hg : w.grownBy w' v.ownBlock) : OwnN B' w' x l := by
  rcases h with h | h
  · exact .inl h
  · obtain ⟨g, c, rfl⟩ := h.shape
    exact .inr (Own.of_row (h.row.kept hg (rows_ne he hr h.row)) (by simp))

theorem ownO_kept {w w' : World} {B B' n s : Nat} {e : TypeId} {v x : Value} {cs : List Value} {os : List OpB} (h : OwnO B' w x os) (he : e ≠ 67) (he5 : e ≠ 5) (hr : w.ownsRow B e s v n cs) (hg : w.grownBy w' v.ownBlock) : OwnO B' w' x os := by
  obtain ⟨ds, hd, hj⟩ := h
  refine ⟨ds, hd.kept hg (rows_ne he hr hd), fun j h => ?_⟩
  obtain ⟨x', y', c0, c1, c2, ox, oy⟩ := hj j h
  exact ⟨x', y', c0, c1, c2, ownN_kept ox he5 hr hg, ownN_kept oy he5 hr hg⟩

theorem own_pushN {B : Nat} {w w' : World} {v v' x y : Value} {ns : List NtB} {cs : List Value} (o : NtB) (hrow : w.ownsRow B 26 4 v ns.length cs)
    (hel : ∀ j (h : j < ns.length), ∃ x y, cs[j * 4]? = some (.int .u8 (ns[j].1.toNat : Int)) ∧ cs[j * 4 + 1]? = some (.int .u64 (ns[j].2.1 : Int)) ∧ cs[j * 4 + 2]? = some x ∧ cs[j * 4 + 3]? = some y ∧ OwnN B w x ns[j].2.2.1 ∧ OwnO B w y ns[j].2.2.2)
    (hx : OwnN B w x o.2.2.1) (hy : OwnO B w y o.2.2.2) (hn : w'.ownsRow B 26 4 v' (ns.length + 1) (cs ++ [.int .u8 (o.1.toNat : Int), .int .u64 (o.2.1 : Int), x, y])) (hg : w.grownBy w' v.ownBlock) : OwnNt B w' v' (ns ++ [o]) := by
  have hcl : cs.length = ns.length * 4 := hrow.1
  refine ⟨_, by rw [List.length_append]; exact hn, fun j h => ?_⟩
  by_cases hj : j < ns.length
  · obtain ⟨x', y', c0, c1, c2, c3, ox, oy⟩ := hel j hj
    refine ⟨x', y', ?_, ?_, ?_, ?_, ?_, ?_⟩
    · rw [List.getElem?_append_left (by omega), List.getElem_append_left hj]; exact c0
    · rw [List.getElem?_append_left (by omega), List.getElem_append_left hj]; exact c1
    · rw [List.getElem?_append_left (by omega)]; exact c2
    · rw [List.getElem?_append_left (by omega)]; exact c3
    · rw [List.getElem_append_left hj]; exact ownN_kept ox (by decide) hrow hg
    · rw [List.getElem_append_left hj]; exact ownO_kept oy (by decide) (by decide) hrow hg
  · have hje : j = ns.length := by rw [List.length_append] at h; simp at h; omega
    subst hje
    have e : (ns ++ [o])[ns.length]'h = o := by simp
    rw [e]
    refine ⟨x, y, ?_, ?_, ?_, ?_, ownN_kept hx (by decide) hrow hg, ownO_kept hy (by decide) (by decide) hrow hg⟩
    · rw [List.getElem?_append_right (by omega), show ns.length * 4 - cs.length = 0 by omega]; rfl
    · rw [List.getElem?_append_right (by omega), show ns.length * 4 + 1 - cs.length = 1 by omega]; rfl
    · rw [List.getElem?_append_right (by omega), show ns.length * 4 + 2 - cs.length = 2 by omega]; rfl
    · rw [List.getElem?_append_right (by omega), show ns.length * 4 + 3 - cs.length = 3 by omega]; rfl

/-- an entry's four cells, as they were laid -/
theorem laid4 (w : World) (v0 v1 v2 v3 : Value) (t : TypeId) : ∀ j u, [v0, v1, v2, v3][j]? = some u → (w.alloc (.cells #[v0, v1, v2, v3] t)).cell? ((⟨w.heap.size, 0, none⟩ : Addr).add j) = some u := by
  intro j u hj
  match j, hj with
  | 0, hj => simp at hj; subst hj; simp [Addr.add]
  | 1, hj => simp at hj; subst hj; simp [Addr.add]
  | 2, hj => simp at hj; subst hj; simp [Addr.add]
  | 3, hj => simp at hj; subst hj; simp [Addr.add]
  | (j + 4), hj => simp at hj

theorem one4 (k s : Int) (a b : Option Addr) (n m c d : Nat) : ∀ u ∈ [Value.int .u8 k, .int .u64 s, .slice a n c, .slice b m d], u.oneCell' = true := by
  intro u hu
  simp at hu
  rcases hu with rfl | rfl | rfl | rfl <;> rfl

theorem infoNote : (Try.prog.info? 26).map (fun i => (i.zero, i.size, i.bytes)) = some (some (.agg #[.int .u8 0, .int .u64 0, .slice none 0 0, .slice none 0 0]), 4, 64) := by kernel_rfl

/-- an entry, cut -/
def cutN (n : NtB) : NtB := (n.1, n.2.1, n.2.2.1.take 40, fewO 66 n.2.2.2)

def fewN (n : Nat) (ns : List NtB) : List NtB := (ns.take n).map cutN

theorem fewN_take {n : Nat} {ns : List NtB} {j : Nat} (h : j < ns.length) (hn : j < n) : fewN n (ns.take (j + 1)) = fewN n (ns.take j) ++ [cutN ns[j]] := by
  unfold fewN
  rw [List.take_take, List.take_take, Nat.min_eq_right (by omega), Nat.min_eq_right (by omega), List.take_succ_eq_append_getElem h, List.map_append]
  rfl

theorem fewN_stay {n : Nat} {ns : List NtB} {j : Nat} (hn : ¬ j < n) : fewN n (ns.take (j + 1)) = fewN n (ns.take j) := by
  unfold fewN
  rw [List.take_take, List.take_take, Nat.min_eq_left (by omega), Nat.min_eq_left (by omega)]

theorem Box4.grown {w w' : World} {b : Nat} {v0 v1 v2 v3 : Value} {row : Option Nat} (h : Box4 w b v0 v1 v2 v3) (hg : w.grownBy w' row) (hne : some b ≠ row) : Box4 w' b v0 v1 v2 v3 := by
  have e : w'.heap[b]? = w.heap[b]? := hg.block b h.lt hne
  obtain ⟨c0, c1, c2, c3⟩ := h
  exact ⟨by rw [← c0]; unfold World.cell?; rw [e], by rw [← c1]; unfold World.cell?; rw [e], by rw [← c2]; unfold World.cell?; rw [e], by rw [← c3]; unfold World.cell?; rw [e]⟩

end Go.Proofs.Ytafnnkiobdgmdaa
