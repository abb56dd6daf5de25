/- A row of ops of the call's own; what they hold lies elsewhere. -/
import Derived.Test.YtjgpkmdmicjdhaaOpTake
import Derived.Test.YtjgpkmdmicjdhaaOpsPush
namespace Go.Proofs.Ytjgpkmdmicjdhaa
open Go.RowKit

/-- x, that reads as l, doesn't lie in v's own block -/
def NeB (x : Value) (l : List UInt8) (v : Value) : Prop := l = [] ∨ ∃ b off n c, x = .slice (some ⟨b, off, none⟩) n c ∧ some b ≠ v.ownBlock

theorem rd_grown {w w' : World} {x : Value} {l : List UInt8} {row : Option Nat} (h : Rd w x l) (hg : w.grownBy w' row) (hn : l = [] ∨ ∃ b off n c, x = .slice (some ⟨b, off, none⟩) n c ∧ some b ≠ row) : Rd w' x l := by
  rcases h with h | ⟨b, off, cap, rfl, h1, h2, h3⟩
  · exact .inl h
  · rcases hn with rfl | ⟨b', off', n, c, e, hne⟩
    · exact .inr ⟨b, off, cap, rfl, h1, h2, fun j u hu => by simp [bv] at hu⟩
    · cases e
      have : Rd w (.slice (some ⟨b, off, none⟩) l.length cap) l := .inr ⟨b, off, cap, rfl, h1, h2, h3⟩
      exact this.grown hg hne

theorem neb_of {w : World} {C : Nat} {x v : Value} {l : List UInt8} (hf : From C x) (hr : ∀ q, v.ownBlock = some q → q < C) (h : Rd w x l) : NeB x l v := by
  rcases h with h | ⟨b, off, cap, rfl, _⟩
  · exact .inl h.2
  · refine .inr ⟨b, off, _, cap, rfl, fun e => ?_⟩
    have h1 : C ≤ b := hf _ _ _ rfl
    have h2 := hr b e.symm
    omega

theorem neb_step {w : World} {x v : Value} {l : List UInt8} {g n c : Nat} (h : NeB x l v) (hr : Rd w x l) (hat : v.ownBlock = some g ∨ g = w.heap.size) : NeB x l (.slice (some ⟨g, 0, none⟩) n c) := by
  rcases h with h | ⟨b, off, m, k, rfl, hne⟩
  · exact .inl h
  · by_cases hl : l = []
    · exact .inl hl
    · refine .inr ⟨b, off, m, k, rfl, ?_⟩
      rcases hat with e | e
      · rw [e] at hne; exact hne
      · have hlt : b < w.heap.size := by
          rcases hr with ⟨h, _⟩ | ⟨b', off', cap, e2, _, _, h3⟩
          · cases h
          · cases e2
            have h0 : 0 < l.length := List.length_pos_iff.2 hl
            exact World.block_lt_of_cell? w _ (h3 0 _ (bv_get l 0 h0))
        simp [Value.ownBlock]
        omega

/-- ops in a row of the call's own -/
def OwnR (B : Nat) (w : World) (v : Value) (os : List OpB) : Prop :=
  ∃ cs, w.ownsRow B 67 3 v os.length cs ∧ ∀ j (h : j < os.length), ∃ x y, cs[j * 3]? = some (.int .u8 (os[j].1.toNat : Int)) ∧ cs[j * 3 + 1]? = some x ∧ cs[j * 3 + 2]? = some y ∧ Rd w x os[j].2.1 ∧ Rd w y os[j].2.2 ∧ NeB x os[j].2.1 v ∧ NeB y os[j].2.2 v ∧ From B x ∧ From B y

theorem OwnR.nil (B : Nat) (w : World) : OwnR B w (.slice none 0 0) [] := ⟨[], World.ownsRow_nil _ _ _ _, fun _ h => absurd h (Nat.not_lt_zero _)⟩

theorem OwnR.below {B C : Nat} {w w' : World} {v : Value} {os : List OpB} (h : OwnR B w v os) (hb : Below C w w') (hC : w.heap.size ≤ C) : OwnR B w' v os := by
  obtain ⟨cs, hr, hj⟩ := h
  have hb' : Below w.heap.size w w' := ⟨hb.os, hb.tape, hb.output, hb.size, fun i hi => hb.block i (Nat.lt_of_lt_of_le hi hC)⟩
  refine ⟨cs, row_below hr hb', fun j h => ?_⟩
  obtain ⟨x, y, c0, c1, c2, ox, oy, nx, ny, fx, fy⟩ := hj j h
  exact ⟨x, y, c0, c1, c2, ox.below hb hC, oy.below hb hC, nx, ny, fx, fy⟩

theorem OwnR.rd {B : Nat} {w : World} {v : Value} {os : List OpB} (h : OwnR B w v os) : RdO w v os := by
  obtain ⟨cs, hr, hj⟩ := h
  have hr2 := hr
  rcases hr.2 with ⟨e, hn⟩ | ⟨g, cap, cur, e, hb, hg, h1, h2, h3, h4⟩
  · refine ⟨none, 0, by rw [e, hn], by omega, Nat.zero_le _, fun j hj => by omega⟩
  · subst e
    refine ⟨_, cap, rfl, h1, h2, fun j h => ⟨g, 0, rfl, ?_⟩⟩
    obtain ⟨x, y, c0, c1, c2, ox, oy, _, _⟩ := hj j h
    have hc := hr2.cells (g := g) rfl
    refine ⟨x, y, ?_, ?_, ?_, ox, oy⟩
    · have := hc _ _ c0; rwa [Addr.add_lit] at this
    · have := hc _ _ c1; rwa [Addr.add_lit] at this
    · have := hc _ _ c2; rwa [Addr.add_lit] at this

theorem own_pushR {B : Nat} {w w' : World} {v x y : Value} {g c : Nat} {os : List OpB} {cs : List Value} (o : OpB) (hrow : w.ownsRow B 67 3 v os.length cs)
    (hel : ∀ j (h : j < os.length), ∃ x y, cs[j * 3]? = some (.int .u8 (os[j].1.toNat : Int)) ∧ cs[j * 3 + 1]? = some x ∧ cs[j * 3 + 2]? = some y ∧ Rd w x os[j].2.1 ∧ Rd w y os[j].2.2 ∧ NeB x os[j].2.1 v ∧ NeB y os[j].2.2 v ∧ From B x ∧ From B y)
    (hx : Rd w x o.2.1) (hy : Rd w y o.2.2) (nx : NeB x o.2.1 v) (ny : NeB y o.2.2 v) (fx : From B x) (fy : From B y) (hn : w'.ownsRow B 67 3 (.slice (some ⟨g, 0, none⟩) (os.length + 1) c) (os.length + 1) (cs ++ [.int .u8 (o.1.toNat : Int), x, y])) (hg : w.grownBy w' v.ownBlock) (hat : v.ownBlock = some g ∨ g = w.heap.size) :
    OwnR B w' (.slice (some ⟨g, 0, none⟩) (os.length + 1) c) (os ++ [o]) := by
  have hcl : cs.length = os.length * 3 := hrow.1
  refine ⟨_, by rw [List.length_append]; exact hn, fun j h => ?_⟩
  by_cases hj : j < os.length
  · obtain ⟨x', y', c0, c1, c2, ox, oy, n1, n2, f1, f2⟩ := hel j hj
    refine ⟨x', y', ?_, ?_, ?_, ?_, ?_, ?_, ?_, f1, f2⟩
    · rw [List.getElem?_append_left (by omega), List.getElem_append_left hj]; exact c0
    · rw [List.getElem?_append_left (by omega)]; exact c1
    · rw [List.getElem?_append_left (by omega)]; exact c2
    · rw [List.getElem_append_left hj]; exact rd_grown ox hg n1
    · rw [List.getElem_append_left hj]; exact rd_grown oy hg n2
    · rw [List.getElem_append_left hj]; exact neb_step n1 ox hat
    · rw [List.getElem_append_left hj]; exact neb_step n2 oy hat
  · have hje : j = os.length := by rw [List.length_append] at h; simp at h; omega
    subst hje
    have e : (os ++ [o])[os.length]'h = o := by simp
    rw [e]
    refine ⟨x, y, ?_, ?_, ?_, rd_grown hx hg nx, rd_grown hy hg ny, neb_step nx hx hat, neb_step ny hy hat, fx, fy⟩
    · rw [List.getElem?_append_right (by omega), show os.length * 3 - cs.length = 0 by omega]; rfl
    · rw [List.getElem?_append_right (by omega), show os.length * 3 + 1 - cs.length = 1 by omega]; rfl
    · rw [List.getElem?_append_right (by omega), show os.length * 3 + 2 - cs.length = 2 by omega]; rfl

/-- bytes that lie from block B on -/
def RdF (B : Nat) (w : World) (v : Value) (l : List UInt8) : Prop := Rd w v l ∧ From B v

/-- ops that lie from block B on, they and what they hold -/
def RdOF (B : Nat) (w : World) (v : Value) (os : List OpB) : Prop := LsO (RdF B) w v os ∧ From B v

theorem RdOF.nil (B : Nat) (w : World) : RdOF B w (.slice none 0 0) [] := ⟨LsO.nil _, from_nil _⟩

theorem RdOF.rd {B : Nat} {w : World} {v : Value} {os : List OpB} (h : RdOF B w v os) : RdO w v os := by
  obtain ⟨⟨ao, cap, e, h1, h2, h3⟩, _⟩ := h
  refine ⟨ao, cap, e, h1, h2, fun j hj => ?_⟩
  obtain ⟨b, off, e1, x, y, c0, c1, c2, r1, r2⟩ := h3 j hj
  exact ⟨b, off, e1, x, y, c0, c1, c2, r1.1, r2.1⟩

theorem RdOF.below {B C : Nat} {w w' : World} {v : Value} {os : List OpB} (h : RdOF B w v os) (hb : Below C w w') (hC : w.heap.size ≤ C) : RdOF B w' v os :=
  ⟨h.1.belowR (fun _ _ hr => ⟨hr.1.below hb hC, hr.2⟩) hb hC, h.2⟩

theorem OwnR.rdf {B : Nat} {w : World} {v : Value} {os : List OpB} (h : OwnR B w v os) : RdOF B w v os := by
  obtain ⟨cs, hr, hj⟩ := h
  have hr2 := hr
  rcases hr.2 with ⟨e, hn⟩ | ⟨g, cap, cur, e, hb, hg, h1, h2, h3, h4⟩
  · refine ⟨⟨none, 0, by rw [e, hn], by omega, Nat.zero_le _, fun j hj => by omega⟩, by rw [e]; exact from_nil _⟩
  · subst e
    refine ⟨⟨_, cap, rfl, h1, h2, fun j h => ⟨g, 0, rfl, ?_⟩⟩, from_at hb⟩
    obtain ⟨x, y, c0, c1, c2, ox, oy, _, _, fx, fy⟩ := hj j h
    have hc := hr2.cells (g := g) rfl
    refine ⟨x, y, ?_, ?_, ?_, ⟨ox, fx⟩, ⟨oy, fy⟩⟩
    · have := hc _ _ c0; rwa [Addr.add_lit] at this
    · have := hc _ _ c1; rwa [Addr.add_lit] at this
    · have := hc _ _ c2; rwa [Addr.add_lit] at this

theorem From.mono' {B C : Nat} {v : Value} (h : From C v) (hB : B ≤ C) : From B v := fun a n c e => Nat.le_trans hB (h a n c e)

theorem RdOF.mono {B C : Nat} {w : World} {v : Value} {os : List OpB} (h : RdOF C w v os) (hB : B ≤ C) : RdOF B w v os := by
  obtain ⟨⟨ao, cap, e, h1, h2, h3⟩, hf⟩ := h
  refine ⟨⟨ao, cap, e, h1, h2, fun j hj => ?_⟩, hf.mono' hB⟩
  obtain ⟨b, off, e1, x, y, c0, c1, c2, r1, r2⟩ := h3 j hj
  exact ⟨b, off, e1, x, y, c0, c1, c2, ⟨r1.1, r1.2.mono' hB⟩, ⟨r2.1, r2.2.mono' hB⟩⟩

theorem cell_elsewhere {w : World} {q p : Addr} {u : Value} (h : q.block ≠ p.block) : (w.setCell p u).cell? q = w.cell? q := by
  unfold World.cell?
  rw [Below.heap_setCell w p u q.block h]

/-- bytes from block B on are what they were when something ahead of B is written -/
theorem RdF.store {B : Nat} {w : World} {v : Value} {l : List UInt8} (h : RdF B w v l) (p : Addr) (hp : p.block < B) (u : Value) : RdF B (w.setCell p u) v l := by
  refine ⟨?_, h.2⟩
  rcases h.1 with h0 | ⟨g, off, cap, rfl, h1, h2, h3⟩
  · exact .inl h0
  · have h0 : Rd w (.slice (some ⟨g, off, none⟩) l.length cap) l := .inr ⟨g, off, cap, rfl, h1, h2, h3⟩
    have hg : B ≤ g := h.2 _ _ _ rfl
    exact h0.other p (by omega) u

theorem RdOF.store {B : Nat} {w : World} {v : Value} {os : List OpB} (h : RdOF B w v os) (p : Addr) (hp : p.block < B) (u : Value) : RdOF B (w.setCell p u) v os := by
  obtain ⟨⟨ao, cap, e, h1, h2, h3⟩, hf⟩ := h
  refine ⟨⟨ao, cap, e, h1, h2, fun j hj => ?_⟩, hf⟩
  obtain ⟨b, off, e1, x, y, c0, c1, c2, r1, r2⟩ := h3 j hj
  have hg : B ≤ b := hf ⟨b, off, none⟩ _ _ (by rw [e, e1])
  have hne : ∀ k, (⟨b, k, none⟩ : Addr).block ≠ p.block := fun k => by show b ≠ p.block; omega
  exact ⟨b, off, e1, x, y, by rw [cell_elsewhere (hne _)]; exact c0, by rw [cell_elsewhere (hne _)]; exact c1, by rw [cell_elsewhere (hne _)]; exact c2, r1.store p hp u, r2.store p hp u⟩

theorem OwnR.shape {B : Nat} {w : World} {v : Value} {os : List OpB} (h : OwnR B w v os) : ∃ a c, v = .slice a os.length c := by
  obtain ⟨a, c, e, _⟩ := h.rd
  exact ⟨a, c, e⟩

end Go.Proofs.Ytjgpkmdmicjdhaa
