/- What is held lies elsewhere than the row; boxes of four cells. -/
import Derived.Test.YtgkgdbdapkgkgaaRefText
import Derived.Test.YtgkgdbdapkgkgaaSmall
import Derived.Test.YtgkgdbdapkgkgaaBoxes
import Derived.Test.YtgkgdbdapkgkgaaClone
import Derived.Deep.OwnRows
namespace Go.Proofs.Ytgkgdbdapkgkgaa
set_option maxRecDepth 20000
open Go.RowKit
set_option linter.unusedVariables false

theorem below_box4 (w : World) (o : Obj) : Below w.heap.size w (w.alloc o) := (Below.refl _ _).alloc (Nat.le_refl _) _

/-- four cells in block b -/
structure Box4 (w : World) (b : Nat) (v0 v1 v2 v3 : Value) : Prop where
  c0 : w.cell? ⟨b, 0, none⟩ = some v0
  c1 : w.cell? ⟨b, 1, none⟩ = some v1
  c2 : w.cell? ⟨b, 2, none⟩ = some v2
  c3 : w.cell? ⟨b, 3, none⟩ = some v3

theorem box4_new (w : World) (v0 v1 v2 v3 : Value) (t : TypeId) : Box4 (w.alloc (.cells #[v0, v1, v2, v3] t)) w.heap.size v0 v1 v2 v3 := by
  have h := heap_alloc_new w (.cells #[v0, v1, v2, v3] t)
  have c := fun i => cell_of_row (w.alloc (.cells #[v0, v1, v2, v3] t)) w.heap.size i _ t (0, 0) h
  exact ⟨by rw [c]; rfl, by rw [c]; rfl, by rw [c]; rfl, by rw [c]; rfl⟩

theorem Box4.lt {w : World} {b : Nat} {v0 v1 v2 v3 : Value} (h : Box4 w b v0 v1 v2 v3) : b < w.heap.size := World.block_lt_of_cell? w _ h.c0

theorem Box4.below {B : Nat} {w w' : World} {b : Nat} {v0 v1 v2 v3 : Value} (h : Box4 w b v0 v1 v2 v3) (hb : Below B w w') (hB : w.heap.size ≤ B) : Box4 w' b v0 v1 v2 v3 := by
  have hl : b < B := Nat.lt_of_lt_of_le h.lt hB
  exact ⟨by rw [hb.cell (p := ⟨b, 0, none⟩) hl]; exact h.c0, by rw [hb.cell (p := ⟨b, 1, none⟩) hl]; exact h.c1, by rw [hb.cell (p := ⟨b, 2, none⟩) hl]; exact h.c2, by rw [hb.cell (p := ⟨b, 3, none⟩) hl]; exact h.c3⟩

/-- x, that reads as l, doesn't lie in v's own block -/
def NeB (x : Value) (l : List UInt8) (v : Value) : Prop := l = [] ∨ ∃ b off n c, x = .slice (some ⟨b, off, none⟩) n c ∧ some b ≠ v.ownBlock

theorem rd_grown {w w' : World} {x : Value} {l : List UInt8} {row : Option Nat} (h : Rd w x l) (hg : w.grownBy w' row) (hn : l = [] ∨ ∃ b off n c, x = .slice (some ⟨b, off, none⟩) n c ∧ some b ≠ row) : Rd w' x l := by
  rcases h with h | ⟨b, off, cap, rfl, h1, h2, h3⟩
  · exact .inl h
  · rcases hn with rfl | ⟨b', off', n, c, e, hne⟩
    · exact .inr ⟨b, off, cap, rfl, h1, h2, fun j u hu => by simp [bv] at hu⟩
    · cases e
      have : Rd w (.slice (some ⟨b, off, none⟩) l.length cap) l := .inr ⟨b, off, cap, rfl, h1, h2, h3⟩
      exact this.grown hg hne

theorem neb_of {w : World} {C : Nat} {x v : Value} {l : List UInt8} (hf : From C x) (hr : ∀ q, v.ownBlock = some q → q < C) (h : Rd w x l) : NeB x l v := by
  rcases h with h | ⟨b, off, cap, rfl, _⟩
  · exact .inl h.2
  · refine .inr ⟨b, off, _, cap, rfl, fun e => ?_⟩
    have h1 : C ≤ b := hf _ _ _ rfl
    have h2 := hr b e.symm
    omega

theorem neb_step {w : World} {x v : Value} {l : List UInt8} {g n c : Nat} (h : NeB x l v) (hr : Rd w x l) (hat : v.ownBlock = some g ∨ g = w.heap.size) : NeB x l (.slice (some ⟨g, 0, none⟩) n c) := by
  rcases h with h | ⟨b, off, m, k, rfl, hne⟩
  · exact .inl h
  · by_cases hl : l = []
    · exact .inl hl
    · refine .inr ⟨b, off, m, k, rfl, ?_⟩
      rcases hat with e | e
      · rw [e] at hne; exact hne
      · have hlt : b < w.heap.size := by
          rcases hr with ⟨h, _⟩ | ⟨b', off', cap, e2, _, _, h3⟩
          · cases h
          · cases e2
            have h0 : 0 < l.length := List.length_pos_iff.2 hl
            exact World.block_lt_of_cell? w _ (h3 0 _ (bv_get l 0 h0))
        simp [Value.ownBlock]
        omega

/-- rows of unlike elements lie apart -/
theorem rows_ne {w : World} {B B' n m s s' : Nat} {e e' : TypeId} {v v' : Value} {cs cs' : List Value} (hne : e ≠ e') (h : w.ownsRow B e s v n cs) (h' : w.ownsRow B' e' s' v' m cs') : v'.ownBlock = none ∨ v'.ownBlock ≠ v.ownBlock := by
  rcases h'.2 with ⟨e1, _⟩ | ⟨g', cap', cur', e1, _, hg', _⟩
  · subst e1; exact .inl rfl
  · subst e1
    refine .inr ?_
    rcases h.2 with ⟨e2, _⟩ | ⟨g, cap, cur, e2, _, hg, _⟩
    · subst e2; simp [Value.ownBlock]
    · subst e2
      intro e3
      simp only [Value.ownBlock, Option.some.injEq] at e3
      subst e3
      rw [hg] at hg'
      simp at hg'
      exact hne hg'.2

theorem ownN_kept {w w' : World} {B B' n s : Nat} {e : TypeId} {v x : Value} {cs : List Value} {l : List UInt8} (h : OwnN B' w x l) (he : e ≠ 5) (hr : w.ownsRow B e s v n cs) (hg : w.grownBy w' v.ownBlock) : OwnN B' w' x l := by
  rcases h with h | h
  · exact .inl h
  · obtain ⟨g, c, rfl⟩ := h.shape
    exact .inr (Own.of_row (h.row.kept hg (rows_ne he hr h.row)) (by simp))

/-- an entry's four cells, as they were laid -/
theorem laid4 (w : World) (v0 v1 v2 v3 : Value) (t : TypeId) : ∀ j u, [v0, v1, v2, v3][j]? = some u → (w.alloc (.cells #[v0, v1, v2, v3] t)).cell? ((⟨w.heap.size, 0, none⟩ : Addr).add j) = some u := by
  intro j u hj
  match j, hj with
  | 0, hj => simp at hj; subst hj; simp [Addr.add]
  | 1, hj => simp at hj; subst hj; simp [Addr.add]
  | 2, hj => simp at hj; subst hj; simp [Addr.add]
  | 3, hj => simp at hj; subst hj; simp [Addr.add]
  | (j + 4), hj => simp at hj

theorem one4 (k s : Int) (a b : Option Addr) (n m c d : Nat) : ∀ u ∈ [Value.int .u8 k, .int .u64 s, .slice a n c, .slice b m d], u.oneCell' = true := by
  intro u hu
  simp at hu
  rcases hu with rfl | rfl | rfl | rfl <;> rfl

theorem Box4.grown {w w' : World} {b : Nat} {v0 v1 v2 v3 : Value} {row : Option Nat} (h : Box4 w b v0 v1 v2 v3) (hg : w.grownBy w' row) (hne : some b ≠ row) : Box4 w' b v0 v1 v2 v3 := by
  have e : w'.heap[b]? = w.heap[b]? := hg.block b h.lt hne
  obtain ⟨c0, c1, c2, c3⟩ := h
  exact ⟨by rw [← c0]; unfold World.cell?; rw [e], by rw [← c1]; unfold World.cell?; rw [e], by rw [← c2]; unfold World.cell?; rw [e], by rw [← c3]; unfold World.cell?; rw [e]⟩

theorem Box4.drew {w : World} {b : Nat} {v0 v1 v2 v3 : Value} (h : Box4 w b v0 v1 v2 v3) : Box4 w.drew b v0 v1 v2 v3 := ⟨h.c0, h.c1, h.c2, h.c3⟩

theorem Box4.alloc {w : World} {b : Nat} {v0 v1 v2 v3 : Value} (h : Box4 w b v0 v1 v2 v3) (o : Obj) : Box4 (w.alloc o) b v0 v1 v2 v3 := h.below (below_box4 w o) (Nat.le_refl _)

/-- four cells in block b, that may be written -/
structure Box4f (w : World) (b : Nat) (v0 v1 v2 v3 : Value) : Prop where
  bx : Box4 w b v0 v1 v2 v3
  f0 : w.frozen? ⟨b, 0, none⟩ = false
  f1 : w.frozen? ⟨b, 1, none⟩ = false
  f2 : w.frozen? ⟨b, 2, none⟩ = false
  f3 : w.frozen? ⟨b, 3, none⟩ = false

theorem box4f_new (w : World) (v0 v1 v2 v3 : Value) (t : TypeId) : Box4f (w.alloc (.cells #[v0, v1, v2, v3] t)) w.heap.size v0 v1 v2 v3 := by
  have h := heap_alloc_new w (.cells #[v0, v1, v2, v3] t)
  have f := fun i => frozen_of_row (w.alloc (.cells #[v0, v1, v2, v3] t)) w.heap.size i _ t h
  exact ⟨box4_new w v0 v1 v2 v3 t, f 0, f 1, f 2, f 3⟩

theorem Box4f.below {B : Nat} {w w' : World} {b : Nat} {v0 v1 v2 v3 : Value} (h : Box4f w b v0 v1 v2 v3) (hb : Below B w w') (hB : w.heap.size ≤ B) : Box4f w' b v0 v1 v2 v3 := by
  have hl : b < B := Nat.lt_of_lt_of_le h.bx.lt hB
  exact ⟨h.bx.below hb hB, by rw [hb.frozen (p := ⟨b, 0, none⟩) hl]; exact h.f0, by rw [hb.frozen (p := ⟨b, 1, none⟩) hl]; exact h.f1, by rw [hb.frozen (p := ⟨b, 2, none⟩) hl]; exact h.f2, by rw [hb.frozen (p := ⟨b, 3, none⟩) hl]; exact h.f3⟩

theorem below_store4 {B : Nat} {a w : World} (h : Below B a w) {b : Nat} (hb : B ≤ b) (u0 u1 u2 u3 : Value) : Below B a ((((w.setCell ⟨b, 0, none⟩ u0).setCell ⟨b, 1, none⟩ u1).setCell ⟨b, 2, none⟩ u2).setCell ⟨b, 3, none⟩ u3) :=
  (((h.setCell (p := ⟨b, 0, none⟩) hb u0).setCell (p := ⟨b, 1, none⟩) hb u1).setCell (p := ⟨b, 2, none⟩) hb u2).setCell (p := ⟨b, 3, none⟩) hb u3

theorem rd_store4 {w : World} {v : Value} {l : List UInt8} {b : Nat} (h : Rd w v l) (hb : ∀ g, v.ownBlock = some g → g ≠ b) (u0 u1 u2 u3 : Value) : Rd ((((w.setCell ⟨b, 0, none⟩ u0).setCell ⟨b, 1, none⟩ u1).setCell ⟨b, 2, none⟩ u2).setCell ⟨b, 3, none⟩ u3) v l := by
  rcases h with h | ⟨g, off, cap, rfl, h1, h2, h3⟩
  · exact .inl h
  · have h0 : Rd w (.slice (some ⟨g, off, none⟩) l.length cap) l := .inr ⟨g, off, cap, rfl, h1, h2, h3⟩
    have hne := hb g rfl
    exact (((h0.other ⟨b, 0, none⟩ hne u0).other ⟨b, 1, none⟩ hne u1).other ⟨b, 2, none⟩ hne u2).other ⟨b, 3, none⟩ hne u3

theorem Box4.drewN {w : World} {b : Nat} {v0 v1 v2 v3 : Value} (h : Box4 w b v0 v1 v2 v3) (n : Nat) : Box4 (w.drewN n) b v0 v1 v2 v3 := ⟨h.c0, h.c1, h.c2, h.c3⟩

theorem cell_other (w : World) (p q : Addr) (u : Value) (h : q.block ≠ p.block) : (w.setCell p u).cell? q = w.cell? q := by
  unfold World.cell?
  rw [Below.heap_setCell w p u q.block h]

/-- four cells stored elsewhere -/
theorem Box4.stored {w : World} {b : Nat} {v0 v1 v2 v3 : Value} (h : Box4 w b v0 v1 v2 v3) (b' : Nat) (hne : b ≠ b') (u0 u1 u2 u3 : Value) : Box4 ((((w.setCell ⟨b', 0, none⟩ u0).setCell ⟨b', 1, none⟩ u1).setCell ⟨b', 2, none⟩ u2).setCell ⟨b', 3, none⟩ u3) b v0 v1 v2 v3 := by
  obtain ⟨c0, c1, c2, c3⟩ := h
  constructor
  all_goals (rw [cell_other _ _ _ _ hne, cell_other _ _ _ _ hne, cell_other _ _ _ _ hne, cell_other _ _ _ _ hne]; assumption)

theorem bsplit {a b c : World} (h : Below a.heap.size a b) (h2 : Below b.heap.size b c) : Below a.heap.size a c := h.trans (h2.mono h.size)

end Go.Proofs.Ytgkgdbdapkgkgaa
