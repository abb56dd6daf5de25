/- What a value reads as, and what is a call's own. -/
import Derived.Test.YtgkgdbdapkgkgaaMath
import Derived.Test.YtgkgdbdapkgkgaaRows
import Derived.WalkKit
import Derived.ProofKit
import Derived.OpenShut
import Derived.WalkSpells
import Derived.WalkLawsBesides
import Derived.Laws.BytesArg
import Derived.Laws.CopyOwn
import Derived.Laws.AppendOwnNone
namespace Go.Proofs.Ytgkgdbdapkgkgaa
open Go.RowKit

/-- bytes as cells -/
def bv (l : List UInt8) : List Value := l.map fun b => Value.int .u8 (b.toNat : Int)

theorem bv_length (l : List UInt8) : (bv l).length = l.length := by simp [bv]

theorem bv_append (l m : List UInt8) : bv (l ++ m) = bv l ++ bv m := by simp [bv]

theorem bv_one (l : List UInt8) : ∀ u ∈ bv l, u.oneCell' = true := by
  intro u hu
  obtain ⟨b, _, rfl⟩ := List.mem_map.1 hu
  rfl

theorem bv_get (l : List UInt8) (j : Nat) (h : j < l.length) : (bv l)[j]? = some (.int .u8 ((l[j]).toNat : Int)) := by simp [bv, h]

/-- the slice value v reads as the bytes l -/
def Rd (w : World) (v : Value) (l : List UInt8) : Prop :=
  (v = .slice none 0 0 ∧ l = []) ∨ ∃ b off cap, v = .slice (some ⟨b, off, none⟩) l.length cap ∧ l.length ≤ cap ∧ cap ≤ maxLen ∧ ∀ j u, (bv l)[j]? = some u → w.cell? ⟨b, off + j, none⟩ = some u

/-- v is a row of the call's own, from block B on, that holds the bytes l -/
def Own (B : Nat) (w : World) (v : Value) (l : List UInt8) : Prop :=
  ∃ g cap cur, v = .slice (some ⟨g, 0, none⟩) l.length cap ∧ B ≤ g ∧ w.heap[g]? = some (.cells cur 5 (0, 0)) ∧ l.length ≤ cap ∧ cap ≤ maxLen ∧ cur.size = cap ∧ cur.toList.take l.length = bv l

theorem Own.row {B : Nat} {w : World} {v : Value} {l : List UInt8} (h : Own B w v l) : w.ownsRow B 5 1 v l.length (bv l) := by
  obtain ⟨g, cap, cur, rfl, hb, hg, h1, h2, h3, h4⟩ := h
  exact ⟨by simp [bv_length], .inr ⟨g, cap, cur, rfl, hb, hg, h1, h2, by simpa using h3, by simpa using h4⟩⟩

theorem Own.of_row {B : Nat} {w : World} {v : Value} {l : List UInt8} (h : w.ownsRow B 5 1 v l.length (bv l)) (hn : v ≠ .slice none 0 0) : Own B w v l := by
  rcases h.2 with ⟨e, _⟩ | ⟨g, cap, cur, rfl, hb, hg, h1, h2, h3, h4⟩
  · exact absurd e hn
  · exact ⟨g, cap, cur, rfl, hb, hg, h1, h2, by simpa using h3, by simpa using h4⟩

theorem Own.rd {B : Nat} {w : World} {v : Value} {l : List UInt8} (h : Own B w v l) : Rd w v l := by
  have hr := h.row
  obtain ⟨g, cap, cur, rfl, hb, hg, h1, h2, h3, h4⟩ := h
  refine .inr ⟨g, 0, cap, rfl, h1, h2, fun j u hu => ?_⟩
  have := hr.cells (g := g) rfl j u hu
  simpa [Addr.add_lit] using this

/-- what lies below block B stays -/
theorem Rd.below {B : Nat} {w w' : World} {v : Value} {l : List UInt8} (h : Rd w v l) (hb : Below B w w') (hB : w.heap.size ≤ B) : Rd w' v l := by
  rcases h with h | ⟨b, off, cap, rfl, h1, h2, h3⟩
  · exact .inl h
  · refine .inr ⟨b, off, cap, rfl, h1, h2, fun j u hu => ?_⟩
    have := h3 j u hu
    rw [hb.cell (p := ⟨b, off + j, none⟩) (Nat.lt_of_lt_of_le (World.block_lt_of_cell? w _ this) hB)]
    exact this

theorem Rd.drew {w : World} {v : Value} {l : List UInt8} (h : Rd w v l) : Rd w.drew v l := h

theorem Own.below {B C : Nat} {w w' : World} {v : Value} {l : List UInt8} (h : Own B w v l) (hb : Below C w w') (hC : w.heap.size ≤ C) : Own B w' v l := by
  obtain ⟨g, cap, cur, rfl, hB, hg, r⟩ := h
  refine ⟨g, cap, cur, rfl, hB, ?_, r⟩
  rw [hb.block g (Nat.lt_of_lt_of_le (Array.getElem?_eq_some_iff.1 hg).1 hC)]
  exact hg

theorem Own.mono {B C : Nat} {w : World} {v : Value} {l : List UInt8} (h : Own B w v l) (hC : C ≤ B) : Own C w v l := by
  obtain ⟨g, cap, cur, rfl, hB, r⟩ := h
  exact ⟨g, cap, cur, rfl, Nat.le_trans hC hB, r⟩

theorem info5 : (Try.prog.info? 5).map (fun i => (i.zero, i.size, i.bytes)) = some (some (.int .u8 0), 1, 1) := by kernel_rfl

theorem own_lit (w : World) (B : Nat) (hB : B ≤ w.heap.size) (l : List UInt8) (h : l.length ≤ maxLen) (cs : Array Value) (hc : cs = (bv l).toArray) :
    Own B (w.alloc (.cells cs 5)) (.slice (some ⟨w.heap.size, 0, none⟩) l.length l.length) l := by
  subst hc
  exact ⟨w.heap.size, l.length, _, rfl, hB, heap_alloc_new w _, Nat.le_refl _, h, by simp [bv_length], by simp [List.take_of_length_le, bv_length]⟩

theorem u8_of (x : Int) (h0 : 0 ≤ x) (h1 : x < 256) : Value.int .u8 x = .int .u8 ((UInt8.ofNat x.toNat).toNat : Int) := by
  congr 1
  simp; omega

theorem ret_int {k : IntKind} {a b : Int} (h : a = b) : Ending.returned (.int k a) = .returned (.int k b) := by rw [h]

theorem Own.shape {B : Nat} {w : World} {v : Value} {l : List UInt8} (h : Own B w v l) : ∃ g k, v = .slice (some ⟨g, 0, none⟩) l.length k := by
  obtain ⟨g, k, c, e, _⟩ := h; exact ⟨g, k, e⟩

theorem Own.lt {B : Nat} {w : World} {g n k : Nat} {l : List UInt8} (h : Own B w (.slice (some ⟨g, 0, none⟩) n k) l) : B ≤ g ∧ g < w.heap.size := h.row.lt g rfl

theorem Rd.len {w : World} {v : Value} {l : List UInt8} (h : Rd w v l) : ∃ ao cap, v = .slice ao l.length cap := by
  rcases h with ⟨rfl, rfl⟩ | ⟨b, off, cap, rfl, _⟩
  · exact ⟨none, 0, rfl⟩
  · exact ⟨_, _, rfl⟩

theorem rd_lit (w : World) (l : List UInt8) (h : l.length ≤ maxLen) (cs : Array Value) (hc : cs = (bv l).toArray) : Rd (w.alloc (.cells cs 5)) (.slice (some ⟨w.heap.size, 0, none⟩) l.length l.length) l :=
  (own_lit w w.heap.size (Nat.le_refl _) l h cs hc).rd

/-- the value v is a slice of slices that read as the texts ls -/
def RdL (w : World) (v : Value) (ls : List (List UInt8)) : Prop :=
  (v = .slice none 0 0 ∧ ls = []) ∨ ∃ b off cap, v = .slice (some ⟨b, off, none⟩) ls.length cap ∧ ls.length ≤ cap ∧ cap ≤ maxLen ∧ ∀ j (h : j < ls.length), ∃ u, w.cell? ⟨b, off + j, none⟩ = some u ∧ Rd w u (ls[j])

theorem RdL.below {B : Nat} {w w' : World} {v : Value} {ls : List (List UInt8)} (h : RdL w v ls) (hb : Below B w w') (hB : w.heap.size ≤ B) : RdL w' v ls := by
  rcases h with h | ⟨b, off, cap, rfl, h1, h2, h3⟩
  · exact .inl h
  · refine .inr ⟨b, off, cap, rfl, h1, h2, fun j hj => ?_⟩
    obtain ⟨u, hc, hr⟩ := h3 j hj
    refine ⟨u, ?_, hr.below hb hB⟩
    rw [hb.cell (p := ⟨b, off + j, none⟩) (Nat.lt_of_lt_of_le (World.block_lt_of_cell? w _ hc) hB)]
    exact hc

/-- a piece of what is read -/
theorem rd_sub {w : World} {l : List UInt8} {b off : Nat} (h3 : ∀ j u, (bv l)[j]? = some u → w.cell? ⟨b, off + j, none⟩ = some u) (i k c : Nat) (h1 : k ≤ c) (h2 : c ≤ maxLen) (hk : i + k ≤ l.length) :
    Rd w (.slice (some ⟨b, off + i, none⟩) k c) ((l.drop i).take k) := by
  have e : ((l.drop i).take k).length = k := by simp; omega
  refine .inr ⟨b, off + i, c, by rw [e], by omega, h2, fun j u hu => ?_⟩
  have hj : j < k := by have := (List.getElem?_eq_some_iff.1 hu).1; rw [bv_length] at this; omega
  rw [Nat.add_assoc]
  refine h3 (i + j) u ?_
  rw [← hu]
  simp [bv, hj]

theorem row_of {w : World} {B g n cap : Nat} {xs : List Value} (h : w.ownsRow B 5 1 (.slice (some ⟨g, 0, none⟩) n cap) n xs) : ∃ cur : List Value, w.heap[g]? = some (.cells cur.toArray 5 (0, 0)) ∧ cur.length = cap := by
  rcases h.2 with ⟨h, _⟩ | ⟨g', cap', cur, h, _, hg, _, _, hs, _⟩
  · cases h
  · simp only [Value.slice.injEq, Option.some.injEq, Addr.mk.injEq, and_true, true_and] at h
    obtain ⟨rfl, rfl⟩ := h
    exact ⟨cur.toList, by simpa using hg, by simpa using hs⟩

theorem rd_none {w : World} (b off c : Nat) (hc : c ≤ maxLen) : Rd w (.slice (some ⟨b, off, none⟩) 0 c) [] :=
  .inr ⟨b, off, c, rfl, Nat.zero_le _, hc, fun j u hu => by simp [bv] at hu⟩

/-- what stands behind so many bytes, as the walk makes it -/
theorem rd_drop {w : World} {l : List UInt8} {b off cap : Nat} (h3 : ∀ j u, (bv l)[j]? = some u → w.cell? ⟨b, off + j, none⟩ = some u) (h1 : l.length ≤ cap) (h2 : cap ≤ maxLen) (s : Nat) (hs : s ≤ l.length) :
    ∃ off', (¬ cap = s → off' = off + s) ∧ (cap = s → off' = off) ∧ Rd w (.slice (some ⟨b, off', none⟩) (l.length - s) (cap - s)) (l.drop s) ∧ ∀ j u, (bv (l.drop s))[j]? = some u → w.cell? ⟨b, off' + j, none⟩ = some u := by
  by_cases h : cap = s
  · have ht : l.drop s = [] := by apply List.drop_eq_nil_of_le; omega
    refine ⟨off, fun e => absurd h e, fun _ => rfl, ?_, fun j u hu => by rw [ht] at hu; simp [bv] at hu⟩
    rw [ht, show l.length - s = 0 by omega]
    exact rd_none b off _ (by omega)
  · refine ⟨off + s, fun _ => rfl, fun e => absurd e h, ?_, fun j u hu => ?_⟩
    · have := rd_sub h3 s (l.length - s) (cap - s) (by omega) (by omega) (by omega)
      rwa [List.take_of_length_le (by simp)] at this
    · rw [Nat.add_assoc]
      refine h3 (s + j) u ?_
      rw [← hu]
      simp [bv]

theorem own_empty (w : World) : (w.alloc (.cells #[] 5)).ownsRow w.heap.size 5 1 (.slice (some ⟨w.heap.size, 0, none⟩) 0 0) 0 [] := World.ownsRow_lit w #[] 0 (Nat.le_refl _) (Nat.zero_le _) rfl

theorem below_empty (w : World) : Below w.heap.size w (w.alloc (.cells #[] 5)) := (Below.refl _ _).alloc (Nat.le_refl _) _

theorem rd_cells {w : World} {b off n cap : Nat} {l : List UInt8} (h : Rd w (.slice (some ⟨b, off, none⟩) n cap) l) : l.length = n ∧ ∀ j u, (bv l)[j]? = some u → w.cell? ((⟨b, off, none⟩ : Addr).add j) = some u := by
  rcases h with ⟨h, _⟩ | ⟨b', off', cap', e, h1, h2, h3⟩
  · cases h
  · simp only [Value.slice.injEq, Option.some.injEq, Addr.mk.injEq, and_true] at e
    obtain ⟨⟨rfl, rfl⟩, e2, rfl⟩ := e
    exact ⟨e2.symm, fun j u hu => by rw [Addr.add_lit]; exact h3 j u hu⟩

theorem Rd.grown {w w' : World} {b off n cap : Nat} {l : List UInt8} {row : Option Nat} (h : Rd w (.slice (some ⟨b, off, none⟩) n cap) l) (hg : w.grownBy w' row) (hne : some b ≠ row) : Rd w' (.slice (some ⟨b, off, none⟩) n cap) l := by
  rcases h with ⟨h, _⟩ | ⟨b', off', cap', e, h1, h2, h3⟩
  · cases h
  · refine .inr ⟨b', off', cap', e, h1, h2, fun j u hu => hg.cell (h3 j u hu) ?_⟩
    simp only [Value.slice.injEq, Option.some.injEq, Addr.mk.injEq, and_true] at e
    obtain ⟨⟨rfl, rfl⟩, _, rfl⟩ := e
    exact hne

theorem made_list (n : Nat) : (madeCells (Value.int .u8 0).cells (n * 1)).toList = List.replicate n (Value.int .u8 0) := by
  rw [Nat.mul_one]
  exact toList_madeCells_one _ n

theorem cell_owned {w : World} {B g n cap : Nat} {xs : List Value} (h : w.ownsRow B 5 1 (.slice (some ⟨g, 0, none⟩) n cap) n xs) (j : Nat) (hj : j < n) : ∃ u, w.cell? ⟨g, j, none⟩ = some u := by
  have hl : j < xs.length := by have := h.1; omega
  exact ⟨xs[j], by rw [h.cellAt j (by omega)]; simp [hl]⟩

theorem lit_row (w : World) (B : Nat) (hB : B ≤ w.heap.size) (b : UInt8) : (w.alloc (.cells #[.int .u8 (b.toNat : Int)] 5)).ownsRow B 5 1 (.slice (some ⟨w.heap.size, 0, none⟩) 1 1) 1 (bv [b]) :=
  World.ownsRow_lit w #[.int .u8 (b.toNat : Int)] 1 hB (by simp [maxLen]) rfl

theorem row_alloc_cells {w : World} {B g n cap : Nat} {l : List UInt8} (h : w.ownsRow B 5 1 (.slice (some ⟨g, 0, none⟩) n cap) n (bv l)) (o : Obj) : ∀ j u, (bv l)[j]? = some u → (w.alloc o).cell? ((⟨g, 0, none⟩ : Addr).add j) = some u :=
  (h.alloc o).cells rfl

theorem row_shape {w : World} {B n : Nat} {v : Value} {l : List UInt8} (h : w.ownsRow B 5 1 v n (bv l)) : (v = .slice none 0 0 ∧ l = [] ∧ n = 0) ∨ ∃ g cap, v = .slice (some ⟨g, 0, none⟩) n cap := by
  have hl := h.1
  rcases h.2 with ⟨e, e2⟩ | ⟨g, cap, cur, e, _⟩
  · subst e2
    rw [bv_length] at hl
    exact .inl ⟨e, List.eq_nil_of_length_eq_zero (by omega), rfl⟩
  · exact .inr ⟨g, cap, e⟩

theorem app_shape {w : World} {B n m : Nat} {v' : Value} {l u : List UInt8} (ho : w.ownsRow B 5 1 v' (n + m) (bv l ++ bv u)) (hl : l.length = n) (hu : u.length = m) (hn : v' ≠ .slice none 0 0) :
    ∃ g k, v' = .slice (some ⟨g, 0, none⟩) (n + m) k ∧ n + m ≤ k ∧ k ≤ 9223372036854775807 ∧ Own B w v' (l ++ u) := by
  subst hl hu
  have h : Own B w v' (l ++ u) := Own.of_row (by rw [List.length_append, bv_append]; exact ho) hn
  have h' := h
  obtain ⟨g, k, c, e, _, _, h1, h2, _⟩ := h
  rw [List.length_append] at e h1
  exact ⟨g, k, e, h1, by unfold maxLen at h2; omega, h'⟩

/-- a byte is stored into what is one's own -/
theorem Own.store {B : Nat} {w : World} {g n k : Nat} {l : List UInt8} (h : Own B w (.slice (some ⟨g, 0, none⟩) n k) l) (i : Nat) (y : UInt8) : Own B (w.setCell ⟨g, i, none⟩ (.int .u8 (y.toNat : Int))) (.slice (some ⟨g, 0, none⟩) n k) (l.set i y) := by
  have hl : n = l.length := by obtain ⟨g', k', c, e, _⟩ := h; cases e; rfl
  subst hl
  have e := h.row.stored i (.int .u8 (y.toNat : Int))
  refine Own.of_row ?_ (by simp)
  have e2 : (bv l).set i (.int .u8 (y.toNat : Int)) = bv (l.set i y) := by simp [bv, List.map_set]
  rw [← e2, List.length_set]
  exact e.1

theorem Own.frozen {B : Nat} {w : World} {g n k : Nat} {l : List UInt8} (h : Own B w (.slice (some ⟨g, 0, none⟩) n k) l) (i : Nat) : w.frozen? ⟨g, i, none⟩ = false := by
  have hl : n = l.length := by obtain ⟨g', k', c, e, _⟩ := h; cases e; rfl
  subst hl
  exact World.ownsRow.frozenAt h.row i

theorem Own.cell {B : Nat} {w : World} {g n k : Nat} {l : List UInt8} (h : Own B w (.slice (some ⟨g, 0, none⟩) n k) l) (i : Nat) (hi : i < l.length) : w.cell? ⟨g, i, none⟩ = some (.int .u8 ((l[i]).toNat : Int)) := by
  have := (rd_cells h.rd).2 i _ (bv_get _ i hi)
  rwa [Addr.add_lit, Nat.zero_add] at this

theorem Own.other {B : Nat} {w : World} {g n k : Nat} {l : List UInt8} (h : Own B w (.slice (some ⟨g, 0, none⟩) n k) l) (p : Addr) (hp : g ≠ p.block) (u : Value) : Own B (w.setCell p u) (.slice (some ⟨g, 0, none⟩) n k) l := by
  obtain ⟨g', k', c, e, hB, hg, r⟩ := h
  cases e
  exact ⟨g, k, c, rfl, hB, by rw [Below.heap_setCell w p u g hp]; exact hg, r⟩

theorem Own.drew {B : Nat} {w : World} {v : Value} {l : List UInt8} (h : Own B w v l) : Own B w.drew v l := h

theorem rd_mark (w : World) (l : List UInt8) (h : l.length ≤ maxLen) (fr : Nat × Nat) (cs : Array Value) (hc : cs = (bv l).toArray) : Rd (w.alloc (.cells cs 5 fr)) (.slice (some ⟨w.heap.size, 0, none⟩) l.length l.length) l := by
  subst hc
  refine .inr ⟨w.heap.size, 0, l.length, rfl, Nat.le_refl _, h, fun j u hu => ?_⟩
  rw [Nat.zero_add, World.cell?_alloc_mark]
  simpa using hu

def pre (ls : List (List UInt8)) (k : Nat) : List UInt8 := (ls.take k).flatten

theorem pre_zero (ls : List (List UInt8)) : pre ls 0 = [] := by simp [pre]

theorem pre_end (ls : List (List UInt8)) : pre ls ls.length = ls.flatten := by simp [pre]

theorem pre_succ (ls : List (List UInt8)) (k : Nat) (h : k < ls.length) : pre ls (k + 1) = pre ls k ++ ls[k] := by
  unfold pre
  rw [List.take_succ_eq_append_getElem h, List.flatten_append]
  simp only [List.flatten_cons, List.flatten_nil, List.append_nil]

theorem pre_le (ls : List (List UInt8)) (k : Nat) : (pre ls k).length ≤ ls.flatten.length := by
  have e : ls.flatten = pre ls k ++ (ls.drop k).flatten := by
    conv => lhs; rw [← List.take_append_drop k ls]
    rw [List.flatten_append]; rfl
  rw [e, List.length_append]; omega

theorem own_kept {B : Nat} {w w' : World} {g n c : Nat} {l : List UInt8} {row : Option Nat} (h : Own B w (.slice (some ⟨g, 0, none⟩) n c) l) (hg : w.grownBy w' row) (hne : some g ≠ row) : Own B w' (.slice (some ⟨g, 0, none⟩) n c) l := by
  obtain ⟨g', cap, cur, e, hB, hh, r⟩ := h
  simp only [Value.slice.injEq, Option.some.injEq, Addr.mk.injEq, and_true] at e
  obtain ⟨rfl, rfl, rfl⟩ := e
  exact ⟨g, c, cur, rfl, hB, by rw [hg.block g (Array.getElem?_eq_some_iff.1 hh).1 hne]; exact hh, r⟩

/-- a row lives on below -/
theorem row_below {B e n size : Nat} {w w' : World} {v : Value} {xs : List Value} (h : w.ownsRow B e size v n xs) (hb : Below w.heap.size w w') : w'.ownsRow B e size v n xs := by
  have hgg : w.grownBy w' none := ⟨hb.os, hb.tape, hb.output, hb.size, fun i hi _ => hb.block i hi⟩
  exact h.kept hgg (by cases v.ownBlock <;> simp)

theorem RdL.drew {w : World} {v : Value} {ls : List (List UInt8)} (h : RdL w v ls) : RdL w.drew v ls := h

end Go.Proofs.Ytgkgdbdapkgkgaa
