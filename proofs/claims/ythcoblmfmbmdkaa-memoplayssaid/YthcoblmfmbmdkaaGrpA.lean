/- Several texts in one. -/
import Derived.Laws.BytesArg
import Derived.Test.YthcoblmfmbmdkaaRows
import Derived.WalkKit
import Derived.ProofKit
import Derived.OpenShut
import Derived.WalkSpells
import Derived.WalkLawsBesides
import Derived.Laws.CopyOwn
import Derived.Laws.AppendOwnNone
import Derived.Shelf.Strconv.Itoa0
import Derived.Deep.RegionWith
import Derived.Deep.RegionLaw

/- The plain mathematics of layer 1: the bytes of a number, how many they are, and how they are read. Nothing of the program is named here. -/
namespace Go.Proofs.Ythcoblmfmbmdkaa.Mth

/-- so many bytes of a number, the highest first -/
def beB : Nat → Nat → List UInt8
  | 0, _ => []
  | k + 1, n => beB k (n / 256) ++ [UInt8.ofNat (n % 256)]

theorem beB_length (k n : Nat) : (beB k n).length = k := by
  induction k generalizing n with
  | zero => rfl
  | succ k ih => simp [beB, ih]

/-- bytes as one number, the highest first -/
def hf (l : List UInt8) : Nat := l.foldl (fun n b => n * 256 + b.toNat) 0

theorem hf_snoc (l : List UInt8) (b : UInt8) : hf (l ++ [b]) = hf l * 256 + b.toNat := by simp [hf]

theorem hf_lt (l : List UInt8) : hf l < 256 ^ l.length := by
  induction h : l.length generalizing l with
  | zero => obtain rfl := List.eq_nil_of_length_eq_zero h; simp [hf]
  | succ k ih =>
    have hne : l ≠ [] := by intro e; simp [e] at h
    have hl : (l.dropLast).length = k := by simp [h]
    have := ih l.dropLast hl
    rw [← List.dropLast_concat_getLast hne, hf_snoc]
    have hb := (l.getLast hne).toNat_lt
    rw [Nat.pow_succ]
    omega

theorem hf_beB (k n : Nat) : hf (beB k n) = n % 256 ^ k := by
  induction k generalizing n with
  | zero => simp [beB, hf, Nat.mod_one]
  | succ k ih =>
    rw [beB, hf_snoc, ih]
    have h1 : (UInt8.ofNat (n % 256)).toNat = n % 256 := by simp
    rw [h1, Nat.pow_succ, Nat.mul_comm (256 ^ k) 256, Nat.mod_mul]
    omega

theorem beB_hf (l : List UInt8) : beB l.length (hf l) = l := by
  induction h : l.length generalizing l with
  | zero => obtain rfl := List.eq_nil_of_length_eq_zero h; rfl
  | succ k ih =>
    have hne : l ≠ [] := by intro e; simp [e] at h
    have hl : (l.dropLast).length = k := by simp [h]
    have := ih l.dropLast hl
    conv => rhs; rw [← List.dropLast_concat_getLast hne]
    have e : hf l = hf l.dropLast * 256 + (l.getLast hne).toNat := by
      conv => lhs; rw [← List.dropLast_concat_getLast hne]
      rw [hf_snoc]
    have hb := (l.getLast hne).toNat_lt
    rw [beB, e]
    have e1 : (hf l.dropLast * 256 + (l.getLast hne).toNat) / 256 = hf l.dropLast := by omega
    have e2 : (hf l.dropLast * 256 + (l.getLast hne).toNat) % 256 = (l.getLast hne).toNat := by omega
    rw [e1, e2, this]
    simp

/-- how many bytes a wide number has behind its first -/
def wsize (n : Nat) : Nat :=
  if n < 16777216 then 3 else if n < 4294967296 then 4 else if n < 1099511627776 then 5 else if n < 281474976710656 then 6 else if n < 72057594037927936 then 7 else 8

theorem wsize_le (n : Nat) : 3 ≤ wsize n ∧ wsize n ≤ 8 := by
  unfold wsize; repeat' split
  all_goals omega

theorem wsize_fits (n : Nat) (h : n < 18446744073709551616) : n < 256 ^ wsize n := by
  unfold wsize; repeat' split
  all_goals (simp; omega)

/-- a number's bytes -/
def numB (n : Nat) : List UInt8 :=
  if n ≤ 240 then [UInt8.ofNat n]
  else if n ≤ 2287 then [UInt8.ofNat (241 + (n - 240) / 256), UInt8.ofNat ((n - 240) % 256)]
  else if n ≤ 67823 then [249, UInt8.ofNat ((n - 2288) / 256), UInt8.ofNat ((n - 2288) % 256)]
  else UInt8.ofNat (247 + wsize n) :: beB (wsize n) n

/-- how many they are -/
def numL (n : Nat) : Nat := if n ≤ 240 then 1 else if n ≤ 2287 then 2 else if n ≤ 67823 then 3 else 1 + wsize n

theorem numB_length (n : Nat) : (numB n).length = numL n := by
  unfold numB numL; repeat' split
  all_goals simp [beB_length]; try omega

theorem numL_bd (n : Nat) : 1 ≤ numL n ∧ numL n ≤ 9 := by
  have := wsize_le n
  unfold numL; repeat' split
  all_goals omega

end Go.Proofs.Ythcoblmfmbmdkaa.Mth

/- What a value reads as, and what is a call's own. -/
namespace Go.Proofs.Ythcoblmfmbmdkaa
open Go.RowKit

/-- bytes as cells -/
def bv (l : List UInt8) : List Value := l.map fun b => Value.int .u8 (b.toNat : Int)

theorem bv_length (l : List UInt8) : (bv l).length = l.length := by simp [bv]

theorem bv_append (l m : List UInt8) : bv (l ++ m) = bv l ++ bv m := by simp [bv]

theorem bv_one (l : List UInt8) : ∀ u ∈ bv l, u.oneCell' = true := by
  intro u hu
  obtain ⟨b, _, rfl⟩ := List.mem_map.1 hu
  rfl

theorem bv_get (l : List UInt8) (j : Nat) (h : j < l.length) : (bv l)[j]? = some (.int .u8 ((l[j]).toNat : Int)) := by simp [bv, h]

/-- the slice value v reads as the bytes l -/
def Rd (w : World) (v : Value) (l : List UInt8) : Prop :=
  (v = .slice none 0 0 ∧ l = []) ∨ ∃ b off cap, v = .slice (some ⟨b, off, none⟩) l.length cap ∧ l.length ≤ cap ∧ cap ≤ maxLen ∧ ∀ j u, (bv l)[j]? = some u → w.cell? ⟨b, off + j, none⟩ = some u

/-- v is a row of the call's own, from block B on, that holds the bytes l -/
def Own (B : Nat) (w : World) (v : Value) (l : List UInt8) : Prop :=
  ∃ g cap cur, v = .slice (some ⟨g, 0, none⟩) l.length cap ∧ B ≤ g ∧ w.heap[g]? = some (.cells cur 5 (0, 0)) ∧ l.length ≤ cap ∧ cap ≤ maxLen ∧ cur.size = cap ∧ cur.toList.take l.length = bv l

theorem Own.row {B : Nat} {w : World} {v : Value} {l : List UInt8} (h : Own B w v l) : w.ownsRow B 5 1 v l.length (bv l) := by
  obtain ⟨g, cap, cur, rfl, hb, hg, h1, h2, h3, h4⟩ := h
  exact ⟨by simp [bv_length], .inr ⟨g, cap, cur, rfl, hb, hg, h1, h2, by simpa using h3, by simpa using h4⟩⟩

theorem Own.of_row {B : Nat} {w : World} {v : Value} {l : List UInt8} (h : w.ownsRow B 5 1 v l.length (bv l)) (hn : v ≠ .slice none 0 0) : Own B w v l := by
  rcases h.2 with ⟨e, _⟩ | ⟨g, cap, cur, rfl, hb, hg, h1, h2, h3, h4⟩
  · exact absurd e hn
  · exact ⟨g, cap, cur, rfl, hb, hg, h1, h2, by simpa using h3, by simpa using h4⟩

theorem Own.rd {B : Nat} {w : World} {v : Value} {l : List UInt8} (h : Own B w v l) : Rd w v l := by
  have hr := h.row
  obtain ⟨g, cap, cur, rfl, hb, hg, h1, h2, h3, h4⟩ := h
  refine .inr ⟨g, 0, cap, rfl, h1, h2, fun j u hu => ?_⟩
  have := hr.cells (g := g) rfl j u hu
  simpa [Addr.add_lit] using this

/-- what lies below block B stays -/
theorem Rd.below {B : Nat} {w w' : World} {v : Value} {l : List UInt8} (h : Rd w v l) (hb : Below B w w') (hB : w.heap.size ≤ B) : Rd w' v l := by
  rcases h with h | ⟨b, off, cap, rfl, h1, h2, h3⟩
  · exact .inl h
  · refine .inr ⟨b, off, cap, rfl, h1, h2, fun j u hu => ?_⟩
    have := h3 j u hu
    rw [hb.cell (p := ⟨b, off + j, none⟩) (Nat.lt_of_lt_of_le (World.block_lt_of_cell? w _ this) hB)]
    exact this

theorem Rd.drew {w : World} {v : Value} {l : List UInt8} (h : Rd w v l) : Rd w.drew v l := h

theorem Own.below {B C : Nat} {w w' : World} {v : Value} {l : List UInt8} (h : Own B w v l) (hb : Below C w w') (hC : w.heap.size ≤ C) : Own B w' v l := by
  obtain ⟨g, cap, cur, rfl, hB, hg, r⟩ := h
  refine ⟨g, cap, cur, rfl, hB, ?_, r⟩
  rw [hb.block g (Nat.lt_of_lt_of_le (Array.getElem?_eq_some_iff.1 hg).1 hC)]
  exact hg

theorem Own.mono {B C : Nat} {w : World} {v : Value} {l : List UInt8} (h : Own B w v l) (hC : C ≤ B) : Own C w v l := by
  obtain ⟨g, cap, cur, rfl, hB, r⟩ := h
  exact ⟨g, cap, cur, rfl, Nat.le_trans hC hB, r⟩

theorem info5 : (Try.prog.info? 5).map (fun i => (i.zero, i.size, i.bytes)) = some (some (.int .u8 0), 1, 1) := by kernel_rfl

/-- string(p), the bytes p -/
theorem conv_rd {w : World} {v : Value} {l : List UInt8} (h : Rd w v l) : (convert 40 9 v).run Try.prog w = .ok (.string ⟨l.toArray⟩) w := by
  rcases h with ⟨rfl, rfl⟩ | ⟨b, off, cap, rfl, h1, h2, h3⟩
  · exact run_convert_bytes_nil w 40 5 Try.underlying40 Try.underlying5 0 0 9 Try.underlying9
  · have e := run_convert_bytes_arg (P := Try.prog) w 40 5 Try.underlying40 Try.underlying5 b off l.length cap (l.map fun b => (b.toNat : Int)) (by simp) (fun i hi => by
      rw [h3 i _ (bv_get l i hi)]
      simp [hi]) 9 Try.underlying9
    rw [e]
    have : strOfNums (l.map fun b => (b.toNat : Int)) = ⟨l.toArray⟩ := by
      simp [strOfNums, Function.comp_def]
    rw [this]

theorem own_lit (w : World) (B : Nat) (hB : B ≤ w.heap.size) (l : List UInt8) (h : l.length ≤ maxLen) (cs : Array Value) (hc : cs = (bv l).toArray) :
    Own B (w.alloc (.cells cs 5)) (.slice (some ⟨w.heap.size, 0, none⟩) l.length l.length) l := by
  subst hc
  exact ⟨w.heap.size, l.length, _, rfl, hB, heap_alloc_new w _, Nat.le_refl _, h, by simp [bv_length], by simp [List.take_of_length_le, bv_length]⟩

theorem u8_of (x : Int) (h0 : 0 ≤ x) (h1 : x < 256) : Value.int .u8 x = .int .u8 ((UInt8.ofNat x.toNat).toNat : Int) := by
  congr 1
  simp; omega

theorem ret_int {k : IntKind} {a b : Int} (h : a = b) : Ending.returned (.int k a) = .returned (.int k b) := by rw [h]

theorem Own.shape {B : Nat} {w : World} {v : Value} {l : List UInt8} (h : Own B w v l) : ∃ g k, v = .slice (some ⟨g, 0, none⟩) l.length k := by
  obtain ⟨g, k, c, e, _⟩ := h; exact ⟨g, k, e⟩

theorem Own.lt {B : Nat} {w : World} {g n k : Nat} {l : List UInt8} (h : Own B w (.slice (some ⟨g, 0, none⟩) n k) l) : B ≤ g ∧ g < w.heap.size := h.row.lt g rfl

theorem Rd.len {w : World} {v : Value} {l : List UInt8} (h : Rd w v l) : ∃ ao cap, v = .slice ao l.length cap := by
  rcases h with ⟨rfl, rfl⟩ | ⟨b, off, cap, rfl, _⟩
  · exact ⟨none, 0, rfl⟩
  · exact ⟨_, _, rfl⟩

theorem rd_lit (w : World) (l : List UInt8) (h : l.length ≤ maxLen) (cs : Array Value) (hc : cs = (bv l).toArray) : Rd (w.alloc (.cells cs 5)) (.slice (some ⟨w.heap.size, 0, none⟩) l.length l.length) l :=
  (own_lit w w.heap.size (Nat.le_refl _) l h cs hc).rd

/-- the value v is a slice of slices that read as the texts ls -/
def RdL (w : World) (v : Value) (ls : List (List UInt8)) : Prop :=
  (v = .slice none 0 0 ∧ ls = []) ∨ ∃ b off cap, v = .slice (some ⟨b, off, none⟩) ls.length cap ∧ ls.length ≤ cap ∧ cap ≤ maxLen ∧ ∀ j (h : j < ls.length), ∃ u, w.cell? ⟨b, off + j, none⟩ = some u ∧ Rd w u (ls[j])

theorem RdL.below {B : Nat} {w w' : World} {v : Value} {ls : List (List UInt8)} (h : RdL w v ls) (hb : Below B w w') (hB : w.heap.size ≤ B) : RdL w' v ls := by
  rcases h with h | ⟨b, off, cap, rfl, h1, h2, h3⟩
  · exact .inl h
  · refine .inr ⟨b, off, cap, rfl, h1, h2, fun j hj => ?_⟩
    obtain ⟨u, hc, hr⟩ := h3 j hj
    refine ⟨u, ?_, hr.below hb hB⟩
    rw [hb.cell (p := ⟨b, off + j, none⟩) (Nat.lt_of_lt_of_le (World.block_lt_of_cell? w _ hc) hB)]
    exact hc

/-- a piece of what is read -/
theorem rd_sub {w : World} {l : List UInt8} {b off : Nat} (h3 : ∀ j u, (bv l)[j]? = some u → w.cell? ⟨b, off + j, none⟩ = some u) (i k c : Nat) (h1 : k ≤ c) (h2 : c ≤ maxLen) (hk : i + k ≤ l.length) :
    Rd w (.slice (some ⟨b, off + i, none⟩) k c) ((l.drop i).take k) := by
  have e : ((l.drop i).take k).length = k := by simp; omega
  refine .inr ⟨b, off + i, c, by rw [e], by omega, h2, fun j u hu => ?_⟩
  have hj : j < k := by have := (List.getElem?_eq_some_iff.1 hu).1; rw [bv_length] at this; omega
  rw [Nat.add_assoc]
  refine h3 (i + j) u ?_
  rw [← hu]
  simp [bv, hj]

theorem row_of {w : World} {B g n cap : Nat} {xs : List Value} (h : w.ownsRow B 5 1 (.slice (some ⟨g, 0, none⟩) n cap) n xs) : ∃ cur : List Value, w.heap[g]? = some (.cells cur.toArray 5 (0, 0)) ∧ cur.length = cap := by
  rcases h.2 with ⟨h, _⟩ | ⟨g', cap', cur, h, _, hg, _, _, hs, _⟩
  · cases h
  · simp only [Value.slice.injEq, Option.some.injEq, Addr.mk.injEq, and_true, true_and] at h
    obtain ⟨rfl, rfl⟩ := h
    exact ⟨cur.toList, by simpa using hg, by simpa using hs⟩

theorem rd_none {w : World} (b off c : Nat) (hc : c ≤ maxLen) : Rd w (.slice (some ⟨b, off, none⟩) 0 c) [] :=
  .inr ⟨b, off, c, rfl, Nat.zero_le _, hc, fun j u hu => by simp [bv] at hu⟩

/-- what stands behind so many bytes, as the walk makes it -/
theorem rd_drop {w : World} {l : List UInt8} {b off cap : Nat} (h3 : ∀ j u, (bv l)[j]? = some u → w.cell? ⟨b, off + j, none⟩ = some u) (h1 : l.length ≤ cap) (h2 : cap ≤ maxLen) (s : Nat) (hs : s ≤ l.length) :
    ∃ off', (¬ cap = s → off' = off + s) ∧ (cap = s → off' = off) ∧ Rd w (.slice (some ⟨b, off', none⟩) (l.length - s) (cap - s)) (l.drop s) ∧ ∀ j u, (bv (l.drop s))[j]? = some u → w.cell? ⟨b, off' + j, none⟩ = some u := by
  by_cases h : cap = s
  · have ht : l.drop s = [] := by apply List.drop_eq_nil_of_le; omega
    refine ⟨off, fun e => absurd h e, fun _ => rfl, ?_, fun j u hu => by rw [ht] at hu; simp [bv] at hu⟩
    rw [ht, show l.length - s = 0 by omega]
    exact rd_none b off _ (by omega)
  · refine ⟨off + s, fun _ => rfl, fun e => absurd e h, ?_, fun j u hu => ?_⟩
    · have := rd_sub h3 s (l.length - s) (cap - s) (by omega) (by omega) (by omega)
      rwa [List.take_of_length_le (by simp)] at this
    · rw [Nat.add_assoc]
      refine h3 (s + j) u ?_
      rw [← hu]
      simp [bv]

theorem own_empty (w : World) : (w.alloc (.cells #[] 5)).ownsRow w.heap.size 5 1 (.slice (some ⟨w.heap.size, 0, none⟩) 0 0) 0 [] := World.ownsRow_lit w #[] 0 (Nat.le_refl _) (Nat.zero_le _) rfl

theorem below_empty (w : World) : Below w.heap.size w (w.alloc (.cells #[] 5)) := (Below.refl _ _).alloc (Nat.le_refl _) _

theorem rd_cells {w : World} {b off n cap : Nat} {l : List UInt8} (h : Rd w (.slice (some ⟨b, off, none⟩) n cap) l) : l.length = n ∧ ∀ j u, (bv l)[j]? = some u → w.cell? ((⟨b, off, none⟩ : Addr).add j) = some u := by
  rcases h with ⟨h, _⟩ | ⟨b', off', cap', e, h1, h2, h3⟩
  · cases h
  · simp only [Value.slice.injEq, Option.some.injEq, Addr.mk.injEq, and_true] at e
    obtain ⟨⟨rfl, rfl⟩, e2, rfl⟩ := e
    exact ⟨e2.symm, fun j u hu => by rw [Addr.add_lit]; exact h3 j u hu⟩

theorem Rd.grown {w w' : World} {b off n cap : Nat} {l : List UInt8} {row : Option Nat} (h : Rd w (.slice (some ⟨b, off, none⟩) n cap) l) (hg : w.grownBy w' row) (hne : some b ≠ row) : Rd w' (.slice (some ⟨b, off, none⟩) n cap) l := by
  rcases h with ⟨h, _⟩ | ⟨b', off', cap', e, h1, h2, h3⟩
  · cases h
  · refine .inr ⟨b', off', cap', e, h1, h2, fun j u hu => hg.cell (h3 j u hu) ?_⟩
    simp only [Value.slice.injEq, Option.some.injEq, Addr.mk.injEq, and_true] at e
    obtain ⟨⟨rfl, rfl⟩, _, rfl⟩ := e
    exact hne

theorem made_list (n : Nat) : (madeCells (Value.int .u8 0).cells (n * 1)).toList = List.replicate n (Value.int .u8 0) := by
  rw [Nat.mul_one]
  exact toList_madeCells_one _ n

theorem cell_owned {w : World} {B g n cap : Nat} {xs : List Value} (h : w.ownsRow B 5 1 (.slice (some ⟨g, 0, none⟩) n cap) n xs) (j : Nat) (hj : j < n) : ∃ u, w.cell? ⟨g, j, none⟩ = some u := by
  have hl : j < xs.length := by have := h.1; omega
  exact ⟨xs[j], by rw [h.cellAt j (by omega)]; simp [hl]⟩

theorem lit_row (w : World) (B : Nat) (hB : B ≤ w.heap.size) (b : UInt8) : (w.alloc (.cells #[.int .u8 (b.toNat : Int)] 5)).ownsRow B 5 1 (.slice (some ⟨w.heap.size, 0, none⟩) 1 1) 1 (bv [b]) :=
  World.ownsRow_lit w #[.int .u8 (b.toNat : Int)] 1 hB (by simp [maxLen]) rfl

theorem row_alloc_cells {w : World} {B g n cap : Nat} {l : List UInt8} (h : w.ownsRow B 5 1 (.slice (some ⟨g, 0, none⟩) n cap) n (bv l)) (o : Obj) : ∀ j u, (bv l)[j]? = some u → (w.alloc o).cell? ((⟨g, 0, none⟩ : Addr).add j) = some u :=
  (h.alloc o).cells rfl

theorem row_shape {w : World} {B n : Nat} {v : Value} {l : List UInt8} (h : w.ownsRow B 5 1 v n (bv l)) : (v = .slice none 0 0 ∧ l = [] ∧ n = 0) ∨ ∃ g cap, v = .slice (some ⟨g, 0, none⟩) n cap := by
  have hl := h.1
  rcases h.2 with ⟨e, e2⟩ | ⟨g, cap, cur, e, _⟩
  · subst e2
    rw [bv_length] at hl
    exact .inl ⟨e, List.eq_nil_of_length_eq_zero (by omega), rfl⟩
  · exact .inr ⟨g, cap, e⟩

theorem app_shape {w : World} {B n m : Nat} {v' : Value} {l u : List UInt8} (ho : w.ownsRow B 5 1 v' (n + m) (bv l ++ bv u)) (hl : l.length = n) (hu : u.length = m) (hn : v' ≠ .slice none 0 0) :
    ∃ g k, v' = .slice (some ⟨g, 0, none⟩) (n + m) k ∧ n + m ≤ k ∧ k ≤ 9223372036854775807 ∧ Own B w v' (l ++ u) := by
  subst hl hu
  have h : Own B w v' (l ++ u) := Own.of_row (by rw [List.length_append, bv_append]; exact ho) hn
  have h' := h
  obtain ⟨g, k, c, e, _, _, h1, h2, _⟩ := h
  rw [List.length_append] at e h1
  exact ⟨g, k, e, h1, by unfold maxLen at h2; omega, h'⟩

/-- a byte is stored into what is one's own -/
theorem Own.store {B : Nat} {w : World} {g n k : Nat} {l : List UInt8} (h : Own B w (.slice (some ⟨g, 0, none⟩) n k) l) (i : Nat) (y : UInt8) : Own B (w.setCell ⟨g, i, none⟩ (.int .u8 (y.toNat : Int))) (.slice (some ⟨g, 0, none⟩) n k) (l.set i y) := by
  have hl : n = l.length := by obtain ⟨g', k', c, e, _⟩ := h; cases e; rfl
  subst hl
  have e := h.row.stored i (.int .u8 (y.toNat : Int))
  refine Own.of_row ?_ (by simp)
  have e2 : (bv l).set i (.int .u8 (y.toNat : Int)) = bv (l.set i y) := by simp [bv, List.map_set]
  rw [← e2, List.length_set]
  exact e.1

theorem Own.frozen {B : Nat} {w : World} {g n k : Nat} {l : List UInt8} (h : Own B w (.slice (some ⟨g, 0, none⟩) n k) l) (i : Nat) : w.frozen? ⟨g, i, none⟩ = false := by
  have hl : n = l.length := by obtain ⟨g', k', c, e, _⟩ := h; cases e; rfl
  subst hl
  exact World.ownsRow.frozenAt h.row i

theorem Own.cell {B : Nat} {w : World} {g n k : Nat} {l : List UInt8} (h : Own B w (.slice (some ⟨g, 0, none⟩) n k) l) (i : Nat) (hi : i < l.length) : w.cell? ⟨g, i, none⟩ = some (.int .u8 ((l[i]).toNat : Int)) := by
  have := (rd_cells h.rd).2 i _ (bv_get _ i hi)
  rwa [Addr.add_lit, Nat.zero_add] at this

theorem Own.other {B : Nat} {w : World} {g n k : Nat} {l : List UInt8} (h : Own B w (.slice (some ⟨g, 0, none⟩) n k) l) (p : Addr) (hp : g ≠ p.block) (u : Value) : Own B (w.setCell p u) (.slice (some ⟨g, 0, none⟩) n k) l := by
  obtain ⟨g', k', c, e, hB, hg, r⟩ := h
  cases e
  exact ⟨g, k, c, rfl, hB, by rw [Below.heap_setCell w p u g hp]; exact hg, r⟩

theorem Own.drew {B : Nat} {w : World} {v : Value} {l : List UInt8} (h : Own B w v l) : Own B w.drew v l := h

theorem rdl_one (w : World) (v : Value) (l : List UInt8) (h : Rd w v l) : RdL (w.alloc (.cells #[v] 40)) (.slice (some ⟨w.heap.size, 0, none⟩) 1 1) [l] := by
  have hb : Below w.heap.size w (w.alloc (.cells #[v] 40)) := (Below.refl _ _).alloc (Nat.le_refl _) _
  refine .inr ⟨w.heap.size, 0, 1, rfl, by simp, by simp [maxLen], fun j hj => ?_⟩
  have : j = 0 := by simp at hj; omega
  subst this
  exact ⟨v, by simp, h.below hb (Nat.le_refl _)⟩

theorem rd_mark (w : World) (l : List UInt8) (h : l.length ≤ maxLen) (fr : Nat × Nat) (cs : Array Value) (hc : cs = (bv l).toArray) : Rd (w.alloc (.cells cs 5 fr)) (.slice (some ⟨w.heap.size, 0, none⟩) l.length l.length) l := by
  subst hc
  refine .inr ⟨w.heap.size, 0, l.length, rfl, Nat.le_refl _, h, fun j u hu => ?_⟩
  rw [Nat.zero_add, World.cell?_alloc_mark]
  simpa using hu

theorem rdl_at (w : World) (v : Value) (l : List UInt8) (h : Rd w v l) (n : Nat) (hn : w.heap.size = n) : RdL (w.alloc (.cells #[v] 40)) (.slice (some ⟨n, 0, none⟩) 1 1) [l] := by
  subst hn
  exact rdl_one w v l h

theorem rdl_two (w : World) (v1 v2 : Value) (l1 l2 : List UInt8) (h1 : Rd w v1 l1) (h2 : Rd w v2 l2) :
    RdL (w.alloc (.cells #[v1, v2] 40)) (.slice (some ⟨w.heap.size, 0, none⟩) 2 2) [l1, l2] := by
  have hb : Below w.heap.size w (w.alloc (.cells #[v1, v2] 40)) := (Below.refl _ _).alloc (Nat.le_refl _) _
  refine .inr ⟨w.heap.size, 0, 2, rfl, by simp, by simp [maxLen], fun j hj => ?_⟩
  have : j = 0 ∨ j = 1 := by simp at hj; omega
  rcases this with rfl | rfl
  · exact ⟨v1, by simp, h1.below hb (Nat.le_refl _)⟩
  · exact ⟨v2, by simp, h2.below hb (Nat.le_refl _)⟩

def pre (ls : List (List UInt8)) (k : Nat) : List UInt8 := (ls.take k).flatten

theorem pre_zero (ls : List (List UInt8)) : pre ls 0 = [] := by simp [pre]

theorem pre_end (ls : List (List UInt8)) : pre ls ls.length = ls.flatten := by simp [pre]

theorem pre_succ (ls : List (List UInt8)) (k : Nat) (h : k < ls.length) : pre ls (k + 1) = pre ls k ++ ls[k] := by
  unfold pre
  rw [List.take_succ_eq_append_getElem h, List.flatten_append]
  simp only [List.flatten_cons, List.flatten_nil, List.append_nil]

theorem pre_le (ls : List (List UInt8)) (k : Nat) : (pre ls k).length ≤ ls.flatten.length := by
  have e : ls.flatten = pre ls k ++ (ls.drop k).flatten := by
    conv => lhs; rw [← List.take_append_drop k ls]
    rw [List.flatten_append]; rfl
  rw [e, List.length_append]; omega

theorem own_kept {B : Nat} {w w' : World} {g n c : Nat} {l : List UInt8} {row : Option Nat} (h : Own B w (.slice (some ⟨g, 0, none⟩) n c) l) (hg : w.grownBy w' row) (hne : some g ≠ row) : Own B w' (.slice (some ⟨g, 0, none⟩) n c) l := by
  obtain ⟨g', cap, cur, e, hB, hh, r⟩ := h
  simp only [Value.slice.injEq, Option.some.injEq, Addr.mk.injEq, and_true] at e
  obtain ⟨rfl, rfl, rfl⟩ := e
  exact ⟨g, c, cur, rfl, hB, by rw [hg.block g (Array.getElem?_eq_some_iff.1 hh).1 hne]; exact hh, r⟩

/-- a row lives on below -/
theorem row_below {B e n size : Nat} {w w' : World} {v : Value} {xs : List Value} (h : w.ownsRow B e size v n xs) (hb : Below w.heap.size w w') : w'.ownsRow B e size v n xs := by
  have hgg : w.grownBy w' none := ⟨hb.os, hb.tape, hb.output, hb.size, fun i hi _ => hb.block i hi⟩
  exact h.kept hgg (by cases v.ownBlock <;> simp)

theorem RdL.drew {w : World} {v : Value} {ls : List (List UInt8)} (h : RdL w v ls) : RdL w.drew v ls := h

end Go.Proofs.Ythcoblmfmbmdkaa

/- Same and bytes.Equal. -/
namespace Go.Proofs.Ythcoblmfmbmdkaa
open Go.RowKit

theorem same_any (w : World) (a b : Value) (l m : List UInt8) (ha : Rd w a l) (hb : Rd w b m) :
    Calls Try.prog 24 #[a, b] w fun e w' => e = .returned (.bool (l == m)) ∧ w' = w := by
  have c1 := conv_rd ha
  have c2 := conv_rd hb
  clear ha hb
  go_enter Try.func24, Try.ntmps24
  go_wp2
  go_ret
  exact ⟨rfl, rfl⟩

theorem equal_any (w : World) (a b : Value) (l m : List UInt8) (ha : Rd w a l) (hb : Rd w b m) :
    Calls Try.prog 65 #[a, b] w fun e w' => e = .returned (.bool (l == m)) ∧ w' = w := by
  have c1 := conv_rd ha
  have c2 := conv_rd hb
  clear ha hb
  go_enter Try.func65, Try.ntmps65
  go_wp2
  go_ret
  exact ⟨rfl, rfl⟩

theorem same_b (w : World) (a b : Value) (l m : List UInt8) (x : Bool) (ha : Rd w a l) (hb : Rd w b m) (hx : (l == m) = x) :
    Calls Try.prog 24 #[a, b] w fun e w' => e = .returned (.bool x) ∧ w' = w := by
  subst hx
  exact same_any w a b l m ha hb

end Go.Proofs.Ythcoblmfmbmdkaa

/- atom.Num, its short forms. -/
namespace Go.Proofs.Ythcoblmfmbmdkaa
open Go.RowKit

end Go.Proofs.Ythcoblmfmbmdkaa

/- bits.Len64. -/
namespace Go.Proofs.Ythcoblmfmbmdkaa
open Go.Shelf

theorem bl_pos : ∀ n : Fin 256, n.val ≠ 0 → 1 ≤ Lib.bitLen n.val := by decide +kernel

theorem bl_bd (x : Nat) (h0 : x ≠ 0) (h : x < 256) : 1 ≤ Lib.bitLen x ∧ Lib.bitLen x ≤ 8 := ⟨bl_pos ⟨x, h⟩ h0, Lib.bitLen_le8 ⟨x, h⟩⟩

theorem bl_wsize (n : Nat) (h1 : 67823 < n) (h2 : n < 18446744073709551616) : (Lib.bitLen n + 7) / 8 = Mth.wsize n := by
  unfold Mth.wsize
  split
  · have := Lib.bitLen_shift16 n (by omega) h2
    have := bl_bd (n / 65536) (by omega) (by omega)
    omega
  split
  · have := Lib.bitLen_shift24 n (by omega) h2
    have := bl_bd (n / 16777216) (by omega) (by omega)
    omega
  split
  · have := Lib.bitLen_shift32 n (by omega) h2
    have := bl_bd (n / 4294967296) (by omega) (by omega)
    omega
  split
  · have := Lib.bitLen_shift40 n (by omega) h2
    have := bl_bd (n / 1099511627776) (by omega) (by omega)
    omega
  split
  · have := Lib.bitLen_shift48 n (by omega) h2
    have := bl_bd (n / 281474976710656) (by omega) (by omega)
    omega
  · have := Lib.bitLen_shift56 n (by omega) h2
    have := bl_bd (n / 72057594037927936) (by omega) (by omega)
    omega

end Go.Proofs.Ythcoblmfmbmdkaa

/- atom.Num. -/
namespace Go.Proofs.Ythcoblmfmbmdkaa
set_option maxRecDepth 20000
open Go.RowKit

theorem beB_cons (k n : Nat) : Mth.beB (k + 1) n = UInt8.ofNat (n / 256 ^ k % 256) :: Mth.beB k n := by
  induction k generalizing n with
  | zero => simp [Mth.beB]
  | succ k ih =>
    rw [Mth.beB, ih (n / 256), Mth.beB, Nat.div_div_eq_div_mul, Nat.pow_succ, Nat.mul_comm 256]
    rfl

/-- what the row holds behind k rounds -/
def wrow (s k n : Nat) : List Value := Value.int .u8 (247 + s : Nat) :: (List.replicate (s - k) (Value.int .u8 0) ++ bv (Mth.beB k n))

theorem wrow_length (s k n : Nat) (h : k ≤ s) : (wrow s k n).length = 1 + s := by simp [wrow, bv_length, Mth.beB_length]; omega

theorem wrow_step (s k n : Nat) (h : k < s) : (wrow s k n).set (s - k) (.int .u8 ((n / 256 ^ k % 256 : Nat) : Int)) = wrow s (k + 1) n := by
  obtain ⟨d, rfl⟩ : ∃ d, s = k + 1 + d := ⟨s - k - 1, by omega⟩
  have e1 : k + 1 + d - k = d + 1 := by omega
  have e2 : k + 1 + d - (k + 1) = d := by omega
  unfold wrow
  rw [e1, e2, List.set_cons_succ, beB_cons, List.replicate_succ']
  congr 1
  rw [List.append_assoc, List.set_append_right _ _ (by simp)]
  simp [bv]

theorem wrow_end (n : Nat) (h : 67823 < n) : wrow (Mth.wsize n) (Mth.wsize n) n = bv (Mth.numB n) := by
  have := Mth.wsize_le n
  rw [Mth.numB, if_neg (by omega), if_neg (by omega), if_neg (by omega)]
  simp [wrow, bv]
  omega

end Go.Proofs.Ythcoblmfmbmdkaa

/- atom's readers of numbers. -/
namespace Go.Proofs.Ythcoblmfmbmdkaa
open Go.RowKit

theorem hf_take_succ (l : List UInt8) (k : Nat) (h : k < l.length) : Mth.hf (l.take (k + 1)) = Mth.hf (l.take k) * 256 + (l[k]).toNat := by
  rw [List.take_succ_eq_append_getElem h, Mth.hf_snoc]

theorem or_byte (h b : Nat) (hh : h < 72057594037927936) (hb : b < 256) : bits BinOp.or IntKind.u64 ((h : Int) * 256) (b : Int) = ((h * 256 + b : Nat) : Int) := by
  have e : ((h : Int) * 256) = ((h * 256 : Nat) : Int) := by omega
  rw [e, u64_or_nat _ _ (by omega) (by omega), nat_join 8 _ _ (by omega) (by omega)]

/-- how many bytes a number has in all, by its first -/
def sizeN (f : Nat) : Nat := if f ≤ 240 then 1 else if f ≤ 248 then 2 else if f = 249 then 3 else f - 246

theorem sizeN_bd (f : Nat) (h : f < 256) : 1 ≤ sizeN f ∧ sizeN f ≤ 9 := by
  unfold sizeN
  repeat' split
  all_goals omega

/-- the number for which bytes stand, in whichever form -/
def decN (l : List UInt8) : Nat :=
  if (l.headD 0).toNat ≤ 240 then (l.headD 0).toNat
  else if (l.headD 0).toNat ≤ 248 then 240 + ((l.headD 0).toNat - 241) * 256 + Mth.hf l.tail
  else if (l.headD 0).toNat = 249 then 2288 + Mth.hf l.tail
  else Mth.hf l.tail

end Go.Proofs.Ythcoblmfmbmdkaa

/- atom.front. -/
namespace Go.Proofs.Ythcoblmfmbmdkaa
open Go.RowKit

/-- the number in front and how many bytes it has; or the error -/
def frontS (l : List UInt8) : Nat × Nat × Nat :=
  match l with
  | [] => (0, 0, 2)
  | f :: t => if (f :: t).length < sizeN f.toNat then (0, 0, 2)
    else if Mth.numB (decN ((f :: t).take (sizeN f.toNat))) == (f :: t).take (sizeN f.toNat) then (decN ((f :: t).take (sizeN f.toNat)), sizeN f.toNat, 0)
    else (0, 0, 4)

theorem decN_lt (f : UInt8) (t : List UInt8) (hl : (f :: t).length = sizeN f.toNat) : decN (f :: t) < 18446744073709551616 := by
  have hfb := f.toNat_lt
  have hsb := sizeN_bd f.toNat f.toNat_lt
  have hht := Mth.hf_lt t
  simp only [List.length_cons] at hl
  have e : decN (f :: t) = if f.toNat ≤ 240 then f.toNat else if f.toNat ≤ 248 then 240 + (f.toNat - 241) * 256 + Mth.hf t else if f.toNat = 249 then 2288 + Mth.hf t else Mth.hf t := rfl
  rw [e]
  by_cases g1 : f.toNat ≤ 240
  · rw [if_pos g1]; omega
  rw [if_neg g1]
  by_cases g2 : f.toNat ≤ 248
  · rw [if_pos g2]
    have : t.length = 1 := by simp only [sizeN, if_neg g1, if_pos g2] at hl; omega
    rw [this] at hht; omega
  rw [if_neg g2]
  by_cases g3 : f.toNat = 249
  · rw [if_pos g3]
    have : t.length = 2 := by simp only [sizeN, if_neg g1, if_neg g2, if_pos g3] at hl; omega
    rw [this] at hht; omega
  · rw [if_neg g3]
    exact Nat.lt_of_lt_of_le hht (Nat.pow_le_pow_right (n := 256) (by omega) (show t.length ≤ 8 by omega))

/-- what front answers -/
def frontV (x : Nat × Nat × Nat) : Value := .tuple #[.int .u64 (x.1 : Int), .int .i64 (x.2.1 : Int), .int .i64 (x.2.2 : Int)]

end Go.Proofs.Ythcoblmfmbmdkaa

/- atom.fresh. -/
namespace Go.Proofs.Ythcoblmfmbmdkaa
open Go.RowKit

end Go.Proofs.Ythcoblmfmbmdkaa

/- atom.Take. -/
namespace Go.Proofs.Ythcoblmfmbmdkaa
open Go.RowKit

theorem frontS_ok {l : List UInt8} {n s : Nat} (h : frontS l = (n, s, 0)) : 1 ≤ s ∧ s ≤ l.length ∧ s ≤ 9 ∧ n < 18446744073709551616 := by
  cases l with
  | nil => simp [frontS] at h
  | cons f t =>
    have hb := sizeN_bd f.toNat f.toNat_lt
    by_cases hl : (f :: t).length < sizeN f.toNat
    · rw [frontS, if_pos hl] at h; simp at h
    · rw [frontS, if_neg hl] at h
      split at h
      · simp only [Prod.mk.injEq, and_true] at h
        obtain ⟨hn, hs⟩ := h
        refine ⟨by omega, by omega, by omega, ?_⟩
        rw [← hn]
        obtain ⟨q, hq⟩ : ∃ q, sizeN f.toNat = q + 1 := ⟨sizeN f.toNat - 1, by omega⟩
        rw [hq, List.take_succ_cons]
        refine decN_lt f _ ?_
        simp only [List.length_cons] at hl ⊢
        rw [List.length_take]; omega
      · simp at h

/-- the error of a number in front, if it isn't one -/
theorem frontS_err {l : List UInt8} {n s e : Nat} (h : frontS l = (n, s, e)) (he : e ≠ 0) : n = 0 ∧ s = 0 ∧ (e = 2 ∨ e = 4) := by
  cases l with
  | nil => simp [frontS] at h; omega
  | cons f t =>
    by_cases hl : (f :: t).length < sizeN f.toNat
    · rw [frontS, if_pos hl] at h; simp at h; omega
    · rw [frontS, if_neg hl] at h
      split at h
      · simp at h; omega
      · simp at h; omega

end Go.Proofs.Ythcoblmfmbmdkaa

/- bartizanref01's Num. -/
namespace Go.Proofs.Ythcoblmfmbmdkaa
open Go.RowKit

theorem wsize_low (n : Nat) (h : 67823 < n) : 256 ^ (Mth.wsize n - 1) ≤ n := by
  unfold Mth.wsize
  repeat' split
  all_goals (simp; omega)

theorem wsize_pos (n k : Nat) (h : 67823 < n) (hk : k < Mth.wsize n) : 0 < n / 256 ^ k := by
  have h1 := wsize_low n h
  have h2 : 256 ^ k ≤ 256 ^ (Mth.wsize n - 1) := Nat.pow_le_pow_right (by omega) (by omega)
  exact Nat.div_pos (Nat.le_trans h2 h1) (Nat.pow_pos (by omega))

theorem wsize_zero (n : Nat) (h : n < 18446744073709551616) : n / 256 ^ Mth.wsize n = 0 := Nat.div_eq_of_lt (Mth.wsize_fits n h)

end Go.Proofs.Ythcoblmfmbmdkaa

/- A number's bytes are read as it. -/
namespace Go.Proofs.Ythcoblmfmbmdkaa
open Go.RowKit

set_option maxRecDepth 20000 in
/-- a number's bytes: its first tells how many; and they are read as it -/
theorem numB_read (n : Nat) (h : n < 18446744073709551616) : ∃ f t, Mth.numB n = f :: t ∧ (f :: t).length = sizeN f.toNat ∧ decN (f :: t) = n := by
  have hw := Mth.wsize_le n
  by_cases a1 : n ≤ 240
  · have e : (UInt8.ofNat n).toNat = n := by simp; omega
    refine ⟨UInt8.ofNat n, [], by rw [Mth.numB, if_pos a1], ?_, ?_⟩
    · rw [e, sizeN, if_pos a1]; rfl
    · simp only [decN, List.headD_cons, e]
      rw [if_pos a1]
  by_cases a2 : n ≤ 2287
  · have e : (UInt8.ofNat (241 + (n - 240) / 256)).toNat = 241 + (n - 240) / 256 := by simp; omega
    refine ⟨_, _, by rw [Mth.numB, if_neg a1, if_pos a2], ?_, ?_⟩
    · rw [e, sizeN, if_neg (by omega), if_pos (by omega)]; rfl
    · simp only [decN, List.headD_cons, List.tail_cons, e]
      rw [if_neg (by omega), if_pos (by omega)]
      simp [Mth.hf]
      omega
  by_cases a3 : n ≤ 67823
  · have e : (249 : UInt8).toNat = 249 := by decide
    refine ⟨_, _, by rw [Mth.numB, if_neg a1, if_neg a2, if_pos a3], ?_, ?_⟩
    · rw [e]; rfl
    · simp only [decN, List.headD_cons, List.tail_cons, e]
      rw [if_neg (by omega), if_neg (by omega), if_pos trivial]
      simp [Mth.hf]
      omega
  · have e : (UInt8.ofNat (247 + Mth.wsize n)).toNat = 247 + Mth.wsize n := by simp; omega
    refine ⟨_, _, by rw [Mth.numB, if_neg a1, if_neg a2, if_neg a3], ?_, ?_⟩
    · rw [e, sizeN, if_neg (by omega), if_neg (by omega), if_neg (by omega), List.length_cons, Mth.beB_length]; omega
    · simp only [decN, List.headD_cons, List.tail_cons, e]
      rw [if_neg (by omega), if_neg (by omega), if_neg (by omega), Mth.hf_beB]
      exact Nat.mod_eq_of_lt (Mth.wsize_fits n h)

/-- and so it is what stands in front of its bytes -/
theorem front_numB (n : Nat) (h : n < 18446744073709551616) (t : List UInt8) : frontS (Mth.numB n ++ t) = (n, (Mth.numB n).length, 0) := by
  obtain ⟨f, u, e, hl, hd⟩ := numB_read n h
  have et : (f :: (u ++ t)).take (sizeN f.toNat) = f :: u := by
    rw [← hl, ← List.cons_append]
    exact List.take_left
  rw [e, List.cons_append, frontS, if_neg (by rw [← hl]; simp), et, hd, e, hl]
  simp

end Go.Proofs.Ythcoblmfmbmdkaa

/- atom.TakeText. -/
namespace Go.Proofs.Ythcoblmfmbmdkaa
open Go.RowKit

end Go.Proofs.Ythcoblmfmbmdkaa

/- atom.TakeText, where there is a text. -/
namespace Go.Proofs.Ythcoblmfmbmdkaa
open Go.RowKit

end Go.Proofs.Ythcoblmfmbmdkaa

/- Cut and Copy of bartizanref01; what a law is told of bytes that came in. -/
namespace Go.Proofs.Ythcoblmfmbmdkaa
open Go.RowKit

/-- WHAT A LAW IS TOLD OF A SLICE OF BYTES THAT CAME IN -/
def IsRow (k : IntKind) (w : World) (a : Option Addr) (len cap : Nat) (zs : List Int) : Prop :=
  (a = none ∧ len = 0 ∧ cap = 0 ∧ zs = []) ∨
  ∃ x, a = some x ∧ len ≤ cap ∧ cap ≤ maxLen ∧ zs.length = cap ∧ (∀ i, i < zs.length → w.cell? (x.add i) = some (.int k (zs.getD i 0))) ∧ ∀ n ∈ zs, (Lit.int k n).wf = true

/-- the slice value v, wherever it lies, reads as the bytes l -/
def Arg (w : World) (v : Value) (l : List UInt8) : Prop :=
  (v = .slice none 0 0 ∧ l = []) ∨ ∃ a cap, v = .slice (some a) l.length cap ∧ l.length ≤ cap ∧ cap ≤ maxLen ∧ ∀ j u, (bv l)[j]? = some u → w.cell? (a.add j) = some u

theorem Rd.arg {w : World} {v : Value} {l : List UInt8} (h : Rd w v l) : Arg w v l := by
  rcases h with h | ⟨b, off, cap, rfl, h1, h2, h3⟩
  · exact .inl h
  · exact .inr ⟨_, cap, rfl, h1, h2, fun j u hu => by rw [Addr.add_lit]; exact h3 j u hu⟩

theorem Arg.below {B : Nat} {w w' : World} {v : Value} {l : List UInt8} (h : Arg w v l) (hb : Below B w w') (hB : w.heap.size ≤ B) : Arg w' v l := by
  rcases h with h | ⟨a, cap, rfl, h1, h2, h3⟩
  · exact .inl h
  · refine .inr ⟨a, cap, rfl, h1, h2, fun j u hu => ?_⟩
    have := h3 j u hu
    rw [hb.cell (Nat.lt_of_lt_of_le (World.block_lt_of_cell? w _ this) hB)]
    exact this

/-- what came in reads as bytes -/
def argB (len : Nat) (zs : List Int) : List UInt8 := (zs.take len).map fun n => UInt8.ofNat n.toNat

theorem arg_of {w : World} {a : Option Addr} {len cap : Nat} {zs : List Int} (h : IsRow .u8 w a len cap zs) : Arg w (.slice a len cap) (argB len zs) := by
  rcases h with ⟨rfl, rfl, rfl, rfl⟩ | ⟨x, rfl, hl, hm, hz, hc, hw⟩
  · exact .inl ⟨rfl, rfl⟩
  · have el : (argB len zs).length = len := by simp [argB]; omega
    refine .inr ⟨x, cap, by rw [el], by omega, hm, fun j u hu => ?_⟩
    have hj : j < len := by have := (List.getElem?_eq_some_iff.1 hu).1; rw [bv_length] at this; omega
    have hjz : j < zs.length := by omega
    rw [hc j (by omega)]
    rw [← hu]
    have hb := bounds_u8 (hw zs[j] (List.getElem_mem hjz))
    simp [bv, argB, hj, hjz]
    omega

set_option maxHeartbeats 400000 in
theorem cut_any (w : World) (v : Value) (l : List UInt8) (n : Nat) (hv : Arg w v l) (hn : n ≤ 1099511627776) :
    Calls Try.prog 21 #[v, .int .i64 (n : Int)] w fun e w' => ∃ x, e = .returned x ∧ Own w.heap.size w' x (l.take n) ∧ Below w.heap.size w w' := by
  obtain ⟨i0, hi, hz0, hz1, hz2⟩ := info_parts info5
  have hown0 : (w.alloc (.cells #[] 5)).ownsRow w.heap.size 5 1 (.slice (some ⟨w.heap.size, 0, none⟩) 0 0) 0 [] := World.ownsRow_lit w #[] 0 (Nat.le_refl _) (Nat.zero_le _) rfl
  have hb0 : Below w.heap.size w (w.alloc (.cells #[] 5)) := (Below.refl _ _).alloc (Nat.le_refl _) _
  have hv' := hv.below hb0 (Nat.le_refl _)
  rcases hv' with ⟨rfl, rfl⟩ | ⟨a, cap, rfl, h1, h2, h3⟩
  · have hmin : min (0 : Int) (n : Int) = 0 := by omega
    go_enter Try.func21, Try.ntmps21
    go_wp2_with (at_builtin; refine wpList_append_own_none rfl (.tmp 5) (.tmp 11) 40 rfl w.heap.size 5 i0 1 Try.underlying40 hi _ _ _ rfl hown0 rfl ?_)
    go_ret
    exact ⟨_, rfl, Own.of_row (by simpa [bv] using hown0) (by simp), hb0⟩
  · unfold maxLen at h2
    obtain ⟨k, hk⟩ : ∃ k, (l.take n).length = k := ⟨_, rfl⟩
    have hk2 : k = min l.length n := by rw [← hk, List.length_take, Nat.min_comm]
    have hmin : min (l.length : Int) (n : Int) = (k : Int) := by omega
    have hmin2 : (if n < l.length then (n : Int) else (l.length : Int)) = (k : Int) := by split <;> omega
    have hkl : k ≤ l.length := by omega
    have hkn : k ≤ n := by omega
    have h4 : ∀ j u, (bv (l.take n))[j]? = some u → (w.alloc (.cells #[] 5)).cell? (a.add j) = some u := fun j u hu => h3 j u (by
      rw [← hu]
      have hj : j < k := by have := (List.getElem?_eq_some_iff.1 hu).1; rw [bv_length] at this; omega
      simp [bv, show j < n by omega])
    have HK : Hid ((l.take n).length = k) := hk
    clear hk hk2 h3 hv
    go_enter Try.func21, Try.ntmps21
    go_wp2_with (at_builtin; refine wpList_append_own _ rfl (.tmp 5) (.tmp 11) 40 rfl w.heap.size 5 i0 (.int .u8 0) 1 1 Try.underlying40 hi hz0 hz1 hz2 rfl (by decide) (.slice (some ⟨w.heap.size, 0, none⟩) 0 0) 0 [] rfl hown0 a k cap (bv (l.take n)) rfl (by rw [bv_length, HK.out, Nat.mul_one]) h4 (bv_one _) (by simp only [maxLen]; omega) (by omega) (by simp) ?_; intro v' w2 ho' hgr' hn')
    go_ret
    refine ⟨_, rfl, Own.of_row ?_ (fun e => by have := (hn'.1 e).1; cases this), hb0.grown hgr' (by simp) (fun k' e => (hown0.lt k' e).1)⟩
    rw [HK.out]
    simpa using ho'

theorem copy_any (w : World) (v : Value) (l : List UInt8) (hv : Arg w v l) (hn : l.length ≤ 1099511627776) :
    Calls Try.prog 47 #[v] w fun e w' => ∃ x, e = .returned x ∧ Own w.heap.size w' x l ∧ Below w.heap.size w w' := by
  obtain ⟨i0, hi, hz0, hz1, hz2⟩ := info_parts info5
  have hown0 : (w.alloc (.cells #[] 5)).ownsRow w.heap.size 5 1 (.slice (some ⟨w.heap.size, 0, none⟩) 0 0) 0 [] := World.ownsRow_lit w #[] 0 (Nat.le_refl _) (Nat.zero_le _) rfl
  have hb0 : Below w.heap.size w (w.alloc (.cells #[] 5)) := (Below.refl _ _).alloc (Nat.le_refl _) _
  have hv' := hv.below hb0 (Nat.le_refl _)
  rcases hv' with ⟨rfl, rfl⟩ | ⟨a, cap, rfl, h1, h2, h3⟩
  · go_enter Try.func47, Try.ntmps47
    go_wp2_with (at_builtin; refine wpList_append_own_none rfl (.tmp 3) (.tmp 4) 40 rfl w.heap.size 5 i0 1 Try.underlying40 hi _ _ _ rfl hown0 rfl ?_)
    go_ret
    exact ⟨_, rfl, Own.of_row (by simpa [bv] using hown0) (by simp), hb0⟩
  · unfold maxLen at h2
    clear hv
    go_enter Try.func47, Try.ntmps47
    go_wp2_with (at_builtin; refine wpList_append_own _ rfl (.tmp 3) (.tmp 4) 40 rfl w.heap.size 5 i0 (.int .u8 0) 1 1 Try.underlying40 hi hz0 hz1 hz2 rfl (by decide) (.slice (some ⟨w.heap.size, 0, none⟩) 0 0) 0 [] rfl hown0 a l.length cap (bv l) rfl (by rw [bv_length, Nat.mul_one]) h3 (bv_one _) (by simp only [maxLen]; omega) (by omega) (by simp) ?_; intro v' w2 ho' hgr' hn')
    go_ret
    exact ⟨_, rfl, Own.of_row (by simpa using ho') (fun e => by have := (hn'.1 e).1; cases this), hb0.grown hgr' (by simp) (fun k' e => (hown0.lt k' e).1)⟩

end Go.Proofs.Ythcoblmfmbmdkaa

/- bartizanref01's Take. -/
namespace Go.Proofs.Ythcoblmfmbmdkaa
open Go.RowKit

/-- what it answers -/
def refV (same : Bool) (d : Nat) (x : Value) : Value := .tuple #[.int .u64 (if same then (d : Int) else 0), x, .int .i64 (if same then 0 else 4)]

/-- and what of its second result -/
def RefPost (same : Bool) (rest : List UInt8) (B : Nat) (w : World) (x : Value) : Prop := if same then Own B w x rest else x = .slice none 0 0

theorem ref_eq {k : Int} {d : Nat} (h : k = (d : Int)) (x : Value) : Ending.returned (.tuple #[.int .u64 k, x, .int .i64 0]) = .returned (refV true d x) := by subst h; rfl

/-- behind append([]byte{}, piece...) -/
theorem own_copied {w w2 : World} {v' : Value} {l : List UInt8} {n : Nat} (hn : l.length = n) (ho' : w2.ownsRow w.heap.size 5 1 v' (0 + n) ([] ++ bv l)) (hgr' : (w.alloc (.cells #[] 5)).grownBy w2 (Value.slice (some ⟨w.heap.size, 0, none⟩) 0 0).ownBlock)
    (hn' : v' ≠ .slice none 0 0) : Own w.heap.size w2 v' l ∧ Below w.heap.size w w2 := by
  subst hn
  refine ⟨Own.of_row ?_ hn', (below_empty w).grown hgr' (by simp) (fun k' e => ((own_empty w).lt k' e).1)⟩
  rw [Nat.zero_add, List.nil_append] at ho'
  exact ho'

end Go.Proofs.Ythcoblmfmbmdkaa

/- bartizanref01's Take, forms of more bytes. -/
namespace Go.Proofs.Ythcoblmfmbmdkaa
open Go.RowKit

end Go.Proofs.Ythcoblmfmbmdkaa

/- bartizanref01's Take, forms of more bytes. -/
namespace Go.Proofs.Ythcoblmfmbmdkaa
open Go.RowKit

end Go.Proofs.Ythcoblmfmbmdkaa

/- bartizanref01's Take, forms of more bytes. -/
namespace Go.Proofs.Ythcoblmfmbmdkaa
open Go.RowKit

end Go.Proofs.Ythcoblmfmbmdkaa

/- bartizanref01's Take, and atom.Take beside it. -/
namespace Go.Proofs.Ythcoblmfmbmdkaa
set_option maxRecDepth 20000
open Go.RowKit

/-- what Take says, of either program: x is what stands behind -/
def TakePost (l : List UInt8) (B : Nat) (w : World) (x : Value) : Prop := if (frontS l).2.2 = 0 then Own B w x (l.drop (frontS l).2.1) else x = .slice none 0 0

def takeV (l : List UInt8) (x : Value) : Value := .tuple #[.int .u64 ((frontS l).1 : Int), x, .int .i64 ((frontS l).2.2 : Int)]

theorem decN_cons (f : UInt8) (t : List UInt8) : decN (f :: t) = if f.toNat ≤ 240 then f.toNat else if f.toNat ≤ 248 then 240 + (f.toNat - 241) * 256 + Mth.hf t else if f.toNat = 249 then 2288 + Mth.hf t else Mth.hf t := rfl

theorem ofNat_toNat (f : UInt8) : UInt8.ofNat f.toNat = f := by simp

theorem front_one (f : UInt8) (t : List UInt8) (h : f.toNat ≤ 240) : frontS (f :: t) = (f.toNat, 1, 0) := by
  have hs : sizeN f.toNat = 1 := by rw [sizeN, if_pos h]
  have hd : decN [f] = f.toNat := by rw [decN_cons, if_pos h]
  have hn : Mth.numB f.toNat = [f] := by rw [Mth.numB, if_pos h, ofNat_toNat]
  rw [frontS, hs, if_neg (by simp)]
  have ht : (f :: t).take 1 = [f] := by simp
  rw [ht, hd, hn]
  simp

theorem front_two (f : UInt8) (t u : List UInt8) (k : Nat) (hk : sizeN f.toNat = k) (hk1 : 1 ≤ k) (hl : k ≤ (f :: t).length) (hu : t.take (k - 1) = u) (d : Nat) (hd : decN (f :: u) = d) (same : Bool) (hs : (Mth.numB d == f :: u) = same) :
    frontS (f :: t) = if same then (d, k, 0) else (0, 0, 4) := by
  have ht : (f :: t).take k = f :: u := by
    obtain ⟨q, rfl⟩ : ∃ q, k = q + 1 := ⟨k - 1, by omega⟩
    rw [List.take_succ_cons, ← hu, Nat.add_sub_cancel]
  rw [frontS, hk, if_neg (by omega), ht, hd, hs]

end Go.Proofs.Ythcoblmfmbmdkaa

/- bartizanref01's TakeText. -/
namespace Go.Proofs.Ythcoblmfmbmdkaa
set_option maxRecDepth 20000
open Go.RowKit

/-- append to a row of the call's own, as one step of a region that draws its order -/
theorem step_append_own {P : Program} {ops : Array Oper} {o : Oper} {a : Act} {w : World} {K : Act → World → Prop} {Q : Exit → Act → World → Prop} {E : Prop}
    (hg : o.guard = none) (s x : Operand) (t : TypeId) (hop : o.op = Op.call { callee := Callee.builtin Builtin.append, args := #[s, x], argTypes := #[t, t] })
    (base : Nat) (e : TypeId) (i : TypeInfo) (z : Value) (size bytes : Nat) (h1 : P.underlying t = some (.slice e)) (h2 : P.info? e = some i) (h3 : i.zero = some z) (h4 : i.size = size) (h5 : i.bytes = bytes) (h6 : z.cells.size = size) (h7 : 0 < size)
    (v : Value) (n : Nat) (xs : List Value) (hs : a.eval s = v) (hown : w.ownsRow base e size v n xs)
    (ad : Addr) (m c : Nat) (news : List Value) (hx : a.eval x = .slice (some ad) m c) (hn : news.length = m * size) (hc : ∀ j u, news[j]? = some u → w.cell? (ad.add j) = some u) (h1c : ∀ u ∈ news, u.oneCell' = true)
    (b1 : n + m ≤ maxLen) (b2 : (n + m) * bytes ≤ 140737488355328) (hbase : base ≤ w.heap.size)
    (hK : ∀ v' w', w'.ownsRow base e size v' (n + m) (xs ++ news) → w.grownBy w' v.ownBlock → (v' = .slice none 0 0 ↔ v = .slice none 0 0 ∧ m = 0) → K (a.put o.dst v') w') :
    if Region.wanted o (yielded ops a.tmps) = true then Oper.wp P o a w K Q else E := by
  have hw : Region.wanted o (yielded ops a.tmps) = true := by simp [Region.wanted, hg]
  rw [if_pos hw]
  obtain ⟨v', w', hrun, r1, r2, r3⟩ := run_append_own (P := P) w base t o.type e i z size bytes h1 h2 h3 h4 h5 h6 h7 v n xs hown ad m c news hn hc h1c b1 b2 hbase
  unfold Oper.wp
  simp [execOp, hop, resolve, invoke, builtin, hs, hx, hrun, Result.andThen]
  exact hK v' w' r1 r2 r3

/-- a slice that lies from block B on -/
def From (B : Nat) (v : Value) : Prop := ∀ a n c, v = .slice (some a) n c → B ≤ a.block

theorem from_nil (B : Nat) : From B (.slice none 0 0) := fun a n c h => by cases h
theorem from_at {B g o n k : Nat} (h : B ≤ g) : From B (.slice (some ⟨g, o, none⟩) n k) := fun a n' c e => by cases e; exact h
theorem Own.from {B : Nat} {w : World} {v : Value} {l : List UInt8} (h : Own B w v l) : From B v := by
  obtain ⟨g, k, rfl⟩ := h.shape
  exact from_at h.lt.1

end Go.Proofs.Ythcoblmfmbmdkaa
