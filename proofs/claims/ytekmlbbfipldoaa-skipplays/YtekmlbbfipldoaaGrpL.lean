/- Several texts in one. -/
import Derived.Test.YtekmlbbfipldoaaGrpK
import Derived.Test.YtekmlbbfipldoaaTake2
import Derived.BigQuiet
import Derived.Test.YtekmlbbfipldoaaEnTwin
import Derived.Test.YtekmlbbfipldoaaClone
import Derived.Test.YtekmlbbfipldoaaLfPure
import Derived.Test.YtekmlbbfipldoaaEnFew
import Derived.Test.YtekmlbbfipldoaaSame
import Derived.Test.YtekmlbbfipldoaaSrtOrd

/- leaf.takeNum, leaf.version, leaf.body. -/
namespace Go.Proofs.Ytekmlbbfipldoaa
set_option maxRecDepth 20000
open Go.RowKit
set_option linter.unusedVariables false

theorem frontS_nine (l : List UInt8) : frontS (l.take 9) = frontS l := by
  cases l with
  | nil => rfl
  | cons f t =>
    have hb := sizeN_bd f.toNat f.toNat_lt
    rw [List.take_succ_cons]
    unfold frontS
    simp only
    have h1 : (f :: t.take 8) = (f :: t).take 9 := rfl
    rw [h1]
    have h2 : ((f :: t).take 9).length < sizeN f.toNat ↔ (f :: t).length < sizeN f.toNat := by rw [List.length_take]; omega
    have h3 : ((f :: t).take 9).take (sizeN f.toNat) = (f :: t).take (sizeN f.toNat) := by rw [List.take_take, Nat.min_eq_left (by omega)]
    rw [h3]
    by_cases hc : (f :: t).length < sizeN f.toNat
    · rw [if_pos (h2.2 hc), if_pos hc]
    · rw [if_neg (fun h => hc (h2.1 h)), if_neg hc]

theorem rd_take {w : World} {l : List UInt8} {b off cap k : Nat} (hc : ∀ j u, (bv l)[j]? = some u → w.cell? ⟨b, off + j, none⟩ = some u) (h1 : l.length ≤ cap) (h2 : cap ≤ 9223372036854775807) (hk : k ≤ l.length) : Rd w (.slice (some ⟨b, off, none⟩) k cap) (l.take k) := by
  have := rd_sub hc 0 k cap (by omega) (by unfold maxLen; omega) (by omega)
  rwa [List.drop_zero, Nat.add_zero] at this

theorem take_nine {l : List UInt8} {k : Nat} (hk : (l.take 9).length = k) : l.take 9 = l.take k := by
  rw [List.length_take] at hk
  rcases Nat.le_total l.length 9 with h | h
  · rw [List.take_of_length_le h, List.take_of_length_le (by omega)]
  · rw [← hk, Nat.min_eq_left h]

theorem i64_or (a b : Nat) (ha : a < 256) (hb : b < 256) : bits .or .i64 (a : Int) ((b : Int) * 256) = ((a + b * 256 : Nat) : Int) := by
  have e : ((b : Int) * 256) = ((b * 256 : Nat) : Int) := by simp
  rw [e]
  show IntKind.i64.wrap ((BitVec.ofInt 64 (a : Int) ||| BitVec.ofInt 64 ((b * 256 : Nat) : Int)).toNat : Int) = _
  rw [BitVec.toNat_or, BitVec.toNat_ofInt, BitVec.toNat_ofInt]
  have h1 : ((a : Int) % (2 ^ 64 : Nat)).toNat = a := by omega
  have h2 : (((b * 256 : Nat) : Int) % (2 ^ 64 : Nat)).toNat = b * 256 := by omega
  rw [h1, h2, nat_join8' _ _ (by omega) ha, IntKind.wrap_i64]
  omega

/-- a version's cells -/
abbrev keyV (x : Value) (s k : Int) : Value := .agg #[x, .int .u64 s, .int .u8 k]

/-- what leaf.version answers -/
def VerPost (F : List UInt8) (w w' : World) (o : Ending) : Prop :=
  Below w.heap.size w w' ∧ match verS F with
    | none => ∃ a n c s k, o = .returned (.tuple #[keyV (.slice a n c) s k, .bool false])
    | some q => ∃ x, o = .returned (.tuple #[keyV x (q.2.1 : Int) (q.2.2 : Int), .bool true]) ∧ Rd w' x q.1 ∧ From w.heap.size x

theorem body_wraps {M1 x y : Nat} (h1 : M1 ≤ 1000000) (hx : x < 256) (hy : y < 256) : (IntKind.i64.wrap (M1 : Int) = (M1 : Int) ∧ wrap64 (M1 : Int) = (M1 : Int)) ∧ IntKind.i64.wrap ((y : Int) * 256) = (y : Int) * 256 ∧ wrap64 ((y : Int) * 256) = (y : Int) * 256 ∧ IntKind.i64.wrap (x : Int) = (x : Int) ∧ IntKind.i64.wrap (y : Int) = (y : Int) := by
  refine ⟨⟨?_, ?_⟩, ?_, ?_, ?_, ?_⟩
  · rw [IntKind.wrap_i64]; omega
  · unfold wrap64; omega
  · rw [IntKind.wrap_i64]; omega
  · unfold wrap64; omega
  · rw [IntKind.wrap_i64]; omega
  · rw [IntKind.wrap_i64]; omega

/-- what leaf.body answers -/
def BodPost (p : List UInt8) (b off cap : Nat) (w w' : World) (o : Ending) : Prop :=
  Below w.heap.size w w' ∧ match bodyS p with
    | none => o = .returned (.tuple #[.slice none 0 0, .bool false])
    | some q => o = .returned (.tuple #[.slice (some ⟨b, off, none⟩) q.length cap, .bool true])

end Go.Proofs.Ytekmlbbfipldoaa

/- leaf.take. -/
namespace Go.Proofs.Ytekmlbbfipldoaa
set_option maxRecDepth 20000
open Go.RowKit
set_option linter.unusedVariables false

/-- the bytes l lie in block b, from off on -/
def Cel (w : World) (b off : Nat) (l : List UInt8) : Prop := ∀ j u, (bv l)[j]? = some u → w.cell? ⟨b, off + j, none⟩ = some u

theorem Cel.below {w w' : World} {b off : Nat} {l : List UInt8} (h : Cel w b off l) (hb : Below w.heap.size w w') : Cel w' b off l := fun j u hu => by
  have h1 := h j u hu
  exact (hb.cell (p := ⟨b, off + j, none⟩) (World.block_lt_of_cell? w _ h1)).trans h1

theorem Cel.drop {w : World} {b off : Nat} {l : List UInt8} (h : Cel w b off l) (s : Nat) : Cel w b (off + s) (l.drop s) := fun j u hu => by
  rw [Nat.add_assoc]
  refine h (s + j) u ?_
  rw [← hu]
  simp [bv]

theorem Cel.rd {w : World} {b off cap k : Nat} {l : List UInt8} (h : Cel w b off l) (h1 : l.length ≤ cap) (h2 : cap ≤ 9223372036854775807) (hk : k ≤ l.length) : Rd w (.slice (some ⟨b, off, none⟩) k cap) (l.take k) := rd_take h h1 h2 hk

abbrev enZ : Value := .agg #[.slice none 0 0, .int .u64 0, .int .u8 0, .slice none 0 0]

/-- what leaf.take answers -/
def TakPost (A p : List UInt8) (b : Nat) (w w' : World) (o : Ending) : Prop :=
  Below w.heap.size w w' ∧ match takS A p with
    | none => o = .returned (.tuple #[enZ, .slice none 0 0, .slice none 0 0, .bool false])
    | some q => ∃ x y f off' cap', o = .returned (.tuple #[enV x (q.1.2.1 : Int) (q.1.2.2.1.toNat : Int) y, f, .slice (some ⟨b, off', none⟩) q.2.2.length cap', .bool true]) ∧ (Rd w' x q.1.1 ∧ From w.heap.size x) ∧ (Rd w' y q.1.2.2.2 ∧ From w.heap.size y) ∧ (Rd w' f q.2.1 ∧ From w.heap.size f) ∧ Cel w b off' q.2.2 ∧ q.2.2.length < cap' ∧ cap' ≤ 9223372036854775807

theorem u64_len (n : Nat) (h : n ≤ 1000000) : IntKind.u64.wrap (n : Int) = (n : Int) := by rw [IntKind.wrap_u64]; omega

theorem keyS_kind (l : List UInt8) : (keyS l).2.2.1 < 256 := by
  unfold keyS
  split
  · split
    · split
      · rename_i a0 _ _ _ _ _ _ _ _ _ _; exact a0.toNat_lt
      · exact Nat.zero_lt_succ _
    · exact Nat.zero_lt_succ _
  · exact Nat.zero_lt_succ _

theorem verS_kind {F : List UInt8} {q : List UInt8 × Nat × Nat} (h : verS F = some q) : q.2.2 < 256 := by
  unfold verS at h
  split at h
  · cases h
  · split at h
    · cases h; exact keyS_kind _
    · cases h

theorem takS_bad {A p : List UInt8} {n s e : Nat} (hf : frontS p = (n, s, e)) (h : ¬ e = 0 ∨ A.length < n) : takS A p = none := by
  unfold takS; rw [hf, if_neg]; simp only; omega
theorem takS_good {A p : List UInt8} {n s : Nat} (hf : frontS p = (n, s, 0)) (h : n ≤ A.length) : takS A p = tak1 A (p.drop s) n := by
  unfold takS; rw [hf, if_pos]; exact ⟨rfl, h⟩
theorem tak1_bad {A p : List UInt8} {n1 n s e : Nat} (hf : frontS p = (n, s, e)) (h : ¬ e = 0) : tak1 A p n1 = none := by
  unfold tak1; rw [hf, if_neg]; exact h
theorem tak1_good {A p : List UInt8} {n1 n s : Nat} (hf : frontS p = (n, s, 0)) : tak1 A p n1 = tak2 A (p.drop s) n1 n := by
  unfold tak1; rw [hf, if_pos rfl]
theorem tak2_bad {A p : List UInt8} {n1 n2 n s e : Nat} (hf : frontS p = (n, s, e)) (h : ¬ e = 0) : tak2 A p n1 n2 = none := by
  unfold tak2; rw [hf, if_neg]; exact h
theorem tak2_good {A p : List UInt8} {n1 n2 n s : Nat} (hf : frontS p = (n, s, 0)) : tak2 A p n1 n2 = tak3 A (p.drop s) n1 n2 n := by
  unfold tak2; rw [hf, if_pos rfl]
theorem tak3_bad {A p : List UInt8} {n1 n2 n3 : Nat} (h : p.length < n2 ∨ p.length - n2 < n3) : tak3 A p n1 n2 n3 = none := by
  unfold tak3; rw [if_neg]; omega
theorem tak3_none {A p : List UInt8} {n1 n2 n3 : Nat} (h2 : n2 ≤ p.length) (h3 : n3 ≤ p.length - n2) (hv : verS (A.take n1 ++ p.take n2) = none) : tak3 A p n1 n2 n3 = none := by
  unfold tak3; rw [if_pos ⟨h2, h3⟩, hv]
theorem tak3_some {A p F : List UInt8} {n1 n2 n3 : Nat} {q : List UInt8 × Nat × Nat} (h2 : n2 ≤ p.length) (h3 : n3 ≤ p.length - n2) (hF : A.take n1 ++ p.take n2 = F) (hv : verS F = some q) : tak3 A p n1 n2 n3 = some ((q.1, q.2.1, UInt8.ofNat q.2.2, (p.drop n2).take n3), F, (p.drop n2).drop n3) := by
  unfold tak3; rw [if_pos ⟨h2, h3⟩, hF, hv]

theorem rd_front {w : World} {a : Option Addr} {n c k : Nat} {l : List UInt8} (h : Rd w (.slice a n c) l) (hk : k ≤ l.length) : Rd w (.slice a k c) (l.take k) := by
  rcases h with ⟨e, rfl⟩ | ⟨b, off, cap, e, h1, h2, h3⟩
  · cases e
    obtain rfl : k = 0 := by simpa using hk
    exact .inl ⟨rfl, rfl⟩
  · cases e
    have := rd_sub h3 0 k c (by omega) h2 (by omega)
    rwa [List.drop_zero, Nat.add_zero] at this

/-- three cells, four stored elsewhere -/
theorem Box.stored4 {w : World} {b : Nat} {v0 v1 v2 : Value} (h : Box w b v0 v1 v2) (b' : Nat) (hne : b ≠ b') (u0 u1 u2 u3 : Value) : Box ((((w.setCell ⟨b', 0, none⟩ u0).setCell ⟨b', 1, none⟩ u1).setCell ⟨b', 2, none⟩ u2).setCell ⟨b', 3, none⟩ u3) b v0 v1 v2 :=
  (((h.other ⟨b', 0, none⟩ hne u0).other ⟨b', 1, none⟩ hne u1).other ⟨b', 2, none⟩ hne u2).other ⟨b', 3, none⟩ hne u3

theorem Cel.back {w w' : World} {b off : Nat} {l : List UInt8} (h : Cel w' b off l) (hb : Below w.heap.size w w') (hbl : b < w.heap.size) : Cel w b off l := fun j u hu => (hb.cell (p := ⟨b, off + j, none⟩) hbl).symm.trans (h j u hu)

end Go.Proofs.Ytekmlbbfipldoaa

/- leaf.check and bartizanref12.Check. -/
namespace Go.Proofs.Ytekmlbbfipldoaa
open Go.RowKit
set_option linter.unusedVariables false

theorem wrap_decr (j : Nat) (h : j ≤ 1000000) : (IntKind.i64.wrap ((j : Int) + 1 - 1) = (j : Int) ∧ wrap64 ((j : Int) + 1 - 1) = (j : Int)) ∧ IntKind.i64.wrap (j : Int) = (j : Int) ∧ wrap64 (j : Int) = (j : Int) := by
  refine ⟨⟨?_, ?_⟩, ?_, ?_⟩
  · rw [IntKind.wrap_i64]; omega
  · unfold wrap64; omega
  · rw [IntKind.wrap_i64]; omega
  · unfold wrap64; omega

/-- two entries that stand behind one another -/
structure Two4 (w : World) (p o j : Nat) (x1 : Option Addr) (m1 x2 : Nat) (s1 k1 : Int) (x3 : Option Addr) (m2 x4 : Nat) (s2 k2 : Int) : Prop where
  a0 : w.cell? ⟨p, o + j * 4, none⟩ = some (.slice x1 m1 x2)
  a1 : w.cell? ⟨p, o + j * 4 + 1, none⟩ = some (.int .u64 s1)
  a2 : w.cell? ⟨p, o + j * 4 + 2, none⟩ = some (.int .u8 k1)
  b0 : w.cell? ⟨p, o + (j + 1) * 4, none⟩ = some (.slice x3 m2 x4)
  b1 : w.cell? ⟨p, o + (j + 1) * 4 + 1, none⟩ = some (.int .u64 s2)
  b2 : w.cell? ⟨p, o + (j + 1) * 4 + 2, none⟩ = some (.int .u8 k2)

theorem Two4.below {B : Nat} {w w' : World} {p o j : Nat} {x1 : Option Addr} {m1 x2 : Nat} {s1 k1 : Int} {x3 : Option Addr} {m2 x4 : Nat} {s2 k2 : Int} (h : Two4 w p o j x1 m1 x2 s1 k1 x3 m2 x4 s2 k2) (hb : Below B w w') (hB : w.heap.size ≤ B) : Two4 w' p o j x1 m1 x2 s1 k1 x3 m2 x4 s2 k2 := by
  have hl : p < B := Nat.lt_of_lt_of_le (World.block_lt_of_cell? w _ h.a0) hB
  exact ⟨(hb.cell (p := ⟨p, o + j * 4, none⟩) hl).trans h.a0, (hb.cell (p := ⟨p, o + j * 4 + 1, none⟩) hl).trans h.a1, (hb.cell (p := ⟨p, o + j * 4 + 2, none⟩) hl).trans h.a2, (hb.cell (p := ⟨p, o + (j + 1) * 4, none⟩) hl).trans h.b0, (hb.cell (p := ⟨p, o + (j + 1) * 4 + 1, none⟩) hl).trans h.b1, (hb.cell (p := ⟨p, o + (j + 1) * 4 + 2, none⟩) hl).trans h.b2⟩

end Go.Proofs.Ytekmlbbfipldoaa

/- leaf.Build. -/
namespace Go.Proofs.Ytekmlbbfipldoaa
set_option maxRecDepth 20000
open Go.RowKit
set_option linter.unusedVariables false

/-- two rows lie apart -/
def Apart2 (v u : Value) : Prop := ∀ g, v.ownBlock = some g → u.ownBlock ≠ some g

theorem Apart2.symm {v u : Value} (h : Apart2 v u) : Apart2 u v := fun g h1 h2 => h g h2 h1

theorem Apart2.nil (v : Value) : Apart2 v (.slice none 0 0) := fun g h => by simp [Value.ownBlock]

theorem Apart2.step {v u : Value} {g H n c : Nat} (h : Apart2 v u) (hat : v.ownBlock = some g ∨ g = H) (hu : ∀ q, u.ownBlock = some q → q < H) : Apart2 (.slice (some ⟨g, 0, none⟩) n c) u := by
  intro q hq he
  simp only [Value.ownBlock, Option.some.injEq] at hq
  subst hq
  rcases hat with e | e
  · exact h _ e he
  · have := hu _ he; omega

theorem own_grew {B g c n m : Nat} {w : World} {l u : List UInt8} (hl : l.length = n) (hu : u.length = m) (h : w.ownsRow B 5 1 (.slice (some ⟨g, 0, none⟩) (n + m) c) (n + m) (bv l ++ bv u)) : Own B w (.slice (some ⟨g, 0, none⟩) (n + m) c) (l ++ u) := by
  subst hl hu
  refine Own.of_row ?_ (by simp)
  rw [List.length_append, bv_append]
  exact h

theorem OwnN.row {B : Nat} {w : World} {v : Value} {l : List UInt8} (h : OwnN B w v l) : w.ownsRow B 5 1 v l.length (bv l) := by
  rcases h with ⟨rfl, rfl⟩ | h
  · exact World.ownsRow_nil _ _ _ _
  · exact h.row

theorem OwnN.lt {B : Nat} {w : World} {v : Value} {l : List UInt8} (h : OwnN B w v l) : ∀ q, v.ownBlock = some q → B ≤ q ∧ q < w.heap.size := fun q hq => h.row.lt q hq

theorem ownN_kept2 {B : Nat} {w w' : World} {v u : Value} {l : List UInt8} (h : OwnN B w u l) (hg : w.grownBy w' v.ownBlock) (ha : Apart2 v u) : OwnN B w' u l := by
  rcases h with h | h
  · exact .inl h
  · obtain ⟨g, c, rfl⟩ := h.shape
    refine .inr (own_kept h hg fun e => ?_)
    exact ha g e.symm rfl

/-- where the loop has come to -/
structure BldI (w wr : World) (es : List EnB) (bv0 pv av : Value) (j : Nat) : Prop where
  bo : OwnN w.heap.size wr bv0 (bodyTo es j)
  po : OwnN w.heap.size wr pv (wordsB (startsTo es j))
  ah : Rd wr av (ahd es j)
  ne : Apart2 bv0 pv
  nb : NeB av (ahd es j) bv0
  np : NeB av (ahd es j) pv
  be : Below w.heap.size w wr

theorem BldI.below {w wr w2 : World} {es : List EnB} {bv0 pv av : Value} {j : Nat} (h : BldI w wr es bv0 pv av j) (hb : Below wr.heap.size wr w2) : BldI w w2 es bv0 pv av j :=
  ⟨h.bo.below hb (Nat.le_refl _), h.po.below hb (Nat.le_refl _), h.ah.below hb (Nat.le_refl _), h.ne, h.nb, h.np, bsplit h.be hb⟩

/-- the same, places told, a form at hand -/
structure BldH (w wr : World) (es : List EnB) (bv0 pv fv : Value) (F : List UInt8) (j : Nat) : Prop where
  bo : OwnN w.heap.size wr bv0 (bodyTo es j)
  po : OwnN w.heap.size wr pv (wordsB (startsTo es (j + 1)))
  fo : Rd wr fv F
  ne : Apart2 bv0 pv
  nb : NeB fv F bv0
  np : NeB fv F pv
  be : Below w.heap.size w wr

theorem BldH.below {w wr w2 : World} {es : List EnB} {bv0 pv av : Value} {F : List UInt8} {j : Nat} (h : BldH w wr es bv0 pv av F j) (hb : Below wr.heap.size wr w2) : BldH w w2 es bv0 pv av F j :=
  ⟨h.bo.below hb (Nat.le_refl _), h.po.below hb (Nat.le_refl _), h.fo.below hb (Nat.le_refl _), h.ne, h.nb, h.np, bsplit h.be hb⟩

theorem BldH.drew {w wr : World} {es : List EnB} {bv0 pv av : Value} {F : List UInt8} {j : Nat} (h : BldH w wr es bv0 pv av F j) : BldH w wr.drew es bv0 pv av F j := ⟨h.bo, h.po, h.fo, h.ne, h.nb, h.np, h.be.drew⟩

/-- no place is told here -/
theorem BldI.stay {w wr : World} {es : List EnB} {bv0 pv av fv : Value} {F : List UInt8} {j : Nat} (h : BldI w wr es bv0 pv av j) (hj : ¬ j % 4 = 0) (hf : Rd wr fv F) (h1 : NeB fv F bv0) (h2 : NeB fv F pv) : BldH w wr es bv0 pv fv F j :=
  ⟨h.bo, by rw [startsTo, if_neg hj]; exact h.po, hf, h.ne, h1, h2, h.be⟩

/-- a place is told -/
theorem BldI.tell {w wr w2 : World} {es : List EnB} {bv0 pv av fv : Value} {F : List UInt8} {j g c n2 : Nat} (h : BldI w wr es bv0 pv av j) (hj : j % 4 = 0) (hf : Rd wr fv F) (h1 : NeB fv F bv0) (h2 : NeB fv F pv)
    (hl : (wordsB (startsTo es j)).length = n2) (hn : w2.ownsRow w.heap.size 5 1 (.slice (some ⟨g, 0, none⟩) (n2 + 2) c) (n2 + 2) (bv (wordsB (startsTo es j)) ++ bv (wordB (bodyTo es j).length))) (hg : wr.grownBy w2 pv.ownBlock) (hat : pv.ownBlock = some g ∨ g = wr.heap.size) : BldH w w2 es bv0 (.slice (some ⟨g, 0, none⟩) (n2 + 2) c) fv F j := by
  refine ⟨ownN_kept2 h.bo hg h.ne.symm, ?_, rd_grown hf hg h2, (h.ne.symm.step hat (fun q hq => (h.bo.lt q hq).2)).symm, h1, neb_step h2 hf hat, h.be.grown hg h.be.size (fun k e => (h.po.lt k e).1)⟩
  rw [startsTo, if_pos hj, wordsB_snoc]
  exact .inr (own_grew hl rfl hn)

/-- an entry's bytes are laid behind -/
theorem BldH.push {w wr w2 : World} {es : List EnB} {bv0 pv fv : Value} {F u : List UInt8} {j g c n1 m : Nat} (h : BldH w wr es bv0 pv fv F j) (hF : frm es j = F) (hu : entB es j = u) (hm : u.length = m)
    (hl : (bodyTo es j).length = n1) (hn : w2.ownsRow w.heap.size 5 1 (.slice (some ⟨g, 0, none⟩) (n1 + m) c) (n1 + m) (bv (bodyTo es j) ++ bv u)) (hg : wr.grownBy w2 bv0.ownBlock) (hat : bv0.ownBlock = some g ∨ g = wr.heap.size) : BldI w w2 es (.slice (some ⟨g, 0, none⟩) (n1 + m) c) pv fv (j + 1) := by
  subst hF hu
  refine ⟨?_, ownN_kept2 h.po hg h.ne, rd_grown h.fo hg h.nb, h.ne.step hat (fun q hq => (h.po.lt q hq).2), neb_step h.nb h.fo hat, h.np, h.be.grown hg h.be.size (fun k e => (h.bo.lt k e).1)⟩
  exact .inr (own_grew hl hm hn)

theorem ownN_len {B n c : Nat} {w : World} {a : Option Addr} {l : List UInt8} (h : OwnN B w (.slice a n c) l) : l.length = n := by
  rcases h with ⟨e, rfl⟩ | h
  · cases e; rfl
  · obtain ⟨g, k, e⟩ := h.shape; cases e; rfl

end Go.Proofs.Ytekmlbbfipldoaa

/- leaf.entries, leaf.Read. -/
namespace Go.Proofs.Ytekmlbbfipldoaa
set_option maxRecDepth 20000
open Go.RowKit
set_option linter.unusedVariables false
set_option linter.unusedSimpArgs false

theorem verS_len {F : List UInt8} {q : List UInt8 × Nat × Nat} (hF : F.length ≤ 100000) (h : verS F = some q) : F.length ≤ 72 := by
  unfold verS at h
  split at h
  · cases h
  · rename_i h8
    split at h
    · rename_i hk
      have hf := front_numB (F.length - 8) (by omega) F
      have ht : (textS (Mth.numB (F.length - 8) ++ F) 64).2.2 = 0 := by
        rcases Nat.eq_zero_or_pos (textS (Mth.numB (F.length - 8) ++ F) 64).2.2 with h0 | h0
        · exact h0
        · exfalso
          unfold keyS at hk
          rw [if_neg (by omega)] at hk
          simp only at hk
          omega
      unfold textS at ht
      rw [hf] at ht
      simp only [if_true] at ht
      split at ht
      · cases ht
      · rename_i hm
        omega
    · cases h

theorem tak3_facts {A p : List UInt8} {n1 n2 n3 : Nat} {q : EnB × List UInt8 × List UInt8} (hA : A.length ≤ 1000) (hp : p.length ≤ 90000) (h : tak3 A p n1 n2 n3 = some q) : q.2.1.length ≤ 72 ∧ q.2.2.length ≤ p.length := by
  unfold tak3 at h
  split at h
  · split at h
    · rename_i r hr
      cases h
      refine ⟨verS_len ?_ hr, ?_⟩
      · rw [List.length_append, List.length_take, List.length_take]; omega
      · simp only [List.length_drop]; omega
    · cases h
  · cases h

theorem takS_facts {A p : List UInt8} {q : EnB × List UInt8 × List UInt8} (hA : A.length ≤ 1000) (hp : p.length ≤ 90000) (h : takS A p = some q) : q.2.1.length ≤ 72 ∧ q.2.2.length ≤ p.length := by
  unfold takS at h
  split at h
  · unfold tak1 at h
    split at h
    · unfold tak2 at h
      split at h
      · have := tak3_facts hA (by simp only [List.length_drop]; omega) h
        refine ⟨this.1, Nat.le_trans this.2 ?_⟩
        simp only [List.length_drop]; omega
      · cases h
    · cases h
  · cases h

/-- what the rest yields, behind what was read -/
def behind (es : List EnB) : Option (List EnB) → Option (List EnB)
  | none => none
  | some t => some (es ++ t)

theorem ents_done {B : List UInt8} {es : List EnB} {m : Nat} {F R : List UInt8} (h : entsS 64 [] B = behind es (entsS m F R)) (hR : R = []) : entsS 64 [] B = some es := by
  rw [h, hR, entsS]; simp [behind]

theorem ents_full {B : List UInt8} {es : List EnB} {F R : List UInt8} (h : entsS 64 [] B = behind es (entsS 0 F R)) (hR : ¬ R = []) : entsS 64 [] B = none := by
  cases R with
  | nil => exact absurd rfl hR
  | cons b r => rw [h, entsS]; rfl

theorem ents_stop {B : List UInt8} {es : List EnB} {m : Nat} {F R : List UInt8} (h : entsS 64 [] B = behind es (entsS (m + 1) F R)) (hR : ¬ R = []) (ht : takS F R = none) : entsS 64 [] B = none := by
  cases R with
  | nil => exact absurd rfl hR
  | cons b r => rw [h, entsS, ht]; rfl

theorem ents_step {B : List UInt8} {es : List EnB} {m : Nat} {F R : List UInt8} {q : EnB × List UInt8 × List UInt8} (h : entsS 64 [] B = behind es (entsS (m + 1) F R)) (hR : ¬ R = []) (ht : takS F R = some q) : entsS 64 [] B = behind (es ++ [q.1]) (entsS m q.2.1 q.2.2) := by
  cases R with
  | nil => exact absurd rfl hR
  | cons b r =>
    rw [h, entsS, ht]
    simp only
    cases entsS m q.2.1 q.2.2 with
    | none => rfl
    | some t => simp [behind]

/-- what the entries of a row hold was made from block B on -/
def FrE (B : Nat) (w : World) (v : Value) (n : Nat) : Prop := ∃ cs, w.ownsRow B 38 4 v n cs ∧ ∀ j, j < n → ∃ x y, cs[j * 4]? = some x ∧ From B x ∧ cs[j * 4 + 3]? = some y ∧ From B y

theorem FrE.nil (B : Nat) (w : World) : FrE B w (.slice none 0 0) 0 := ⟨[], World.ownsRow_nil _ _ _ _, fun _ h => absurd h (Nat.not_lt_zero _)⟩

theorem FrE.below {B : Nat} {w w' : World} {v : Value} {n : Nat} (h : FrE B w v n) (hb : Below w.heap.size w w') : FrE B w' v n := by
  obtain ⟨cs, hr, hj⟩ := h
  exact ⟨cs, row_below hr hb, hj⟩

theorem row_uniq {B B' : Nat} {w : World} {v : Value} {n s : Nat} {e : TypeId} {cs ds : List Value} (h : w.ownsRow B e s v n cs) (h' : w.ownsRow B' e s v n ds) : cs = ds := by
  rcases h.2 with ⟨e1, e2⟩ | ⟨g, cap, cur, e1, _, hg, _, _, _, h4⟩
  · have l1 := h.1
    have l2 := h'.1
    rw [e2, Nat.zero_mul] at l1 l2
    rw [List.eq_nil_of_length_eq_zero l1, List.eq_nil_of_length_eq_zero l2]
  · rcases h'.2 with ⟨e2, _⟩ | ⟨g', cap', cur', e2, _, hg', _, _, _, h4'⟩
    · rw [e1] at e2; cases e2
    · rw [e1] at e2
      cases e2
      rw [hg] at hg'
      cases hg'
      rw [← h4, ← h4']

theorem FrE.at {B : Nat} {w : World} {b off n c : Nat} (h : FrE B w (.slice (some ⟨b, off, none⟩) n c) n) {C : Nat} (hC : C < n) {x y : Value} (hx : w.cell? ⟨b, off + C * 4, none⟩ = some x) (hy : w.cell? ⟨b, off + C * 4 + 3, none⟩ = some y) : From B x ∧ From B y := by
  obtain ⟨cs, hr, hj⟩ := h
  obtain ⟨x', y', c0, f0, c3, f3⟩ := hj C hC
  have hr2 := hr
  rcases hr.2 with ⟨e, _⟩ | ⟨g, cap, cur, e, _⟩
  · cases e
  · cases e
    have hc := hr2.cells (g := b) rfl
    have k0 := hc _ _ c0
    have k3 := hc _ _ c3
    rw [Addr.add_lit] at k0 k3
    rw [k0] at hx
    rw [show 0 + C * 4 + 3 = 0 + (C * 4 + 3) by omega, k3] at hy
    cases hx
    cases hy
    exact ⟨f0, f3⟩

theorem FrE.push {B g c n : Nat} {w w' : World} {v x y : Value} {s k : Value} {cs : List Value} (h : FrE B w v n) (hrow : w.ownsRow B 38 4 v n cs) (hn : w'.ownsRow B 38 4 (.slice (some ⟨g, 0, none⟩) (n + 1) c) (n + 1) (cs ++ [x, s, k, y])) (hx : From B x) (hy : From B y) : FrE B w' (.slice (some ⟨g, 0, none⟩) (n + 1) c) (n + 1) := by
  obtain ⟨ds, hr, hj⟩ := h
  have e := row_uniq hr hrow
  subst e
  have hcl : ds.length = n * 4 := hrow.1
  refine ⟨_, hn, fun j hj' => ?_⟩
  by_cases hlt : j < n
  · obtain ⟨x', y', c0, f0, c3, f3⟩ := hj j hlt
    exact ⟨x', y', by rw [List.getElem?_append_left (by omega)]; exact c0, f0, by rw [List.getElem?_append_left (by omega)]; exact c3, f3⟩
  · have : j = n := by omega
    subst this
    refine ⟨x, y, ?_, hx, ?_, hy⟩
    · rw [List.getElem?_append_right (by omega), show j * 4 - ds.length = 0 by omega]; rfl
    · rw [List.getElem?_append_right (by omega), show j * 4 + 3 - ds.length = 3 by omega]; rfl

/-- where the loop has come to -/
structure EntI (w wr : World) (B : List UInt8) (lv fv : Value) (b off : Nat) (es : List EnB) (F R : List UInt8) (j : Nat) : Prop where
  ow : OwnE w.heap.size wr lv es
  fo : Rd wr fv F
  nf : NeB fv F lv
  ce : Cel w b off R
  eq : entsS 64 [] B = behind es (entsS (64 - j) F R)
  nl : es.length = j
  fl : F.length ≤ 1000
  rl : R.length ≤ 90000
  be : Below w.heap.size w wr
  fr : FrE w.heap.size wr lv j

/-- the entries that stand in p -/
def entsP (p : List UInt8) : Option (List EnB) := match bodyS p with
  | none => none
  | some b => entsS 64 [] b

theorem entsP_none {p : List UInt8} (h : bodyS p = none) : entsP p = none := by unfold entsP; rw [h]
theorem entsP_some {p b : List UInt8} (h : bodyS p = some b) : entsP p = entsS 64 [] b := by unfold entsP; rw [h]

/-- what leaf.entries answers -/
def EntPost (p : List UInt8) (w w' : World) (o : Ending) : Prop :=
  Below w.heap.size w w' ∧ match entsP p with
    | none => o = .returned (.tuple #[.slice none 0 0, .bool false])
    | some es => ∃ x, o = .returned (.tuple #[x, .bool true]) ∧ RdE w' x es ∧ FrE w.heap.size w' x es.length

end Go.Proofs.Ytekmlbbfipldoaa

/- leaf.Read. -/
namespace Go.Proofs.Ytekmlbbfipldoaa
set_option maxRecDepth 20000
open Go.RowKit
set_option linter.unusedVariables false

/-- what leaf.Read answers -/
def RdLPost (p : List UInt8) (w w' : World) (o : Ending) : Prop :=
  Below w.heap.size w w' ∧ match readL p with
    | none => o = .returned (.tuple #[.slice none 0 0, .int .i64 4])
    | some es => ∃ x, o = .returned (.tuple #[x, .int .i64 0]) ∧ RdE w' x es ∧ FrE w.heap.size w' x es.length

theorem readL_none {p : List UInt8} (h : entsP p = none) : readL p = none := by
  unfold readL
  cases hb : bodyS p with
  | none => rfl
  | some b => rw [entsP_some hb] at h; simp only; rw [h]

theorem readL_some {p : List UInt8} {es : List EnB} (h : entsP p = some es) : readL p = if chkLf es = 0 ∧ leafB es = p then some es else none := by
  unfold readL
  cases hb : bodyS p with
  | none => rw [entsP_none hb] at h; cases h
  | some b => rw [entsP_some hb] at h; simp only; rw [h]

end Go.Proofs.Ytekmlbbfipldoaa

/- leaf.place: the place where a version stands. -/
namespace Go.Proofs.Ytekmlbbfipldoaa
set_option maxRecDepth 20000
open Go.RowKit
set_option linter.unusedVariables false

/-- the cells of an entry and a version -/
structure EnK (w : World) (p o h bk : Nat) (x1 : Option Addr) (m1 x2 : Nat) (s1 k1 : Int) (y1 : Option Addr) (m2 y2 : Nat) (x3 : Option Addr) (m3 x4 : Nat) (s2 k2 : Int) : Prop where
  a0 : w.cell? ⟨p, o + h * 4, none⟩ = some (.slice x1 m1 x2)
  a1 : w.cell? ⟨p, o + h * 4 + 1, none⟩ = some (.int .u64 s1)
  a2 : w.cell? ⟨p, o + h * 4 + 2, none⟩ = some (.int .u8 k1)
  a3 : w.cell? ⟨p, o + h * 4 + 3, none⟩ = some (.slice y1 m2 y2)
  b0 : w.cell? ⟨bk, 0, none⟩ = some (.slice x3 m3 x4)
  b1 : w.cell? ⟨bk, 1, none⟩ = some (.int .u64 s2)
  b2 : w.cell? ⟨bk, 2, none⟩ = some (.int .u8 k2)

theorem EnK.below {w w' : World} {p o h bk : Nat} {x1 : Option Addr} {m1 x2 : Nat} {s1 k1 : Int} {y1 : Option Addr} {m2 y2 : Nat} {x3 : Option Addr} {m3 x4 : Nat} {s2 k2 : Int} (e : EnK w p o h bk x1 m1 x2 s1 k1 y1 m2 y2 x3 m3 x4 s2 k2) (hb : Below w.heap.size w w') : EnK w' p o h bk x1 m1 x2 s1 k1 y1 m2 y2 x3 m3 x4 s2 k2 := by
  have l1 := World.block_lt_of_cell? w _ e.a0
  have l2 := World.block_lt_of_cell? w _ e.b0
  exact ⟨(hb.cell (p := ⟨p, o + h * 4, none⟩) l1).trans e.a0, (hb.cell (p := ⟨p, o + h * 4 + 1, none⟩) l1).trans e.a1, (hb.cell (p := ⟨p, o + h * 4 + 2, none⟩) l1).trans e.a2, (hb.cell (p := ⟨p, o + h * 4 + 3, none⟩) l1).trans e.a3, (hb.cell (p := ⟨bk, 0, none⟩) l2).trans e.b0, (hb.cell (p := ⟨bk, 1, none⟩) l2).trans e.b1, (hb.cell (p := ⟨bk, 2, none⟩) l2).trans e.b2⟩

/-- what leaf.From and leaf.Before answer: the entry at a place, or none -/
def FndPost (q : Option (Option EnB)) (w w' : World) (o : Ending) : Prop :=
  Below w.heap.size w w' ∧ match q with
    | none => o = .returned (.tuple #[enZ, .bool false, .int .i64 4])
    | some none => o = .returned (.tuple #[enZ, .bool false, .int .i64 0])
    | some (some e) => ∃ x y, o = .returned (.tuple #[enV x (e.2.1 : Int) (e.2.2.1.toNat : Int) y, .bool true, .int .i64 0]) ∧ Rd w' x e.1 ∧ Rd w' y e.2.2.2

/-- what leaf.From tells -/
def fromL (p : List UInt8) (K : EnB) : Option (Option EnB) := match readL p with
  | none => none
  | some es => some es[cntE es K]?

/-- what leaf.Before tells -/
def befL (p : List UInt8) (K : EnB) : Option (Option EnB) := match readL p with
  | none => none
  | some es => if cntE es K = 0 then some none else some es[cntE es K - 1]?

end Go.Proofs.Ytekmlbbfipldoaa

/- leaf.From, leaf.Before. -/
namespace Go.Proofs.Ytekmlbbfipldoaa
set_option maxRecDepth 20000
open Go.RowKit
set_option linter.unusedVariables false

theorem far_of {B : Nat} {v : Value} (hf : From (B + 2) v) : ∀ g, v.ownBlock = some g → g ≠ B + 1 := fun g hg => by
  cases v with
  | slice a n c =>
    cases a with
    | none => simp [Value.ownBlock] at hg
    | some a =>
      have h9 := hf a n c rfl
      simp only [Value.ownBlock, Option.some.injEq] at hg
      omega
  | _ => simp [Value.ownBlock] at hg

end Go.Proofs.Ytekmlbbfipldoaa

/- bartizanref08's From and Before. -/
namespace Go.Proofs.Ytekmlbbfipldoaa
set_option maxRecDepth 20000
open Go.RowKit
set_option linter.unusedVariables false
set_option linter.unusedSimpArgs false

/-- what lay there ahead of the call is read as before, whatever is stored into a box of the call's own -/
theorem rd_store4o {w W : World} {x : Value} {l : List UInt8} {b : Nat} (h : Rd w x l) (hW : Below w.heap.size w W) (hb : w.heap.size ≤ b) (u0 u1 u2 u3 : Value) : Rd ((((W.setCell ⟨b, 0, none⟩ u0).setCell ⟨b, 1, none⟩ u1).setCell ⟨b, 2, none⟩ u2).setCell ⟨b, 3, none⟩ u3) x l := by
  have h2 := below_store4 hW hb u0 u1 u2 u3
  exact h.below h2 (Nat.le_refl _)

/-- what bartizanref08's From and Before answer -/
def R8Post (q : Option EnB) (w w' : World) (o : Ending) : Prop :=
  Below w.heap.size w w' ∧ match q with
    | none => o = .returned (.tuple #[enZ, .bool false])
    | some e => ∃ x y, o = .returned (.tuple #[enV x (e.2.1 : Int) (e.2.2.1.toNat : Int) y, .bool true]) ∧ Rd w' x e.1 ∧ Rd w' y e.2.2.2

theorem rdE_at {w w' : World} {ao : Option Addr} {N cap : Nat} {es : List EnB} (h : RdE w (.slice ao N cap) es) (hb : Below w.heap.size w w') {j : Nat} (hj : j < es.length) : ∃ p o x1 x2 y1 y2, ao = some ⟨p, o, none⟩ ∧ w'.cell? ⟨p, o + j * 4, none⟩ = some (.slice x1 es[j].1.length x2) ∧ w'.cell? ⟨p, o + j * 4 + 1, none⟩ = some (.int .u64 (es[j].2.1 : Int)) ∧ w'.cell? ⟨p, o + j * 4 + 2, none⟩ = some (.int .u8 (es[j].2.2.1.toNat : Int)) ∧ w'.cell? ⟨p, o + j * 4 + 3, none⟩ = some (.slice y1 es[j].2.2.2.length y2) ∧ Rd w (.slice x1 es[j].1.length x2) es[j].1 ∧ Rd w (.slice y1 es[j].2.2.2.length y2) es[j].2.2.2 := by
  obtain ⟨_, _, e, _, _, h3⟩ := h
  cases e
  obtain ⟨p, o, rfl, xv, yv, c0, c1, c2, c3, rx, ry⟩ := h3 j hj
  obtain ⟨x1, x2, ex⟩ := rx.len
  obtain ⟨y1, y2, ey⟩ := ry.len
  subst ex ey
  have hl := World.block_lt_of_cell? w _ c0
  exact ⟨p, o, x1, x2, y1, y2, rfl, (hb.cell (p := ⟨p, o + j * 4, none⟩) hl).trans c0, (hb.cell (p := ⟨p, o + j * 4 + 1, none⟩) hl).trans c1, (hb.cell (p := ⟨p, o + j * 4 + 2, none⟩) hl).trans c2, (hb.cell (p := ⟨p, o + j * 4 + 3, none⟩) hl).trans c3, rx, ry⟩

set_option maxHeartbeats 4000000 in
theorem r8from_any (w : World) (v kv : Value) (es : List EnB) (K : EnB) (hv : RdE w v es) (hk : Rd w kv K.1) (hr : riseB es = true) (hl : es.length ≤ 1000) :
    Calls Try.prog 24 #[v, .agg #[kv, .int .u64 (K.2.1 : Int), .int .u8 (K.2.2.1.toNat : Int)]] w fun o w' => R8Post (es[cntE es K]?) w w' o := by
  have HV : Hid (RdE w v es) := hv
  obtain ⟨ka, kc, rfl⟩ := hk.len
  obtain ⟨ao, cap, rfl, hc1, hc2, _⟩ := hv
  unfold maxLen at hc2
  obtain ⟨kn, hkn⟩ : ∃ n, K.1.length = n := ⟨_, rfl⟩
  obtain ⟨N, hN⟩ : ∃ n, es.length = n := ⟨_, rfl⟩
  obtain ⟨ks, hks⟩ : ∃ z : Int, (K.2.1 : Int) = z := ⟨_, rfl⟩
  obtain ⟨kk, hkk⟩ : ∃ z : Int, (K.2.2.1.toNat : Int) = z := ⟨_, rfl⟩
  have HKS : Hid ((K.2.1 : Int) = ks ∧ (K.2.2.1.toNat : Int) = kk) := ⟨hks, hkk⟩
  have HN : Hid (es.length = N) := hN
  have HR : Hid (riseB es = true) := hr
  rw [hkn] at hk ⊢
  rw [hN] at HV hl hc1 ⊢
  rw [hks, hkk]
  have HK : Hid (Rd w (.slice ka kn kc) K.1) := hk
  have hb0 := below_box w #[.slice ka kn kc, .int .u64 ks, .int .u8 kk] 36
  have hb1 := below_box4 (w.alloc (.cells #[.slice ka kn kc, .int .u64 ks, .int .u8 kk] 36)) (.cells #[.slice none 0 0, .int .u64 0, .int .u8 0, .slice none 0 0] 38)
  have BK := (box_new w (.slice ka kn kc) (.int .u64 ks) (.int .u8 kk) 36).below hb1 (Nat.le_refl _)
  have BR := box4f_new (w.alloc (.cells #[.slice ka kn kc, .int .u64 ks, .int .u8 kk] 36)) (.slice none 0 0) (.int .u64 0) (.int .u8 0) (.slice none 0 0) 38
  have hsz : (w.alloc (.cells #[.slice ka kn kc, .int .u64 ks, .int .u8 kk] 36)).heap.size = w.heap.size + 1 := by simp
  rw [hsz] at BR
  obtain ⟨w1, hw1⟩ : ∃ W, (w.alloc (.cells #[.slice ka kn kc, .int .u64 ks, .int .u8 kk] 36)).alloc (.cells #[.slice none 0 0, .int .u64 0, .int .u8 0, .slice none 0 0] 38) = W := ⟨_, rfl⟩
  have hB1 := bsplit hb0 hb1
  rw [hw1] at BK BR hB1
  have HB1 : Hid (Below w.heap.size w w1) := hB1
  clear hk hr hkn hN hks hkk hb0 hb1 hB1 hsz
  go_enter Try.func24, Try.ntmps24
  go_wp2_with fail
  clear hw1
  go_loopg [10] N (fun gk iv wr => ∃ j : Nat, gk + j = N ∧ iv = .int .i64 (j : Int) ∧ Hid (∀ x (hx : x < es.length), x < j → ltE es[x] K = true) ∧ Hid (Below w1.heap.size w1 wr))
  case atStart => exact ⟨0, by omega, rfl, fun x hx h => absurd h (Nat.not_lt_zero _), Below.refl _ _⟩
  case round =>
    obtain ⟨j, hj, rfl, HS, HB⟩ := hrel
    have HBW : Hid (Below w.heap.size w wr) := bsplit HB1.out HB.out
    by_cases hlt : j < N
    · have hlt2 : j < es.length := by rw [HN.out]; exact hlt
      obtain ⟨p, o, x1, x2, y1, y2, rfl, d0, d1, d2, d3, rx, ry⟩ := rdE_at HV.out HBW.out hlt2
      obtain ⟨q1, q2⟩ := gk_nxt hj hlt
      obtain ⟨E, hE⟩ : ∃ e, es[j] = e := ⟨_, rfl⟩
      rw [hE] at d0 d1 d2 d3 rx ry
      obtain ⟨sq, hsq⟩ : ∃ z : Int, (E.2.1 : Int) = z := ⟨_, rfl⟩
      obtain ⟨ek, hek⟩ : ∃ z : Int, (E.2.2.1.toNat : Int) = z := ⟨_, rfl⟩
      obtain ⟨nl, hnl⟩ : ∃ z, E.1.length = z := ⟨_, rfl⟩
      obtain ⟨ml, hml⟩ : ∃ z, E.2.2.2.length = z := ⟨_, rfl⟩
      rw [hnl] at d0 rx
      rw [hsq] at d1
      rw [hek] at d2
      rw [hml] at d3 ry
      obtain ⟨lt, hltq⟩ : ∃ q, ltE E K = q := ⟨_, rfl⟩
      have HLT : Hid (decide (Mth.cmpK E.1 sq ek K.1 ks kk < 0) = lt) := by show _ = _; rw [← hltq, ← hsq, ← hek, ← HKS.out.1, ← HKS.out.2]; rfl
      have HE : Hid (es[j] = E ∧ ltE E K = lt ∧ (E.2.1 : Int) = sq ∧ (E.2.2.1.toNat : Int) = ek) := ⟨hE, hltq, hsq, hek⟩
      have hb5 := below_box4 wr (.cells #[.slice x1 nl x2, .int .u64 sq, .int .u8 ek, .slice y1 ml y2] 38)
      have BY := box4_new wr (.slice x1 nl x2) (.int .u64 sq) (.int .u8 ek) (.slice y1 ml y2) 38
      have HB5 : Hid (Below w1.heap.size w1 (wr.alloc (.cells #[.slice x1 nl x2, .int .u64 sq, .int .u8 ek, .slice y1 ml y2] 38))) := bsplit HB.out hb5
      have HBW5 : Hid (Below w.heap.size w (wr.alloc (.cells #[.slice x1 nl x2, .int .u64 sq, .int .u8 ek, .slice y1 ml y2] 38))) := bsplit HB1.out HB5.out
      have hls := keyless_any (wr.alloc (.cells #[.slice x1 nl x2, .int .u64 sq, .int .u8 ek, .slice y1 ml y2] 38)) _ _ E.1 K.1 sq ek ks kk lt (rx.below HBW5.out (Nat.le_refl _)) (HK.out.below HBW5.out (Nat.le_refl _)) HLT.out
      obtain ⟨c0, c1, c2, _⟩ := BK.below HB5.out (Nat.le_refl _)
      have BY' := BY
      obtain ⟨z0, z1, z2, z3⟩ := BY'
      have HRX : Hid (Rd w (.slice x1 nl x2) E.1 ∧ Rd w (.slice y1 ml y2) E.2.2.2) := ⟨rx, ry⟩
      clear rx ry hE hsq hek hnl hml hltq hb5
      go_wp2_with fail
      refine hls.mono ?_
      rintro e w6 ⟨rfl, hb6⟩
      clear c0 c1 c2 z0 z1 z2 z3 d0 d1 d2 d3
      have HB6 : Hid (Below w1.heap.size w1 w6) := bsplit HB5.out hb6
      have HBW6 : Hid (Below w.heap.size w w6) := bsplit HB1.out HB6.out
      obtain ⟨z0, z1, z2, z3⟩ := BY.below hb6 (Nat.le_refl _)
      clear hls hb6 BY
      cases lt with
      | true =>
        have HS2 : Hid (∀ x (hx : x < es.length), x < j + 1 → ltE es[x] K = true) := fun x hx hxj => by
          by_cases e : x = j
          · subst e; rw [HE.out.1]; exact HE.out.2.1
          · exact HS.out x hx (by omega)
        go_wp2_with fail
        go_roundg (gk - 1)
        case measure => exact q1
        case rel => exact ⟨j + 1, q2, by go_num, HS2, HB6⟩
      | false =>
        have HC : Hid (es[cntE es K]? = some E) := by
          show _ = _
          have hj2 : j < es.length := by rw [HN.out]; exact hlt
          have : cntE es K = j := cnt_split (by omega) HS.out (fun x hx hxj => behind_ge HR.out hx hxj (by rw [HE.out.1]; exact HE.out.2.1))
          rw [this, List.getElem?_eq_getElem hj2, HE.out.1]
        obtain ⟨⟨r0, r1, r2, r3⟩, f0, f1, f2, f3⟩ := BR.below HB6.out (Nat.le_refl _)
        go_wp2
        refine bodyPost_ret (v := .tuple #[enV (.slice x1 nl x2) sq ek (.slice y1 ml y2), .bool true]) (by simp [results, Try.results24, go_sem, r0, r1, r2, r3]) rfl ?_
        refine ⟨below_store4 HBW6.out (Nat.le_succ _) _ _ _ _, ?_⟩
        rw [HC.out]
        exact ⟨_, _, by rw [HE.out.2.2.1, HE.out.2.2.2], rd_store4o HRX.out.1 HBW6.out (Nat.le_succ _) _ _ _ _, rd_store4o HRX.out.2 HBW6.out (Nat.le_succ _) _ _ _ _⟩
    · have hjN : j = N := by omega
      subst hjN
      have hni : ¬ (j : Int) < (j : Int) := by omega
      have HC : Hid (es[cntE es K]? = none) := by
        show _ = _
        have : cntE es K = j := cnt_split (by rw [HN.out]; exact Nat.le_refl _) HS.out (fun x hx hxj => by rw [HN.out] at hx; omega)
        rw [this, List.getElem?_eq_none (by rw [HN.out]; exact Nat.le_refl _)]
      obtain ⟨⟨r0, r1, r2, r3⟩, f0, f1, f2, f3⟩ := BR.below HB.out (Nat.le_refl _)
      go_wp2
      refine bodyPost_ret (v := .tuple #[enZ, .bool false]) (by simp [results, Try.results24, go_sem, r0, r1, r2, r3]) rfl ?_
      refine ⟨below_store4 HBW.out (Nat.le_succ _) _ _ _ _, ?_⟩
      rw [HC.out]

theorem Box4f.stored {w : World} {b : Nat} {v0 v1 v2 v3 : Value} (h : Box4f w b v0 v1 v2 v3) (b' : Nat) (hne : b ≠ b') (u0 u1 u2 u3 : Value) : Box4f ((((w.setCell ⟨b', 0, none⟩ u0).setCell ⟨b', 1, none⟩ u1).setCell ⟨b', 2, none⟩ u2).setCell ⟨b', 3, none⟩ u3) b v0 v1 v2 v3 :=
  ⟨h.bx.stored b' hne u0 u1 u2 u3, by simp [go_sem, h.f0], by simp [go_sem, h.f1], by simp [go_sem, h.f2], by simp [go_sem, h.f3]⟩

theorem box4f_stored {w : World} {b : Nat} {v0 v1 v2 v3 : Value} (h : Box4f w b v0 v1 v2 v3) (u0 u1 u2 u3 : Value) : Box4f ((((w.setCell ⟨b, 0, none⟩ u0).setCell ⟨b, 1, none⟩ u1).setCell ⟨b, 2, none⟩ u2).setCell ⟨b, 3, none⟩ u3) b u0 u1 u2 u3 :=
  ⟨⟨by simp [go_sem, h.bx.c0, h.bx.c1, h.bx.c2, h.bx.c3], by simp [go_sem, h.bx.c0, h.bx.c1, h.bx.c2, h.bx.c3], by simp [go_sem, h.bx.c0, h.bx.c1, h.bx.c2, h.bx.c3], by simp [go_sem, h.bx.c0, h.bx.c1, h.bx.c2, h.bx.c3]⟩, by simp [go_sem, h.f0], by simp [go_sem, h.f1], by simp [go_sem, h.f2], by simp [go_sem, h.f3]⟩

/-- what was found so far: the last one ahead of a version -/
def BefO (w : World) (es : List EnB) (K : EnB) (j : Nat) (sb : Bool) (a1 : Option Addr) (n1 c1 : Nat) (s k : Int) (a2 : Option Addr) (n2 c2 : Nat) : Prop :=
  ∃ c, c ≤ j ∧ (∀ x (hx : x < es.length), x < c → ltE es[x] K = true) ∧ (∀ x (hx : x < es.length), c ≤ x → x < j → ltE es[x] K = false) ∧
    ((c = 0 ∧ sb = false ∧ Value.slice a1 n1 c1 = .slice none 0 0 ∧ s = 0 ∧ k = 0 ∧ Value.slice a2 n2 c2 = .slice none 0 0) ∨
     (0 < c ∧ sb = true ∧ ∃ e, es[c - 1]? = some e ∧ s = (e.2.1 : Int) ∧ k = (e.2.2.1.toNat : Int) ∧ Rd w (.slice a1 n1 c1) e.1 ∧ Rd w (.slice a2 n2 c2) e.2.2.2))

theorem BefO.stay {w : World} {es : List EnB} {K : EnB} {j : Nat} {sb : Bool} {a1 a2 : Option Addr} {n1 c1 n2 c2 : Nat} {s k : Int} (h : BefO w es K j sb a1 n1 c1 s k a2 n2 c2) (hj : j < es.length) (hlt : ltE es[j] K = false) : BefO w es K (j + 1) sb a1 n1 c1 s k a2 n2 c2 := by
  obtain ⟨c, h1, h2, h3, h4⟩ := h
  refine ⟨c, by omega, h2, fun x hx hc hxj => ?_, h4⟩
  by_cases e : x = j
  · subst e; exact hlt
  · exact h3 x hx hc (by omega)

theorem BefO.next {w : World} {es : List EnB} {K E : EnB} {j : Nat} {sb : Bool} {a1 a2 b1 b2 : Option Addr} {n1 c1 n2 c2 m1 d1 m2 d2 : Nat} {s k s' k' : Int} (h : BefO w es K j sb a1 n1 c1 s k a2 n2 c2) (hr : riseB es = true) (hj : j < es.length) (hE : es[j] = E) (hlt : ltE es[j] K = true) (hs : (E.2.1 : Int) = s') (hk : (E.2.2.1.toNat : Int) = k') (hx : Rd w (.slice b1 m1 d1) E.1) (hy : Rd w (.slice b2 m2 d2) E.2.2.2) : BefO w es K (j + 1) true b1 m1 d1 s' k' b2 m2 d2 := by
  refine ⟨j + 1, Nat.le_refl _, fun x hx hxj => ahead_lt hr hj (by omega) hlt, fun x hx hc hxj => by omega, .inr ⟨by omega, rfl, E, ?_, hs.symm, hk.symm, hx, hy⟩⟩
  rw [Nat.add_sub_cancel, List.getElem?_eq_getElem hj, hE]

theorem BefO.done {w : World} {es : List EnB} {K : EnB} {j : Nat} {sb : Bool} {a1 a2 : Option Addr} {n1 c1 n2 c2 : Nat} {s k : Int} (h : BefO w es K j sb a1 n1 c1 s k a2 n2 c2) (hj : j = es.length) :
    (((if cntE es K = 0 then none else es[cntE es K - 1]?) = none) ∧ sb = false ∧ Value.slice a1 n1 c1 = .slice none 0 0 ∧ s = 0 ∧ k = 0 ∧ Value.slice a2 n2 c2 = .slice none 0 0) ∨
    ∃ e, ((if cntE es K = 0 then none else es[cntE es K - 1]?) = some e) ∧ sb = true ∧ s = (e.2.1 : Int) ∧ k = (e.2.2.1.toNat : Int) ∧ Rd w (.slice a1 n1 c1) e.1 ∧ Rd w (.slice a2 n2 c2) e.2.2.2 := by
  obtain ⟨c, h1, h2, h3, h4⟩ := h
  have hc : cntE es K = c := cnt_split (by omega) h2 (fun x hx hcx => h3 x hx hcx (by omega))
  rw [hc]
  rcases h4 with ⟨e0, h5⟩ | ⟨e0, h5, e, h6, h7⟩
  · exact .inl ⟨if_pos e0, h5⟩
  · exact .inr ⟨e, by rw [if_neg (by omega)]; exact h6, h5, h7⟩

set_option maxHeartbeats 4000000 in
theorem r8before_any (w : World) (v kv : Value) (es : List EnB) (K : EnB) (hv : RdE w v es) (hk : Rd w kv K.1) (hr : riseB es = true) (hl : es.length ≤ 1000) :
    Calls Try.prog 26 #[v, .agg #[kv, .int .u64 (K.2.1 : Int), .int .u8 (K.2.2.1.toNat : Int)]] w fun o w' => R8Post (if cntE es K = 0 then none else es[cntE es K - 1]?) w w' o := by
  obtain ⟨Q, hQ⟩ : ∃ Q, (if cntE es K = 0 then none else es[cntE es K - 1]?) = Q := ⟨_, rfl⟩
  rw [hQ]
  have HQ : Hid ((if cntE es K = 0 then none else es[cntE es K - 1]?) = Q) := hQ
  clear hQ
  have HV : Hid (RdE w v es) := hv
  obtain ⟨ka, kc, rfl⟩ := hk.len
  obtain ⟨ao, cap, rfl, hc1, hc2, _⟩ := hv
  unfold maxLen at hc2
  obtain ⟨kn, hkn⟩ : ∃ n, K.1.length = n := ⟨_, rfl⟩
  obtain ⟨N, hN⟩ : ∃ n, es.length = n := ⟨_, rfl⟩
  obtain ⟨ks, hks⟩ : ∃ z : Int, (K.2.1 : Int) = z := ⟨_, rfl⟩
  obtain ⟨kk, hkk⟩ : ∃ z : Int, (K.2.2.1.toNat : Int) = z := ⟨_, rfl⟩
  have HKS : Hid ((K.2.1 : Int) = ks ∧ (K.2.2.1.toNat : Int) = kk) := ⟨hks, hkk⟩
  have HN : Hid (es.length = N) := hN
  have HR : Hid (riseB es = true) := hr
  rw [hkn] at hk ⊢
  rw [hN] at HV hl hc1 ⊢
  rw [hks, hkk]
  have HK : Hid (Rd w (.slice ka kn kc) K.1) := hk
  have hb0 := below_box w #[.slice ka kn kc, .int .u64 ks, .int .u8 kk] 36
  have hb1 := below_box4 (w.alloc (.cells #[.slice ka kn kc, .int .u64 ks, .int .u8 kk] 36)) (.cells #[.slice none 0 0, .int .u64 0, .int .u8 0, .slice none 0 0] 38)
  have hb2 := below_box4 ((w.alloc (.cells #[.slice ka kn kc, .int .u64 ks, .int .u8 kk] 36)).alloc (.cells #[.slice none 0 0, .int .u64 0, .int .u8 0, .slice none 0 0] 38)) (.cells #[.slice none 0 0, .int .u64 0, .int .u8 0, .slice none 0 0] 38)
  have BK := ((box_new w (.slice ka kn kc) (.int .u64 ks) (.int .u8 kk) 36).below hb1 (Nat.le_refl _)).below hb2 (Nat.le_refl _)
  have BR := (box4f_new (w.alloc (.cells #[.slice ka kn kc, .int .u64 ks, .int .u8 kk] 36)) (.slice none 0 0) (.int .u64 0) (.int .u8 0) (.slice none 0 0) 38).below hb2 (Nat.le_refl _)
  have BO := box4f_new ((w.alloc (.cells #[.slice ka kn kc, .int .u64 ks, .int .u8 kk] 36)).alloc (.cells #[.slice none 0 0, .int .u64 0, .int .u8 0, .slice none 0 0] 38)) (.slice none 0 0) (.int .u64 0) (.int .u8 0) (.slice none 0 0) 38
  have hsz : (w.alloc (.cells #[.slice ka kn kc, .int .u64 ks, .int .u8 kk] 36)).heap.size = w.heap.size + 1 := by simp
  have hsz2 : ((w.alloc (.cells #[.slice ka kn kc, .int .u64 ks, .int .u8 kk] 36)).alloc (.cells #[.slice none 0 0, .int .u64 0, .int .u8 0, .slice none 0 0] 38)).heap.size = w.heap.size + 2 := by simp
  rw [hsz] at BR
  rw [hsz2] at BO
  obtain ⟨w1, hw1⟩ : ∃ W, ((w.alloc (.cells #[.slice ka kn kc, .int .u64 ks, .int .u8 kk] 36)).alloc (.cells #[.slice none 0 0, .int .u64 0, .int .u8 0, .slice none 0 0] 38)).alloc (.cells #[.slice none 0 0, .int .u64 0, .int .u8 0, .slice none 0 0] 38) = W := ⟨_, rfl⟩
  have hB1 := bsplit (bsplit hb0 hb1) hb2
  have hs1 : (((w.alloc (.cells #[.slice ka kn kc, .int .u64 ks, .int .u8 kk] 36)).alloc (.cells #[.slice none 0 0, .int .u64 0, .int .u8 0, .slice none 0 0] 38)).alloc (.cells #[.slice none 0 0, .int .u64 0, .int .u8 0, .slice none 0 0] 38)).heap.size = w.heap.size + 3 := by simp
  rw [hw1] at BK BR BO hB1 hs1
  have HB1 : Hid (Below w.heap.size w w1) := hB1
  have HS1 : Hid (w1.heap.size = w.heap.size + 3) := hs1
  clear hk hr hkn hN hks hkk hb0 hb1 hb2 hB1 hsz hsz2 hs1
  go_enter Try.func26, Try.ntmps26
  go_wp2_with fail
  clear hw1
  have BKh : Hid (Box w1 w.heap.size (.slice ka kn kc) (.int .u64 ks) (.int .u8 kk)) := BK
  have BRh : Hid (Box4f w1 (w.heap.size + 1) (.slice none 0 0) (.int .u64 0) (.int .u8 0) (.slice none 0 0)) := BR
  have BOh : Hid (Box4f w1 (w.heap.size + 2) (.slice none 0 0) (.int .u64 0) (.int .u8 0) (.slice none 0 0)) := BO
  clear BK BR BO HS1
  go_loopg [7, 12] N (fun gk sv iv wr => ∃ (j : Nat) (sb : Bool) (a1 : Option Addr) (n1 c1 : Nat) (s k : Int) (a2 : Option Addr) (n2 c2 : Nat), gk + j = N ∧ iv = .int .i64 (j : Int) ∧ sv = .bool sb ∧ Hid (BefO w es K j sb a1 n1 c1 s k a2 n2 c2) ∧ Hid (Box wr w.heap.size (.slice ka kn kc) (.int .u64 ks) (.int .u8 kk)) ∧ Hid (Box4f wr (w.heap.size + 1) (.slice none 0 0) (.int .u64 0) (.int .u8 0) (.slice none 0 0)) ∧ Hid (Box4f wr (w.heap.size + 2) (.slice a1 n1 c1) (.int .u64 s) (.int .u8 k) (.slice a2 n2 c2)) ∧ Hid (Below w.heap.size w wr))
  case atStart => exact ⟨0, false, none, 0, 0, 0, 0, none, 0, 0, by omega, rfl, rfl, ⟨0, Nat.le_refl _, fun x hx h => absurd h (Nat.not_lt_zero _), fun x hx _ h => absurd h (Nat.not_lt_zero _), .inl ⟨rfl, rfl, rfl, rfl, rfl, rfl⟩⟩, BKh, BRh, BOh, HB1⟩
  case round =>
    obtain ⟨j, sb, a1, n1, cc1, s, k, a2, n2, cc2, hj, rfl, rfl, HI, BK, BR, BO, HBW⟩ := hrel
    by_cases hlt : j < N
    · have hlt2 : j < es.length := by rw [HN.out]; exact hlt
      obtain ⟨p, o, x1, x2, y1, y2, rfl, d0, d1, d2, d3, rx, ry⟩ := rdE_at HV.out HBW.out hlt2
      obtain ⟨q1, q2⟩ := gk_nxt hj hlt
      obtain ⟨E, hE⟩ : ∃ e, es[j] = e := ⟨_, rfl⟩
      rw [hE] at d0 d1 d2 d3 rx ry
      obtain ⟨sq, hsq⟩ : ∃ z : Int, (E.2.1 : Int) = z := ⟨_, rfl⟩
      obtain ⟨ek, hek⟩ : ∃ z : Int, (E.2.2.1.toNat : Int) = z := ⟨_, rfl⟩
      obtain ⟨nl, hnl⟩ : ∃ z, E.1.length = z := ⟨_, rfl⟩
      obtain ⟨ml, hml⟩ : ∃ z, E.2.2.2.length = z := ⟨_, rfl⟩
      rw [hnl] at d0 rx
      rw [hsq] at d1
      rw [hek] at d2
      rw [hml] at d3 ry
      obtain ⟨lt, hltq⟩ : ∃ q, ltE E K = q := ⟨_, rfl⟩
      have HLT : Hid (decide (Mth.cmpK E.1 sq ek K.1 ks kk < 0) = lt) := by show _ = _; rw [← hltq, ← hsq, ← hek, ← HKS.out.1, ← HKS.out.2]; rfl
      have HE : Hid (es[j] = E ∧ ltE E K = lt ∧ (E.2.1 : Int) = sq ∧ (E.2.2.1.toNat : Int) = ek) := ⟨hE, hltq, hsq, hek⟩
      have hb5 := below_box4 wr (.cells #[.slice x1 nl x2, .int .u64 sq, .int .u8 ek, .slice y1 ml y2] 38)
      have BY := box4_new wr (.slice x1 nl x2) (.int .u64 sq) (.int .u8 ek) (.slice y1 ml y2) 38
      have HBW5 : Hid (Below w.heap.size w (wr.alloc (.cells #[.slice x1 nl x2, .int .u64 sq, .int .u8 ek, .slice y1 ml y2] 38))) := bsplit HBW.out hb5
      have hls := keyless_any (wr.alloc (.cells #[.slice x1 nl x2, .int .u64 sq, .int .u8 ek, .slice y1 ml y2] 38)) _ _ E.1 K.1 sq ek ks kk lt (rx.below HBW5.out (Nat.le_refl _)) (HK.out.below HBW5.out (Nat.le_refl _)) HLT.out
      have BK5 := BK.out.below hb5 (Nat.le_refl _)
      have BR5 := BR.out.below hb5 (Nat.le_refl _)
      have BO5 := BO.out.below hb5 (Nat.le_refl _)
      obtain ⟨c0, c1, c2, _⟩ := BK.out.below hb5 (Nat.le_refl _)
      have BY' := BY
      obtain ⟨z0, z1, z2, z3⟩ := BY'
      have HRX : Hid (Rd w (.slice x1 nl x2) E.1 ∧ Rd w (.slice y1 ml y2) E.2.2.2) := ⟨rx, ry⟩
      clear rx ry hE hsq hek hnl hml hltq hb5
      go_wp2_with fail
      refine hls.mono ?_
      rintro e w6 ⟨rfl, hb6⟩
      clear c0 c1 c2 z0 z1 z2 z3 d0 d1 d2 d3
      have HBW6 : Hid (Below w.heap.size w w6) := bsplit HBW5.out hb6
      have BK6 : Hid (Box w6 w.heap.size (.slice ka kn kc) (.int .u64 ks) (.int .u8 kk)) := BK5.below hb6 (Nat.le_refl _)
      have BR6 : Hid (Box4f w6 (w.heap.size + 1) (.slice none 0 0) (.int .u64 0) (.int .u8 0) (.slice none 0 0)) := BR5.below hb6 (Nat.le_refl _)
      have BO6 := BO5.below hb6 (Nat.le_refl _)
      obtain ⟨z0, z1, z2, z3⟩ := BY.below hb6 (Nat.le_refl _)
      clear hls hb6 BY BK5 BR5 BO5
      have BO6' : Hid _ := BO6
      obtain ⟨⟨r0, r1, r2, r3⟩, f0, f1, f2, f3⟩ := BO6
      cases lt with
      | true =>
        have HI2 : Hid (BefO w es K (j + 1) true x1 nl x2 sq ek y1 ml y2) := HI.out.next HR.out (by rw [HN.out]; exact hlt) HE.out.1 (by rw [HE.out.1]; exact HE.out.2.1) HE.out.2.2.1 HE.out.2.2.2 HRX.out.1 HRX.out.2
        go_wp2_with fail
        go_roundg (gk - 1)
        case measure => exact q1
        case rel => exact ⟨j + 1, true, x1, nl, x2, sq, ek, y1, ml, y2, q2, by go_num, rfl, HI2, BK6.out.stored4 (w.heap.size + 2) (by omega) _ _ _ _, BR6.out.stored (w.heap.size + 2) (by omega) _ _ _ _, box4f_stored BO6'.out _ _ _ _, below_store4 HBW6.out (by omega) _ _ _ _⟩
      | false =>
        have HI2 : Hid (BefO w es K (j + 1) sb a1 n1 cc1 s k a2 n2 cc2) := HI.out.stay (by rw [HN.out]; exact hlt) (by rw [HE.out.1]; exact HE.out.2.1)
        go_wp2_with fail
        go_roundg (gk - 1)
        case measure => exact q1
        case rel => exact ⟨j + 1, sb, a1, n1, cc1, s, k, a2, n2, cc2, q2, by go_num, rfl, HI2, BK6, BR6, BO6', HBW6⟩
    · have hjN : j = N := by omega
      subst hjN
      have hni : ¬ (j : Int) < (j : Int) := by omega
      have HD := HI.out.done HN.out.symm
      obtain ⟨⟨r0, r1, r2, r3⟩, f0, f1, f2, f3⟩ := BR.out
      obtain ⟨⟨o0, o1, o2, o3⟩, _⟩ := BO.out
      rw [HQ.out] at HD
      have HDh : Hid _ := HD
      clear HD
      go_wp2
      refine bodyPost_ret (v := .tuple #[enV (.slice a1 n1 cc1) s k (.slice a2 n2 cc2), .bool sb]) (by simp [results, Try.results26, go_sem, r0, r1, r2, r3]) rfl ?_
      refine ⟨below_store4 HBW.out (Nat.le_succ _) _ _ _ _, ?_⟩
      rcases HDh.out with ⟨rfl, rfl, h3, rfl, rfl, h6⟩ | ⟨e, rfl, rfl, rfl, rfl, h5, h6⟩
      · rw [h3, h6]
      · exact ⟨_, _, rfl, rd_store4o h5 HBW.out (Nat.le_succ _) _ _ _ _, rd_store4o h6 HBW.out (Nat.le_succ _) _ _ _ _⟩

end Go.Proofs.Ytekmlbbfipldoaa

/- bartizanref08's From and Before: what they answer was there in an earlier world. -/
namespace Go.Proofs.Ytekmlbbfipldoaa
open Go.RowKit Go.Shelf
set_option linter.unusedVariables false

def R8PostW (w0 : World) (q : Option EnB) (w w' : World) (o : Ending) : Prop :=
  Below w.heap.size w w' ∧ match q with
    | none => o = .returned (.tuple #[enZ, .bool false])
    | some e => ∃ x y, o = .returned (.tuple #[enV x (e.2.1 : Int) (e.2.2.1.toNat : Int) y, .bool true]) ∧ Rd w0 x e.1 ∧ Rd w0 y e.2.2.2

set_option maxHeartbeats 4000000 in
theorem r8from_w (w0 w : World) (v kv : Value) (es : List EnB) (K : EnB) (h0 : Below w0.heap.size w0 w) (hv : RdE w0 v es) (hk : Rd w kv K.1) (hr : riseB es = true) (hl : es.length ≤ 1000) :
    Calls Try.prog 24 #[v, .agg #[kv, .int .u64 (K.2.1 : Int), .int .u8 (K.2.2.1.toNat : Int)]] w fun o w' => R8PostW w0 (es[cntE es K]?) w w' o := by
  have H0 : Hid (Below w0.heap.size w0 w) := h0
  clear h0
  have HV : Hid (RdE w0 v es) := hv
  obtain ⟨ka, kc, rfl⟩ := hk.len
  obtain ⟨ao, cap, rfl, hc1, hc2, _⟩ := hv
  unfold maxLen at hc2
  obtain ⟨kn, hkn⟩ : ∃ n, K.1.length = n := ⟨_, rfl⟩
  obtain ⟨N, hN⟩ : ∃ n, es.length = n := ⟨_, rfl⟩
  obtain ⟨ks, hks⟩ : ∃ z : Int, (K.2.1 : Int) = z := ⟨_, rfl⟩
  obtain ⟨kk, hkk⟩ : ∃ z : Int, (K.2.2.1.toNat : Int) = z := ⟨_, rfl⟩
  have HKS : Hid ((K.2.1 : Int) = ks ∧ (K.2.2.1.toNat : Int) = kk) := ⟨hks, hkk⟩
  have HN : Hid (es.length = N) := hN
  have HR : Hid (riseB es = true) := hr
  rw [hkn] at hk ⊢
  rw [hN] at HV hl hc1 ⊢
  rw [hks, hkk]
  have HK : Hid (Rd w (.slice ka kn kc) K.1) := hk
  have hb0 := below_box w #[.slice ka kn kc, .int .u64 ks, .int .u8 kk] 36
  have hb1 := below_box4 (w.alloc (.cells #[.slice ka kn kc, .int .u64 ks, .int .u8 kk] 36)) (.cells #[.slice none 0 0, .int .u64 0, .int .u8 0, .slice none 0 0] 38)
  have BK := (box_new w (.slice ka kn kc) (.int .u64 ks) (.int .u8 kk) 36).below hb1 (Nat.le_refl _)
  have BR := box4f_new (w.alloc (.cells #[.slice ka kn kc, .int .u64 ks, .int .u8 kk] 36)) (.slice none 0 0) (.int .u64 0) (.int .u8 0) (.slice none 0 0) 38
  have hsz : (w.alloc (.cells #[.slice ka kn kc, .int .u64 ks, .int .u8 kk] 36)).heap.size = w.heap.size + 1 := by simp
  rw [hsz] at BR
  obtain ⟨w1, hw1⟩ : ∃ W, (w.alloc (.cells #[.slice ka kn kc, .int .u64 ks, .int .u8 kk] 36)).alloc (.cells #[.slice none 0 0, .int .u64 0, .int .u8 0, .slice none 0 0] 38) = W := ⟨_, rfl⟩
  have hB1 := bsplit hb0 hb1
  rw [hw1] at BK BR hB1
  have HB1 : Hid (Below w.heap.size w w1) := hB1
  clear hk hr hkn hN hks hkk hb0 hb1 hB1 hsz
  go_enter Try.func24, Try.ntmps24
  go_wp2_with fail
  clear hw1
  go_loopg [10] N (fun gk iv wr => ∃ j : Nat, gk + j = N ∧ iv = .int .i64 (j : Int) ∧ Hid (∀ x (hx : x < es.length), x < j → ltE es[x] K = true) ∧ Hid (Below w1.heap.size w1 wr))
  case atStart => exact ⟨0, by omega, rfl, fun x hx h => absurd h (Nat.not_lt_zero _), Below.refl _ _⟩
  case round =>
    obtain ⟨j, hj, rfl, HS, HB⟩ := hrel
    have HBW : Hid (Below w.heap.size w wr) := bsplit HB1.out HB.out
    by_cases hlt : j < N
    · have hlt2 : j < es.length := by rw [HN.out]; exact hlt
      obtain ⟨p, o, x1, x2, y1, y2, rfl, d0, d1, d2, d3, rx, ry⟩ := rdE_at HV.out (bsplit H0.out HBW.out) hlt2
      obtain ⟨q1, q2⟩ := gk_nxt hj hlt
      obtain ⟨E, hE⟩ : ∃ e, es[j] = e := ⟨_, rfl⟩
      rw [hE] at d0 d1 d2 d3 rx ry
      obtain ⟨sq, hsq⟩ : ∃ z : Int, (E.2.1 : Int) = z := ⟨_, rfl⟩
      obtain ⟨ek, hek⟩ : ∃ z : Int, (E.2.2.1.toNat : Int) = z := ⟨_, rfl⟩
      obtain ⟨nl, hnl⟩ : ∃ z, E.1.length = z := ⟨_, rfl⟩
      obtain ⟨ml, hml⟩ : ∃ z, E.2.2.2.length = z := ⟨_, rfl⟩
      rw [hnl] at d0 rx
      rw [hsq] at d1
      rw [hek] at d2
      rw [hml] at d3 ry
      obtain ⟨lt, hltq⟩ : ∃ q, ltE E K = q := ⟨_, rfl⟩
      have HLT : Hid (decide (Mth.cmpK E.1 sq ek K.1 ks kk < 0) = lt) := by show _ = _; rw [← hltq, ← hsq, ← hek, ← HKS.out.1, ← HKS.out.2]; rfl
      have HE : Hid (es[j] = E ∧ ltE E K = lt ∧ (E.2.1 : Int) = sq ∧ (E.2.2.1.toNat : Int) = ek) := ⟨hE, hltq, hsq, hek⟩
      have hb5 := below_box4 wr (.cells #[.slice x1 nl x2, .int .u64 sq, .int .u8 ek, .slice y1 ml y2] 38)
      have BY := box4_new wr (.slice x1 nl x2) (.int .u64 sq) (.int .u8 ek) (.slice y1 ml y2) 38
      have HB5 : Hid (Below w1.heap.size w1 (wr.alloc (.cells #[.slice x1 nl x2, .int .u64 sq, .int .u8 ek, .slice y1 ml y2] 38))) := bsplit HB.out hb5
      have HBW5 : Hid (Below w.heap.size w (wr.alloc (.cells #[.slice x1 nl x2, .int .u64 sq, .int .u8 ek, .slice y1 ml y2] 38))) := bsplit HB1.out HB5.out
      have hls := keyless_any (wr.alloc (.cells #[.slice x1 nl x2, .int .u64 sq, .int .u8 ek, .slice y1 ml y2] 38)) _ _ E.1 K.1 sq ek ks kk lt (rx.below (bsplit H0.out HBW5.out) (Nat.le_refl _)) (HK.out.below HBW5.out (Nat.le_refl _)) HLT.out
      obtain ⟨c0, c1, c2, _⟩ := BK.below HB5.out (Nat.le_refl _)
      have BY' := BY
      obtain ⟨z0, z1, z2, z3⟩ := BY'
      have HRX : Hid (Rd w0 (.slice x1 nl x2) E.1 ∧ Rd w0 (.slice y1 ml y2) E.2.2.2) := ⟨rx, ry⟩
      clear rx ry hE hsq hek hnl hml hltq hb5
      go_wp2_with fail
      refine hls.mono ?_
      rintro e w6 ⟨rfl, hb6⟩
      clear c0 c1 c2 z0 z1 z2 z3 d0 d1 d2 d3
      have HB6 : Hid (Below w1.heap.size w1 w6) := bsplit HB5.out hb6
      have HBW6 : Hid (Below w.heap.size w w6) := bsplit HB1.out HB6.out
      obtain ⟨z0, z1, z2, z3⟩ := BY.below hb6 (Nat.le_refl _)
      clear hls hb6 BY
      cases lt with
      | true =>
        have HS2 : Hid (∀ x (hx : x < es.length), x < j + 1 → ltE es[x] K = true) := fun x hx hxj => by
          by_cases e : x = j
          · subst e; rw [HE.out.1]; exact HE.out.2.1
          · exact HS.out x hx (by omega)
        go_wp2_with fail
        go_roundg (gk - 1)
        case measure => exact q1
        case rel => exact ⟨j + 1, q2, by go_num, HS2, HB6⟩
      | false =>
        have HC : Hid (es[cntE es K]? = some E) := by
          show _ = _
          have hj2 : j < es.length := by rw [HN.out]; exact hlt
          have : cntE es K = j := cnt_split (by omega) HS.out (fun x hx hxj => behind_ge HR.out hx hxj (by rw [HE.out.1]; exact HE.out.2.1))
          rw [this, List.getElem?_eq_getElem hj2, HE.out.1]
        obtain ⟨⟨r0, r1, r2, r3⟩, f0, f1, f2, f3⟩ := BR.below HB6.out (Nat.le_refl _)
        go_wp2
        refine bodyPost_ret (v := .tuple #[enV (.slice x1 nl x2) sq ek (.slice y1 ml y2), .bool true]) (by simp [results, Try.results24, go_sem, r0, r1, r2, r3]) rfl ?_
        refine ⟨below_store4 HBW6.out (Nat.le_succ _) _ _ _ _, ?_⟩
        rw [HC.out]
        exact ⟨_, _, by rw [HE.out.2.2.1, HE.out.2.2.2], HRX.out.1, HRX.out.2⟩
    · have hjN : j = N := by omega
      subst hjN
      have hni : ¬ (j : Int) < (j : Int) := by omega
      have HC : Hid (es[cntE es K]? = none) := by
        show _ = _
        have : cntE es K = j := cnt_split (by rw [HN.out]; exact Nat.le_refl _) HS.out (fun x hx hxj => by rw [HN.out] at hx; omega)
        rw [this, List.getElem?_eq_none (by rw [HN.out]; exact Nat.le_refl _)]
      obtain ⟨⟨r0, r1, r2, r3⟩, f0, f1, f2, f3⟩ := BR.below HB.out (Nat.le_refl _)
      go_wp2
      refine bodyPost_ret (v := .tuple #[enZ, .bool false]) (by simp [results, Try.results24, go_sem, r0, r1, r2, r3]) rfl ?_
      refine ⟨below_store4 HBW.out (Nat.le_succ _) _ _ _ _, ?_⟩
      rw [HC.out]

set_option maxHeartbeats 4000000 in
theorem r8before_w (w0 w : World) (v kv : Value) (es : List EnB) (K : EnB) (h0 : Below w0.heap.size w0 w) (hv : RdE w0 v es) (hk : Rd w kv K.1) (hr : riseB es = true) (hl : es.length ≤ 1000) :
    Calls Try.prog 26 #[v, .agg #[kv, .int .u64 (K.2.1 : Int), .int .u8 (K.2.2.1.toNat : Int)]] w fun o w' => R8PostW w0 (if cntE es K = 0 then none else es[cntE es K - 1]?) w w' o := by
  obtain ⟨Q, hQ⟩ : ∃ Q, (if cntE es K = 0 then none else es[cntE es K - 1]?) = Q := ⟨_, rfl⟩
  rw [hQ]
  have HQ : Hid ((if cntE es K = 0 then none else es[cntE es K - 1]?) = Q) := hQ
  clear hQ
  have H0 : Hid (Below w0.heap.size w0 w) := h0
  clear h0
  have HV : Hid (RdE w0 v es) := hv
  obtain ⟨ka, kc, rfl⟩ := hk.len
  obtain ⟨ao, cap, rfl, hc1, hc2, _⟩ := hv
  unfold maxLen at hc2
  obtain ⟨kn, hkn⟩ : ∃ n, K.1.length = n := ⟨_, rfl⟩
  obtain ⟨N, hN⟩ : ∃ n, es.length = n := ⟨_, rfl⟩
  obtain ⟨ks, hks⟩ : ∃ z : Int, (K.2.1 : Int) = z := ⟨_, rfl⟩
  obtain ⟨kk, hkk⟩ : ∃ z : Int, (K.2.2.1.toNat : Int) = z := ⟨_, rfl⟩
  have HKS : Hid ((K.2.1 : Int) = ks ∧ (K.2.2.1.toNat : Int) = kk) := ⟨hks, hkk⟩
  have HN : Hid (es.length = N) := hN
  have HR : Hid (riseB es = true) := hr
  rw [hkn] at hk ⊢
  rw [hN] at HV hl hc1 ⊢
  rw [hks, hkk]
  have HK : Hid (Rd w (.slice ka kn kc) K.1) := hk
  have hb0 := below_box w #[.slice ka kn kc, .int .u64 ks, .int .u8 kk] 36
  have hb1 := below_box4 (w.alloc (.cells #[.slice ka kn kc, .int .u64 ks, .int .u8 kk] 36)) (.cells #[.slice none 0 0, .int .u64 0, .int .u8 0, .slice none 0 0] 38)
  have hb2 := below_box4 ((w.alloc (.cells #[.slice ka kn kc, .int .u64 ks, .int .u8 kk] 36)).alloc (.cells #[.slice none 0 0, .int .u64 0, .int .u8 0, .slice none 0 0] 38)) (.cells #[.slice none 0 0, .int .u64 0, .int .u8 0, .slice none 0 0] 38)
  have BK := ((box_new w (.slice ka kn kc) (.int .u64 ks) (.int .u8 kk) 36).below hb1 (Nat.le_refl _)).below hb2 (Nat.le_refl _)
  have BR := (box4f_new (w.alloc (.cells #[.slice ka kn kc, .int .u64 ks, .int .u8 kk] 36)) (.slice none 0 0) (.int .u64 0) (.int .u8 0) (.slice none 0 0) 38).below hb2 (Nat.le_refl _)
  have BO := box4f_new ((w.alloc (.cells #[.slice ka kn kc, .int .u64 ks, .int .u8 kk] 36)).alloc (.cells #[.slice none 0 0, .int .u64 0, .int .u8 0, .slice none 0 0] 38)) (.slice none 0 0) (.int .u64 0) (.int .u8 0) (.slice none 0 0) 38
  have hsz : (w.alloc (.cells #[.slice ka kn kc, .int .u64 ks, .int .u8 kk] 36)).heap.size = w.heap.size + 1 := by simp
  have hsz2 : ((w.alloc (.cells #[.slice ka kn kc, .int .u64 ks, .int .u8 kk] 36)).alloc (.cells #[.slice none 0 0, .int .u64 0, .int .u8 0, .slice none 0 0] 38)).heap.size = w.heap.size + 2 := by simp
  rw [hsz] at BR
  rw [hsz2] at BO
  obtain ⟨w1, hw1⟩ : ∃ W, ((w.alloc (.cells #[.slice ka kn kc, .int .u64 ks, .int .u8 kk] 36)).alloc (.cells #[.slice none 0 0, .int .u64 0, .int .u8 0, .slice none 0 0] 38)).alloc (.cells #[.slice none 0 0, .int .u64 0, .int .u8 0, .slice none 0 0] 38) = W := ⟨_, rfl⟩
  have hB1 := bsplit (bsplit hb0 hb1) hb2
  have hs1 : (((w.alloc (.cells #[.slice ka kn kc, .int .u64 ks, .int .u8 kk] 36)).alloc (.cells #[.slice none 0 0, .int .u64 0, .int .u8 0, .slice none 0 0] 38)).alloc (.cells #[.slice none 0 0, .int .u64 0, .int .u8 0, .slice none 0 0] 38)).heap.size = w.heap.size + 3 := by simp
  rw [hw1] at BK BR BO hB1 hs1
  have HB1 : Hid (Below w.heap.size w w1) := hB1
  have HS1 : Hid (w1.heap.size = w.heap.size + 3) := hs1
  clear hk hr hkn hN hks hkk hb0 hb1 hb2 hB1 hsz hsz2 hs1
  go_enter Try.func26, Try.ntmps26
  go_wp2_with fail
  clear hw1
  have BKh : Hid (Box w1 w.heap.size (.slice ka kn kc) (.int .u64 ks) (.int .u8 kk)) := BK
  have BRh : Hid (Box4f w1 (w.heap.size + 1) (.slice none 0 0) (.int .u64 0) (.int .u8 0) (.slice none 0 0)) := BR
  have BOh : Hid (Box4f w1 (w.heap.size + 2) (.slice none 0 0) (.int .u64 0) (.int .u8 0) (.slice none 0 0)) := BO
  clear BK BR BO HS1
  go_loopg [7, 12] N (fun gk sv iv wr => ∃ (j : Nat) (sb : Bool) (a1 : Option Addr) (n1 c1 : Nat) (s k : Int) (a2 : Option Addr) (n2 c2 : Nat), gk + j = N ∧ iv = .int .i64 (j : Int) ∧ sv = .bool sb ∧ Hid (BefO w0 es K j sb a1 n1 c1 s k a2 n2 c2) ∧ Hid (Box wr w.heap.size (.slice ka kn kc) (.int .u64 ks) (.int .u8 kk)) ∧ Hid (Box4f wr (w.heap.size + 1) (.slice none 0 0) (.int .u64 0) (.int .u8 0) (.slice none 0 0)) ∧ Hid (Box4f wr (w.heap.size + 2) (.slice a1 n1 c1) (.int .u64 s) (.int .u8 k) (.slice a2 n2 c2)) ∧ Hid (Below w.heap.size w wr))
  case atStart => exact ⟨0, false, none, 0, 0, 0, 0, none, 0, 0, by omega, rfl, rfl, ⟨0, Nat.le_refl _, fun x hx h => absurd h (Nat.not_lt_zero _), fun x hx _ h => absurd h (Nat.not_lt_zero _), .inl ⟨rfl, rfl, rfl, rfl, rfl, rfl⟩⟩, BKh, BRh, BOh, HB1⟩
  case round =>
    obtain ⟨j, sb, a1, n1, cc1, s, k, a2, n2, cc2, hj, rfl, rfl, HI, BK, BR, BO, HBW⟩ := hrel
    by_cases hlt : j < N
    · have hlt2 : j < es.length := by rw [HN.out]; exact hlt
      obtain ⟨p, o, x1, x2, y1, y2, rfl, d0, d1, d2, d3, rx, ry⟩ := rdE_at HV.out (bsplit H0.out HBW.out) hlt2
      obtain ⟨q1, q2⟩ := gk_nxt hj hlt
      obtain ⟨E, hE⟩ : ∃ e, es[j] = e := ⟨_, rfl⟩
      rw [hE] at d0 d1 d2 d3 rx ry
      obtain ⟨sq, hsq⟩ : ∃ z : Int, (E.2.1 : Int) = z := ⟨_, rfl⟩
      obtain ⟨ek, hek⟩ : ∃ z : Int, (E.2.2.1.toNat : Int) = z := ⟨_, rfl⟩
      obtain ⟨nl, hnl⟩ : ∃ z, E.1.length = z := ⟨_, rfl⟩
      obtain ⟨ml, hml⟩ : ∃ z, E.2.2.2.length = z := ⟨_, rfl⟩
      rw [hnl] at d0 rx
      rw [hsq] at d1
      rw [hek] at d2
      rw [hml] at d3 ry
      obtain ⟨lt, hltq⟩ : ∃ q, ltE E K = q := ⟨_, rfl⟩
      have HLT : Hid (decide (Mth.cmpK E.1 sq ek K.1 ks kk < 0) = lt) := by show _ = _; rw [← hltq, ← hsq, ← hek, ← HKS.out.1, ← HKS.out.2]; rfl
      have HE : Hid (es[j] = E ∧ ltE E K = lt ∧ (E.2.1 : Int) = sq ∧ (E.2.2.1.toNat : Int) = ek) := ⟨hE, hltq, hsq, hek⟩
      have hb5 := below_box4 wr (.cells #[.slice x1 nl x2, .int .u64 sq, .int .u8 ek, .slice y1 ml y2] 38)
      have BY := box4_new wr (.slice x1 nl x2) (.int .u64 sq) (.int .u8 ek) (.slice y1 ml y2) 38
      have HBW5 : Hid (Below w.heap.size w (wr.alloc (.cells #[.slice x1 nl x2, .int .u64 sq, .int .u8 ek, .slice y1 ml y2] 38))) := bsplit HBW.out hb5
      have hls := keyless_any (wr.alloc (.cells #[.slice x1 nl x2, .int .u64 sq, .int .u8 ek, .slice y1 ml y2] 38)) _ _ E.1 K.1 sq ek ks kk lt (rx.below (bsplit H0.out HBW5.out) (Nat.le_refl _)) (HK.out.below HBW5.out (Nat.le_refl _)) HLT.out
      have BK5 := BK.out.below hb5 (Nat.le_refl _)
      have BR5 := BR.out.below hb5 (Nat.le_refl _)
      have BO5 := BO.out.below hb5 (Nat.le_refl _)
      obtain ⟨c0, c1, c2, _⟩ := BK.out.below hb5 (Nat.le_refl _)
      have BY' := BY
      obtain ⟨z0, z1, z2, z3⟩ := BY'
      have HRX : Hid (Rd w0 (.slice x1 nl x2) E.1 ∧ Rd w0 (.slice y1 ml y2) E.2.2.2) := ⟨rx, ry⟩
      clear rx ry hE hsq hek hnl hml hltq hb5
      go_wp2_with fail
      refine hls.mono ?_
      rintro e w6 ⟨rfl, hb6⟩
      clear c0 c1 c2 z0 z1 z2 z3 d0 d1 d2 d3
      have HBW6 : Hid (Below w.heap.size w w6) := bsplit HBW5.out hb6
      have BK6 : Hid (Box w6 w.heap.size (.slice ka kn kc) (.int .u64 ks) (.int .u8 kk)) := BK5.below hb6 (Nat.le_refl _)
      have BR6 : Hid (Box4f w6 (w.heap.size + 1) (.slice none 0 0) (.int .u64 0) (.int .u8 0) (.slice none 0 0)) := BR5.below hb6 (Nat.le_refl _)
      have BO6 := BO5.below hb6 (Nat.le_refl _)
      obtain ⟨z0, z1, z2, z3⟩ := BY.below hb6 (Nat.le_refl _)
      clear hls hb6 BY BK5 BR5 BO5
      have BO6' : Hid _ := BO6
      obtain ⟨⟨r0, r1, r2, r3⟩, f0, f1, f2, f3⟩ := BO6
      cases lt with
      | true =>
        have HI2 : Hid (BefO w0 es K (j + 1) true x1 nl x2 sq ek y1 ml y2) := HI.out.next HR.out (by rw [HN.out]; exact hlt) HE.out.1 (by rw [HE.out.1]; exact HE.out.2.1) HE.out.2.2.1 HE.out.2.2.2 HRX.out.1 HRX.out.2
        go_wp2_with fail
        go_roundg (gk - 1)
        case measure => exact q1
        case rel => exact ⟨j + 1, true, x1, nl, x2, sq, ek, y1, ml, y2, q2, by go_num, rfl, HI2, BK6.out.stored4 (w.heap.size + 2) (by omega) _ _ _ _, BR6.out.stored (w.heap.size + 2) (by omega) _ _ _ _, box4f_stored BO6'.out _ _ _ _, below_store4 HBW6.out (by omega) _ _ _ _⟩
      | false =>
        have HI2 : Hid (BefO w0 es K (j + 1) sb a1 n1 cc1 s k a2 n2 cc2) := HI.out.stay (by rw [HN.out]; exact hlt) (by rw [HE.out.1]; exact HE.out.2.1)
        go_wp2_with fail
        go_roundg (gk - 1)
        case measure => exact q1
        case rel => exact ⟨j + 1, sb, a1, n1, cc1, s, k, a2, n2, cc2, q2, by go_num, rfl, HI2, BK6, BR6, BO6', HBW6⟩
    · have hjN : j = N := by omega
      subst hjN
      have hni : ¬ (j : Int) < (j : Int) := by omega
      have HD := HI.out.done HN.out.symm
      obtain ⟨⟨r0, r1, r2, r3⟩, f0, f1, f2, f3⟩ := BR.out
      obtain ⟨⟨o0, o1, o2, o3⟩, _⟩ := BO.out
      rw [HQ.out] at HD
      have HDh : Hid _ := HD
      clear HD
      go_wp2
      refine bodyPost_ret (v := .tuple #[enV (.slice a1 n1 cc1) s k (.slice a2 n2 cc2), .bool sb]) (by simp [results, Try.results26, go_sem, r0, r1, r2, r3]) rfl ?_
      refine ⟨below_store4 HBW.out (Nat.le_succ _) _ _ _ _, ?_⟩
      rcases HDh.out with ⟨rfl, rfl, h3, rfl, rfl, h6⟩ | ⟨e, rfl, rfl, rfl, rfl, h5, h6⟩
      · rw [h3, h6]
      · exact ⟨_, _, rfl, h5, h6⟩

end Go.Proofs.Ytekmlbbfipldoaa
