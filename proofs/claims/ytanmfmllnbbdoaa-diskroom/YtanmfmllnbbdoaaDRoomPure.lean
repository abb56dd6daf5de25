/- DiskRoom: three files; a row of names beside the disk. -/
import Derived.Test.YtanmfmllnbbdoaaDArmsWalk
namespace Go.Proofs.Ytanmfmllnbbdoaa
open Go.RowKit Go.Maps Go.WideShapes Go.Sort
set_option linter.unusedVariables false

/-- make, as one step of a region that draws its order -/
theorem step_make {P : Program} {ops : Array Oper} {o : Oper} {a : Act} {w : World} {K : Act → World → Prop} {Q : Exit → Act → World → Prop} {E : Prop}
    (hg : o.guard = none) (l c : Operand) (t : TypeId) (hop : o.op = Op.makeSlice t l c)
    (base : Nat) (e : TypeId) (i : TypeInfo) (z : Value) (size : Nat) (h1 : P.underlying t = some (.slice e)) (h2 : P.info? e = some i) (h3 : i.zero = some z) (h4 : i.size = size)
    (kl kc : IntKind) (L C : Int) (n : Nat) (hl : a.eval l = .int kl L) (hc : a.eval c = .int kc C) (hL : L = (n : Int)) (hC : C = (n : Int)) (b2 : i.bytes * n ≤ 281474976710656) (b3 : n ≤ maxLen) (b4 : base ≤ w.heap.size)
    (hK : ∀ w', w'.ownsRow base e size (.slice (some ⟨w.heap.size, 0, none⟩) n n) n (madeCells z.cells (n * size)).toList → w.grownBy w' none → K (a.put o.dst (.slice (some ⟨w.heap.size, 0, none⟩) n n)) w') :
    if Region.wanted o (yielded ops a.tmps) = true then Oper.wp P o a w K Q else E := by
  have hw : Region.wanted o (yielded ops a.tmps) = true := by simp [Region.wanted, hg]
  rw [if_pos hw]
  obtain ⟨w', hrun, r1, r2⟩ := run_make_full (P := P) w base t e i z size h1 h2 h3 h4 kl kc n b2 b3 b4
  subst hL
  subst hC
  unfold Oper.wp
  simp [execOp, hop, hl, hc, hrun, Result.andThen]
  exact hK w' r1 r2

def nm (r : Nat) : List UInt8 := [UInt8.ofNat (97 + r)]
def nmS (r : Nat) : ByteArray := ⟨#[UInt8.ofNat (97 + r)]⟩

def tri (c room : Int) (A B C : List UInt8) : Dsk := ⟨false, 0, c, room, [⟨[97], A, 0⟩, ⟨[98], B, 0⟩, ⟨[99], C, 0⟩]⟩

def triU (A B C : List UInt8) : Nat := A.length + B.length + C.length

theorem tri_used (c room : Int) (A B C : List UInt8) : usedA (tri c room A B C).fs = triU A B C := by
  simp [tri, usedA, triU]
  omega

theorem lt3 {r : Nat} (h : r < 3) : r = 0 ∨ r = 1 ∨ r = 2 := by omega

theorem tri_full (r : Nat) (hr : r < 3) (c room : Int) (A B C P : List UInt8) (h : room - (triU A B C : Int) < (P.length : Int)) : appD (tri c room A B C) (nm r) P = (8, tri c room A B C) := by
  unfold appD
  have e : ∃ f, getBy FileA.name (nm r) (tri c room A B C).fs = some f := by
    rcases lt3 hr with rfl | rfl | rfl
    · exact ⟨⟨[97], A, 0⟩, by simp [tri, getBy, nm]⟩
    · exact ⟨⟨[98], B, 0⟩, by simp [tri, getBy, nm]⟩
    · exact ⟨⟨[99], C, 0⟩, by simp [tri, getBy, nm]⟩
  obtain ⟨f, e⟩ := e
  rw [e]
  simp only
  rw [if_pos (by rw [tri_used]; exact h)]

theorem tri_fits (r : Nat) (hr : r < 3) (c room : Int) (A B C P : List UInt8) (h : ¬ room - (triU A B C : Int) < (P.length : Int)) : ∃ A' B' C', triU A' B' C' = triU A B C + P.length ∧ appD (tri c room A B C) (nm r) P = (0, tri (c + 1) room A' B' C') := by
  unfold appD
  rcases lt3 hr with rfl | rfl | rfl
  · refine ⟨A ++ P, B, C, by simp [triU]; omega, ?_⟩
    have e : getBy FileA.name (nm 0) (tri c room A B C).fs = some ⟨[97], A, 0⟩ := by simp [tri, getBy, nm]
    rw [e]
    simp only
    rw [if_neg (by rw [tri_used]; exact h)]
    simp [tri, setBy, chg]
  · refine ⟨A, B ++ P, C, by simp [triU]; omega, ?_⟩
    have e : getBy FileA.name (nm 1) (tri c room A B C).fs = some ⟨[98], B, 0⟩ := by simp [tri, getBy, nm]
    rw [e]
    simp only
    rw [if_neg (by rw [tri_used]; exact h)]
    simp [tri, setBy, chg]
  · refine ⟨A, B, C ++ P, by simp [triU]; omega, ?_⟩
    have e : getBy FileA.name (nm 2) (tri c room A B C).fs = some ⟨[99], C, 0⟩ := by simp [tri, getBy, nm]
    rw [e]
    simp only
    rw [if_neg (by rw [tri_used]; exact h)]
    simp [tri, setBy, chg]

theorem tri_read (c room : Int) (A B C : List UInt8) : readD (tri c room A B C) [98] = (0, B) := by
  unfold readD tri
  simp [getBy]

def duo (c room : Int) (A C : List UInt8) : Dsk := ⟨false, 0, c, room, [⟨[97], A, 0⟩, ⟨[99], C, 0⟩]⟩

theorem tri_del (c room : Int) (A B C : List UInt8) : delD (tri c room A B C) [98] = (0, duo (c + 1) room A C) := by
  unfold delD tri doD duo
  simp [getBy, chg, delBy]

theorem duo_used (c room : Int) (A B C : List UInt8) (z : Int) (hz : z = (triU A B C : Int)) : (usedA (duo c room A C).fs : Int) = z - (B.length : Int) := by
  simp [duo, usedA]
  unfold triU at hz
  omega

/-- the first so many files, empty -/
def crt (j : Nat) (room : Int) : Dsk := ⟨false, 0, (j : Int), room, (List.range j).map fun i => ⟨nm i, [], 0⟩⟩

theorem crt_step (j : Nat) (hj : j < 3) (room : Int) : createD (crt j room) (nm j) = (0, crt (j + 1) room) := by
  rcases lt3 hj with rfl | rfl | rfl
  · rfl
  · rfl
  · rfl

theorem crt_end (room : Int) : crt 3 room = tri 3 room [] [] [] := rfl

/-- a disk, and a row of three names beside it -/
structure Dn (w : World) (g : Nat) (wi : World) (d : Nat) (S : Dsk) : Prop where
  is : DiskIs (fun i => w.heap.size ≤ i ∧ i ≠ g) wi d S
  bel : Below w.heap.size w wi
  row : wi.heap[g]? = some (.cells #[.string (nmS 0), .string (nmS 1), .string (nmS 2)] 9 (0, 0))
  low : w.heap.size ≤ g

section
variable {w wi wj : World} {g d : Nat} {S : Dsk}

theorem Dn.cell (h : Dn w g wi d S) (r : Nat) (hr : r < 3) : wi.cell? ⟨g, r, none⟩ = some (.string (nmS r)) := by
  rw [cell_of_row wi g r _ 9 (0, 0) h.row]
  rcases lt3 hr with rfl | rfl | rfl <;> rfl

theorem Dn.keeps {q : Dsk} (h : Dn w g wi d S) (hq : DiskIs (fun i => w.heap.size ≤ i ∧ i ≠ g) wj d q) (hk : Keeps (fun i => w.heap.size ≤ i ∧ i ≠ g) wi wj) : Dn w g wj d q :=
  ⟨hq, h.bel.trans (hk.below (fun _ hi => hi.1) h.bel.size), (hk.block g (lt_of h.row) fun hf => hf.2 rfl).trans h.row, h.low⟩

theorem Dn.below (h : Dn w g wi d S) (hb : Below wi.heap.size wi wj) : Dn w g wj d S :=
  ⟨h.is.stay fun i hi _ => hb.block i hi, h.bel.trans (hb.mono h.bel.size), (hb.block g (lt_of h.row)).trans h.row, h.low⟩

theorem Dn.up (h : Dn w g wi d S) : ∀ i, wi.heap.size ≤ i → w.heap.size ≤ i ∧ i ≠ g := fun i hi => ⟨Nat.le_trans h.bel.size hi, fun e => by have := lt_of h.row; omega⟩

theorem Dk.names (h : Dk w wi d S) : Dn w wi.heap.size (wi.alloc (.cells #[.string (nmS 0), .string (nmS 1), .string (nmS 2)] 9)) d S := by
  obtain ⟨m, fs, hA⟩ := h.is
  have hb : Below wi.heap.size wi (wi.alloc (.cells #[.string (nmS 0), .string (nmS 1), .string (nmS 2)] 9)) := (Below.refl _ _).alloc (Nat.le_refl _) _
  refine ⟨⟨m, fs, (hA.mono fun i a b => ⟨a, by omega⟩).stay fun i hi _ => hb.block i hi⟩, h.bel.trans (hb.mono h.bel.size), heap_alloc_new wi _, h.bel.size⟩

theorem create_n (h : Dn w g wi d S) (s : ByteArray) (l : List UInt8) (c : Int) (q : Dsk) (hs : s.data.toList = l) (hl : l.length ≤ 1000000) (hc : S.ch ≤ 1099511627776) (hq : createD S l = (c, q)) :
    Calls Try.prog 17 #[.pointer (some ⟨d, 0, none⟩), .string s] wi fun e w' => e = .returned (.int .i64 c) ∧ Dn w g w' d q := by
  refine (create_any _ wi d S s l c q h.is h.up hs hl hc hq).mono ?_
  rintro e w' ⟨rfl, hD, hK⟩
  exact ⟨rfl, h.keeps hD hK⟩

theorem append_n (h : Dn w g wi d S) (s : ByteArray) (l p : List UInt8) (vp : Value) (c : Int) (q : Dsk) (hs : s.data.toList = l) (hl : l.length ≤ 1000000) (hc : S.ch ≤ 1099511627776) (hp : Arg wi vp p) (hpl : (p.length : Int) ≤ 1048576) (hq : appD S l p = (c, q)) :
    Calls Try.prog 19 #[.pointer (some ⟨d, 0, none⟩), .string s, vp] wi fun e w' => e = .returned (.int .i64 c) ∧ Dn w g w' d q := by
  refine (append_any _ wi d S s l p vp c q h.is h.up hs hl hc hp hpl hq).mono ?_
  rintro e w' ⟨rfl, hD, hK⟩
  exact ⟨rfl, h.keeps hD hK⟩

theorem del_n (h : Dn w g wi d S) (s : ByteArray) (l : List UInt8) (c : Int) (q : Dsk) (hs : s.data.toList = l) (hl : l.length ≤ 1000000) (hc : S.ch ≤ 1099511627776) (hq : delD S l = (c, q)) :
    Calls Try.prog 25 #[.pointer (some ⟨d, 0, none⟩), .string s] wi fun e w' => e = .returned (.int .i64 c) ∧ Dn w g w' d q := by
  refine (del_any _ wi d S s l c q h.is hs hl hc hq).mono ?_
  rintro e w' ⟨rfl, hD, hK⟩
  exact ⟨rfl, h.keeps hD hK⟩

theorem read_n (h : Dn w g wi d S) (s : ByteArray) (l : List UInt8) (c : Int) (b : List UInt8) (hs : s.data.toList = l) (hl : l.length ≤ 1000000) (hq : readD S l = (c, b)) :
    Calls Try.prog 27 #[.pointer (some ⟨d, 0, none⟩), .string s] wi fun e w' => ∃ a k, e = .returned (.tuple #[.slice a b.length k, .int .i64 c]) ∧ Dn w g w' d S := by
  refine (read_any _ wi d S s l c b h.is hs hl hq).mono ?_
  rintro e w' ⟨x, rfl, hx, hb⟩
  obtain ⟨a, k, rfl⟩ := hx.rd.len
  exact ⟨a, k, rfl, h.below hb⟩

theorem used_n (h : Dn w g wi d S) (n : Int) (hn : (usedA S.fs : Int) = n) :
    Calls Try.prog 36 #[.pointer (some ⟨d, 0, none⟩)] wi fun e w' => e = .returned (.int .i64 n) ∧ Dn w g w' d S := by
  refine (used_any _ wi d S n h.is hn).mono ?_
  rintro e w' ⟨rfl, hb⟩
  exact ⟨rfl, h.below hb⟩

theorem list_n (h : Dn w g wi d S) :
    Calls Try.prog 37 #[.pointer (some ⟨d, 0, none⟩)] wi fun e w' => ∃ a k, e = .returned (.slice a S.fs.length k) ∧ Dn w g w' d S := by
  refine (list_any _ wi d S h.is).mono ?_
  rintro e w' ⟨v, rfl, hx, hb⟩
  obtain ⟨a, k, rfl, _⟩ := names_shape hx
  rw [List.length_map]
  exact ⟨a, k, rfl, h.below hb⟩

end

theorem mod3 (j : Nat) : ∃ r : Nat, r < 3 ∧ (j : Int).tmod 3 = (r : Int) := ⟨j % 3, Nat.mod_lt _ (by decide), by rw [Int.tmod_eq_emod_of_nonneg (by omega)]; omega⟩

theorem mod64 (y : UInt8) : ∃ k : Nat, k ≤ 63 ∧ (y.toNat : Int).tmod 64 = (k : Int) := ⟨y.toNat % 64, by omega, by rw [Int.tmod_eq_emod_of_nonneg (by omega)]; omega⟩

theorem zeros_own {w : World} {B g n : Nat} (h : w.ownsRow B 5 1 (.slice (some ⟨g, 0, none⟩) n n) n (madeCells (Value.int .u8 0).cells (n * 1)).toList) : Own B w (.slice (some ⟨g, 0, none⟩) n n) (List.replicate n 0) := by
  refine Own.of_row ?_ (by simp)
  rw [made_list] at h
  rw [List.length_replicate]
  have e : bv (List.replicate n (0 : UInt8)) = List.replicate n (Value.int .u8 0) := by simp [bv]
  rw [e]
  exact h

end Go.Proofs.Ytanmfmllnbbdoaa
