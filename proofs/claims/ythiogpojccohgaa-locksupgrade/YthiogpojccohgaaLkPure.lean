/- Locks and requests: what the table answers, in pure terms. -/
import Derived.Test.YthiogpojccohgaaNumRow
import Derived.Test.YthiogpojccohgaaLess
namespace Go.Proofs.Ythiogpojccohgaa
set_option maxRecDepth 20000
open Go.RowKit
set_option linter.unusedVariables false
set_option linter.unusedSimpArgs false

/-- a lock: whose, from, to, mode; and the two slices that it holds -/
structure Lk where
  n : Nat
  f : List UInt8
  t : List UInt8
  m : UInt8
  x : Value
  y : Value

/-- a request: a lock, and up to when -/
structure Rq where
  l : Lk
  u : Nat

def encL (g : Lk) : List Value := [.int .u64 (g.n : Int), g.x, g.y, .int .u8 (g.m.toNat : Int)]
def encR (r : Rq) : List Value := [.int .u64 (r.l.n : Int), r.l.x, r.l.y, .int .u8 (r.l.m.toNat : Int), .int .u64 (r.u : Int)]

def ltB (a b : List UInt8) : Bool := decide (Lib.compareBytes a b < 0)
/-- below an end -/
def belB (k to : List UInt8) : Bool := if to.length = 0 then true else ltB k to
def rightB (g : Lk) : Bool := decide (g.n ≠ 0) && decide (1 ≤ g.m.toNat ∧ g.m.toNat ≤ 3) && decide (g.f.length ≤ 65) && decide (g.t.length ≤ 65) && belB g.f g.t
def overB (a b : Lk) : Bool := belB a.f b.t && belB b.f a.t
def pastB (to other : List UInt8) : Bool := if other.length = 0 then false else if to.length = 0 then true else ltB other to
def covB (a b : Lk) : Bool := !ltB b.f a.f && !pastB b.t a.t
def togB (a b : Lk) : Bool := if a.n = b.n then true else if a.m.toNat = 1 then decide (b.m.toNat ≠ 3) else if b.m.toNat = 1 then decide (a.m.toNat ≠ 3) else false
def clB (a b : Lk) : Bool := overB a b && !togB a b

/-- a transaction's own locks -/
def ofB (gs : List Lk) (n : Nat) : List Lk := gs.filter fun g => decide (g.n = n)
/-- where its request stands -/
def plcB (qs : List Rq) (n : Nat) : Int := match qs.findIdx? fun r => decide (r.l.n = n) with | some i => (i : Int) | none => -1
def hasB (gs : List Lk) (l : Lk) : Bool := (ofB gs l.n).any fun g => decide (l.m.toNat ≤ g.m.toNat) && covB g l
def fullB (mo ea : Int) (gs : List Lk) (qs : List Rq) (n : Nat) : Bool := decide (ea ≤ ((ofB gs n).length : Int)) || decide (mo ≤ ((gs.length + qs.length : Nat) : Int))
def upgB (gs : List Lk) (l : Lk) : Bool := (ofB gs l.n).any fun g => overB g l
/-- for whom a lock waits -/
def blkB (gs : List Lk) (ah : List Rq) (l : Lk) : List Nat := (gs.filter (clB l)).map (·.n) ++ if upgB gs l = true then [] else (ah.filter fun r => clB l r.l).map (·.l.n)

/-- who waits, from the first on: those that are granted go, the others stay -/
def advB : List Rq → List Lk → List Rq → List Rq → List Lk × List Rq × List Rq
  | [], gs, ah, ps => (gs, ah, ps)
  | r :: qs, gs, ah, ps => if (blkB gs ah r.l).length = 0 then advB qs (gs ++ [r.l]) ah (ps ++ [r]) else advB qs gs (ah ++ [r]) ps

theorem advB_snoc (qs : List Rq) (r : Rq) : ∀ gs ah ps, advB (qs ++ [r]) gs ah ps = if (blkB (advB qs gs ah ps).1 (advB qs gs ah ps).2.1 r.l).length = 0 then ((advB qs gs ah ps).1 ++ [r.l], (advB qs gs ah ps).2.1, (advB qs gs ah ps).2.2 ++ [r]) else ((advB qs gs ah ps).1, (advB qs gs ah ps).2.1 ++ [r], (advB qs gs ah ps).2.2) := by
  induction qs with
  | nil =>
    intro gs ah ps
    simp only [List.nil_append, advB]
    rfl
  | cons a qs ih =>
    intro gs ah ps
    simp only [List.cons_append, advB]
    split
    · exact ih _ _ _
    · exact ih _ _ _

theorem encL_len (g : Lk) : (encL g).length = 4 := rfl
theorem encR_len (r : Rq) : (encR r).length = 5 := rfl

theorem flat_len {α : Type} (enc : α → List Value) (k : Nat) (h : ∀ a, (enc a).length = k) (l : List α) : (l.flatMap enc).length = l.length * k := by
  induction l with
  | nil => simp
  | cons a r ih => rw [List.flatMap_cons, List.length_append, h, ih, List.length_cons, Nat.succ_mul]; omega

theorem flat_get {α : Type} (enc : α → List Value) (k : Nat) (h : ∀ a, (enc a).length = k) (l : List α) (j i : Nat) (hj : j < l.length) (hi : i < k) : (l.flatMap enc)[j * k + i]? = (enc l[j])[i]? := by
  induction l generalizing j with
  | nil => simp at hj
  | cons a r ih =>
    rw [List.flatMap_cons]
    cases j with
    | zero =>
      rw [List.getElem?_append_left (by rw [h]; omega)]
      simp
    | succ j =>
      rw [List.getElem?_append_right (by rw [h, Nat.succ_mul]; omega), h, show (j + 1) * k + i - k = j * k + i by rw [Nat.succ_mul]; omega, ih j (by simpa using hj)]
      simp

theorem flat_snoc {α : Type} (enc : α → List Value) (l : List α) (a : α) : (l ++ [a]).flatMap enc = l.flatMap enc ++ enc a := by simp

theorem infoLk : (Try.prog.info? 32).map (fun i => (i.zero, i.size, i.bytes)) = some (some (.agg #[.int .u64 0, .slice none 0 0, .slice none 0 0, .int .u8 0]), 4, 64) := by kernel_rfl
theorem infoRq : (Try.prog.info? 63).map (fun i => (i.zero, i.size, i.bytes)) = some (some (.agg #[.int .u64 0, .slice none 0 0, .slice none 0 0, .int .u8 0, .int .u64 0]), 5, 72) := by kernel_rfl

/-- a row of locks, read -/
def RowL (w : World) (v : Value) (gs : List Lk) : Prop := w.ownsRow 0 32 4 v gs.length (gs.flatMap encL)
def RowQ (w : World) (v : Value) (qs : List Rq) : Prop := w.ownsRow 0 63 5 v qs.length (qs.flatMap encR)

/-- what a lock holds is read -/
def LkOk (w : World) (g : Lk) : Prop := OwnN 0 w g.x g.f ∧ OwnN 0 w g.y g.t ∧ g.n < 18446744073709551616 ∧ g.f.length ≤ 65 ∧ g.t.length ≤ 65

theorem LkOk.below {w w' : World} {g : Lk} (h : LkOk w g) (hb : Below w.heap.size w w') : LkOk w' g := ⟨h.1.below hb (Nat.le_refl _), h.2.1.below hb (Nat.le_refl _), h.2.2⟩

theorem RowL.at {w : World} {v : Value} {gs : List Lk} (h : RowL w v gs) (j : Nat) (hj : j < gs.length) : ∃ b c, v = .slice (some ⟨b, 0, none⟩) gs.length c ∧ gs.length ≤ c ∧ w.cell? ⟨b, j * 4, none⟩ = some (.int .u64 (gs[j].n : Int)) ∧ w.cell? ⟨b, j * 4 + 1, none⟩ = some gs[j].x ∧ w.cell? ⟨b, j * 4 + 2, none⟩ = some gs[j].y ∧ w.cell? ⟨b, j * 4 + 3, none⟩ = some (.int .u8 (gs[j].m.toNat : Int)) := by
  have h' := h
  unfold RowL at h'
  rcases h'.2 with ⟨_, h0⟩ | ⟨b, c, cur, e, _, _, hc, _⟩
  · omega
  · subst e
    have hl := flat_len encL 4 encL_len gs
    have g := fun i hi => flat_get encL 4 encL_len gs j i hj hi
    refine ⟨b, c, rfl, hc, ?_, ?_, ?_, ?_⟩
    · rw [World.ownsRow.cellAt h' _ (by omega)]; exact g 0 (by omega)
    · rw [World.ownsRow.cellAt h' _ (by omega)]; exact g 1 (by omega)
    · rw [World.ownsRow.cellAt h' _ (by omega)]; exact g 2 (by omega)
    · rw [World.ownsRow.cellAt h' _ (by omega)]; exact g 3 (by omega)

theorem RowQ.at {w : World} {v : Value} {qs : List Rq} (h : RowQ w v qs) (j : Nat) (hj : j < qs.length) : ∃ b c, v = .slice (some ⟨b, 0, none⟩) qs.length c ∧ qs.length ≤ c ∧ w.cell? ⟨b, j * 5, none⟩ = some (.int .u64 (qs[j].l.n : Int)) ∧ w.cell? ⟨b, j * 5 + 1, none⟩ = some qs[j].l.x ∧ w.cell? ⟨b, j * 5 + 2, none⟩ = some qs[j].l.y ∧ w.cell? ⟨b, j * 5 + 3, none⟩ = some (.int .u8 (qs[j].l.m.toNat : Int)) ∧ w.cell? ⟨b, j * 5 + 4, none⟩ = some (.int .u64 (qs[j].u : Int)) := by
  have h' := h
  unfold RowQ at h'
  rcases h'.2 with ⟨_, h0⟩ | ⟨b, c, cur, e, _, _, hc, _⟩
  · omega
  · subst e
    have hl := flat_len encR 5 encR_len qs
    have g := fun i hi => flat_get encR 5 encR_len qs j i hj hi
    refine ⟨b, c, rfl, hc, ?_, ?_, ?_, ?_, ?_⟩
    · rw [World.ownsRow.cellAt h' _ (by omega)]; exact g 0 (by omega)
    · rw [World.ownsRow.cellAt h' _ (by omega)]; exact g 1 (by omega)
    · rw [World.ownsRow.cellAt h' _ (by omega)]; exact g 2 (by omega)
    · rw [World.ownsRow.cellAt h' _ (by omega)]; exact g 3 (by omega)
    · rw [World.ownsRow.cellAt h' _ (by omega)]; exact g 4 (by omega)

theorem RowL.below {w w' : World} {v : Value} {gs : List Lk} (h : RowL w v gs) (hb : Below w.heap.size w w') : RowL w' v gs := row_below h hb
theorem RowQ.below {w w' : World} {v : Value} {qs : List Rq} (h : RowQ w v qs) (hb : Below w.heap.size w w') : RowQ w' v qs := row_below h hb

end Go.Proofs.Ythiogpojccohgaa
