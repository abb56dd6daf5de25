/- Several texts in one. -/
import Derived.Test.YthiogpojccohgaaBase
import Derived.Lib.Bytealg
import Derived.Lib.BytesEntry
import Derived.Test.YthiogpojccohgaaGrpG
import Derived.Test.YthiogpojccohgaaClone
import Derived.Deep.RegionHeld3
import Derived.Deep.AppendLies
import Derived.Deep.RegionLaw
import Derived.Deep.DeepCutAuto

/- bytes.Compare and atom.Less. -/
namespace Go.Proofs.Ythiogpojccohgaa
set_option maxRecDepth 20000
open Go.RowKit

theorem bytesOf_rd {w : World} {v : Value} {l : List UInt8} (h : Rd w v l) : (Extern.Bytes.bytesOf v).run Try.prog w = .ok ⟨l.toArray⟩ w := by
  rcases h with ⟨rfl, rfl⟩ | ⟨b, off, cap, rfl, h1, h2, h3⟩
  · rfl
  · have hl := Lib.run_loadBytesX (P := Try.prog) w (l.map fun b => (b.toNat : Int)) ⟨b, off, none⟩ .empty (fun j x hj => by
      rw [Addr.add_lit]
      refine h3 j _ ?_
      simp only [List.getElem?_map, Option.map_eq_some_iff] at hj
      obtain ⟨y, hy, rfl⟩ := hj
      simp [bv, hy])
    rw [List.length_map] at hl
    show (Extern.Bytes.loadBytes ⟨b, off, none⟩ l.length .empty).run Try.prog w = _
    rw [hl]
    congr 1
    apply ByteArray.ext
    simp [Lib.bytesOf, Function.comp_def]

theorem compare_run {w : World} {a b : Value} {l m : List UInt8} (ha : Rd w a l) (hb : Rd w b m) :
    (Extern.BytealgCompare.compare #[a, b]).run Try.prog w = .ok (.int .i64 (Lib.compareBytes l m)) w := by
  change Sem.run Try.prog (do pure (goInt (Extern.BytealgCompare.cmp (← Extern.Bytes.bytesOf a) (← Extern.Bytes.bytesOf b)))) w = _
  simp only [Sem.run_bind, bytesOf_rd ha, bytesOf_rd hb, Result.andThen, Sem.run_pure, Lib.cmp_eq]
  rfl

theorem cmp_any (w : World) (a b : Value) (l m : List UInt8) (ha : Rd w a l) (hb : Rd w b m) :
    Calls Try.prog 63 #[a, b] w fun e w' => e = .returned (.int .i64 (Lib.compareBytes l m)) ∧ w' = w := by
  have hr := compare_run ha hb
  clear ha hb
  go_enter Try.func63, Try.ntmps63
  go_wp2
  rw [run_callFunc_extern Try.func68 (by kernel_rfl) (by kernel_rfl) (by kernel_rfl) (e := Extern.BytealgCompare.compare) (by kernel_rfl), hr]
  simp only [Result.andThen]
  rw [Oper.upon_value]
  go_wp2
  go_ret
  exact ⟨rfl, rfl⟩

theorem less_any (w : World) (a b : Value) (l m : List UInt8) (ha : Rd w a l) (hb : Rd w b m) :
    Calls Try.prog 51 #[a, b] w fun e w' => e = .returned (.bool (decide (Lib.compareBytes l m < 0))) ∧ w' = w := by
  go_enter Try.func51, Try.ntmps51
  go_wp2_with (go_at_call 63; refine (cmp_any _ _ _ l m ha hb).mono ?_; rintro e w' ⟨rfl, rfl⟩)
  go_ret
  exact ⟨rfl, rfl⟩

theorem less_b (w : World) (a b : Value) (l m : List UInt8) (x : Bool) (ha : Rd w a l) (hb : Rd w b m) (hx : decide (Lib.compareBytes l m < 0) = x) :
    Calls Try.prog 51 #[a, b] w fun e w' => e = .returned (.bool x) ∧ w' = w := by
  subst hx
  exact less_any w a b l m ha hb

end Go.Proofs.Ythiogpojccohgaa

/- Locks and requests: what the table answers, in pure terms. -/
namespace Go.Proofs.Ythiogpojccohgaa
set_option maxRecDepth 20000
open Go.RowKit
set_option linter.unusedVariables false
set_option linter.unusedSimpArgs false

/-- a lock: whose, from, to, mode; and the two slices that it holds -/
structure Lk where
  n : Nat
  f : List UInt8
  t : List UInt8
  m : UInt8
  x : Value
  y : Value

/-- a request: a lock, and up to when -/
structure Rq where
  l : Lk
  u : Nat

def encL (g : Lk) : List Value := [.int .u64 (g.n : Int), g.x, g.y, .int .u8 (g.m.toNat : Int)]
def encR (r : Rq) : List Value := [.int .u64 (r.l.n : Int), r.l.x, r.l.y, .int .u8 (r.l.m.toNat : Int), .int .u64 (r.u : Int)]

def ltB (a b : List UInt8) : Bool := decide (Lib.compareBytes a b < 0)
/-- below an end -/
def belB (k til : List UInt8) : Bool := if til.length = 0 then true else ltB k til
def rightB (g : Lk) : Bool := decide (g.n ≠ 0) && decide (1 ≤ g.m.toNat ∧ g.m.toNat ≤ 3) && decide (g.f.length ≤ 65) && decide (g.t.length ≤ 65) && belB g.f g.t
def overB (a b : Lk) : Bool := belB a.f b.t && belB b.f a.t
def pastB (til other : List UInt8) : Bool := if other.length = 0 then false else if til.length = 0 then true else ltB other til
def covB (a b : Lk) : Bool := !ltB b.f a.f && !pastB b.t a.t
def togB (a b : Lk) : Bool := if a.n = b.n then true else if a.m.toNat = 1 then decide (b.m.toNat ≠ 3) else if b.m.toNat = 1 then decide (a.m.toNat ≠ 3) else false
def clB (a b : Lk) : Bool := overB a b && !togB a b

/-- a transaction's own locks -/
def ofB (gs : List Lk) (n : Nat) : List Lk := gs.filter fun g => decide (g.n = n)
/-- where its request stands -/
def plcB (qs : List Rq) (n : Nat) : Int := match qs.findIdx? fun r => decide (r.l.n = n) with | some i => (i : Int) | none => -1
def hasB (gs : List Lk) (l : Lk) : Bool := (ofB gs l.n).any fun g => decide (l.m.toNat ≤ g.m.toNat) && covB g l
def fullB (mo ea : Int) (gs : List Lk) (qs : List Rq) (n : Nat) : Bool := decide (ea ≤ ((ofB gs n).length : Int)) || decide (mo ≤ ((gs.length + qs.length : Nat) : Int))
def upgB (gs : List Lk) (l : Lk) : Bool := (ofB gs l.n).any fun g => overB g l
/-- for whom a lock waits -/
def blkB (gs : List Lk) (ah : List Rq) (l : Lk) : List Nat := (gs.filter (clB l)).map (·.n) ++ if upgB gs l = true then [] else (ah.filter fun r => clB l r.l).map (·.l.n)

/-- who waits, from the first on: those that are granted go, the others stay -/
def advB : List Rq → List Lk → List Rq → List Rq → List Lk × List Rq × List Rq
  | [], gs, ah, ps => (gs, ah, ps)
  | r :: qs, gs, ah, ps => if (blkB gs ah r.l).length = 0 then advB qs (gs ++ [r.l]) ah (ps ++ [r]) else advB qs gs (ah ++ [r]) ps

theorem advB_snoc (qs : List Rq) (r : Rq) : ∀ gs ah ps, advB (qs ++ [r]) gs ah ps = if (blkB (advB qs gs ah ps).1 (advB qs gs ah ps).2.1 r.l).length = 0 then ((advB qs gs ah ps).1 ++ [r.l], (advB qs gs ah ps).2.1, (advB qs gs ah ps).2.2 ++ [r]) else ((advB qs gs ah ps).1, (advB qs gs ah ps).2.1 ++ [r], (advB qs gs ah ps).2.2) := by
  induction qs with
  | nil =>
    intro gs ah ps
    simp only [List.nil_append, advB]
    rfl
  | cons a qs ih =>
    intro gs ah ps
    simp only [List.cons_append, advB]
    split
    · exact ih _ _ _
    · exact ih _ _ _

theorem encL_len (g : Lk) : (encL g).length = 4 := rfl
theorem encR_len (r : Rq) : (encR r).length = 5 := rfl

theorem flat_len {α : Type} (enc : α → List Value) (k : Nat) (h : ∀ a, (enc a).length = k) (l : List α) : (l.flatMap enc).length = l.length * k := by
  induction l with
  | nil => simp
  | cons a r ih => rw [List.flatMap_cons, List.length_append, h, ih, List.length_cons, Nat.succ_mul]; omega

theorem flat_get {α : Type} (enc : α → List Value) (k : Nat) (h : ∀ a, (enc a).length = k) (l : List α) (j i : Nat) (hj : j < l.length) (hi : i < k) : (l.flatMap enc)[j * k + i]? = (enc l[j])[i]? := by
  induction l generalizing j with
  | nil => simp at hj
  | cons a r ih =>
    rw [List.flatMap_cons]
    cases j with
    | zero =>
      rw [List.getElem?_append_left (by rw [h]; omega)]
      simp
    | succ j =>
      rw [List.getElem?_append_right (by rw [h, Nat.succ_mul]; omega), h, show (j + 1) * k + i - k = j * k + i by rw [Nat.succ_mul]; omega, ih j (by simpa using hj)]
      simp

theorem flat_snoc {α : Type} (enc : α → List Value) (l : List α) (a : α) : (l ++ [a]).flatMap enc = l.flatMap enc ++ enc a := by simp

theorem infoLk : (Try.prog.info? 32).map (fun i => (i.zero, i.size, i.bytes)) = some (some (.agg #[.int .u64 0, .slice none 0 0, .slice none 0 0, .int .u8 0]), 4, 64) := by kernel_rfl
theorem infoRq : (Try.prog.info? 63).map (fun i => (i.zero, i.size, i.bytes)) = some (some (.agg #[.int .u64 0, .slice none 0 0, .slice none 0 0, .int .u8 0, .int .u64 0]), 5, 72) := by kernel_rfl

/-- a row of locks, read -/
def RowL (w : World) (v : Value) (gs : List Lk) : Prop := w.ownsRow 0 32 4 v gs.length (gs.flatMap encL)
def RowQ (w : World) (v : Value) (qs : List Rq) : Prop := w.ownsRow 0 63 5 v qs.length (qs.flatMap encR)

/-- what a lock holds is read -/
def LkOk (w : World) (g : Lk) : Prop := OwnN 0 w g.x g.f ∧ OwnN 0 w g.y g.t ∧ g.n < 18446744073709551616 ∧ g.f.length ≤ 65 ∧ g.t.length ≤ 65

theorem LkOk.below {w w' : World} {g : Lk} (h : LkOk w g) (hb : Below w.heap.size w w') : LkOk w' g := ⟨h.1.below hb (Nat.le_refl _), h.2.1.below hb (Nat.le_refl _), h.2.2⟩

theorem RowL.at {w : World} {v : Value} {gs : List Lk} (h : RowL w v gs) (j : Nat) (hj : j < gs.length) : ∃ b c, v = .slice (some ⟨b, 0, none⟩) gs.length c ∧ gs.length ≤ c ∧ w.cell? ⟨b, j * 4, none⟩ = some (.int .u64 (gs[j].n : Int)) ∧ w.cell? ⟨b, j * 4 + 1, none⟩ = some gs[j].x ∧ w.cell? ⟨b, j * 4 + 2, none⟩ = some gs[j].y ∧ w.cell? ⟨b, j * 4 + 3, none⟩ = some (.int .u8 (gs[j].m.toNat : Int)) := by
  have h' := h
  unfold RowL at h'
  rcases h'.2 with ⟨_, h0⟩ | ⟨b, c, cur, e, _, _, hc, _⟩
  · omega
  · subst e
    have hl := flat_len encL 4 encL_len gs
    have g := fun i hi => flat_get encL 4 encL_len gs j i hj hi
    refine ⟨b, c, rfl, hc, ?_, ?_, ?_, ?_⟩
    · rw [World.ownsRow.cellAt h' _ (by omega)]; exact g 0 (by omega)
    · rw [World.ownsRow.cellAt h' _ (by omega)]; exact g 1 (by omega)
    · rw [World.ownsRow.cellAt h' _ (by omega)]; exact g 2 (by omega)
    · rw [World.ownsRow.cellAt h' _ (by omega)]; exact g 3 (by omega)

theorem RowQ.at {w : World} {v : Value} {qs : List Rq} (h : RowQ w v qs) (j : Nat) (hj : j < qs.length) : ∃ b c, v = .slice (some ⟨b, 0, none⟩) qs.length c ∧ qs.length ≤ c ∧ w.cell? ⟨b, j * 5, none⟩ = some (.int .u64 (qs[j].l.n : Int)) ∧ w.cell? ⟨b, j * 5 + 1, none⟩ = some qs[j].l.x ∧ w.cell? ⟨b, j * 5 + 2, none⟩ = some qs[j].l.y ∧ w.cell? ⟨b, j * 5 + 3, none⟩ = some (.int .u8 (qs[j].l.m.toNat : Int)) ∧ w.cell? ⟨b, j * 5 + 4, none⟩ = some (.int .u64 (qs[j].u : Int)) := by
  have h' := h
  unfold RowQ at h'
  rcases h'.2 with ⟨_, h0⟩ | ⟨b, c, cur, e, _, _, hc, _⟩
  · omega
  · subst e
    have hl := flat_len encR 5 encR_len qs
    have g := fun i hi => flat_get encR 5 encR_len qs j i hj hi
    refine ⟨b, c, rfl, hc, ?_, ?_, ?_, ?_, ?_⟩
    · rw [World.ownsRow.cellAt h' _ (by omega)]; exact g 0 (by omega)
    · rw [World.ownsRow.cellAt h' _ (by omega)]; exact g 1 (by omega)
    · rw [World.ownsRow.cellAt h' _ (by omega)]; exact g 2 (by omega)
    · rw [World.ownsRow.cellAt h' _ (by omega)]; exact g 3 (by omega)
    · rw [World.ownsRow.cellAt h' _ (by omega)]; exact g 4 (by omega)

theorem RowL.below {w w' : World} {v : Value} {gs : List Lk} (h : RowL w v gs) (hb : Below w.heap.size w w') : RowL w' v gs := row_below h hb
theorem RowQ.below {w w' : World} {v : Value} {qs : List Rq} (h : RowQ w v qs) (hb : Below w.heap.size w w') : RowQ w' v qs := row_below h hb

end Go.Proofs.Ythiogpojccohgaa

/- locks: isBelow, isPast, covers, overlap, together, clash, isRight, apart. -/
namespace Go.Proofs.Ythiogpojccohgaa
set_option maxRecDepth 20000
open Go.RowKit
set_option linter.unusedVariables false
set_option linter.unusedSimpArgs false

theorem bel_any (w : World) (a b : Value) (l m : List UInt8) (r : Bool) (ha : Rd w a l) (hb : Rd w b m) (hr : belB l m = r) :
    Calls Try.prog 35 #[a, b] w fun e w' => e = .returned (.bool r) ∧ w' = w := by
  obtain ⟨a1, a2, rfl⟩ := ha.len
  obtain ⟨b1, b2, rfl⟩ := hb.len
  obtain ⟨q, hq⟩ : ∃ q, decide (Lib.compareBytes l m < 0) = q := ⟨_, rfl⟩
  have hl := less_b w _ _ l m q ha hb hq
  have HR : Hid (r = if m.length = 0 then true else q) := by show _ = _; rw [← hr, ← hq]; rfl
  obtain ⟨n, hn⟩ : ∃ n, m.length = n := ⟨_, rfl⟩
  rw [hn] at hl HR ⊢
  clear ha hb hr hq hn
  by_cases h0 : n = 0
  · subst h0
    go_enter Try.func35, Try.ntmps35
    go_wp2
    go_ret
    exact ⟨by rw [HR.out]; rfl, rfl⟩
  · have HR2 : Hid (r = q) := by show _ = _; rw [HR.out, if_neg h0]
    have hnb : ((n : Int) == 0) = false := by simpa using h0
    go_enter Try.func35, Try.ntmps35
    go_wp2_with fail
    refine hl.mono ?_
    rintro e w1 ⟨rfl, rfl⟩
    go_wp2
    go_ret
    exact ⟨by rw [HR2.out]; first | rfl | (show Ending.returned (Value.bool (((n : Int) == 0) || q)) = _; rw [hnb]; rfl), rfl⟩

theorem past_any (w : World) (a b : Value) (l m : List UInt8) (r : Bool) (ha : Rd w a l) (hb : Rd w b m) (hr : pastB l m = r) :
    Calls Try.prog 54 #[a, b] w fun e w' => e = .returned (.bool r) ∧ w' = w := by
  obtain ⟨a1, a2, rfl⟩ := ha.len
  obtain ⟨b1, b2, rfl⟩ := hb.len
  obtain ⟨q, hq⟩ : ∃ q, decide (Lib.compareBytes m l < 0) = q := ⟨_, rfl⟩
  have hl := less_b w _ _ m l q hb ha hq
  have HR : Hid (r = if m.length = 0 then false else if l.length = 0 then true else q) := by show _ = _; rw [← hr, ← hq]; rfl
  obtain ⟨n, hn⟩ : ∃ n, m.length = n := ⟨_, rfl⟩
  obtain ⟨k, hk⟩ : ∃ k, l.length = k := ⟨_, rfl⟩
  rw [hn, hk] at hl HR ⊢
  clear ha hb hr hq hn hk
  by_cases h0 : n = 0
  · subst h0
    go_enter Try.func54, Try.ntmps54
    go_wp2
    go_ret
    exact ⟨by rw [HR.out]; rfl, rfl⟩
  · have h0I : (0 : Int) < (n : Int) := by omega
    by_cases h1 : k = 0
    · subst h1
      have HR2 : Hid (r = true) := by show _ = _; rw [HR.out, if_neg h0]; rfl
      go_enter Try.func54, Try.ntmps54
      go_wp2
      go_ret
      exact ⟨by rw [HR2.out]; rfl, rfl⟩
    · have HR2 : Hid (r = q) := by show _ = _; rw [HR.out, if_neg h0, if_neg h1]
      have hkb : ((k : Int) == 0) = false := by simpa using h1
      go_enter Try.func54, Try.ntmps54
      go_wp2_with fail
      refine hl.mono ?_
      rintro e w1 ⟨rfl, rfl⟩
      go_wp2
      go_ret
      exact ⟨by rw [HR2.out]; first | rfl | (show Ending.returned (Value.bool (((k : Int) == 0) || q)) = _; rw [hkb]; rfl), rfl⟩

/-- a lock's value -/
def lkV (n : Int) (x y : Value) (m : Int) : Value := .agg #[.int .u64 n, x, y, .int .u8 m]

theorem below_two (w : World) (o p : Obj) : Below w.heap.size w ((w.alloc o).alloc p) := bsplit (below_box4 w o) (below_box4 _ p)

theorem over_any (w : World) (xa ya xb yb : Value) (fa ta fb tb : List UInt8) (na ma nb mb : Int) (r : Bool) (h1 : Rd w xa fa) (h2 : Rd w ya ta) (h3 : Rd w xb fb) (h4 : Rd w yb tb) (hr : (belB fa tb && belB fb ta) = r) :
    Calls Try.prog 55 #[lkV na xa ya ma, lkV nb xb yb mb] w fun e w' => e = .returned (.bool r) ∧ Below w.heap.size w w' := by
  obtain ⟨a1, a2, ea⟩ := h1.len
  obtain ⟨a3, a4, eb⟩ := h2.len
  obtain ⟨a5, a6, ec⟩ := h3.len
  obtain ⟨a7, a8, ed⟩ := h4.len
  subst ea eb ec ed
  have HB : Hid (Below w.heap.size w ((w.alloc (.cells #[.int .u64 na, .slice a1 fa.length a2, .slice a3 ta.length a4, .int .u8 ma] 32)).alloc (.cells #[.int .u64 nb, .slice a5 fb.length a6, .slice a7 tb.length a8, .int .u8 mb] 32))) := below_two w _ _
  obtain ⟨q, hq⟩ : ∃ q, belB fa tb = q := ⟨_, rfl⟩
  obtain ⟨p, hp⟩ : ∃ p, belB fb ta = p := ⟨_, rfl⟩
  have hb1 := bel_any _ _ _ fa tb q (h1.below HB.out (Nat.le_refl _)) (h4.below HB.out (Nat.le_refl _)) hq
  have hb2 := bel_any _ _ _ fb ta p (h3.below HB.out (Nat.le_refl _)) (h2.below HB.out (Nat.le_refl _)) hp
  have HR : Hid (r = (q && p)) := by show _ = _; rw [← hr, hq, hp]
  have hba := below_box4 (w.alloc (.cells #[.int .u64 na, .slice a1 fa.length a2, .slice a3 ta.length a4, .int .u8 ma] 32)) (.cells #[.int .u64 nb, .slice a5 fb.length a6, .slice a7 tb.length a8, .int .u8 mb] 32)
  obtain ⟨c0, c1, c2, c3⟩ := (box4_new w (.int .u64 na) (.slice a1 fa.length a2) (.slice a3 ta.length a4) (.int .u8 ma) 32).below hba (Nat.le_refl _)
  obtain ⟨d0, d1, d2, d3⟩ := box4_new (w.alloc (.cells #[.int .u64 na, .slice a1 fa.length a2, .slice a3 ta.length a4, .int .u8 ma] 32)) (.int .u64 nb) (.slice a5 fb.length a6) (.slice a7 tb.length a8) (.int .u8 mb) 32
  rw [show (w.alloc (.cells #[.int .u64 na, .slice a1 fa.length a2, .slice a3 ta.length a4, .int .u8 ma] 32)).heap.size = w.heap.size + 1 by simp] at d0 d1 d2 d3
  clear h1 h2 h3 h4 hr hq hp hba
  unfold lkV
  cases q
  · go_enter Try.func55, Try.ntmps55
    go_wp2_with fail
    refine hb1.mono ?_
    rintro e w1 ⟨rfl, rfl⟩
    go_wp2
    go_ret
    exact ⟨by rw [HR.out]; rfl, HB.out⟩
  · go_enter Try.func55, Try.ntmps55
    go_wp2_with fail
    refine hb1.mono ?_
    rintro e w1 ⟨rfl, rfl⟩
    clear hb1
    go_wp2_with fail
    refine hb2.mono ?_
    rintro e w1 ⟨rfl, rfl⟩
    go_wp2
    go_ret
    exact ⟨by rw [HR.out]; rfl, HB.out⟩

theorem cov_any (w : World) (xa ya xb yb : Value) (fa ta fb tb : List UInt8) (na ma nb mb : Int) (r : Bool) (h1 : Rd w xa fa) (h2 : Rd w ya ta) (h3 : Rd w xb fb) (h4 : Rd w yb tb) (hr : (!ltB fb fa && !pastB tb ta) = r) :
    Calls Try.prog 41 #[lkV na xa ya ma, lkV nb xb yb mb] w fun e w' => e = .returned (.bool r) ∧ Below w.heap.size w w' := by
  obtain ⟨a1, a2, ea⟩ := h1.len
  obtain ⟨a3, a4, eb⟩ := h2.len
  obtain ⟨a5, a6, ec⟩ := h3.len
  obtain ⟨a7, a8, ed⟩ := h4.len
  subst ea eb ec ed
  have HB : Hid (Below w.heap.size w ((w.alloc (.cells #[.int .u64 na, .slice a1 fa.length a2, .slice a3 ta.length a4, .int .u8 ma] 32)).alloc (.cells #[.int .u64 nb, .slice a5 fb.length a6, .slice a7 tb.length a8, .int .u8 mb] 32))) := below_two w _ _
  obtain ⟨q, hq⟩ : ∃ q, ltB fb fa = q := ⟨_, rfl⟩
  obtain ⟨p, hp⟩ : ∃ p, pastB tb ta = p := ⟨_, rfl⟩
  have hb1 := less_b _ _ _ fb fa q (h3.below HB.out (Nat.le_refl _)) (h1.below HB.out (Nat.le_refl _)) hq
  have hb2 := past_any _ _ _ tb ta p (h4.below HB.out (Nat.le_refl _)) (h2.below HB.out (Nat.le_refl _)) hp
  have HR : Hid (r = (!q && !p)) := by show _ = _; rw [← hr, hq, hp]
  have hba := below_box4 (w.alloc (.cells #[.int .u64 na, .slice a1 fa.length a2, .slice a3 ta.length a4, .int .u8 ma] 32)) (.cells #[.int .u64 nb, .slice a5 fb.length a6, .slice a7 tb.length a8, .int .u8 mb] 32)
  obtain ⟨c0, c1, c2, c3⟩ := (box4_new w (.int .u64 na) (.slice a1 fa.length a2) (.slice a3 ta.length a4) (.int .u8 ma) 32).below hba (Nat.le_refl _)
  obtain ⟨d0, d1, d2, d3⟩ := box4_new (w.alloc (.cells #[.int .u64 na, .slice a1 fa.length a2, .slice a3 ta.length a4, .int .u8 ma] 32)) (.int .u64 nb) (.slice a5 fb.length a6) (.slice a7 tb.length a8) (.int .u8 mb) 32
  rw [show (w.alloc (.cells #[.int .u64 na, .slice a1 fa.length a2, .slice a3 ta.length a4, .int .u8 ma] 32)).heap.size = w.heap.size + 1 by simp] at d0 d1 d2 d3
  clear h1 h2 h3 h4 hr hq hp hba
  unfold lkV
  cases q
  · go_enter Try.func41, Try.ntmps41
    go_wp2_with fail
    refine hb1.mono ?_
    rintro e w1 ⟨rfl, rfl⟩
    clear hb1
    go_wp2_with fail
    refine hb2.mono ?_
    rintro e w1 ⟨rfl, rfl⟩
    go_wp2
    go_ret
    exact ⟨by rw [HR.out]; rfl, HB.out⟩
  · go_enter Try.func41, Try.ntmps41
    go_wp2_with fail
    refine hb1.mono ?_
    rintro e w1 ⟨rfl, rfl⟩
    go_wp2
    go_ret
    exact ⟨by rw [HR.out]; rfl, HB.out⟩

def togI (na ma nb mb : Int) : Bool := if na = nb then true else if ma = 1 then decide (mb ≠ 3) else if mb = 1 then decide (ma ≠ 3) else false

theorem togB_is (a b : Lk) : togB a b = togI a.n a.m.toNat b.n b.m.toNat := by
  unfold togB togI
  have e1 : ((a.n : Int) = (b.n : Int)) = (a.n = b.n) := propext (by omega)
  have e2 : ((a.m.toNat : Int) = 1) = (a.m.toNat = 1) := propext (by omega)
  have e3 : ((b.m.toNat : Int) = 1) = (b.m.toNat = 1) := propext (by omega)
  have e4 : ((a.m.toNat : Int) ≠ 3) = (a.m.toNat ≠ 3) := propext (by omega)
  have e5 : ((b.m.toNat : Int) ≠ 3) = (b.m.toNat ≠ 3) := propext (by omega)
  simp only [e1, e2, e3, e4, e5]

theorem tog_any (w : World) (xa ya xb yb : Value) (na ma nb mb : Int) (r : Bool) (a1 a2 a3 a4 : Option Addr) (l1 k1 l2 k2 l3 k3 l4 k4 : Nat) (e1 : xa = .slice a1 l1 k1) (e2 : ya = .slice a2 l2 k2) (e3 : xb = .slice a3 l3 k3) (e4 : yb = .slice a4 l4 k4) (hr : togI na ma nb mb = r) :
    Calls Try.prog 56 #[lkV na xa ya ma, lkV nb xb yb mb] w fun e w' => e = .returned (.bool r) ∧ Below w.heap.size w w' := by
  subst e1 e2 e3 e4
  have HB : Hid (Below w.heap.size w ((w.alloc (.cells #[.int .u64 na, .slice a1 l1 k1, .slice a2 l2 k2, .int .u8 ma] 32)).alloc (.cells #[.int .u64 nb, .slice a3 l3 k3, .slice a4 l4 k4, .int .u8 mb] 32))) := below_two w _ _
  have HR : Hid (togI na ma nb mb = r) := hr
  unfold lkV
  clear hr
  by_cases h1 : na = nb
  · subst h1
    have HR2 : Hid (r = true) := by show _ = _; rw [← HR.out]; unfold togI; rw [if_pos rfl]
    go_enter Try.func56, Try.ntmps56
    go_wp2
    go_ret
    exact ⟨by rw [HR2.out]; rfl, HB.out⟩
  · by_cases h2 : ma = 1
    · subst h2
      have HR2 : Hid (r = decide (mb ≠ 3)) := by show _ = _; rw [← HR.out]; unfold togI; rw [if_neg h1, if_pos rfl]
      by_cases h3 : mb = 3
      · subst h3
        go_enter Try.func56, Try.ntmps56
        go_wp2
        go_ret
        exact ⟨by rw [HR2.out]; rfl, HB.out⟩
      · go_enter Try.func56, Try.ntmps56
        go_wp2
        go_ret
        exact ⟨by rw [HR2.out]; simp [h3], HB.out⟩
    · by_cases h3 : mb = 1
      · subst h3
        have HR2 : Hid (r = decide (ma ≠ 3)) := by show _ = _; rw [← HR.out]; unfold togI; rw [if_neg h1, if_neg h2, if_pos rfl]
        by_cases h4 : ma = 3
        · subst h4
          go_enter Try.func56, Try.ntmps56
          go_wp2
          go_ret
          exact ⟨by rw [HR2.out]; rfl, HB.out⟩
        · go_enter Try.func56, Try.ntmps56
          go_wp2
          go_ret
          exact ⟨by rw [HR2.out]; simp [h4], HB.out⟩
      · have HR2 : Hid (r = false) := by show _ = _; rw [← HR.out]; unfold togI; rw [if_neg h1, if_neg h2, if_neg h3]
        go_enter Try.func56, Try.ntmps56
        go_wp2
        go_ret
        exact ⟨by rw [HR2.out]; rfl, HB.out⟩

theorem clash_any (w : World) (xa ya xb yb : Value) (fa ta fb tb : List UInt8) (na ma nb mb : Int) (r : Bool) (h1 : Rd w xa fa) (h2 : Rd w ya ta) (h3 : Rd w xb fb) (h4 : Rd w yb tb) (hr : ((belB fa tb && belB fb ta) && !togI na ma nb mb) = r) :
    Calls Try.prog 44 #[lkV na xa ya ma, lkV nb xb yb mb] w fun e w' => e = .returned (.bool r) ∧ Below w.heap.size w w' := by
  obtain ⟨a1, a2, ea⟩ := h1.len
  obtain ⟨a3, a4, eb⟩ := h2.len
  obtain ⟨a5, a6, ec⟩ := h3.len
  obtain ⟨a7, a8, ed⟩ := h4.len
  subst ea eb ec ed
  have HB : Hid (Below w.heap.size w ((w.alloc (.cells #[.int .u64 na, .slice a1 fa.length a2, .slice a3 ta.length a4, .int .u8 ma] 32)).alloc (.cells #[.int .u64 nb, .slice a5 fb.length a6, .slice a7 tb.length a8, .int .u8 mb] 32))) := below_two w _ _
  obtain ⟨q, hq⟩ : ∃ q, (belB fa tb && belB fb ta) = q := ⟨_, rfl⟩
  obtain ⟨p, hp⟩ : ∃ p, togI na ma nb mb = p := ⟨_, rfl⟩
  have hb1 := over_any _ _ _ _ _ fa ta fb tb na ma nb mb q (h1.below HB.out (Nat.le_refl _)) (h2.below HB.out (Nat.le_refl _)) (h3.below HB.out (Nat.le_refl _)) (h4.below HB.out (Nat.le_refl _)) hq
  have HT : Hid (∀ W : World, Calls Try.prog 56 #[lkV na (.slice a1 fa.length a2) (.slice a3 ta.length a4) ma, lkV nb (.slice a5 fb.length a6) (.slice a7 tb.length a8) mb] W fun e w' => e = .returned (.bool p) ∧ Below W.heap.size W w') := fun W => tog_any W _ _ _ _ na ma nb mb p _ _ _ _ _ _ _ _ _ _ _ _ rfl rfl rfl rfl hp
  have HR : Hid (r = (q && !p)) := by show _ = _; rw [← hr, hq, hp]
  have hba := below_box4 (w.alloc (.cells #[.int .u64 na, .slice a1 fa.length a2, .slice a3 ta.length a4, .int .u8 ma] 32)) (.cells #[.int .u64 nb, .slice a5 fb.length a6, .slice a7 tb.length a8, .int .u8 mb] 32)
  have B1 := (box4_new w (.int .u64 na) (.slice a1 fa.length a2) (.slice a3 ta.length a4) (.int .u8 ma) 32).below hba (Nat.le_refl _)
  have B2 := box4_new (w.alloc (.cells #[.int .u64 na, .slice a1 fa.length a2, .slice a3 ta.length a4, .int .u8 ma] 32)) (.int .u64 nb) (.slice a5 fb.length a6) (.slice a7 tb.length a8) (.int .u8 mb) 32
  rw [show (w.alloc (.cells #[.int .u64 na, .slice a1 fa.length a2, .slice a3 ta.length a4, .int .u8 ma] 32)).heap.size = w.heap.size + 1 by simp] at B2
  have B1' := B1
  have B2' := B2
  obtain ⟨c0, c1, c2, c3⟩ := B1'
  obtain ⟨d0, d1, d2, d3⟩ := B2'
  clear h1 h2 h3 h4 hr hq hp hba
  unfold lkV at hb1 HT ⊢
  go_enter Try.func44, Try.ntmps44
  go_wp2_with fail
  refine hb1.mono ?_
  rintro e w1 ⟨rfl, hbw⟩
  have HB1 : Hid (Below w.heap.size w w1) := bsplit HB.out hbw
  have B11 := B1.below hbw (Nat.le_refl _)
  have B22 := B2.below hbw (Nat.le_refl _)
  clear hb1 c0 c1 c2 c3 d0 d1 d2 d3 B1 B2
  obtain ⟨c0, c1, c2, c3⟩ := B11
  obtain ⟨d0, d1, d2, d3⟩ := B22
  have ht := HT.out w1
  clear hbw
  cases q
  · go_wp2
    go_ret
    exact ⟨by rw [HR.out]; rfl, HB1.out⟩
  · go_wp2_with fail
    refine ht.mono ?_
    rintro e w2 ⟨rfl, hb2⟩
    have HB2 : Hid (Below w.heap.size w w2) := bsplit HB1.out hb2
    go_wp2
    go_ret
    exact ⟨by rw [HR.out]; rfl, HB2.out⟩

end Go.Proofs.Ythiogpojccohgaa

/- locks: isRight, apart; the functions of one lock that are handed to others. -/
namespace Go.Proofs.Ythiogpojccohgaa
set_option maxRecDepth 20000
open Go.RowKit
set_option linter.unusedVariables false
set_option linter.unusedSimpArgs false

def rightI (n m : Int) (f t : List UInt8) : Bool := decide (n ≠ 0) && decide (1 ≤ m ∧ m ≤ 3) && decide (f.length ≤ 65) && decide (t.length ≤ 65) && belB f t

theorem rightB_is (g : Lk) : rightB g = rightI g.n g.m.toNat g.f g.t := by
  unfold rightB rightI
  have e1 : ((g.n : Int) ≠ 0) = (g.n ≠ 0) := propext (by omega)
  have e2 : (1 ≤ (g.m.toNat : Int) ∧ (g.m.toNat : Int) ≤ 3) = (1 ≤ g.m.toNat ∧ g.m.toNat ≤ 3) := propext (by omega)
  simp only [e1, e2]

theorem right_any (w : World) (x y : Value) (f t : List UInt8) (n m : Int) (r : Bool) (h1 : Rd w x f) (h2 : Rd w y t) (hr : rightI n m f t = r) :
    Calls Try.prog 21 #[lkV n x y m] w fun e w' => e = .returned (.bool r) ∧ Below w.heap.size w w' := by
  obtain ⟨a1, a2, ea⟩ := h1.len
  obtain ⟨a3, a4, eb⟩ := h2.len
  subst ea eb
  have HB : Hid (Below w.heap.size w (w.alloc (.cells #[.int .u64 n, .slice a1 f.length a2, .slice a3 t.length a4, .int .u8 m] 32))) := below_box4 w _
  obtain ⟨q, hq⟩ : ∃ q, belB f t = q := ⟨_, rfl⟩
  have hb1 := bel_any _ _ _ f t q (h1.below HB.out (Nat.le_refl _)) (h2.below HB.out (Nat.le_refl _)) hq
  obtain ⟨c0, c1, c2, c3⟩ := box4_new w (.int .u64 n) (.slice a1 f.length a2) (.slice a3 t.length a4) (.int .u8 m) 32
  have HR : Hid (r = (decide (n ≠ 0) && decide (1 ≤ m ∧ m ≤ 3) && decide (f.length ≤ 65) && decide (t.length ≤ 65) && q)) := by show _ = _; rw [← hr, ← hq]; rfl
  obtain ⟨fl, hfl⟩ : ∃ z, f.length = z := ⟨_, rfl⟩
  obtain ⟨tl, htl⟩ : ∃ z, t.length = z := ⟨_, rfl⟩
  rw [hfl, htl] at HR hb1 HB c0 c1 c2 c3
  rw [hfl, htl]
  clear h1 h2 hr hq hfl htl
  unfold lkV
  by_cases k1 : n = 0
  · subst k1
    go_enter Try.func21, Try.ntmps21
    go_wp2
    go_ret
    exact ⟨by rw [HR.out]; rfl, HB.out⟩
  · have HR0 : Hid ((¬ 1 ≤ m ∨ ¬ m ≤ 3 ∨ ¬ fl ≤ 65 ∨ ¬ tl ≤ 65) → r = false) := fun h9 => by
      rw [HR.out]
      rcases h9 with h9 | h9 | h9 | h9 <;> simp [h9]
    by_cases k2 : 1 ≤ m
    · by_cases k3 : m ≤ 3
      · by_cases k4 : fl ≤ 65
        · have k4I : (fl : Int) ≤ 65 := by omega
          by_cases k5 : tl ≤ 65
          · have k5I : (tl : Int) ≤ 65 := by omega
            go_enter Try.func21, Try.ntmps21
            go_wp2_with fail
            refine hb1.mono ?_
            rintro e w1 ⟨rfl, rfl⟩
            go_wp2
            go_ret
            exact ⟨by rw [HR.out]; simp [k1, k2, k3, k4, k5], HB.out⟩
          · have k5I : ¬ (tl : Int) ≤ 65 := by omega
            go_enter Try.func21, Try.ntmps21
            go_wp2
            go_ret
            exact ⟨by rw [HR0.out (.inr (.inr (.inr k5)))]; rfl, HB.out⟩
        · have k4I : ¬ (fl : Int) ≤ 65 := by omega
          go_enter Try.func21, Try.ntmps21
          go_wp2
          go_ret
          exact ⟨by rw [HR0.out (.inr (.inr (.inl k4)))]; rfl, HB.out⟩
      · have HR1 : Hid (r = false) := HR0.out (.inr (.inl k3))
        go_enter Try.func21, Try.ntmps21
        go_wp2
        go_ret
        exact ⟨by rw [HR1.out]; rfl, HB.out⟩
    · have HR1 : Hid (r = false) := HR0.out (.inl k2)
      go_enter Try.func21, Try.ntmps21
      go_wp2
      go_ret
      exact ⟨by rw [HR1.out]; rfl, HB.out⟩

theorem ownN_stored4 {B b : Nat} {w : World} {v : Value} {l : List UInt8} (h : OwnN B w v l) (hb : ∀ g, v.ownBlock = some g → g ≠ b) (u0 u1 u2 u3 : Value) : OwnN B ((((w.setCell ⟨b, 0, none⟩ u0).setCell ⟨b, 1, none⟩ u1).setCell ⟨b, 2, none⟩ u2).setCell ⟨b, 3, none⟩ u3) v l :=
  ownN_same9 h fun q hq => by
    have hne : q ≠ b := hb q hq
    rw [Below.heap_setCell _ ⟨b, 3, none⟩ _ q hne, Below.heap_setCell _ ⟨b, 2, none⟩ _ q hne, Below.heap_setCell _ ⟨b, 1, none⟩ _ q hne, Below.heap_setCell _ ⟨b, 0, none⟩ _ q hne]

set_option maxHeartbeats 2000000 in
theorem apart_any (w : World) (x y : Value) (f t : List UInt8) (n m : Int) (h1 : Rd w x f) (h2 : Rd w y t) (hf : f.length ≤ 65) (ht : t.length ≤ 65) :
    Calls Try.prog 25 #[lkV n x y m] w fun e w' => ∃ x' y', e = .returned (lkV n x' y' m) ∧ OwnN w.heap.size w' x' f ∧ OwnN w.heap.size w' y' t ∧ Below w.heap.size w w' := by
  obtain ⟨a1, a2, ea⟩ := h1.len
  obtain ⟨a3, a4, eb⟩ := h2.len
  subst ea eb
  have hb0 := below_two w (.cells #[.int .u64 n, .slice a1 f.length a2, .slice a3 t.length a4, .int .u8 m] 32) (.cells #[.int .u64 0, .slice none 0 0, .slice none 0 0, .int .u8 0] 32)
  have HB0 : Hid (Below w.heap.size w ((w.alloc (.cells #[.int .u64 n, .slice a1 f.length a2, .slice a3 t.length a4, .int .u8 m] 32)).alloc (.cells #[.int .u64 0, .slice none 0 0, .slice none 0 0, .int .u8 0] 32))) := hb0
  have hba := below_box4 (w.alloc (.cells #[.int .u64 n, .slice a1 f.length a2, .slice a3 t.length a4, .int .u8 m] 32)) (.cells #[.int .u64 0, .slice none 0 0, .slice none 0 0, .int .u8 0] 32)
  have bx := ((box4_new w (.int .u64 n) (.slice a1 f.length a2) (.slice a3 t.length a4) (.int .u8 m) 32).below hba (Nat.le_refl _)).drew
  have r1 := h1.below hb0.drew (Nat.le_refl _)
  have r2 := h2.below hb0.drew (Nat.le_refl _)
  have BF : Hid (Box4f ((w.alloc (.cells #[.int .u64 n, .slice a1 f.length a2, .slice a3 t.length a4, .int .u8 m] 32)).alloc (.cells #[.int .u64 0, .slice none 0 0, .slice none 0 0, .int .u8 0] 32)) (w.heap.size + 1) (.int .u64 0) (.slice none 0 0) (.slice none 0 0) (.int .u8 0)) := by
    have := box4f_new (w.alloc (.cells #[.int .u64 n, .slice a1 f.length a2, .slice a3 t.length a4, .int .u8 m] 32)) (.int .u64 0) (.slice none 0 0) (.slice none 0 0) (.int .u8 0) 32
    rw [show (w.alloc (.cells #[.int .u64 n, .slice a1 f.length a2, .slice a3 t.length a4, .int .u8 m] 32)).heap.size = w.heap.size + 1 by simp] at this
    exact this
  have HLN : Hid (f.length ≤ 65 ∧ t.length ≤ 65) := ⟨hf, ht⟩
  obtain ⟨fl, hfl⟩ : ∃ z, f.length = z := ⟨_, rfl⟩
  obtain ⟨tl, htl⟩ : ∃ z, t.length = z := ⟨_, rfl⟩
  have HFL : Hid (f.length = fl ∧ t.length = tl) := ⟨hfl, htl⟩
  rw [hfl] at HB0 bx r1 BF
  rw [htl] at HB0 bx r2 BF
  rw [hfl] at r2
  rw [htl] at r1
  rw [hfl, htl]
  clear h1 h2 hb0 hba hfl htl hf ht
  unfold lkV
  go_enter Try.func25, Try.ntmps25
  go_wp2_with fail
  go_region_held3 (fun w' => w'.cell? ⟨w.heap.size, 0, none⟩ = some (.int .u64 n) ∧ w'.cell? ⟨w.heap.size, 1, none⟩ = some (.slice a1 fl a2) ∧ w'.cell? ⟨w.heap.size, 2, none⟩ = some (.slice a3 tl a4) ∧ w'.cell? ⟨w.heap.size, 3, none⟩ = some (.int .u8 m))
    (first | with_reducible exact ⟨bs.c0, bs.c1, bs.c2, bs.c3⟩ | with_reducible exact ⟨by2.c0, by2.c1, by2.c2, by2.c3⟩ | with_reducible exact ⟨bx2.c0, bx2.c1, bx2.c2, bx2.c3⟩ | with_reducible exact ⟨bx.c0, bx.c1, bx.c2, bx.c3⟩)
    (first
      | (go_at_call 42; refine (clone_any _ _ f r1.arg (by have := HLN.out.1; omega)).mono ?_; rintro e wx ⟨x, rfl, ox, hbx⟩; obtain ⟨gx, kx, hx⟩ := ox.rd.len; rw [HFL.out.1] at hx; subst hx; have bx2 := bx.below hbx (Nat.le_refl _); clear r1)
      | (go_at_call 42; refine (clone_any _ _ t (r2.below hbx (Nat.le_refl _)).arg (by have := HLN.out.2; omega)).mono ?_; rintro e wy ⟨y, rfl, oy, hby⟩; obtain ⟨gy, ky, hy⟩ := oy.rd.len; rw [HFL.out.2] at hy; subst hy; have by2 := bx2.below hby (Nat.le_refl _)
         have HBY : Hid (Below w.heap.size w wy) := bsplit (bsplit HB0.out.drew hbx) hby
         have hsz : ((w.alloc (.cells #[.int .u64 n, .slice a1 fl a2, .slice a3 tl a4, .int .u8 m] 32)).alloc (.cells #[.int .u64 0, .slice none 0 0, .slice none 0 0, .int .u8 0] 32)).drew.heap.size = w.heap.size + 2 := by simp
         have HOX : Hid (OwnN (w.heap.size + 2) wy (.slice gx fl kx) f) := (ox.below hby (Nat.le_refl _)).mono (by rw [hsz]; exact Nat.le_refl _)
         have HOY : Hid (OwnN (w.heap.size + 2) wy (.slice gy tl ky) t) := oy.mono (by have h8 := hbx.size; rw [hsz] at h8; exact h8)
         have bs := by2.stored (w.heap.size + 1) (by omega) (.int .u64 n) (.slice gx fl kx) (.slice gy tl ky) (.int .u8 m)
         obtain ⟨⟨c0, c1, c2, c3⟩, f0, f1, f2, f3⟩ := ((BF.out.below (Below.refl _ _).drew (Nat.le_refl _)).below hbx (Nat.le_refl _)).below hby (Nat.le_refl _))
      | fail)
  go_wp2
  refine bodyPost_ret (v := lkV n (.slice gx fl kx) (.slice gy tl ky) m) (by simp [results, Try.results25, go_sem, c0, c1, c2, c3, lkV]) rfl ⟨_, _, rfl, ?_, ?_, below_store4 HBY.out (Nat.le_succ _) _ _ _ _⟩
  · exact ownN_stored4 (HOX.out.mono (by omega)) (fun g hg => by have := (ownN_lt9 HOX.out g hg).1; omega) _ _ _ _
  · exact ownN_stored4 (HOY.out.mono (by omega)) (fun g hg => by have := (ownN_lt9 HOY.out g hg).1; omega) _ _ _ _

end Go.Proofs.Ythiogpojccohgaa

/- set.Without of locks. -/
namespace Go.Proofs.Ythiogpojccohgaa
set_option maxRecDepth 20000
open Go.RowKit
set_option linter.unusedVariables false
set_option linter.unusedSimpArgs false

/-- a lock's two values are slices -/
def LkS (g : Lk) : Prop := (∃ a n c, g.x = .slice a n c) ∧ ∃ a n c, g.y = .slice a n c

theorem LkOk.s {w : World} {g : Lk} (h : LkOk w g) : LkS g := by
  obtain ⟨a, c, e⟩ := h.1.rd.len
  obtain ⟨a', c', e'⟩ := h.2.1.rd.len
  exact ⟨⟨_, _, _, e⟩, ⟨_, _, _, e'⟩⟩

theorem oneL (g : Lk) (h : LkS g) : ∀ u ∈ encL g, u.oneCell' = true := by
  obtain ⟨⟨a, n, c, e⟩, ⟨a', n', c', e'⟩⟩ := h
  intro u hu
  simp only [encL, List.mem_cons, List.not_mem_nil, or_false] at hu
  rcases hu with rfl | rfl | rfl | rfl
  · rfl
  · rw [e]; rfl
  · rw [e']; rfl
  · rfl

theorem ent_rel (args : Array Value) (W : World) : Sem.run Try.prog (callFunc 19 args) W = .ok (.enter 19 args) W := by kernel_rfl
theorem ent_of (args : Array Value) (W : World) : Sem.run Try.prog (callFunc 53 args) W = .ok (.enter 53 args) W := by kernel_rfl

/-- a row of locks of one's own -/
def OwnL (B : Nat) (w : World) (v : Value) (gs : List Lk) : Prop := w.ownsRow B 32 4 v gs.length (gs.flatMap encL)

theorem filter_take_succ {α : Type} (p : α → Bool) (l : List α) (j : Nat) (h : j < l.length) : (l.take (j + 1)).filter p = if p l[j] = true then (l.take j).filter p ++ [l[j]] else (l.take j).filter p := by
  rw [List.take_succ_eq_append_getElem h, List.filter_append]
  by_cases hp : p l[j] = true
  · rw [if_pos hp, List.filter_cons_of_pos hp]; rfl
  · rw [if_neg hp, List.filter_cons_of_neg hp]; simp

set_option maxHeartbeats 2000000 in
theorem wol_any (w : World) (v : Value) (gs : List Lk) (fn : Nat) (cap : Value) (p : Lk → Bool) (hf : ∀ (args : Array Value) (W : World), Sem.run Try.prog (callFunc fn args) W = .ok (.enter fn args) W) (h : RowL w v gs) (hs : ∀ g ∈ gs, LkS g) (hn : gs.length ≤ 100000)
    (hc : ∀ g ∈ gs, ∀ W, Below w.heap.size w W → Calls Try.prog fn #[lkV (g.n : Int) g.x g.y (g.m.toNat : Int), cap] W fun e w' => e = .returned (.bool (p g)) ∧ Below W.heap.size W w') :
    Calls Try.prog 18 #[v, .func (.func fn) #[] #[cap]] w fun e w' => ∃ v', e = .returned v' ∧ OwnL w.heap.size w' v' (gs.filter fun g => !p g) ∧ Below w.heap.size w w' := by
  obtain ⟨i0, hi, hz0, hz1, hz2⟩ := info_parts infoLk
  obtain ⟨va, vc, rfl, hvc, hvc2⟩ := row_slice9 h
  obtain ⟨N, hN⟩ : ∃ N, gs.length = N := ⟨_, rfl⟩
  have HV : Hid (RowL w (.slice va gs.length vc) gs) := h
  have HC : Hid (∀ g ∈ gs, ∀ W, Below w.heap.size w W → Calls Try.prog fn #[lkV (g.n : Int) g.x g.y (g.m.toNat : Int), cap] W fun e w' => e = .returned (.bool (p g)) ∧ Below W.heap.size W w') := hc
  have HS : Hid (∀ g ∈ gs, LkS g) := hs
  have HN : Hid (gs.length = N) := hN
  rw [hN] at HV hn hvc ⊢
  clear h hN hc hs
  go_enter Try.func18, Try.ntmps18
  go_wp2_with fail
  go_loopg [5, 10] N (fun gk rv iv wr => ∃ (j n' c' : Nat) (a' : Option Addr), gk + j = N ∧ iv = .int .i64 (j : Int) ∧ rv = .slice a' n' c' ∧ n' ≤ j ∧ Hid (((gs.take j).filter fun g => !p g).length = n') ∧ Hid (OwnL w.heap.size wr rv ((gs.take j).filter fun g => !p g)) ∧ Hid (Below w.heap.size w wr))
  case atStart => exact ⟨0, 0, 0, none, by omega, rfl, rfl, by omega, rfl, World.ownsRow_nil _ _ _ _, Below.refl _ _⟩
  case round =>
    obtain ⟨j, n', c', a', hj, rfl, rfl, hnj, HL, HO, HB⟩ := hrel
    by_cases hlt : j < N
    · have hlt2 : j < gs.length := by rw [HN.out]; exact hlt
      obtain ⟨b, c, e, _, c0, c1, c2, c3⟩ := (HV.out.below HB.out).at j hlt2
      rw [HN.out] at e
      cases e
      obtain ⟨q1, q2⟩ := gk_nxt hj hlt
      have hft := filter_take_succ (fun g => !p g) gs j hlt2
      have hsg := HS.out _ (List.getElem_mem hlt2)
      have hcg := HC.out _ (List.getElem_mem hlt2)
      obtain ⟨g, hg⟩ : ∃ g, gs[j] = g := ⟨_, rfl⟩
      rw [hg] at c0 c1 c2 c3 hft hsg hcg
      have hone := oneL g hsg
      obtain ⟨⟨x1, x2, x3, ex⟩, ⟨y1, y2, y3, ey⟩⟩ := hsg
      obtain ⟨gn, hgn⟩ : ∃ z : Int, (g.n : Int) = z := ⟨_, rfl⟩
      obtain ⟨gm, hgm⟩ : ∃ z : Int, (g.m.toNat : Int) = z := ⟨_, rfl⟩
      have henc : encL g = [.int .u64 gn, .slice x1 x2 x3, .slice y1 y2 y3, .int .u8 gm] := by unfold encL; rw [ex, ey, hgn, hgm]
      rw [hgn] at c0
      rw [hgm] at c3
      rw [ex] at c1
      rw [ey] at c2
      have hb0 := below_box4 wr (.cells #[.int .u64 gn, .slice x1 x2 x3, .slice y1 y2 y3, .int .u8 gm] 32)
      have hcl := hcg (wr.alloc (.cells #[.int .u64 gn, .slice x1 x2 x3, .slice y1 y2 y3, .int .u8 gm] 32)) (bsplit HB.out hb0)
      rw [ex, ey, hgn, hgm] at hcl
      unfold lkV at hcl
      have BX := box4_new wr (.int .u64 gn) (.slice x1 x2 x3) (.slice y1 y2 y3) (.int .u8 gm) 32
      have BX' := BX
      obtain ⟨z0, z1, z2, z3⟩ := BX'
      have HB0 : Hid (Below wr.heap.size wr (wr.alloc (.cells #[.int .u64 gn, .slice x1 x2 x3, .slice y1 y2 y3, .int .u8 gm] 32))) := hb0
      obtain ⟨r, hr⟩ : ∃ r, p g = r := ⟨_, rfl⟩
      rw [hr] at hcl
      have HFT : Hid ((gs.take (j + 1)).filter (fun g => !p g) = if r = true then (gs.take j).filter (fun g => !p g) else (gs.take j).filter (fun g => !p g) ++ [g]) := by
        show _ = _
        rw [hft, hr]
        cases r <;> rfl
      have HE : Hid (encL g = [.int .u64 gn, .slice x1 x2 x3, .slice y1 y2 y3, .int .u8 gm] ∧ ∀ u ∈ encL g, u.oneCell' = true) := ⟨henc, hone⟩
      clear hft hcg hg ex ey hgn hgm henc hone hb0 hr
      go_wp2_with fail
      refine hcl.mono ?_
      rintro e w2 ⟨rfl, hb2⟩
      have HB2 : Hid (Below wr.heap.size wr w2) := bsplit HB0.out hb2
      have BY := BX.below hb2 (Nat.le_refl _)
      have HO2 : Hid (OwnL w.heap.size w2 (.slice a' n' c') ((gs.take j).filter fun g => !p g)) := row_below HO.out HB2.out
      have HBW : Hid (Below w.heap.size w w2) := bsplit HB.out HB2.out
      clear hcl hb2 z0 z1 z2 z3 BX c0 c1 c2 c3
      cases r with
      | true =>
        go_wp2_with fail
        go_roundg (gk - 1)
        case measure => exact q1
        case rel => exact ⟨j + 1, n', c', a', q2, by go_num, rfl, by omega, by show _ = _; rw [HFT.out]; exact HL.out, by show OwnL _ _ _ _; rw [HFT.out]; exact HO2.out, HBW⟩
      | false =>
        obtain ⟨z0, z1, z2, z3⟩ := BY
        have hb3 := below_box4 w2 (.cells #[.int .u64 gn, .slice x1 x2 x3, .slice y1 y2 y3, .int .u8 gm] 32)
        have hrow : (w2.alloc (.cells #[.int .u64 gn, .slice x1 x2 x3, .slice y1 y2 y3, .int .u8 gm] 32)).ownsRow w.heap.size 32 4 (.slice a' n' c') n' (((gs.take j).filter fun g => !p g).flatMap encL) := by
          have := row_below HO2.out hb3
          rw [HL.out] at this
          exact this
        have hB3 := bsplit HBW.out hb3
        have hlaid := laid4 w2 (.int .u64 gn) (.slice x1 x2 x3) (.slice y1 y2 y3) (.int .u8 gm) 32
        have hone := HE.out.2
        rw [HE.out.1] at hone
        go_wp2_with (first | (at_builtin; refine wpList_append_lies _ rfl (.tmp 18) (.tmp 20) 51 rfl w.heap.size 32 i0 (.agg #[.int .u64 0, .slice none 0 0, .slice none 0 0, .int .u8 0]) 4 64 Try.underlying51 hi hz0 hz1 hz2 rfl (by decide) (.slice a' n' c') n' _ rfl hrow ⟨w2.heap.size, 0, none⟩ 1 1 [.int .u64 gn, .slice x1 x2 x3, .slice y1 y2 y3, .int .u8 gm] rfl rfl hlaid hone (by decide) (by simp only [maxLen]; omega) (by omega) hB3.size _ rfl ?_; intro g4 c4 w4 hown hgrow hat hlt4) | fail)
        have HO4 : Hid (OwnL w.heap.size w4 (.slice (some ⟨g4, 0, none⟩) (n' + 1) c4) ((gs.take (j + 1)).filter fun g => !p g)) := by
          show OwnL _ _ _ _
          rw [HFT.out, if_neg (by decide)]
          unfold OwnL
          rw [flat_snoc, HE.out.1, List.length_append, HL.out]
          exact hown
        have HL4 : Hid (((gs.take (j + 1)).filter fun g => !p g).length = n' + 1) := by show _ = _; rw [HFT.out, if_neg (by decide), List.length_append, HL.out]; rfl
        have HB4 : Hid (Below w.heap.size w w4) := hB3.grown hgrow hB3.size (fun k' e => (hrow.lt k' e).1)
        clear hrow hlaid hone hown hgrow hat hB3 hb3
        go_roundg (gk - 1)
        case measure => exact q1
        case rel => exact ⟨j + 1, n' + 1, c4, _, q2, by go_num, rfl, by omega, HL4, HO4, HB4⟩
    · have hjN : j = N := by omega
      subst hjN
      have HE : Hid ((gs.take j).filter (fun g => !p g) = gs.filter fun g => !p g) := by show _ = _; rw [← HN.out, List.take_length]
      go_wp2
      go_ret
      exact ⟨_, rfl, by rw [← HE.out]; exact HO.out, HB.out⟩

end Go.Proofs.Ythiogpojccohgaa

/- set.Without of requests. -/
namespace Go.Proofs.Ythiogpojccohgaa
set_option maxRecDepth 20000
open Go.RowKit
set_option linter.unusedVariables false
set_option linter.unusedSimpArgs false

/-- five cells in block b -/
structure Box5 (w : World) (b : Nat) (v0 v1 v2 v3 v4 : Value) : Prop where
  c0 : w.cell? ⟨b, 0, none⟩ = some v0
  c1 : w.cell? ⟨b, 1, none⟩ = some v1
  c2 : w.cell? ⟨b, 2, none⟩ = some v2
  c3 : w.cell? ⟨b, 3, none⟩ = some v3
  c4 : w.cell? ⟨b, 4, none⟩ = some v4

theorem box5_new (w : World) (v0 v1 v2 v3 v4 : Value) (t : TypeId) : Box5 (w.alloc (.cells #[v0, v1, v2, v3, v4] t)) w.heap.size v0 v1 v2 v3 v4 := by
  have h := heap_alloc_new w (.cells #[v0, v1, v2, v3, v4] t)
  have c := fun i => cell_of_row (w.alloc (.cells #[v0, v1, v2, v3, v4] t)) w.heap.size i _ t (0, 0) h
  exact ⟨by rw [c]; rfl, by rw [c]; rfl, by rw [c]; rfl, by rw [c]; rfl, by rw [c]; rfl⟩

theorem Box5.lt {w : World} {b : Nat} {v0 v1 v2 v3 v4 : Value} (h : Box5 w b v0 v1 v2 v3 v4) : b < w.heap.size := World.block_lt_of_cell? w _ h.c0

theorem Box5.below {B : Nat} {w w' : World} {b : Nat} {v0 v1 v2 v3 v4 : Value} (h : Box5 w b v0 v1 v2 v3 v4) (hb : Below B w w') (hB : w.heap.size ≤ B) : Box5 w' b v0 v1 v2 v3 v4 := by
  have hl : b < B := Nat.lt_of_lt_of_le h.lt hB
  exact ⟨by rw [hb.cell (p := ⟨b, 0, none⟩) hl]; exact h.c0, by rw [hb.cell (p := ⟨b, 1, none⟩) hl]; exact h.c1, by rw [hb.cell (p := ⟨b, 2, none⟩) hl]; exact h.c2, by rw [hb.cell (p := ⟨b, 3, none⟩) hl]; exact h.c3, by rw [hb.cell (p := ⟨b, 4, none⟩) hl]; exact h.c4⟩

theorem Box5.drew {w : World} {b : Nat} {v0 v1 v2 v3 v4 : Value} (h : Box5 w b v0 v1 v2 v3 v4) : Box5 w.drew b v0 v1 v2 v3 v4 := ⟨h.c0, h.c1, h.c2, h.c3, h.c4⟩

theorem Box5.grown {w w' : World} {b : Nat} {v0 v1 v2 v3 v4 : Value} {row : Option Nat} (h : Box5 w b v0 v1 v2 v3 v4) (hg : w.grownBy w' row) (hne : some b ≠ row) : Box5 w' b v0 v1 v2 v3 v4 := by
  have e : w'.heap[b]? = w.heap[b]? := hg.block b h.lt hne
  obtain ⟨c0, c1, c2, c3, c4⟩ := h
  exact ⟨by rw [← c0]; unfold World.cell?; rw [e], by rw [← c1]; unfold World.cell?; rw [e], by rw [← c2]; unfold World.cell?; rw [e], by rw [← c3]; unfold World.cell?; rw [e], by rw [← c4]; unfold World.cell?; rw [e]⟩

theorem laid5 (w : World) (v0 v1 v2 v3 v4 : Value) (t : TypeId) : ∀ j u, [v0, v1, v2, v3, v4][j]? = some u → (w.alloc (.cells #[v0, v1, v2, v3, v4] t)).cell? ((⟨w.heap.size, 0, none⟩ : Addr).add j) = some u := by
  intro j u hu
  rw [Addr.add_lit, Nat.zero_add]
  have hg : (w.alloc (.cells #[v0, v1, v2, v3, v4] t)).heap[w.heap.size]? = some (.cells #[v0, v1, v2, v3, v4] t) := heap_alloc_new w _
  rw [cell_of_row _ _ j _ _ _ hg]
  simpa using hu

/-- a request's value -/
def rqV (n : Int) (x y : Value) (m u : Int) : Value := .agg #[.int .u64 n, x, y, .int .u8 m, .int .u64 u]

theorem oneR (r : Rq) (h : LkS r.l) : ∀ u ∈ encR r, u.oneCell' = true := by
  obtain ⟨⟨a, n, c, e⟩, ⟨a', n', c', e'⟩⟩ := h
  intro u hu
  simp only [encR, List.mem_cons, List.not_mem_nil, or_false] at hu
  rcases hu with rfl | rfl | rfl | rfl | rfl
  · rfl
  · rw [e]; rfl
  · rw [e']; rfl
  · rfl
  · rfl

theorem ent_lv (args : Array Value) (W : World) : Sem.run Try.prog (callFunc 33 args) W = .ok (.enter 33 args) W := by kernel_rfl
theorem ent_plc (args : Array Value) (W : World) : Sem.run Try.prog (callFunc 37 args) W = .ok (.enter 37 args) W := by kernel_rfl
theorem ent_has (args : Array Value) (W : World) : Sem.run Try.prog (callFunc 40 args) W = .ok (.enter 40 args) W := by kernel_rfl
theorem ent_upg (args : Array Value) (W : World) : Sem.run Try.prog (callFunc 57 args) W = .ok (.enter 57 args) W := by kernel_rfl

/-- a row of requests of one's own -/
def OwnQ (B : Nat) (w : World) (v : Value) (gs : List Rq) : Prop := w.ownsRow B 63 5 v gs.length (gs.flatMap encR)

set_option maxHeartbeats 2000000 in
theorem woq_any (w : World) (v : Value) (gs : List Rq) (fn : Nat) (cap : Value) (p : Rq → Bool) (hf : ∀ (args : Array Value) (W : World), Sem.run Try.prog (callFunc fn args) W = .ok (.enter fn args) W) (h : RowQ w v gs) (hs : ∀ g ∈ gs, LkS g.l) (hn : gs.length ≤ 100000)
    (hc : ∀ g ∈ gs, ∀ W, Below w.heap.size w W → Calls Try.prog fn #[rqV (g.l.n : Int) g.l.x g.l.y (g.l.m.toNat : Int) (g.u : Int), cap] W fun e w' => e = .returned (.bool (p g)) ∧ Below W.heap.size W w') :
    Calls Try.prog 32 #[v, .func (.func fn) #[] #[cap]] w fun e w' => ∃ v', e = .returned v' ∧ OwnQ w.heap.size w' v' (gs.filter fun g => !p g) ∧ Below w.heap.size w w' := by
  obtain ⟨i0, hi, hz0, hz1, hz2⟩ := info_parts infoRq
  obtain ⟨va, vc, rfl, hvc, hvc2⟩ := row_slice9 h
  obtain ⟨N, hN⟩ : ∃ N, gs.length = N := ⟨_, rfl⟩
  have HV : Hid (RowQ w (.slice va gs.length vc) gs) := h
  have HC : Hid (∀ g ∈ gs, ∀ W, Below w.heap.size w W → Calls Try.prog fn #[rqV (g.l.n : Int) g.l.x g.l.y (g.l.m.toNat : Int) (g.u : Int), cap] W fun e w' => e = .returned (.bool (p g)) ∧ Below W.heap.size W w') := hc
  have HS : Hid (∀ g ∈ gs, LkS g.l) := hs
  have HN : Hid (gs.length = N) := hN
  rw [hN] at HV hn hvc ⊢
  clear h hN hc hs
  go_enter Try.func32, Try.ntmps32
  go_wp2_with fail
  go_loopg [5, 10] N (fun gk rv iv wr => ∃ (j n' c' : Nat) (a' : Option Addr), gk + j = N ∧ iv = .int .i64 (j : Int) ∧ rv = .slice a' n' c' ∧ n' ≤ j ∧ Hid (((gs.take j).filter fun g => !p g).length = n') ∧ Hid (OwnQ w.heap.size wr rv ((gs.take j).filter fun g => !p g)) ∧ Hid (Below w.heap.size w wr))
  case atStart => exact ⟨0, 0, 0, none, by omega, rfl, rfl, by omega, rfl, World.ownsRow_nil _ _ _ _, Below.refl _ _⟩
  case round =>
    obtain ⟨j, n', c', a', hj, rfl, rfl, hnj, HL, HO, HB⟩ := hrel
    by_cases hlt : j < N
    · have hlt2 : j < gs.length := by rw [HN.out]; exact hlt
      obtain ⟨b, c, e, _, c0, c1, c2, c3, c4⟩ := (HV.out.below HB.out).at j hlt2
      rw [HN.out] at e
      cases e
      obtain ⟨q1, q2⟩ := gk_nxt hj hlt
      have hft := filter_take_succ (fun g => !p g) gs j hlt2
      have hsg := HS.out _ (List.getElem_mem hlt2)
      have hcg := HC.out _ (List.getElem_mem hlt2)
      obtain ⟨g, hg⟩ : ∃ g, gs[j] = g := ⟨_, rfl⟩
      rw [hg] at c0 c1 c2 c3 c4 hft hsg hcg
      have hone := oneR g hsg
      obtain ⟨⟨x1, x2, x3, ex⟩, ⟨y1, y2, y3, ey⟩⟩ := hsg
      obtain ⟨gn, hgn⟩ : ∃ z : Int, (g.l.n : Int) = z := ⟨_, rfl⟩
      obtain ⟨gu, hgu⟩ : ∃ z : Int, (g.u : Int) = z := ⟨_, rfl⟩
      obtain ⟨gm, hgm⟩ : ∃ z : Int, (g.l.m.toNat : Int) = z := ⟨_, rfl⟩
      have henc : encR g = [.int .u64 gn, .slice x1 x2 x3, .slice y1 y2 y3, .int .u8 gm, .int .u64 gu] := by unfold encR; rw [ex, ey, hgn, hgm, hgu]
      rw [hgn] at c0
      rw [hgm] at c3
      rw [hgu] at c4
      rw [ex] at c1
      rw [ey] at c2
      have hb0 := below_box4 wr (.cells #[.int .u64 gn, .slice x1 x2 x3, .slice y1 y2 y3, .int .u8 gm, .int .u64 gu] 63)
      have hcl := hcg (wr.alloc (.cells #[.int .u64 gn, .slice x1 x2 x3, .slice y1 y2 y3, .int .u8 gm, .int .u64 gu] 63)) (bsplit HB.out hb0)
      rw [ex, ey, hgn, hgm, hgu] at hcl
      unfold rqV at hcl
      have BX := box5_new wr (.int .u64 gn) (.slice x1 x2 x3) (.slice y1 y2 y3) (.int .u8 gm) (.int .u64 gu) 63
      have BX' := BX
      obtain ⟨z0, z1, z2, z3, z4⟩ := BX'
      have HB0 : Hid (Below wr.heap.size wr (wr.alloc (.cells #[.int .u64 gn, .slice x1 x2 x3, .slice y1 y2 y3, .int .u8 gm, .int .u64 gu] 63))) := hb0
      obtain ⟨r, hr⟩ : ∃ r, p g = r := ⟨_, rfl⟩
      rw [hr] at hcl
      have HFT : Hid ((gs.take (j + 1)).filter (fun g => !p g) = if r = true then (gs.take j).filter (fun g => !p g) else (gs.take j).filter (fun g => !p g) ++ [g]) := by
        show _ = _
        rw [hft, hr]
        cases r <;> rfl
      have HE : Hid (encR g = [.int .u64 gn, .slice x1 x2 x3, .slice y1 y2 y3, .int .u8 gm, .int .u64 gu] ∧ ∀ u ∈ encR g, u.oneCell' = true) := ⟨henc, hone⟩
      clear hft hcg hg ex ey hgn hgm hgu henc hone hb0 hr
      go_wp2_with fail
      refine hcl.mono ?_
      rintro e w2 ⟨rfl, hb2⟩
      have HB2 : Hid (Below wr.heap.size wr w2) := bsplit HB0.out hb2
      have BY := BX.below hb2 (Nat.le_refl _)
      have HO2 : Hid (OwnQ w.heap.size w2 (.slice a' n' c') ((gs.take j).filter fun g => !p g)) := row_below HO.out HB2.out
      have HBW : Hid (Below w.heap.size w w2) := bsplit HB.out HB2.out
      clear hcl hb2 z0 z1 z2 z3 z4 BX c0 c1 c2 c3 c4
      cases r with
      | true =>
        go_wp2_with fail
        go_roundg (gk - 1)
        case measure => exact q1
        case rel => exact ⟨j + 1, n', c', a', q2, by go_num, rfl, by omega, by show _ = _; rw [HFT.out]; exact HL.out, by show OwnQ _ _ _ _; rw [HFT.out]; exact HO2.out, HBW⟩
      | false =>
        obtain ⟨z0, z1, z2, z3, z4⟩ := BY
        have hb3 := below_box4 w2 (.cells #[.int .u64 gn, .slice x1 x2 x3, .slice y1 y2 y3, .int .u8 gm, .int .u64 gu] 63)
        have hrow : (w2.alloc (.cells #[.int .u64 gn, .slice x1 x2 x3, .slice y1 y2 y3, .int .u8 gm, .int .u64 gu] 63)).ownsRow w.heap.size 63 5 (.slice a' n' c') n' (((gs.take j).filter fun g => !p g).flatMap encR) := by
          have := row_below HO2.out hb3
          rw [HL.out] at this
          exact this
        have hB3 := bsplit HBW.out hb3
        have hlaid := laid5 w2 (.int .u64 gn) (.slice x1 x2 x3) (.slice y1 y2 y3) (.int .u8 gm) (.int .u64 gu) 63
        have hone := HE.out.2
        rw [HE.out.1] at hone
        go_wp2_with (first | (at_builtin; refine wpList_append_lies _ rfl (.tmp 18) (.tmp 20) 52 rfl w.heap.size 63 i0 (.agg #[.int .u64 0, .slice none 0 0, .slice none 0 0, .int .u8 0, .int .u64 0]) 5 72 Try.underlying52 hi hz0 hz1 hz2 rfl (by decide) (.slice a' n' c') n' _ rfl hrow ⟨w2.heap.size, 0, none⟩ 1 1 [.int .u64 gn, .slice x1 x2 x3, .slice y1 y2 y3, .int .u8 gm, .int .u64 gu] rfl rfl hlaid hone (by decide) (by simp only [maxLen]; omega) (by omega) hB3.size _ rfl ?_; intro g4 c4 w4 hown hgrow hat hlt4) | fail)
        have HO4 : Hid (OwnQ w.heap.size w4 (.slice (some ⟨g4, 0, none⟩) (n' + 1) c4) ((gs.take (j + 1)).filter fun g => !p g)) := by
          show OwnQ _ _ _ _
          rw [HFT.out, if_neg (by decide)]
          unfold OwnQ
          rw [flat_snoc, HE.out.1, List.length_append, HL.out]
          exact hown
        have HL4 : Hid (((gs.take (j + 1)).filter fun g => !p g).length = n' + 1) := by show _ = _; rw [HFT.out, if_neg (by decide), List.length_append, HL.out]; rfl
        have HB4 : Hid (Below w.heap.size w w4) := hB3.grown hgrow hB3.size (fun k' e => (hrow.lt k' e).1)
        clear hrow hlaid hone hown hgrow hat hB3 hb3
        go_roundg (gk - 1)
        case measure => exact q1
        case rel => exact ⟨j + 1, n' + 1, c4, _, q2, by go_num, rfl, by omega, HL4, HO4, HB4⟩
    · have hjN : j = N := by omega
      subst hjN
      have HE : Hid ((gs.take j).filter (fun g => !p g) = gs.filter fun g => !p g) := by show _ = _; rw [← HN.out, List.take_length]
      go_wp2
      go_ret
      exact ⟨_, rfl, by rw [← HE.out]; exact HO.out, HB.out⟩

end Go.Proofs.Ythiogpojccohgaa

/- The functions of one lock, or request, that are handed to others. -/
namespace Go.Proofs.Ythiogpojccohgaa
set_option maxRecDepth 20000
open Go.RowKit
set_option linter.unusedVariables false
set_option linter.unusedSimpArgs false

/-- is it this one's? -/
theorem rel1_any (w : World) (n m k : Int) (a1 a2 : Option Addr) (l1 c1 l2 c2 B : Nat) (hc : w.cell? ⟨B, 0, none⟩ = some (.int .u64 k)) :
    Calls Try.prog 19 #[lkV n (.slice a1 l1 c1) (.slice a2 l2 c2) m, .pointer (some ⟨B, 0, none⟩)] w fun e w' => e = .returned (.bool (n == k)) ∧ Below w.heap.size w w' := by
  have HB : Hid (Below w.heap.size w (w.alloc (.cells #[.int .u64 n, .slice a1 l1 c1, .slice a2 l2 c2, .int .u8 m] 32))) := below_box4 w _
  have hc2 := (HB.out.cell (p := ⟨B, 0, none⟩) (World.block_lt_of_cell? _ _ hc)).trans hc
  unfold lkV
  go_enter Try.func19, Try.ntmps19
  go_wp2
  go_ret
  exact ⟨rfl, HB.out⟩

theorem of1_any (w : World) (n m k : Int) (a1 a2 : Option Addr) (l1 c1 l2 c2 B : Nat) (hc : w.cell? ⟨B, 0, none⟩ = some (.int .u64 k)) :
    Calls Try.prog 53 #[lkV n (.slice a1 l1 c1) (.slice a2 l2 c2) m, .pointer (some ⟨B, 0, none⟩)] w fun e w' => e = .returned (.bool (!(n == k))) ∧ Below w.heap.size w w' := by
  have HB : Hid (Below w.heap.size w (w.alloc (.cells #[.int .u64 n, .slice a1 l1 c1, .slice a2 l2 c2, .int .u8 m] 32))) := below_box4 w _
  have hc2 := (HB.out.cell (p := ⟨B, 0, none⟩) (World.block_lt_of_cell? _ _ hc)).trans hc
  unfold lkV
  by_cases hk : n = k
  · subst hk
    go_enter Try.func53, Try.ntmps53
    go_wp2
    go_ret
    exact ⟨by simp, HB.out⟩
  · have hb : (n == k) = false := by simpa using hk
    go_enter Try.func53, Try.ntmps53
    go_wp2
    go_ret
    exact ⟨by simp [hb, hk], HB.out⟩

theorem lv1_any (w : World) (n m u k : Int) (a1 a2 : Option Addr) (l1 c1 l2 c2 B : Nat) (hc : w.cell? ⟨B, 0, none⟩ = some (.int .u64 k)) :
    Calls Try.prog 33 #[rqV n (.slice a1 l1 c1) (.slice a2 l2 c2) m u, .pointer (some ⟨B, 0, none⟩)] w fun e w' => e = .returned (.bool (n == k)) ∧ Below w.heap.size w w' := by
  have HB : Hid (Below w.heap.size w (w.alloc (.cells #[.int .u64 n, .slice a1 l1 c1, .slice a2 l2 c2, .int .u8 m, .int .u64 u] 63))) := below_box4 w _
  have hc2 := (HB.out.cell (p := ⟨B, 0, none⟩) (World.block_lt_of_cell? _ _ hc)).trans hc
  obtain ⟨z0, z1, z2, z3, z4⟩ := box5_new w (.int .u64 n) (.slice a1 l1 c1) (.slice a2 l2 c2) (.int .u8 m) (.int .u64 u) 63
  unfold rqV
  go_enter Try.func33, Try.ntmps33
  go_wp2
  go_ret
  exact ⟨rfl, HB.out⟩

theorem plc1_any (w : World) (n m u k : Int) (a1 a2 : Option Addr) (l1 c1 l2 c2 B : Nat) (hc : w.cell? ⟨B, 0, none⟩ = some (.int .u64 k)) :
    Calls Try.prog 37 #[rqV n (.slice a1 l1 c1) (.slice a2 l2 c2) m u, .pointer (some ⟨B, 0, none⟩)] w fun e w' => e = .returned (.bool (n == k)) ∧ Below w.heap.size w w' := by
  have HB : Hid (Below w.heap.size w (w.alloc (.cells #[.int .u64 n, .slice a1 l1 c1, .slice a2 l2 c2, .int .u8 m, .int .u64 u] 63))) := below_box4 w _
  have hc2 := (HB.out.cell (p := ⟨B, 0, none⟩) (World.block_lt_of_cell? _ _ hc)).trans hc
  obtain ⟨z0, z1, z2, z3, z4⟩ := box5_new w (.int .u64 n) (.slice a1 l1 c1) (.slice a2 l2 c2) (.int .u8 m) (.int .u64 u) 63
  unfold rqV
  go_enter Try.func37, Try.ntmps37
  go_wp2
  go_ret
  exact ⟨rfl, HB.out⟩

/-- has it as much? -/
theorem has1_any (w : World) (xa ya xb yb : Value) (fa ta fb tb : List UInt8) (na ma nb mb : Int) (B : Nat) (r : Bool) (h1 : Rd w xa fa) (h2 : Rd w ya ta) (h3 : Rd w xb fb) (h4 : Rd w yb tb) (hB : Box4 w B (.int .u64 nb) xb yb (.int .u8 mb)) (hr : (decide (mb ≤ ma) && (!ltB fb fa && !pastB tb ta)) = r) :
    Calls Try.prog 40 #[lkV na xa ya ma, .pointer (some ⟨B, 0, none⟩)] w fun e w' => e = .returned (.bool r) ∧ Below w.heap.size w w' := by
  obtain ⟨a1, a2, ea⟩ := h1.len
  obtain ⟨a3, a4, eb⟩ := h2.len
  obtain ⟨a5, a6, ec⟩ := h3.len
  obtain ⟨a7, a8, ed⟩ := h4.len
  subst ea eb ec ed
  have HB : Hid (Below w.heap.size w (w.alloc (.cells #[.int .u64 na, .slice a1 fa.length a2, .slice a3 ta.length a4, .int .u8 ma] 32))) := below_box4 w _
  obtain ⟨q, hq⟩ : ∃ q, (!ltB fb fa && !pastB tb ta) = q := ⟨_, rfl⟩
  have hcv := cov_any _ _ _ _ _ fa ta fb tb na ma nb mb q (h1.below HB.out (Nat.le_refl _)) (h2.below HB.out (Nat.le_refl _)) (h3.below HB.out (Nat.le_refl _)) (h4.below HB.out (Nat.le_refl _)) hq
  obtain ⟨z0, z1, z2, z3⟩ := box4_new w (.int .u64 na) (.slice a1 fa.length a2) (.slice a3 ta.length a4) (.int .u8 ma) 32
  obtain ⟨c0, c1, c2, c3⟩ := hB.below HB.out (Nat.le_refl _)
  have HR : Hid (r = (decide (mb ≤ ma) && q)) := by show _ = _; rw [← hr, hq]
  clear h1 h2 h3 h4 hB hr hq
  unfold lkV at hcv ⊢
  by_cases hm : mb ≤ ma
  · go_enter Try.func40, Try.ntmps40
    go_wp2_with fail
    refine hcv.mono ?_
    rintro e w1 ⟨rfl, hb1⟩
    have HB1 : Hid (Below w.heap.size w w1) := bsplit HB.out hb1
    go_wp2
    go_ret
    exact ⟨by rw [HR.out]; simp [hm], HB1.out⟩
  · have HR2 : Hid (r = false) := by show _ = _; rw [HR.out]; simp [hm]
    go_enter Try.func40, Try.ntmps40
    go_wp2
    go_ret
    exact ⟨by rw [HR2.out]; rfl, HB.out⟩

theorem upg1_any (w : World) (xa ya xb yb : Value) (fa ta fb tb : List UInt8) (na ma nb mb : Int) (B : Nat) (r : Bool) (h1 : Rd w xa fa) (h2 : Rd w ya ta) (h3 : Rd w xb fb) (h4 : Rd w yb tb) (hB : Box4 w B (.int .u64 nb) xb yb (.int .u8 mb)) (hr : (belB fa tb && belB fb ta) = r) :
    Calls Try.prog 57 #[lkV na xa ya ma, .pointer (some ⟨B, 0, none⟩)] w fun e w' => e = .returned (.bool r) ∧ Below w.heap.size w w' := by
  obtain ⟨a1, a2, ea⟩ := h1.len
  obtain ⟨a3, a4, eb⟩ := h2.len
  obtain ⟨a5, a6, ec⟩ := h3.len
  obtain ⟨a7, a8, ed⟩ := h4.len
  subst ea eb ec ed
  have HB : Hid (Below w.heap.size w (w.alloc (.cells #[.int .u64 na, .slice a1 fa.length a2, .slice a3 ta.length a4, .int .u8 ma] 32))) := below_box4 w _
  have hcv := over_any _ _ _ _ _ fa ta fb tb na ma nb mb r (h1.below HB.out (Nat.le_refl _)) (h2.below HB.out (Nat.le_refl _)) (h3.below HB.out (Nat.le_refl _)) (h4.below HB.out (Nat.le_refl _)) hr
  obtain ⟨z0, z1, z2, z3⟩ := box4_new w (.int .u64 na) (.slice a1 fa.length a2) (.slice a3 ta.length a4) (.int .u8 ma) 32
  obtain ⟨c0, c1, c2, c3⟩ := hB.below HB.out (Nat.le_refl _)
  clear h1 h2 h3 h4 hB hr
  unfold lkV at hcv ⊢
  go_enter Try.func57, Try.ntmps57
  go_wp2_with fail
  refine hcv.mono ?_
  rintro e w1 ⟨rfl, hb1⟩
  have HB1 : Hid (Below w.heap.size w w1) := bsplit HB.out hb1
  go_wp2
  go_ret
  exact ⟨rfl, HB1.out⟩

end Go.Proofs.Ythiogpojccohgaa

/- slices.IndexFunc of requests, of locks; slices.ContainsFunc of locks. -/
namespace Go.Proofs.Ythiogpojccohgaa
set_option maxRecDepth 20000
open Go.RowKit
set_option linter.unusedVariables false
set_option linter.unusedSimpArgs false

/-- the first one, or -1 -/
def idxB {α : Type} (p : α → Bool) (l : List α) : Int := match l.findIdx? p with | some i => (i : Int) | none => -1

theorem idxB_at {α : Type} (p : α → Bool) (l : List α) (j : Nat) (h : j < l.length) (h1 : (l.take j).any p = false) (h2 : p l[j] = true) : idxB p l = (j : Int) := by
  have : l.findIdx? p = some j := by
    rw [List.findIdx?_eq_some_iff_getElem]
    refine ⟨h, h2, fun i hi => ?_⟩
    rw [List.any_eq_false] at h1
    exact h1 l[i] (List.mem_take_iff_getElem.2 ⟨i, by omega, rfl⟩)
  unfold idxB
  rw [this]

theorem idxB_none {α : Type} (p : α → Bool) (l : List α) (h1 : l.any p = false) : idxB p l = -1 := by
  have : l.findIdx? p = none := by
    rw [List.findIdx?_eq_none_iff]
    intro x hx
    rw [List.any_eq_false] at h1
    simpa using h1 x hx
  unfold idxB
  rw [this]

theorem idxB_any {α : Type} (p : α → Bool) (l : List α) : decide (0 ≤ idxB p l) = l.any p := by
  by_cases h : l.any p = true
  · rw [h]
    obtain ⟨x, hx, hp⟩ := List.any_eq_true.1 h
    unfold idxB
    cases h9 : l.findIdx? p with
    | none => rw [List.findIdx?_eq_none_iff] at h9; rw [h9 x hx] at hp; cases hp
    | some i => show decide ((0 : Int) ≤ (i : Int)) = true; exact decide_eq_true (by omega)
  · rw [Bool.not_eq_true] at h
    rw [h, idxB_none p l h]
    rfl

theorem any_take_succ {α : Type} (p : α → Bool) (l : List α) (j : Nat) (h : j < l.length) (h1 : (l.take j).any p = false) (h2 : p l[j] = false) : (l.take (j + 1)).any p = false := by
  rw [List.take_succ_eq_append_getElem h, List.any_append, h1]
  simp [h2]

set_option maxHeartbeats 2000000 in
theorem idxl_any (w : World) (v : Value) (gs : List Lk) (fn : Nat) (cap : Value) (p : Lk → Bool) (hf : ∀ (args : Array Value) (W : World), Sem.run Try.prog (callFunc fn args) W = .ok (.enter fn args) W) (h : RowL w v gs) (hs : ∀ g ∈ gs, LkS g) (hn : gs.length ≤ 100000)
    (hc : ∀ g ∈ gs, ∀ W, Below w.heap.size w W → Calls Try.prog fn #[lkV (g.n : Int) g.x g.y (g.m.toNat : Int), cap] W fun e w' => e = .returned (.bool (p g)) ∧ Below W.heap.size W w') :
    Calls Try.prog 52 #[v, .func (.func fn) #[] #[cap]] w fun e w' => e = .returned (.int .i64 (idxB p gs)) ∧ Below w.heap.size w w' := by
  obtain ⟨va, vc, rfl, hvc, hvc2⟩ := row_slice9 h
  obtain ⟨N, hN⟩ : ∃ N, gs.length = N := ⟨_, rfl⟩
  have HV : Hid (RowL w (.slice va gs.length vc) gs) := h
  have HC : Hid (∀ g ∈ gs, ∀ W, Below w.heap.size w W → Calls Try.prog fn #[lkV (g.n : Int) g.x g.y (g.m.toNat : Int), cap] W fun e w' => e = .returned (.bool (p g)) ∧ Below W.heap.size W w') := hc
  have HS : Hid (∀ g ∈ gs, LkS g) := hs
  have HN : Hid (gs.length = N) := hN
  rw [hN] at HV hn hvc ⊢
  clear h hN hc hs
  go_enter Try.func52, Try.ntmps52
  go_wp2_with fail
  go_loopg [8] N (fun gk iv wr => ∃ j : Nat, gk + j = N ∧ iv = .int .i64 (j : Int) ∧ Hid ((gs.take j).any p = false) ∧ Hid (Below w.heap.size w wr))
  case atStart => exact ⟨0, by omega, rfl, by show _ = _; simp, Below.refl _ _⟩
  case round =>
    obtain ⟨j, hj, rfl, HA, HB⟩ := hrel
    by_cases hlt : j < N
    · have hlt2 : j < gs.length := by rw [HN.out]; exact hlt
      obtain ⟨b, c, e, _, c0, c1, c2, c3⟩ := (HV.out.below HB.out).at j hlt2
      rw [HN.out] at e
      cases e
      obtain ⟨q1, q2⟩ := gk_nxt hj hlt
      have hsg := HS.out _ (List.getElem_mem hlt2)
      have hcg := HC.out _ (List.getElem_mem hlt2)
      have HYES : Hid (p gs[j] = true → idxB p gs = (j : Int)) := fun h9 => idxB_at p gs j hlt2 HA.out h9
      have HNO : Hid (p gs[j] = false → (gs.take (j + 1)).any p = false) := fun h9 => any_take_succ p gs j hlt2 HA.out h9
      obtain ⟨g, hg⟩ : ∃ g, gs[j] = g := ⟨_, rfl⟩
      rw [hg] at c0 c1 c2 c3 hsg hcg HYES HNO
      obtain ⟨⟨x1, x2, x3, ex⟩, ⟨y1, y2, y3, ey⟩⟩ := hsg
      obtain ⟨gn, hgn⟩ : ∃ z : Int, (g.n : Int) = z := ⟨_, rfl⟩
      obtain ⟨gm, hgm⟩ : ∃ z : Int, (g.m.toNat : Int) = z := ⟨_, rfl⟩
      rw [hgn] at c0
      rw [hgm] at c3
      rw [ex] at c1
      rw [ey] at c2
      have hcl := hcg wr HB.out
      rw [ex, ey, hgn, hgm] at hcl
      unfold lkV at hcl
      obtain ⟨r, hr⟩ : ∃ r, p g = r := ⟨_, rfl⟩
      rw [hr] at hcl HYES HNO
      clear hcg hg ex ey hgn hgm hr
      go_wp2_with fail
      refine hcl.mono ?_
      rintro e w2 ⟨rfl, hb2⟩
      have HB2 : Hid (Below w.heap.size w w2) := bsplit HB.out hb2
      clear hcl hb2 c0 c1 c2 c3
      cases r with
      | false =>
        have HN2 : Hid ((gs.take (j + 1)).any p = false) := HNO.out rfl
        go_wp2_with fail
        go_roundg (gk - 1)
        case measure => exact q1
        case rel => exact ⟨j + 1, q2, by go_num, HN2, HB2⟩
      | true =>
        have HY2 : Hid (idxB p gs = (j : Int)) := HYES.out rfl
        go_wp2_with fail
        go_wp2
        go_ret
        exact ⟨by rw [HY2.out]; rfl, HB2.out⟩
    · have hjN : j = N := by omega
      subst hjN
      have HE : Hid (idxB p gs = -1) := by
        show _ = _
        refine idxB_none p gs ?_
        have h9 := HA.out
        rw [← HN.out, List.take_length] at h9
        exact h9
      go_wp2_with fail
      go_wp2
      go_ret
      exact ⟨by rw [HE.out]; rfl, HB.out⟩

set_option maxHeartbeats 2000000 in
theorem idxq_any (w : World) (v : Value) (gs : List Rq) (fn : Nat) (cap : Value) (p : Rq → Bool) (hf : ∀ (args : Array Value) (W : World), Sem.run Try.prog (callFunc fn args) W = .ok (.enter fn args) W) (h : RowQ w v gs) (hs : ∀ g ∈ gs, LkS g.l) (hn : gs.length ≤ 100000)
    (hc : ∀ g ∈ gs, ∀ W, Below w.heap.size w W → Calls Try.prog fn #[rqV (g.l.n : Int) g.l.x g.l.y (g.l.m.toNat : Int) (g.u : Int), cap] W fun e w' => e = .returned (.bool (p g)) ∧ Below W.heap.size W w') :
    Calls Try.prog 36 #[v, .func (.func fn) #[] #[cap]] w fun e w' => e = .returned (.int .i64 (idxB p gs)) ∧ Below w.heap.size w w' := by
  obtain ⟨va, vc, rfl, hvc, hvc2⟩ := row_slice9 h
  obtain ⟨N, hN⟩ : ∃ N, gs.length = N := ⟨_, rfl⟩
  have HV : Hid (RowQ w (.slice va gs.length vc) gs) := h
  have HC : Hid (∀ g ∈ gs, ∀ W, Below w.heap.size w W → Calls Try.prog fn #[rqV (g.l.n : Int) g.l.x g.l.y (g.l.m.toNat : Int) (g.u : Int), cap] W fun e w' => e = .returned (.bool (p g)) ∧ Below W.heap.size W w') := hc
  have HS : Hid (∀ g ∈ gs, LkS g.l) := hs
  have HN : Hid (gs.length = N) := hN
  rw [hN] at HV hn hvc ⊢
  clear h hN hc hs
  go_enter Try.func36, Try.ntmps36
  go_wp2_with fail
  go_loopg [8] N (fun gk iv wr => ∃ j : Nat, gk + j = N ∧ iv = .int .i64 (j : Int) ∧ Hid ((gs.take j).any p = false) ∧ Hid (Below w.heap.size w wr))
  case atStart => exact ⟨0, by omega, rfl, by show _ = _; simp, Below.refl _ _⟩
  case round =>
    obtain ⟨j, hj, rfl, HA, HB⟩ := hrel
    by_cases hlt : j < N
    · have hlt2 : j < gs.length := by rw [HN.out]; exact hlt
      obtain ⟨b, c, e, _, c0, c1, c2, c3, c4⟩ := (HV.out.below HB.out).at j hlt2
      rw [HN.out] at e
      cases e
      obtain ⟨q1, q2⟩ := gk_nxt hj hlt
      have hsg := HS.out _ (List.getElem_mem hlt2)
      have hcg := HC.out _ (List.getElem_mem hlt2)
      have HYES : Hid (p gs[j] = true → idxB p gs = (j : Int)) := fun h9 => idxB_at p gs j hlt2 HA.out h9
      have HNO : Hid (p gs[j] = false → (gs.take (j + 1)).any p = false) := fun h9 => any_take_succ p gs j hlt2 HA.out h9
      obtain ⟨g, hg⟩ : ∃ g, gs[j] = g := ⟨_, rfl⟩
      rw [hg] at c0 c1 c2 c3 c4 hsg hcg HYES HNO
      obtain ⟨⟨x1, x2, x3, ex⟩, ⟨y1, y2, y3, ey⟩⟩ := hsg
      obtain ⟨gn, hgn⟩ : ∃ z : Int, (g.l.n : Int) = z := ⟨_, rfl⟩
      obtain ⟨gu, hgu⟩ : ∃ z : Int, (g.u : Int) = z := ⟨_, rfl⟩
      obtain ⟨gm, hgm⟩ : ∃ z : Int, (g.l.m.toNat : Int) = z := ⟨_, rfl⟩
      rw [hgn] at c0
      rw [hgm] at c3
      rw [hgu] at c4
      rw [ex] at c1
      rw [ey] at c2
      have hcl := hcg wr HB.out
      rw [ex, ey, hgn, hgm, hgu] at hcl
      unfold rqV at hcl
      obtain ⟨r, hr⟩ : ∃ r, p g = r := ⟨_, rfl⟩
      rw [hr] at hcl HYES HNO
      clear hcg hg ex ey hgn hgm hgu hr
      go_wp2_with fail
      refine hcl.mono ?_
      rintro e w2 ⟨rfl, hb2⟩
      have HB2 : Hid (Below w.heap.size w w2) := bsplit HB.out hb2
      clear hcl hb2 c0 c1 c2 c3 c4
      cases r with
      | false =>
        have HN2 : Hid ((gs.take (j + 1)).any p = false) := HNO.out rfl
        go_wp2_with fail
        go_roundg (gk - 1)
        case measure => exact q1
        case rel => exact ⟨j + 1, q2, by go_num, HN2, HB2⟩
      | true =>
        have HY2 : Hid (idxB p gs = (j : Int)) := HYES.out rfl
        go_wp2_with fail
        go_wp2
        go_ret
        exact ⟨by rw [HY2.out]; rfl, HB2.out⟩
    · have hjN : j = N := by omega
      subst hjN
      have HE : Hid (idxB p gs = -1) := by
        show _ = _
        refine idxB_none p gs ?_
        have h9 := HA.out
        rw [← HN.out, List.take_length] at h9
        exact h9
      go_wp2_with fail
      go_wp2
      go_ret
      exact ⟨by rw [HE.out]; rfl, HB.out⟩

theorem contl_any (w : World) (v : Value) (gs : List Lk) (fn : Nat) (cap : Value) (p : Lk → Bool) (hf : ∀ (args : Array Value) (W : World), Sem.run Try.prog (callFunc fn args) W = .ok (.enter fn args) W) (h : RowL w v gs) (hs : ∀ g ∈ gs, LkS g) (hn : gs.length ≤ 100000)
    (hc : ∀ g ∈ gs, ∀ W, Below w.heap.size w W → Calls Try.prog fn #[lkV (g.n : Int) g.x g.y (g.m.toNat : Int), cap] W fun e w' => e = .returned (.bool (p g)) ∧ Below W.heap.size W w') :
    Calls Try.prog 38 #[v, .func (.func fn) #[] #[cap]] w fun e w' => e = .returned (.bool (gs.any p)) ∧ Below w.heap.size w w' := by
  have hi := idxl_any w v gs fn cap p hf h hs hn hc
  obtain ⟨va, vc, rfl, hvc, hvc2⟩ := row_slice9 h
  have HP : Hid (decide (0 ≤ idxB p gs) = gs.any p) := idxB_any p gs
  obtain ⟨z, hz⟩ : ∃ z, idxB p gs = z := ⟨_, rfl⟩
  obtain ⟨N, hN⟩ : ∃ N, gs.length = N := ⟨_, rfl⟩
  rw [hz] at hi HP
  rw [hN] at hi ⊢
  clear h hz hs hc hN hn
  by_cases h0 : 0 ≤ z
  · have HP2 : Hid (gs.any p = true) := by show _ = _; rw [← HP.out]; exact decide_eq_true h0
    go_enter Try.func38, Try.ntmps38
    go_wp2_with fail
    refine hi.mono ?_
    rintro e w1 ⟨rfl, hb1⟩
    go_wp2
    go_ret
    exact ⟨by rw [HP2.out]; simp [h0], hb1⟩
  · have HP2 : Hid (gs.any p = false) := by show _ = _; rw [← HP.out]; exact decide_eq_false h0
    go_enter Try.func38, Try.ntmps38
    go_wp2_with fail
    refine hi.mono ?_
    rintro e w1 ⟨rfl, hb1⟩
    go_wp2
    go_ret
    exact ⟨by rw [HP2.out]; simp [h0], hb1⟩

end Go.Proofs.Ythiogpojccohgaa

/- The table in memory; what is read of it. -/
namespace Go.Proofs.Ythiogpojccohgaa
set_option maxRecDepth 20000
open Go.RowKit
set_option linter.unusedVariables false
set_option linter.unusedSimpArgs false

theorem one_cell (w : World) (v : Value) (t : TypeId) : (w.alloc (.cells #[v] t)).cell? ⟨w.heap.size, 0, none⟩ = some v := by
  rw [cell_of_row _ _ 0 _ _ _ (heap_alloc_new w (.cells #[v] t))]
  rfl

/-- a table's four cells -/
def BxT (w : World) (t : Nat) (mo ea : Int) (gv qv : Value) : Prop := w.heap[t]? = some (.cells #[.int .i64 mo, .int .i64 ea, gv, qv] 54 (0, 0))

theorem BxT.lt {w : World} {t : Nat} {mo ea : Int} {gv qv : Value} (h : BxT w t mo ea gv qv) : t < w.heap.size := (Array.getElem?_eq_some_iff.1 h).1
theorem BxT.c0 {w : World} {t : Nat} {mo ea : Int} {gv qv : Value} (h : BxT w t mo ea gv qv) : w.cell? ⟨t, 0, none⟩ = some (.int .i64 mo) := by simp [World.cell?, show w.heap[t]? = _ from h]
theorem BxT.c1 {w : World} {t : Nat} {mo ea : Int} {gv qv : Value} (h : BxT w t mo ea gv qv) : w.cell? ⟨t, 1, none⟩ = some (.int .i64 ea) := by simp [World.cell?, show w.heap[t]? = _ from h]
theorem BxT.c2 {w : World} {t : Nat} {mo ea : Int} {gv qv : Value} (h : BxT w t mo ea gv qv) : w.cell? ⟨t, 2, none⟩ = some gv := by simp [World.cell?, show w.heap[t]? = _ from h]
theorem BxT.c3 {w : World} {t : Nat} {mo ea : Int} {gv qv : Value} (h : BxT w t mo ea gv qv) : w.cell? ⟨t, 3, none⟩ = some qv := by simp [World.cell?, show w.heap[t]? = _ from h]
theorem BxT.f2 {w : World} {t : Nat} {mo ea : Int} {gv qv : Value} (h : BxT w t mo ea gv qv) : w.frozen? ⟨t, 2, none⟩ = false := by simp [World.frozen?, show w.heap[t]? = _ from h]
theorem BxT.f3 {w : World} {t : Nat} {mo ea : Int} {gv qv : Value} (h : BxT w t mo ea gv qv) : w.frozen? ⟨t, 3, none⟩ = false := by simp [World.frozen?, show w.heap[t]? = _ from h]
theorem BxT.set2 {w : World} {t : Nat} {mo ea : Int} {gv qv : Value} (u : Value) (h : BxT w t mo ea gv qv) : BxT (w.setCell ⟨t, 2, none⟩ u) t mo ea u qv := by
  obtain ⟨hlt, hk⟩ := Array.getElem?_eq_some_iff.1 h
  show (w.heap.modify t _)[t]? = _
  rw [Array.getElem?_eq_getElem (by rw [Array.size_modify]; exact hlt), Array.getElem_modify_self, hk]
  rfl
theorem BxT.set3 {w : World} {t : Nat} {mo ea : Int} {gv qv : Value} (u : Value) (h : BxT w t mo ea gv qv) : BxT (w.setCell ⟨t, 3, none⟩ u) t mo ea gv u := by
  obtain ⟨hlt, hk⟩ := Array.getElem?_eq_some_iff.1 h
  show (w.heap.modify t _)[t]? = _
  rw [Array.getElem?_eq_getElem (by rw [Array.size_modify]; exact hlt), Array.getElem_modify_self, hk]
  rfl
theorem BxT.new (w : World) (mo ea : Int) (gv qv : Value) : BxT (w.alloc (.cells #[.int .i64 mo, .int .i64 ea, gv, qv] 54)) w.heap.size mo ea gv qv := heap_alloc_new w _
theorem BxT.not_row {w : World} {t : Nat} {mo ea : Int} {gv qv : Value} (h : BxT w t mo ea gv qv) {e : TypeId} (hte : 54 ≠ e) {base size k : Nat} {o : Value} {xs : List Value} (hr : w.ownsRow base e size o k xs) : some t ≠ o.ownBlock := by
  rcases hr.2 with ⟨rfl, _⟩ | ⟨g, cap, cur, rfl, _, hgb, _⟩
  · simp [Value.ownBlock]
  · intro e'
    obtain rfl : t = g := by simpa [Value.ownBlock] using e'
    have := (show w.heap[t]? = _ from h).symm.trans hgb
    simp at this
    exact hte this.2
theorem BxT.below {w wr : World} {t : Nat} {mo ea : Int} {gv qv : Value} (h : BxT w t mo ea gv qv) (hb : Below w.heap.size w wr) : BxT wr t mo ea gv qv := (hb.block t h.lt).trans h

/-- the table; G has its blocks -/
structure LkAt (G : Nat → Prop) (w : World) (t : Nat) (mo ea : Int) (gs : List Lk) (qs : List Rq) (gv qv : Value) : Prop where
  bx : BxT w t mo ea gv qv
  rg : RowL w gv gs
  rq : RowQ w qv qs
  og : ∀ g ∈ gs, LkOk w g
  oq : ∀ q ∈ qs, LkOk w q.l
  gt : G t
  gg : ∀ b, gv.ownBlock = some b → G b
  gq : ∀ b, qv.ownBlock = some b → G b
  xg : ∀ g ∈ gs, ∀ b, (g.x.ownBlock = some b ∨ g.y.ownBlock = some b) → G b
  xq : ∀ q ∈ qs, ∀ b, (q.l.x.ownBlock = some b ∨ q.l.y.ownBlock = some b) → G b
  lt : ∀ b, G b → b < w.heap.size
  nu : ∀ q ∈ qs, q.u < 18446744073709551616

theorem LkOk.same {w w' : World} {g : Lk} (h : LkOk w g) (hk : ∀ b, (g.x.ownBlock = some b ∨ g.y.ownBlock = some b) → w'.heap[b]? = w.heap[b]?) : LkOk w' g :=
  ⟨ownN_same9 h.1 (fun q hq => hk q (.inl hq)), ownN_same9 h.2.1 (fun q hq => hk q (.inr hq)), h.2.2⟩

theorem LkAt.same {G : Nat → Prop} {w w' : World} {t : Nat} {mo ea : Int} {gs : List Lk} {qs : List Rq} {gv qv : Value} (h : LkAt G w t mo ea gs qs gv qv) (hs : w.heap.size ≤ w'.heap.size) (hk : ∀ b, G b → w'.heap[b]? = w.heap[b]?) : LkAt G w' t mo ea gs qs gv qv where
  bx := (hk t h.gt).trans h.bx
  rg := row_same9 h.rg (fun b hb => hk b (h.gg b hb))
  rq := row_same9 h.rq (fun b hb => hk b (h.gq b hb))
  og := fun g hg => (h.og g hg).same (fun b hb => hk b (h.xg g hg b hb))
  oq := fun q hq => (h.oq q hq).same (fun b hb => hk b (h.xq q hq b hb))
  gt := h.gt
  gg := h.gg
  gq := h.gq
  xg := h.xg
  xq := h.xq
  lt := fun b hb => Nat.lt_of_lt_of_le (h.lt b hb) hs
  nu := h.nu

theorem LkAt.below {G : Nat → Prop} {w w' : World} {t : Nat} {mo ea : Int} {gs : List Lk} {qs : List Rq} {gv qv : Value} (h : LkAt G w t mo ea gs qs gv qv) (hb : Below w.heap.size w w') : LkAt G w' t mo ea gs qs gv qv :=
  h.same hb.size (fun b hq => hb.block b (h.lt b hq))

theorem LkAt.keeps {F G : Nat → Prop} {w w' : World} {t : Nat} {mo ea : Int} {gs : List Lk} {qs : List Rq} {gv qv : Value} (h : LkAt G w t mo ea gs qs gv qv) (hk : Keeps F w w') (hF : ∀ b, G b → ¬ F b) : LkAt G w' t mo ea gs qs gv qv :=
  h.same hk.size (fun b hq => hk.block b (h.lt b hq) (hF b hq))

theorem eqT (t : Nat) : ∀ w : World, (binOp .eql 24 (.pointer (some ⟨t, 0, none⟩)) (.pointer none)).run Try.prog w = .ok (.bool false) w := fun _ => rfl

theorem beq_nat (n m : Nat) : ((n : Int) == (m : Int)) = decide (n = m) := by
  by_cases h : n = m
  · subst h; simp
  · have : ¬ (n : Int) = (m : Int) := by omega
    simp [h, this]

theorem of_any (G : Nat → Prop) (w : World) (t : Nat) (mo ea : Int) (gs : List Lk) (qs : List Rq) (gv qv : Value) (n : Nat) (h : LkAt G w t mo ea gs qs gv qv) (hn : gs.length ≤ 100000) :
    Calls Try.prog 39 #[.pointer (some ⟨t, 0, none⟩), .int .u64 (n : Int)] w fun e w' => ∃ v, e = .returned v ∧ OwnL w.heap.size w' v (ofB gs n) ∧ Below w.heap.size w w' := by
  have hb0 := below_box4 w (.cells #[.int .u64 (n : Int)] 29)
  have c2 := (h.bx.below hb0).c2
  have hcell : (w.alloc (.cells #[.int .u64 (n : Int)] 29)).cell? ⟨w.heap.size, 0, none⟩ = some (.int .u64 (n : Int)) := one_cell w _ _
  have hw := wol_any (w.alloc (.cells #[.int .u64 (n : Int)] 29)) gv gs 53 (.pointer (some ⟨w.heap.size, 0, none⟩)) (fun g => !decide (g.n = n)) ent_of (h.rg.below hb0) (fun g hg => (h.og g hg).s) hn
    (fun g hg W hW => by
      obtain ⟨⟨a1, l1, c1, e1⟩, ⟨a2, l2, c2, e2⟩⟩ := (h.og g hg).s
      have h9 := of1_any W (g.n : Int) (g.m.toNat : Int) (n : Int) a1 a2 l1 c1 l2 c2 w.heap.size ((hW.cell (p := ⟨w.heap.size, 0, none⟩) (by simp)).trans hcell)
      rw [e1, e2]
      rw [beq_nat] at h9
      exact h9)
  have HE : Hid ((gs.filter fun g => !(fun g : Lk => !decide (g.n = n)) g) = ofB gs n) := by
    show _ = _
    unfold ofB
    congr 1
    funext g
    simp
  rw [HE.out] at hw
  obtain ⟨ga, gc, eg, _⟩ := row_slice9 h.rg
  subst eg
  have HB0 : Hid (Below w.heap.size w (w.alloc (.cells #[.int .u64 (n : Int)] 29))) := hb0
  have hsz : (w.alloc (.cells #[.int .u64 (n : Int)] 29)).heap.size = w.heap.size + 1 := by simp
  obtain ⟨NL, hNL⟩ : ∃ NL, gs.length = NL := ⟨_, rfl⟩
  rw [hNL] at c2 hw
  clear h hb0 hcell hNL hn
  go_enter Try.func39, Try.ntmps39
  go_wp2_with fail
  refine hw.mono ?_
  rintro e w1 ⟨v, rfl, hv, hb1⟩
  have HV : Hid (OwnL w.heap.size w1 v (ofB gs n)) := row_mono9 hv (by rw [hsz]; omega)
  clear hw hv
  go_wp2
  go_ret
  exact ⟨_, rfl, HV.out, bsplit HB0.out hb1⟩

theorem place_any (G : Nat → Prop) (w : World) (t : Nat) (mo ea : Int) (gs : List Lk) (qs : List Rq) (gv qv : Value) (n : Nat) (h : LkAt G w t mo ea gs qs gv qv) (hn : qs.length ≤ 100000) :
    Calls Try.prog 22 #[.pointer (some ⟨t, 0, none⟩), .int .u64 (n : Int)] w fun e w' => e = .returned (.int .i64 (idxB (fun q : Rq => decide (q.l.n = n)) qs)) ∧ Below w.heap.size w w' := by
  have he := eqT t
  have hb0 := below_box4 w (.cells #[.int .u64 (n : Int)] 29)
  have c2 := (h.bx.below hb0).c3
  have hcell : (w.alloc (.cells #[.int .u64 (n : Int)] 29)).cell? ⟨w.heap.size, 0, none⟩ = some (.int .u64 (n : Int)) := one_cell w _ _
  have hw := idxq_any (w.alloc (.cells #[.int .u64 (n : Int)] 29)) qv qs 37 (.pointer (some ⟨w.heap.size, 0, none⟩)) (fun q => decide (q.l.n = n)) ent_plc (h.rq.below hb0) (fun g hg => (h.oq g hg).s) hn
    (fun g hg W hW => by
      obtain ⟨⟨a1, l1, c1, e1⟩, ⟨a2, l2, c2, e2⟩⟩ := (h.oq g hg).s
      have h9 := plc1_any W (g.l.n : Int) (g.l.m.toNat : Int) (g.u : Int) (n : Int) a1 a2 l1 c1 l2 c2 w.heap.size ((hW.cell (p := ⟨w.heap.size, 0, none⟩) (by simp)).trans hcell)
      rw [e1, e2]
      rw [beq_nat] at h9
      exact h9)
  obtain ⟨z, hz⟩ : ∃ z, idxB (fun q : Rq => decide (q.l.n = n)) qs = z := ⟨_, rfl⟩
  rw [hz] at hw ⊢
  obtain ⟨ga, gc, eg, _⟩ := row_slice9 h.rq
  subst eg
  have HB0 : Hid (Below w.heap.size w (w.alloc (.cells #[.int .u64 (n : Int)] 29))) := hb0
  obtain ⟨NL, hNL⟩ : ∃ NL, qs.length = NL := ⟨_, rfl⟩
  rw [hNL] at c2 hw
  clear h hb0 hcell hNL hn hz
  go_enter Try.func22, Try.ntmps22
  go_wp2_with fail
  refine hw.mono ?_
  rintro e w1 ⟨rfl, hb1⟩
  clear hw
  go_wp2
  go_ret
  exact ⟨rfl, bsplit HB0.out hb1⟩

/-- a row of one's own, read -/
theorem OwnL.rd {B : Nat} {w : World} {v : Value} {gs : List Lk} (h : OwnL B w v gs) : RowL w v gs := row_mono9 h (Nat.zero_le _)
theorem OwnQ.rd {B : Nat} {w : World} {v : Value} {qs : List Rq} (h : OwnQ B w v qs) : RowQ w v qs := row_mono9 h (Nat.zero_le _)

theorem has_any (G : Nat → Prop) (w : World) (t : Nat) (mo ea : Int) (gs : List Lk) (qs : List Rq) (gv qv : Value) (l : Lk) (r : Bool) (h : LkAt G w t mo ea gs qs gv qv) (hn : gs.length ≤ 100000) (hx : Rd w l.x l.f) (hy : Rd w l.y l.t) (hr : hasB gs l = r) :
    Calls Try.prog 23 #[.pointer (some ⟨t, 0, none⟩), lkV (l.n : Int) l.x l.y (l.m.toNat : Int)] w fun e w' => e = .returned (.bool r) ∧ Below w.heap.size w w' := by
  obtain ⟨a1, a2, ea⟩ := hx.len
  obtain ⟨a3, a4, eb⟩ := hy.len
  have hb0 := below_box4 w (.cells #[.int .u64 (l.n : Int), l.x, l.y, .int .u8 (l.m.toNat : Int)] 32)
  have HB0 : Hid (Below w.heap.size w (w.alloc (.cells #[.int .u64 (l.n : Int), l.x, l.y, .int .u8 (l.m.toNat : Int)] 32))) := hb0
  have BX : Hid (Box4 (w.alloc (.cells #[.int .u64 (l.n : Int), l.x, l.y, .int .u8 (l.m.toNat : Int)] 32)) w.heap.size (.int .u64 (l.n : Int)) l.x l.y (.int .u8 (l.m.toNat : Int))) := box4_new w _ _ _ _ _
  have hof := of_any G _ t mo _ gs qs gv qv l.n (h.below hb0) hn
  have HC : Hid (∀ W, Below w.heap.size w W → Box4 W w.heap.size (.int .u64 (l.n : Int)) l.x l.y (.int .u8 (l.m.toNat : Int)) → ∀ g ∈ ofB gs l.n, LkS g ∧ Calls Try.prog 40 #[lkV (g.n : Int) g.x g.y (g.m.toNat : Int), .pointer (some ⟨w.heap.size, 0, none⟩)] W fun e w' => e = .returned (.bool (decide (l.m.toNat ≤ g.m.toNat) && covB g l)) ∧ Below W.heap.size W w') := fun W hW hbx g hg => by
    have hok := (h.og g (List.mem_filter.1 hg).1).below hW
    refine ⟨hok.s, ?_⟩
    have h9 := has1_any W g.x g.y l.x l.y g.f g.t l.f l.t (g.n : Int) (g.m.toNat : Int) (l.n : Int) (l.m.toNat : Int) w.heap.size _ hok.1.rd hok.2.1.rd (hx.below hW (Nat.le_refl _)) (hy.below hW (Nat.le_refl _)) hbx rfl
    have e9 : decide ((l.m.toNat : Int) ≤ (g.m.toNat : Int)) = decide (l.m.toNat ≤ g.m.toNat) := decide_eq_decide.2 (by omega)
    rw [e9] at h9
    exact h9
  have HLN : Hid ((ofB gs l.n).length ≤ 100000) := by have := List.length_filter_le (fun g : Lk => decide (g.n = l.n)) gs; show _ ≤ _; unfold ofB; omega
  have HR : Hid ((ofB gs l.n).any (fun g => decide (l.m.toNat ≤ g.m.toNat) && covB g l) = r) := hr
  obtain ⟨⟨z0, z1, z2, z3⟩⟩ : Nonempty (Box4 (w.alloc (.cells #[.int .u64 (l.n : Int), l.x, l.y, .int .u8 (l.m.toNat : Int)] 32)) w.heap.size (.int .u64 (l.n : Int)) l.x l.y (.int .u8 (l.m.toNat : Int))) := ⟨BX.out⟩
  obtain ⟨nl, hnl⟩ : ∃ z : Int, (l.n : Int) = z := ⟨_, rfl⟩
  obtain ⟨ml, hml⟩ : ∃ z : Int, (l.m.toNat : Int) = z := ⟨_, rfl⟩
  rw [ea, eb, hnl, hml] at HB0 BX HC hof z0 z1 z2 z3
  rw [ea, eb, hnl, hml]
  clear h hx hy hb0 hr ea eb hml
  unfold lkV at HC ⊢
  go_enter Try.func23, Try.ntmps23
  go_wp2_with fail
  refine hof.mono ?_
  rintro e w1 ⟨v, rfl, hv, hb1⟩
  have HB1 : Hid (Below w.heap.size w w1) := bsplit HB0.out hb1
  have hcw := contl_any w1 v (ofB gs l.n) 40 (.pointer (some ⟨w.heap.size, 0, none⟩)) (fun g => decide (l.m.toNat ≤ g.m.toNat) && covB g l) ent_has hv.rd (fun g hg => (HC.out w1 HB1.out (BX.out.below hb1 (Nat.le_refl _)) g hg).1) HLN.out
    (fun g hg W hW => (HC.out W (bsplit HB1.out hW) ((BX.out.below hb1 (Nat.le_refl _)).below hW (Nat.le_refl _)) g hg).2)
  rw [HR.out] at hcw
  obtain ⟨va, vc, ev, _⟩ := row_slice9 hv
  subst ev
  clear hof hv hb1 z0 z1 z2 z3
  go_wp2_with fail
  refine hcw.mono ?_
  rintro e w2 ⟨rfl, hb2⟩
  clear hcw
  go_wp2
  go_ret
  exact ⟨rfl, bsplit HB1.out hb2⟩

theorem upg_any (G : Nat → Prop) (w : World) (t : Nat) (mo ea : Int) (gs : List Lk) (qs : List Rq) (gv qv : Value) (l : Lk) (r : Bool) (h : LkAt G w t mo ea gs qs gv qv) (hn : gs.length ≤ 100000) (hx : Rd w l.x l.f) (hy : Rd w l.y l.t) (hr : upgB gs l = r) :
    Calls Try.prog 46 #[.pointer (some ⟨t, 0, none⟩), lkV (l.n : Int) l.x l.y (l.m.toNat : Int)] w fun e w' => e = .returned (.bool r) ∧ Below w.heap.size w w' := by
  obtain ⟨a1, a2, ea⟩ := hx.len
  obtain ⟨a3, a4, eb⟩ := hy.len
  have hb0 := below_box4 w (.cells #[.int .u64 (l.n : Int), l.x, l.y, .int .u8 (l.m.toNat : Int)] 32)
  have HB0 : Hid (Below w.heap.size w (w.alloc (.cells #[.int .u64 (l.n : Int), l.x, l.y, .int .u8 (l.m.toNat : Int)] 32))) := hb0
  have BX : Hid (Box4 (w.alloc (.cells #[.int .u64 (l.n : Int), l.x, l.y, .int .u8 (l.m.toNat : Int)] 32)) w.heap.size (.int .u64 (l.n : Int)) l.x l.y (.int .u8 (l.m.toNat : Int))) := box4_new w _ _ _ _ _
  have hof := of_any G _ t mo _ gs qs gv qv l.n (h.below hb0) hn
  have HC : Hid (∀ W, Below w.heap.size w W → Box4 W w.heap.size (.int .u64 (l.n : Int)) l.x l.y (.int .u8 (l.m.toNat : Int)) → ∀ g ∈ ofB gs l.n, LkS g ∧ Calls Try.prog 57 #[lkV (g.n : Int) g.x g.y (g.m.toNat : Int), .pointer (some ⟨w.heap.size, 0, none⟩)] W fun e w' => e = .returned (.bool (overB g l)) ∧ Below W.heap.size W w') := fun W hW hbx g hg => by
    have hok := (h.og g (List.mem_filter.1 hg).1).below hW
    refine ⟨hok.s, ?_⟩
    exact upg1_any W g.x g.y l.x l.y g.f g.t l.f l.t (g.n : Int) (g.m.toNat : Int) (l.n : Int) (l.m.toNat : Int) w.heap.size _ hok.1.rd hok.2.1.rd (hx.below hW (Nat.le_refl _)) (hy.below hW (Nat.le_refl _)) hbx rfl
  have HLN : Hid ((ofB gs l.n).length ≤ 100000) := by have := List.length_filter_le (fun g : Lk => decide (g.n = l.n)) gs; show _ ≤ _; unfold ofB; omega
  have HR : Hid ((ofB gs l.n).any (fun g => overB g l) = r) := hr
  obtain ⟨⟨z0, z1, z2, z3⟩⟩ : Nonempty (Box4 (w.alloc (.cells #[.int .u64 (l.n : Int), l.x, l.y, .int .u8 (l.m.toNat : Int)] 32)) w.heap.size (.int .u64 (l.n : Int)) l.x l.y (.int .u8 (l.m.toNat : Int))) := ⟨BX.out⟩
  obtain ⟨nl, hnl⟩ : ∃ z : Int, (l.n : Int) = z := ⟨_, rfl⟩
  obtain ⟨ml, hml⟩ : ∃ z : Int, (l.m.toNat : Int) = z := ⟨_, rfl⟩
  rw [ea, eb, hnl, hml] at HB0 BX HC hof z0 z1 z2 z3
  rw [ea, eb, hnl, hml]
  clear h hx hy hb0 hr ea eb hml
  unfold lkV at HC ⊢
  go_enter Try.func46, Try.ntmps46
  go_wp2_with fail
  refine hof.mono ?_
  rintro e w1 ⟨v, rfl, hv, hb1⟩
  have HB1 : Hid (Below w.heap.size w w1) := bsplit HB0.out hb1
  have hcw := contl_any w1 v (ofB gs l.n) 57 (.pointer (some ⟨w.heap.size, 0, none⟩)) (fun g => overB g l) ent_upg hv.rd (fun g hg => (HC.out w1 HB1.out (BX.out.below hb1 (Nat.le_refl _)) g hg).1) HLN.out
    (fun g hg W hW => (HC.out W (bsplit HB1.out hW) ((BX.out.below hb1 (Nat.le_refl _)).below hW (Nat.le_refl _)) g hg).2)
  rw [HR.out] at hcw
  obtain ⟨va, vc, ev, _⟩ := row_slice9 hv
  subst ev
  clear hof hv hb1 z0 z1 z2 z3
  go_wp2_with fail
  refine hcw.mono ?_
  rintro e w2 ⟨rfl, hb2⟩
  clear hcw
  go_wp2
  go_ret
  exact ⟨rfl, bsplit HB1.out hb2⟩

end Go.Proofs.Ythiogpojccohgaa

/- (*locks.Table).blockers: for whom a lock waits. -/
namespace Go.Proofs.Ythiogpojccohgaa
set_option maxRecDepth 20000
open Go.RowKit Go.Maps
set_option linter.unusedVariables false
set_option linter.unusedSimpArgs false

theorem Box4.keeps {F : Nat → Prop} {w w' : World} {b : Nat} {v0 v1 v2 v3 : Value} (h : Box4 w b v0 v1 v2 v3) (hk : Keeps F w w') (hF : ¬ F b) : Box4 w' b v0 v1 v2 v3 :=
  ⟨hk.cell (p := ⟨b, 0, none⟩) hF h.c0, hk.cell (p := ⟨b, 1, none⟩) hF h.c1, hk.cell (p := ⟨b, 2, none⟩) hF h.c2, hk.cell (p := ⟨b, 3, none⟩) hF h.c3⟩

theorem mapf_succ (p : Lk → Bool) (l : List Lk) (j : Nat) (h : j < l.length) : ((l.take (j + 1)).filter p).map (·.n) = if p l[j] = true then ((l.take j).filter p).map (·.n) ++ [l[j].n] else ((l.take j).filter p).map (·.n) := by
  rw [filter_take_succ p l j h]
  split <;> simp
theorem mapr_succ (p : Rq → Bool) (l : List Rq) (j : Nat) (h : j < l.length) : ((l.take (j + 1)).filter p).map (·.l.n) = if p l[j] = true then ((l.take j).filter p).map (·.l.n) ++ [l[j].l.n] else ((l.take j).filter p).map (·.l.n) := by
  rw [filter_take_succ p l j h]
  split <;> simp
theorem mapf_len (p : Lk → Bool) (l : List Lk) (j : Nat) : (((l.take j).filter p).map (·.n)).length ≤ l.length := by
  rw [List.length_map]
  have h1 := List.length_filter_le p (l.take j)
  rw [List.length_take] at h1
  omega
theorem mapr_len (p : Rq → Bool) (l : List Rq) (j : Nat) : (((l.take j).filter p).map (·.l.n)).length ≤ l.length := by
  rw [List.length_map]
  have h1 := List.length_filter_le p (l.take j)
  rw [List.length_take] at h1
  omega

set_option maxHeartbeats 4000000 in
theorem blk_any (G : Nat → Prop) (w : World) (t : Nat) (mo ea : Int) (gs : List Lk) (qs : List Rq) (gv qv : Value) (l : Lk) (av : Value) (ah : List Rq) (h : LkAt G w t mo ea gs qs gv qv) (hn : gs.length ≤ 1000) (hx : Rd w l.x l.f) (hy : Rd w l.y l.t)
    (ha : RowQ w av ah) (hao : ∀ r ∈ ah, LkOk w r.l) (han : ah.length ≤ 1000) :
    Calls Try.prog 26 #[.pointer (some ⟨t, 0, none⟩), lkV (l.n : Int) l.x l.y (l.m.toNat : Int), av] w fun e w' => ∃ b, e = .returned (.map (some b)) ∧ MapU w' b (blkB gs ah l) ∧ w.heap.size ≤ b ∧ Below w.heap.size w w' := by
  obtain ⟨a1, a2, ex⟩ := hx.len
  obtain ⟨a3, a4, ey⟩ := hy.len
  have hb0 := below_box4 w (.cells #[.int .u64 (l.n : Int), l.x, l.y, .int .u8 (l.m.toNat : Int)] 32)
  have HB0 : Hid (Below w.heap.size w (w.alloc (.cells #[.int .u64 (l.n : Int), l.x, l.y, .int .u8 (l.m.toNat : Int)] 32))) := hb0
  have BX : Hid (Box4 (w.alloc (.cells #[.int .u64 (l.n : Int), l.x, l.y, .int .u8 (l.m.toNat : Int)] 32)) w.heap.size (.int .u64 (l.n : Int)) l.x l.y (.int .u8 (l.m.toNat : Int))) := box4_new w _ _ _ _ _
  have HL : Hid (LkAt G w t mo ea gs qs gv qv) := h
  have hof := setof_any (w.alloc (.cells #[.int .u64 (l.n : Int), l.x, l.y, .int .u8 (l.m.toNat : Int)] 32))
  have HCL : Hid (∀ W, Below w.heap.size w W → ∀ g : Lk, LkOk W g → Calls Try.prog 44 #[lkV (l.n : Int) l.x l.y (l.m.toNat : Int), lkV (g.n : Int) g.x g.y (g.m.toNat : Int)] W fun e w' => e = .returned (.bool (clB l g)) ∧ Below W.heap.size W w') := fun W hW g hg =>
    clash_any W l.x l.y g.x g.y l.f l.t g.f g.t (l.n : Int) (l.m.toNat : Int) (g.n : Int) (g.m.toNat : Int) (clB l g) (hx.below hW (Nat.le_refl _)) (hy.below hW (Nat.le_refl _)) hg.1.rd hg.2.1.rd (by unfold clB overB; rw [togB_is])
  obtain ⟨up, hup⟩ : ∃ u, upgB gs l = u := ⟨_, rfl⟩
  have HUP : Hid (∀ W, Below w.heap.size w W → Calls Try.prog 46 #[.pointer (some ⟨t, 0, none⟩), lkV (l.n : Int) l.x l.y (l.m.toNat : Int)] W fun e w' => e = .returned (.bool up) ∧ Below W.heap.size W w') := fun W hW =>
    upg_any G W t mo ea gs qs gv qv l up (h.below hW) (by omega) (hx.below hW (Nat.le_refl _)) (hy.below hW (Nat.le_refl _)) hup
  have HBK : Hid (blkB gs ah l = (gs.filter (clB l)).map (·.n) ++ if up = true then [] else (ah.filter fun r => clB l r.l).map (·.l.n)) := by show _ = _; unfold blkB; rw [hup]
  obtain ⟨ga, gc, eg, hgc, hgc2⟩ := row_slice9 h.rg
  obtain ⟨aa, ac, ea', hac, hac2⟩ := row_slice9 ha
  obtain ⟨NG, hNG⟩ : ∃ N, gs.length = N := ⟨_, rfl⟩
  obtain ⟨NA, hNA⟩ : ∃ N, ah.length = N := ⟨_, rfl⟩
  have HNG : Hid (gs.length = NG ∧ ah.length = NA) := ⟨hNG, hNA⟩
  have HA : Hid (RowQ w av ah) := ha
  have HAO : Hid (∀ r ∈ ah, LkOk w r.l) := hao
  obtain ⟨ln, hln⟩ : ∃ z : Int, (l.n : Int) = z := ⟨_, rfl⟩
  obtain ⟨lm, hlm⟩ : ∃ z : Int, (l.m.toNat : Int) = z := ⟨_, rfl⟩
  have hsz : (w.alloc (.cells #[.int .u64 (l.n : Int), l.x, l.y, .int .u8 (l.m.toNat : Int)] 32)).heap.size = w.heap.size + 1 := by simp
  rw [hsz] at hof
  rw [ex, ey, hln, hlm] at HB0 BX HCL hof HUP
  rw [ex, ey, hln, hlm]
  rw [hNG] at eg hgc hn
  rw [hNA] at ea' hac han
  subst eg ea'
  clear h hx hy hb0 hup ex ey hln hlm hNG hNA ha hao hsz
  unfold lkV at HCL HUP ⊢
  go_enter Try.func26, Try.ntmps26
  go_wp2_with fail
  refine hof.mono ?_
  rintro e w1 ⟨rfl, hm1, hb1⟩
  have HB1 : Hid (Below w.heap.size w w1) := HB0.out.trans (hb1.mono (Nat.le_succ _))
  have BX1 : Hid (Box4 w1 w.heap.size (.int .u64 ln) (.slice a1 l.f.length a2) (.slice a3 l.t.length a4) (.int .u8 lm)) := BX.out.below hb1 (by simp)
  have HM1 : Hid (MapU w1 (w.heap.size + 1) []) := hm1
  have ct2 := (HL.out.bx.below HB1.out).c2
  clear hof hm1 hb1
  go_wp2_with fail
  go_loopg [18] NG (fun gk iv wr => ∃ j : Nat, gk + j = NG ∧ iv = .int .i64 (j : Int) ∧ Hid (MapU wr (w.heap.size + 1) (((gs.take j).filter (clB l)).map (·.n))) ∧ Hid (Keeps (fun q => q = w.heap.size + 1) w1 wr))
  case atStart => exact ⟨0, by omega, rfl, HM1, Keeps.refl _ _⟩
  case round =>
    obtain ⟨j, hj, rfl, HM, HK⟩ := hrel
    have HBR : Hid (Below w.heap.size w wr) := HB1.out.trans (HK.out.below (fun i hi => by omega) HB1.out.size)
    have BXR := BX1.out.keeps HK.out (by omega)
    by_cases hlt : j < NG
    · have hlt2 : j < gs.length := by rw [HNG.out.1]; exact hlt
      obtain ⟨b, c, e, _, c0, c1, c2, c3⟩ := (HL.out.rg.below HBR.out).at j hlt2
      rw [HNG.out.1] at e
      cases e
      obtain ⟨q1, q2⟩ := gk_nxt hj hlt
      have hft := mapf_succ (clB l) gs j hlt2
      have hok := (HL.out.og _ (List.getElem_mem hlt2)).below HBR.out
      obtain ⟨g, hg⟩ : ∃ g, gs[j] = g := ⟨_, rfl⟩
      rw [hg] at c0 c1 c2 c3 hft hok
      obtain ⟨⟨x1, x2, x3, ex⟩, ⟨y1, y2, y3, ey⟩⟩ := hok.s
      have hcl := HCL.out (wr.alloc (.cells #[.int .u64 (g.n : Int), g.x, g.y, .int .u8 (g.m.toNat : Int)] 32)) (bsplit HBR.out (below_box4 wr _)) g (hok.below (below_box4 wr _))
      have BY := box4_new wr (.int .u64 (g.n : Int)) g.x g.y (.int .u8 (g.m.toNat : Int)) 32
      have hba := below_box4 wr (.cells #[.int .u64 (g.n : Int), g.x, g.y, .int .u8 (g.m.toNat : Int)] 32)
      obtain ⟨gn, hgn⟩ : ∃ z : Int, (g.n : Int) = z := ⟨_, rfl⟩
      obtain ⟨gm, hgm⟩ : ∃ z : Int, (g.m.toNat : Int) = z := ⟨_, rfl⟩
      rw [ex, ey, hgn, hgm] at hcl BY hba
      rw [hgn] at c0
      rw [hgm] at c3
      rw [ex] at c1
      rw [ey] at c2
      have HGN : Hid ((g.n : Int) = gn ∧ g.n < 18446744073709551616) := ⟨hgn, hok.2.2.1⟩
      have HB2 : Hid (Below wr.heap.size wr (wr.alloc (.cells #[.int .u64 gn, .slice x1 x2 x3, .slice y1 y2 y3, .int .u8 gm] 32))) := hba
      obtain ⟨r, hr⟩ : ∃ r, clB l g = r := ⟨_, rfl⟩
      rw [hr] at hcl hft
      have HFT : Hid (((gs.take (j + 1)).filter (clB l)).map (·.n) = if r = true then ((gs.take j).filter (clB l)).map (·.n) ++ [g.n] else ((gs.take j).filter (clB l)).map (·.n)) := hft
      have BXS := BXR.below hba (Nat.le_refl _)
      have BYS : Hid (Box4 (wr.alloc (.cells #[.int .u64 gn, .slice x1 x2 x3, .slice y1 y2 y3, .int .u8 gm] 32)) wr.heap.size (.int .u64 gn) (.slice x1 x2 x3) (.slice y1 y2 y3) (.int .u8 gm)) := BY
      obtain ⟨y0, y1', y2', y3'⟩ := BY
      obtain ⟨s0, s1, s2, s3⟩ := BXS
      clear hft hg ex ey hgn hgm hok hba hr BXR
      go_wp2_with fail
      refine hcl.mono ?_
      rintro e w2 ⟨rfl, hb2⟩
      have HB3 : Hid (Below wr.heap.size wr w2) := bsplit HB2.out hb2
      have HM2 : Hid (MapU w2 (w.heap.size + 1) (((gs.take j).filter (clB l)).map (·.n))) := HM.out.below HB3.out
      have HK2 : Hid (Keeps (fun q => q = w.heap.size + 1) w1 w2) := HK.out.trans (Below.keeps HB3.out _)
      have BY2 := BYS.out.below hb2 (Nat.le_refl _)
      clear hcl hb2 y0 y1' y2' y3' s0 s1 s2 s3 c0 c1 c2 c3 BYS
      cases r with
      | false =>
        go_wp2_with fail
        go_roundg (gk - 1)
        case measure => exact q1
        case rel => exact ⟨j + 1, q2, by go_num, by show MapU _ _ _; rw [HFT.out]; exact HM2.out, HK2⟩
      | true =>
        have HFT2 : Hid (((gs.take (j + 1)).filter (clB l)).map (·.n) = ((gs.take j).filter (clB l)).map (·.n) ++ [g.n]) := by show _ = _; rw [HFT.out, if_pos rfl]
        obtain ⟨y0, y1', y2', y3'⟩ := BY2
        have hbx := below_box4 w2 (.cells #[.int .u64 gn] 29)
        have had := setadd_any (w2.alloc (.cells #[.int .u64 gn] 29)) (w.heap.size + 1) w2.heap.size (((gs.take j).filter (clB l)).map (·.n)) g.n (HM2.out.below hbx) (by rw [HGN.out.1]; exact one_cell w2 _ _) HGN.out.2 (by have := mapf_len (clB l) gs j; rw [HNG.out.1] at this; omega)
        have HBX : Hid (Below w2.heap.size w2 (w2.alloc (.cells #[.int .u64 gn] 29))) := hbx
        clear hbx
        go_wp2_with fail
        refine had.mono ?_
        rintro e w3 ⟨rfl, hm3, hg3⟩
        have HM3 : Hid (MapU w3 (w.heap.size + 1) (((gs.take (j + 1)).filter (clB l)).map (·.n))) := by show MapU _ _ _; rw [HFT2.out]; exact hm3
        have HK3 : Hid (Keeps (fun q => q = w.heap.size + 1) w1 w3) := (HK2.out.trans (Below.keeps HBX.out _)).trans (keeps_grown hg3 (fun q e => by cases e; rfl))
        clear had hm3 hg3 y0 y1' y2' y3'
        go_wp2_with fail
        go_roundg (gk - 1)
        case measure => exact q1
        case rel => exact ⟨j + 1, q2, by go_num, HM3, HK3⟩
    · have hjN : j = NG := by omega
      subst hjN
      have HM2 : Hid (MapU wr (w.heap.size + 1) ((gs.filter (clB l)).map (·.n))) := by
        have h9 := HM.out
        rw [← HNG.out.1, List.take_length] at h9
        exact h9
      have hup := HUP.out wr HBR.out
      obtain ⟨s0, s1, s2, s3⟩ := BXR
      clear HM hj
      go_wp2_with fail
      refine hup.mono ?_
      rintro e w4 ⟨rfl, hb4⟩
      have HM4 : Hid (MapU w4 (w.heap.size + 1) ((gs.filter (clB l)).map (·.n))) := HM2.out.below hb4
      have HB4 : Hid (Below w.heap.size w w4) := bsplit HBR.out hb4
      have HK4 : Hid (Keeps (fun q => q = w.heap.size + 1) w1 w4) := HK.out.trans (Below.keeps hb4 _)
      clear hup hb4 s0 s1 s2 s3
      cases up with
      | true =>
        have HE : Hid (blkB gs ah l = (gs.filter (clB l)).map (·.n)) := by show _ = _; rw [HBK.out, if_pos rfl, List.append_nil]
        go_wp2
        go_ret
        exact ⟨_, rfl, by rw [HE.out]; exact HM4.out, by omega, HB4.out⟩
      | false =>
        obtain ⟨w5, hw5⟩ : ∃ w5, w5 = w4 := ⟨_, rfl⟩
        subst hw5
        obtain ⟨wo, hwo⟩ : ∃ wo, wo = wr := ⟨_, rfl⟩
        subst hwo
        go_wp2_with fail
        go_loopg [37] NA (fun gk iv wr => ∃ i : Nat, gk + i = NA ∧ iv = .int .i64 (i : Int) ∧ Hid (MapU wr (w.heap.size + 1) ((gs.filter (clB l)).map (·.n) ++ ((ah.take i).filter (fun r => clB l r.l)).map (·.l.n))) ∧ Hid (Keeps (fun q => q = w.heap.size + 1) w1 wr))
        case atStart => exact ⟨0, by omega, rfl, by show MapU _ _ _; simpa using HM4.out, HK4⟩
        case round =>
          obtain ⟨i, hi9, rfl, HM, HK⟩ := hrel
          have HBR : Hid (Below w.heap.size w wr) := HB1.out.trans (HK.out.below (fun i hi => by omega) HB1.out.size)
          have BXR := BX1.out.keeps HK.out (by omega)
          by_cases hlt : i < NA
          · have hlt2 : i < ah.length := by rw [HNG.out.2]; exact hlt
            obtain ⟨b, c, e, _, c0, c1, c2, c3, c4⟩ := (HA.out.below HBR.out).at i hlt2
            rw [HNG.out.2] at e
            cases e
            obtain ⟨q1, q2⟩ := gk_nxt hi9 hlt
            have hft := mapr_succ (fun r => clB l r.l) ah i hlt2
            have hok := (HAO.out _ (List.getElem_mem hlt2)).below HBR.out
            obtain ⟨g, hg⟩ : ∃ g, ah[i] = g := ⟨_, rfl⟩
            rw [hg] at c0 c1 c2 c3 c4 hft hok
            obtain ⟨⟨x1, x2, x3, ex⟩, ⟨y1, y2, y3, ey⟩⟩ := hok.s
            have hcl := HCL.out (wr.alloc (.cells #[.int .u64 (g.l.n : Int), g.l.x, g.l.y, .int .u8 (g.l.m.toNat : Int), .int .u64 (g.u : Int)] 63)) (bsplit HBR.out (below_box4 wr _)) g.l (hok.below (below_box4 wr _))
            have BY := box5_new wr (.int .u64 (g.l.n : Int)) g.l.x g.l.y (.int .u8 (g.l.m.toNat : Int)) (.int .u64 (g.u : Int)) 63
            have hba := below_box4 wr (.cells #[.int .u64 (g.l.n : Int), g.l.x, g.l.y, .int .u8 (g.l.m.toNat : Int), .int .u64 (g.u : Int)] 63)
            obtain ⟨gn, hgn⟩ : ∃ z : Int, (g.l.n : Int) = z := ⟨_, rfl⟩
            obtain ⟨gm, hgm⟩ : ∃ z : Int, (g.l.m.toNat : Int) = z := ⟨_, rfl⟩
            obtain ⟨gu, hgu⟩ : ∃ z : Int, (g.u : Int) = z := ⟨_, rfl⟩
            rw [ex, ey, hgn, hgm, hgu] at BY hba
            rw [ex, ey, hgn, hgm, hgu] at hcl
            rw [hgn] at c0
            rw [hgm] at c3
            rw [hgu] at c4
            rw [ex] at c1
            rw [ey] at c2
            have HGN : Hid ((g.l.n : Int) = gn ∧ g.l.n < 18446744073709551616) := ⟨hgn, hok.2.2.1⟩
            have HB2 : Hid (Below wr.heap.size wr (wr.alloc (.cells #[.int .u64 gn, .slice x1 x2 x3, .slice y1 y2 y3, .int .u8 gm, .int .u64 gu] 63))) := hba
            obtain ⟨r, hr⟩ : ∃ r, clB l g.l = r := ⟨_, rfl⟩
            simp only [hr] at hcl hft
            have HFT : Hid (((ah.take (i + 1)).filter (fun r => clB l r.l)).map (·.l.n) = if r = true then ((ah.take i).filter (fun r => clB l r.l)).map (·.l.n) ++ [g.l.n] else ((ah.take i).filter (fun r => clB l r.l)).map (·.l.n)) := hft
            have BXS := BXR.below hba (Nat.le_refl _)
            have BYS : Hid (Box5 (wr.alloc (.cells #[.int .u64 gn, .slice x1 x2 x3, .slice y1 y2 y3, .int .u8 gm, .int .u64 gu] 63)) wr.heap.size (.int .u64 gn) (.slice x1 x2 x3) (.slice y1 y2 y3) (.int .u8 gm) (.int .u64 gu)) := BY
            obtain ⟨y0, y1', y2', y3', y4'⟩ := BY
            obtain ⟨s0, s1, s2, s3⟩ := BXS
            clear hft hg ex ey hgn hgm hgu hok hba hr BXR
            go_wp2_with fail
            refine hcl.mono ?_
            rintro e w2 ⟨rfl, hb2⟩
            have HB3 : Hid (Below wr.heap.size wr w2) := bsplit HB2.out hb2
            have HM2 : Hid (MapU w2 (w.heap.size + 1) ((gs.filter (clB l)).map (·.n) ++ ((ah.take i).filter (fun r => clB l r.l)).map (·.l.n))) := HM.out.below HB3.out
            have HK2 : Hid (Keeps (fun q => q = w.heap.size + 1) w1 w2) := HK.out.trans (Below.keeps HB3.out _)
            have BY2 := BYS.out.below hb2 (Nat.le_refl _)
            clear hcl hb2 y0 y1' y2' y3' y4' s0 s1 s2 s3 c0 c1 c2 c3 c4 BYS
            cases r with
            | false =>
              go_wp2_with fail
              go_roundg (gk - 1)
              case measure => exact q1
              case rel => exact ⟨i + 1, q2, by go_num, by show MapU _ _ _; rw [HFT.out]; exact HM2.out, HK2⟩
            | true =>
              have HFT2 : Hid (((ah.take (i + 1)).filter (fun r => clB l r.l)).map (·.l.n) = ((ah.take i).filter (fun r => clB l r.l)).map (·.l.n) ++ [g.l.n]) := by show _ = _; rw [HFT.out, if_pos rfl]
              obtain ⟨y0, y1', y2', y3', y4'⟩ := BY2
              have hbx := below_box4 w2 (.cells #[.int .u64 gn] 29)
              have had := setadd_any (w2.alloc (.cells #[.int .u64 gn] 29)) (w.heap.size + 1) w2.heap.size ((gs.filter (clB l)).map (·.n) ++ ((ah.take i).filter (fun r => clB l r.l)).map (·.l.n)) g.l.n (HM2.out.below hbx) (by rw [HGN.out.1]; exact one_cell w2 _ _) HGN.out.2 (by
                have h8 := mapr_len (fun r => clB l r.l) ah i
                have h9 := List.length_filter_le (clB l) gs
                rw [HNG.out.1] at h9
                rw [HNG.out.2] at h8
                rw [List.length_append, List.length_map]
                omega)
              have HBX : Hid (Below w2.heap.size w2 (w2.alloc (.cells #[.int .u64 gn] 29))) := hbx
              clear hbx
              go_wp2_with fail
              refine had.mono ?_
              rintro e w3 ⟨rfl, hm3, hg3⟩
              have HM3 : Hid (MapU w3 (w.heap.size + 1) ((gs.filter (clB l)).map (·.n) ++ ((ah.take (i + 1)).filter (fun r => clB l r.l)).map (·.l.n))) := by show MapU _ _ _; rw [HFT2.out, ← List.append_assoc]; exact hm3
              have HK3 : Hid (Keeps (fun q => q = w.heap.size + 1) w1 w3) := (HK2.out.trans (Below.keeps HBX.out _)).trans (keeps_grown hg3 (fun q e => by cases e; rfl))
              clear had hm3 hg3 y0 y1' y2' y3' y4'
              go_wp2_with fail
              go_roundg (gk - 1)
              case measure => exact q1
              case rel => exact ⟨i + 1, q2, by go_num, HM3, HK3⟩
          · have hiN : i = NA := by omega
            subst hiN
            have HE : Hid (blkB gs ah l = (gs.filter (clB l)).map (·.n) ++ ((ah.take i).filter (fun r => clB l r.l)).map (·.l.n)) := by show _ = _; rw [HBK.out, if_neg (by decide), ← HNG.out.2, List.take_length]
            go_wp2
            go_ret
            exact ⟨_, rfl, by rw [HE.out]; exact HM.out, by omega, HBR.out⟩

end Go.Proofs.Ythiogpojccohgaa

/- The table as it turns: rows stored, locks and requests pushed. -/
namespace Go.Proofs.Ythiogpojccohgaa
set_option maxRecDepth 20000
open Go.RowKit Go.Maps
set_option linter.unusedVariables false
set_option linter.unusedSimpArgs false

theorem LkOk.stored {w : World} {t i : Nat} {mo ea : Int} {gv qv u : Value} {g : Lk} (h : LkOk w g) (hb : BxT w t mo ea gv qv) : LkOk (w.setCell ⟨t, i, none⟩ u) g := by
  have gen : ∀ x l, OwnN 0 w x l → OwnN 0 (w.setCell ⟨t, i, none⟩ u) x l := fun x l ho => ownN_same9 ho (fun q hq => by
    have hne : q ≠ t := fun e => by
      subst e
      rcases ho with ⟨rfl, _⟩ | ho
      · simp [Value.ownBlock] at hq
      · exact hb.not_row (e := 5) (by decide) ho.row hq.symm
    exact Below.heap_setCell w ⟨t, i, none⟩ u q hne)
  exact ⟨gen _ _ h.1, gen _ _ h.2.1, h.2.2⟩

theorem rowT_stored {w : World} {t i : Nat} {mo ea : Int} {gv qv u o : Value} {B s n : Nat} {e : TypeId} {cs : List Value} (h : w.ownsRow B e s o n cs) (hb : BxT w t mo ea gv qv) (he : 54 ≠ e) : (w.setCell ⟨t, i, none⟩ u).ownsRow B e s o n cs :=
  row_same9 h (fun q hq => Below.heap_setCell w ⟨t, i, none⟩ u q (fun e9 => by subst e9; exact hb.not_row he h hq.symm))

theorem LkOk.grown {w w' : World} {g : Lk} {B n s : Nat} {e : TypeId} {v : Value} {cs : List Value} (h : LkOk w g) (he : e ≠ 5) (hr : w.ownsRow B e s v n cs) (hg : w.grownBy w' v.ownBlock) : LkOk w' g :=
  ⟨ownN_kept h.1 he hr hg, ownN_kept h.2.1 he hr hg, h.2.2⟩

theorem BxT.grown {w w' : World} {t : Nat} {mo ea : Int} {gv qv v : Value} {B n s : Nat} {e : TypeId} {cs : List Value} (h : BxT w t mo ea gv qv) (he : 54 ≠ e) (hr : w.ownsRow B e s v n cs) (hg : w.grownBy w' v.ownBlock) : BxT w' t mo ea gv qv :=
  (hg.block t h.lt (h.not_row he hr)).trans h

/-- a new row of granted locks -/
theorem LkAt.put2 {G G' : Nat → Prop} {W : World} {t : Nat} {mo ea : Int} {gs gs' : List Lk} {qs : List Rq} {gv qv v : Value} (h : LkAt G W t mo ea gs qs gv qv) (hr : RowL W v gs') (ho : ∀ g ∈ gs', LkOk W g) (hG : ∀ b, G b → G' b) (hv : ∀ b, v.ownBlock = some b → G' b) (hx : ∀ g ∈ gs', ∀ b, (g.x.ownBlock = some b ∨ g.y.ownBlock = some b) → G' b) (hlt : ∀ b, G' b → b < W.heap.size) :
    LkAt G' (W.setCell ⟨t, 2, none⟩ v) t mo ea gs' qs v qv where
  bx := h.bx.set2 _
  rg := rowT_stored hr h.bx (by decide)
  rq := rowT_stored h.rq h.bx (by decide)
  og := fun g hg => (ho g hg).stored h.bx
  oq := fun q hq => (h.oq q hq).stored h.bx
  gt := hG _ h.gt
  gg := hv
  gq := fun b hb => hG b (h.gq b hb)
  xg := hx
  xq := fun q hq b hb => hG b (h.xq q hq b hb)
  lt := fun b hb => by simpa using hlt b hb
  nu := h.nu

/-- a new row of requests -/
theorem LkAt.put3 {G G' : Nat → Prop} {W : World} {t : Nat} {mo ea : Int} {gs : List Lk} {qs qs' : List Rq} {gv qv v : Value} (h : LkAt G W t mo ea gs qs gv qv) (hr : RowQ W v qs') (ho : ∀ q ∈ qs', LkOk W q.l) (hG : ∀ b, G b → G' b) (hv : ∀ b, v.ownBlock = some b → G' b) (hx : ∀ q ∈ qs', ∀ b, (q.l.x.ownBlock = some b ∨ q.l.y.ownBlock = some b) → G' b) (hlt : ∀ b, G' b → b < W.heap.size) (hu : ∀ q ∈ qs', q.u < 18446744073709551616) :
    LkAt G' (W.setCell ⟨t, 3, none⟩ v) t mo ea gs qs' gv v where
  bx := h.bx.set3 _
  rg := rowT_stored h.rg h.bx (by decide)
  rq := rowT_stored hr h.bx (by decide)
  og := fun g hg => (h.og g hg).stored h.bx
  oq := fun q hq => (ho q hq).stored h.bx
  gt := hG _ h.gt
  gg := fun b hb => hG b (h.gg b hb)
  gq := hv
  xg := fun g hg b hb => hG b (h.xg g hg b hb)
  xq := hx
  lt := fun b hb => by simpa using hlt b hb
  nu := hu

/-- a row of another's has grown: one that isn't the table's own -/
theorem LkAt.aside {G : Nat → Prop} {W w4 : World} {t B n : Nat} {mo ea : Int} {gs : List Lk} {qs : List Rq} {gv qv v : Value} {cs : List Value} (h : LkAt G W t mo ea gs qs gv qv) (hr : W.ownsRow B 63 5 v n cs) (hq : qv.ownBlock = none ∨ qv.ownBlock ≠ v.ownBlock) (hg : W.grownBy w4 v.ownBlock) : LkAt G w4 t mo ea gs qs gv qv where
  bx := h.bx.grown (by decide) hr hg
  rg := h.rg.kept hg (rows_ne (by decide) hr h.rg)
  rq := h.rq.kept hg hq
  og := fun g hg' => (h.og g hg').grown (by decide) hr hg
  oq := fun q hq' => (h.oq q hq').grown (by decide) hr hg
  gt := h.gt
  gg := h.gg
  gq := h.gq
  xg := h.xg
  xq := h.xq
  lt := fun b hb => Nat.lt_of_lt_of_le (h.lt b hb) hg.size
  nu := h.nu

/-- a lock more -/
theorem LkAt.push2 {G : Nat → Prop} {W w4 : World} {t B g4 c4 : Nat} {mo ea : Int} {gs : List Lk} {qs : List Rq} {gv qv : Value} (l : Lk) (h : LkAt G W t mo ea gs qs gv qv) (hl : LkOk W l) (hB : B ≤ W.heap.size) (hx : ∀ b, (l.x.ownBlock = some b ∨ l.y.ownBlock = some b) → G b ∨ B ≤ b)
    (hown : w4.ownsRow 0 32 4 (.slice (some ⟨g4, 0, none⟩) (gs.length + 1) c4) (gs.length + 1) (gs.flatMap encL ++ encL l)) (hg : W.grownBy w4 gv.ownBlock) (hat : gv.ownBlock = some g4 ∨ g4 = W.heap.size) (hlt : g4 < w4.heap.size) :
    LkAt (fun b => (G b ∨ B ≤ b) ∧ b < w4.heap.size) (w4.setCell ⟨t, 2, none⟩ (.slice (some ⟨g4, 0, none⟩) (gs.length + 1) c4)) t mo ea (gs ++ [l]) qs (.slice (some ⟨g4, 0, none⟩) (gs.length + 1) c4) qv := by
  have hs := hg.size
  have hbx : BxT w4 t mo ea gv qv := h.bx.grown (by decide) h.rg hg
  have hr : RowL w4 (.slice (some ⟨g4, 0, none⟩) (gs.length + 1) c4) (gs ++ [l]) := by
    unfold RowL
    rw [flat_snoc, List.length_append]
    exact hown
  have hxl : ∀ b, (l.x.ownBlock = some b ∨ l.y.ownBlock = some b) → b < W.heap.size := fun b hb => by
    rcases hb with hb | hb
    · exact (ownN_lt9 hl.1 b hb).2
    · exact (ownN_lt9 hl.2.1 b hb).2
  exact {
    bx := hbx.set2 _
    rg := rowT_stored hr hbx (by decide)
    rq := rowT_stored (h.rq.kept hg (rows_ne (by decide) h.rg h.rq)) hbx (by decide)
    og := fun g hg' => by
      rcases List.mem_append.1 hg' with h9 | h9
      · exact ((h.og g h9).grown (by decide) h.rg hg).stored hbx
      · rw [List.mem_singleton.1 h9]
        exact (hl.grown (by decide) h.rg hg).stored hbx
    oq := fun q hq => ((h.oq q hq).grown (by decide) h.rg hg).stored hbx
    gt := ⟨.inl h.gt, hbx.lt⟩
    gg := fun b hb => by
      simp only [Value.ownBlock, Option.some.injEq] at hb
      subst hb
      refine ⟨?_, hlt⟩
      rcases hat with h9 | h9
      · exact .inl (h.gg _ h9)
      · exact .inr (by omega)
    gq := fun b hb => ⟨.inl (h.gq b hb), Nat.lt_of_lt_of_le (h.lt b (h.gq b hb)) hs⟩
    xg := fun g hg' b hb => by
      rcases List.mem_append.1 hg' with h9 | h9
      · exact ⟨.inl (h.xg g h9 b hb), Nat.lt_of_lt_of_le (h.lt b (h.xg g h9 b hb)) hs⟩
      · rw [List.mem_singleton.1 h9] at hb
        exact ⟨hx b hb, Nat.lt_of_lt_of_le (hxl b hb) hs⟩
    xq := fun q hq b hb => ⟨.inl (h.xq q hq b hb), Nat.lt_of_lt_of_le (h.lt b (h.xq q hq b hb)) hs⟩
    lt := fun b hb => by simpa using hb.2
    nu := h.nu }

/-- a request more -/
theorem LkAt.push3 {G : Nat → Prop} {W w4 : World} {t B g4 c4 : Nat} {mo ea : Int} {gs : List Lk} {qs : List Rq} {gv qv : Value} (r : Rq) (h : LkAt G W t mo ea gs qs gv qv) (hl : LkOk W r.l) (hB : B ≤ W.heap.size) (hx : ∀ b, (r.l.x.ownBlock = some b ∨ r.l.y.ownBlock = some b) → G b ∨ B ≤ b)
    (hown : w4.ownsRow 0 63 5 (.slice (some ⟨g4, 0, none⟩) (qs.length + 1) c4) (qs.length + 1) (qs.flatMap encR ++ encR r)) (hg : W.grownBy w4 qv.ownBlock) (hat : qv.ownBlock = some g4 ∨ g4 = W.heap.size) (hlt : g4 < w4.heap.size) (hu : r.u < 18446744073709551616) :
    LkAt (fun b => (G b ∨ B ≤ b) ∧ b < w4.heap.size) (w4.setCell ⟨t, 3, none⟩ (.slice (some ⟨g4, 0, none⟩) (qs.length + 1) c4)) t mo ea gs (qs ++ [r]) gv (.slice (some ⟨g4, 0, none⟩) (qs.length + 1) c4) := by
  have hs := hg.size
  have hbx : BxT w4 t mo ea gv qv := h.bx.grown (by decide) h.rq hg
  have hr : RowQ w4 (.slice (some ⟨g4, 0, none⟩) (qs.length + 1) c4) (qs ++ [r]) := by
    unfold RowQ
    rw [flat_snoc, List.length_append]
    exact hown
  have hxl : ∀ b, (r.l.x.ownBlock = some b ∨ r.l.y.ownBlock = some b) → b < W.heap.size := fun b hb => by
    rcases hb with hb | hb
    · exact (ownN_lt9 hl.1 b hb).2
    · exact (ownN_lt9 hl.2.1 b hb).2
  exact {
    bx := hbx.set3 _
    rg := rowT_stored (h.rg.kept hg (rows_ne (by decide) h.rq h.rg)) hbx (by decide)
    rq := rowT_stored hr hbx (by decide)
    og := fun g hg' => ((h.og g hg').grown (by decide) h.rq hg).stored hbx
    oq := fun q hq => by
      rcases List.mem_append.1 hq with h9 | h9
      · exact ((h.oq q h9).grown (by decide) h.rq hg).stored hbx
      · rw [List.mem_singleton.1 h9]
        exact (hl.grown (by decide) h.rq hg).stored hbx
    gt := ⟨.inl h.gt, hbx.lt⟩
    gg := fun b hb => ⟨.inl (h.gg b hb), Nat.lt_of_lt_of_le (h.lt b (h.gg b hb)) hs⟩
    gq := fun b hb => by
      simp only [Value.ownBlock, Option.some.injEq] at hb
      subst hb
      refine ⟨?_, hlt⟩
      rcases hat with h9 | h9
      · exact .inl (h.gq _ h9)
      · exact .inr (by omega)
    xg := fun g hg' b hb => ⟨.inl (h.xg g hg' b hb), Nat.lt_of_lt_of_le (h.lt b (h.xg g hg' b hb)) hs⟩
    xq := fun q hq b hb => by
      rcases List.mem_append.1 hq with h9 | h9
      · exact ⟨.inl (h.xq q h9 b hb), Nat.lt_of_lt_of_le (h.lt b (h.xq q h9 b hb)) hs⟩
      · rw [List.mem_singleton.1 h9] at hb
        exact ⟨hx b hb, Nat.lt_of_lt_of_le (hxl b hb) hs⟩
    lt := fun b hb => by simpa using hb.2
    nu := fun q hq => by
      rcases List.mem_append.1 hq with h9 | h9
      · exact h.nu q h9
      · rw [List.mem_singleton.1 h9]; exact hu }

/-- a table by its blocks alone -/
def LkP (G : Nat → Prop) (w : World) (t : Nat) (mo ea : Int) (gs : List Lk) (qs : List Rq) : Prop := ∃ gv qv, LkAt G w t mo ea gs qs gv qv

theorem LkP.below {G : Nat → Prop} {w w' : World} {t : Nat} {mo ea : Int} {gs : List Lk} {qs : List Rq} (h : LkP G w t mo ea gs qs) (hb : Below w.heap.size w w') : LkP G w' t mo ea gs qs := by
  obtain ⟨gv, qv, h⟩ := h
  exact ⟨gv, qv, h.below hb⟩
theorem LkP.keeps {F G : Nat → Prop} {w w' : World} {t : Nat} {mo ea : Int} {gs : List Lk} {qs : List Rq} (h : LkP G w t mo ea gs qs) (hk : Keeps F w w') (hF : ∀ b, G b → ¬ F b) : LkP G w' t mo ea gs qs := by
  obtain ⟨gv, qv, h⟩ := h
  exact ⟨gv, qv, h.keeps hk hF⟩
theorem LkP.lt {G : Nat → Prop} {w : World} {t : Nat} {mo ea : Int} {gs : List Lk} {qs : List Rq} (h : LkP G w t mo ea gs qs) : ∀ b, G b → b < w.heap.size := by
  obtain ⟨gv, qv, h⟩ := h
  exact h.lt

end Go.Proofs.Ythiogpojccohgaa

/- locks.whose: whose requests these are. -/
namespace Go.Proofs.Ythiogpojccohgaa
set_option maxRecDepth 20000
open Go.RowKit Go.Maps
set_option linter.unusedVariables false
set_option linter.unusedSimpArgs false

set_option maxHeartbeats 2000000 in
theorem whose_any (w : World) (v : Value) (qs : List Rq) (h : RowQ w v qs) (hs : ∀ q ∈ qs, LkS q.l) (hn : qs.length ≤ 100000) :
    Calls Try.prog 28 #[v] w fun e w' => ∃ v', e = .returned v' ∧ OwnU w.heap.size w' v' (qs.map (·.l.n)) ∧ Below w.heap.size w w' := by
  obtain ⟨i0, hi, hz0, hz1, hz2⟩ := info_parts infoU64
  obtain ⟨va, vc, rfl, hvc, hvc2⟩ := row_slice9 h
  obtain ⟨N, hN⟩ : ∃ N, qs.length = N := ⟨_, rfl⟩
  have HV : Hid (RowQ w (.slice va qs.length vc) qs) := h
  have HS : Hid (∀ q ∈ qs, LkS q.l) := hs
  have HN : Hid (qs.length = N) := hN
  rw [hN] at HV hn hvc ⊢
  clear h hN hs
  go_enter Try.func28, Try.ntmps28
  go_wp2_with fail
  go_loopg [3, 8] N (fun gk rv iv wr => ∃ (j c' : Nat) (a' : Option Addr), gk + j = N ∧ iv = .int .i64 (j : Int) ∧ rv = .slice a' j c' ∧ Hid (OwnU w.heap.size wr rv ((qs.take j).map (·.l.n))) ∧ Hid (Below w.heap.size w wr))
  case atStart => exact ⟨0, 0, none, by omega, rfl, rfl, World.ownsRow_nil _ _ _ _, Below.refl _ _⟩
  case round =>
    obtain ⟨j, c', a', hj, rfl, rfl, HO, HB⟩ := hrel
    by_cases hlt : j < N
    · have hlt2 : j < qs.length := by rw [HN.out]; exact hlt
      obtain ⟨b, c, e, _, c0, c1, c2, c3, c4⟩ := (HV.out.below HB.out).at j hlt2
      rw [HN.out] at e
      cases e
      obtain ⟨q1, q2⟩ := gk_nxt hj hlt
      have hsg := HS.out _ (List.getElem_mem hlt2)
      have hmt : (qs.take (j + 1)).map (·.l.n) = (qs.take j).map (·.l.n) ++ [qs[j].l.n] := by rw [List.take_succ_eq_append_getElem hlt2, List.map_append]; rfl
      obtain ⟨g, hg⟩ : ∃ g, qs[j] = g := ⟨_, rfl⟩
      rw [hg] at c0 c1 c2 c3 c4 hsg hmt
      obtain ⟨⟨x1, x2, x3, ex⟩, ⟨y1, y2, y3, ey⟩⟩ := hsg
      obtain ⟨gn, hgn⟩ : ∃ z : Int, (g.l.n : Int) = z := ⟨_, rfl⟩
      obtain ⟨gm, hgm⟩ : ∃ z : Int, (g.l.m.toNat : Int) = z := ⟨_, rfl⟩
      obtain ⟨gu, hgu⟩ : ∃ z : Int, (g.u : Int) = z := ⟨_, rfl⟩
      rw [hgn] at c0
      rw [hgm] at c3
      rw [hgu] at c4
      rw [ex] at c1
      rw [ey] at c2
      have HMT : Hid ((qs.take (j + 1)).map (·.l.n) = (qs.take j).map (·.l.n) ++ [g.l.n] ∧ encN g.l.n = .int .u64 gn) := ⟨hmt, by unfold encN; rw [hgn]⟩
      have HLJ : Hid (((qs.take j).map (·.l.n)).length = j) := by show _ = _; rw [List.length_map, List.length_take]; omega
      have hba := below_box4 wr (.cells #[.int .u64 gn, .slice x1 x2 x3, .slice y1 y2 y3, .int .u8 gm, .int .u64 gu] 63)
      obtain ⟨z0, z1, z2, z3, z4⟩ := box5_new wr (.int .u64 gn) (.slice x1 x2 x3) (.slice y1 y2 y3) (.int .u8 gm) (.int .u64 gu) 63
      obtain ⟨wa, hwa⟩ : ∃ wa, wr.alloc (.cells #[.int .u64 gn, .slice x1 x2 x3, .slice y1 y2 y3, .int .u8 gm, .int .u64 gu] 63) = wa := ⟨_, rfl⟩
      have hb2 := bsplit hba (below_box4 _ (.cells #[.int .u64 gn] 29))
      have hrow : ((wr.alloc (.cells #[.int .u64 gn, .slice x1 x2 x3, .slice y1 y2 y3, .int .u8 gm, .int .u64 gu] 63)).alloc (.cells #[.int .u64 gn] 29)).ownsRow w.heap.size 29 1 (.slice a' j c') j (((qs.take j).map (·.l.n)).map encN) := by
        have h9 := row_below HO.out hb2
        rw [HLJ.out] at h9
        exact h9
      have hB2 := bsplit HB.out hb2
      have hlaid : ∀ i u, [Value.int .u64 gn][i]? = some u → ((wr.alloc (.cells #[.int .u64 gn, .slice x1 x2 x3, .slice y1 y2 y3, .int .u8 gm, .int .u64 gu] 63)).alloc (.cells #[.int .u64 gn] 29)).cell? ((⟨wr.heap.size + 1, 0, none⟩ : Addr).add i) = some u := fun i u hu => by
        have h9 := World.news_of_block (heap_alloc_new (wr.alloc (.cells #[.int .u64 gn, .slice x1 x2 x3, .slice y1 y2 y3, .int .u8 gm, .int .u64 gu] 63)) (.cells #[.int .u64 gn] 29)) i u (by simpa using hu)
        rw [show (wr.alloc (.cells #[.int .u64 gn, .slice x1 x2 x3, .slice y1 y2 y3, .int .u8 gm, .int .u64 gu] 63)).heap.size = wr.heap.size + 1 by simp] at h9
        exact h9
      clear hmt hg ex ey hgn hgm hgu hba hb2 hwa
      go_wp2_with (first | (at_builtin; refine wpList_append_lies _ rfl (.tmp 12) (.tmp 16) 36 rfl w.heap.size 29 i0 (.int .u64 0) 1 8 Try.underlying36 hi hz0 hz1 hz2 rfl (by decide) (.slice a' j c') j _ rfl hrow ⟨wr.heap.size + 1, 0, none⟩ 1 1 [.int .u64 gn] rfl rfl hlaid (by intro u hu; simp only [List.mem_singleton] at hu; subst hu; rfl) (by decide) (by simp only [maxLen]; omega) (by omega) hB2.size _ rfl ?_; intro g4 c4 w4 hown hgrow hat hlt4) | fail)
      have HO4 : Hid (OwnU w.heap.size w4 (.slice (some ⟨g4, 0, none⟩) (j + 1) c4) ((qs.take (j + 1)).map (·.l.n))) := by
        show OwnU _ _ _ _
        unfold OwnU
        rw [HMT.out.1, List.length_append, HLJ.out, List.map_append]
        simp only [List.map_cons, List.map_nil, List.length_cons, List.length_nil]
        rw [HMT.out.2]
        exact hown
      have HB4 : Hid (Below w.heap.size w w4) := hB2.grown hgrow hB2.size (fun k' e => (hrow.lt k' e).1)
      clear hrow hlaid hown hgrow hat hB2
      go_roundg (gk - 1)
      case measure => exact q1
      case rel => exact ⟨j + 1, c4, _, q2, by go_num, rfl, HO4, HB4⟩
    · have hjN : j = N := by omega
      subst hjN
      have HE : Hid ((qs.take j).map (·.l.n) = qs.map (·.l.n)) := by show _ = _; rw [← HN.out, List.take_length]
      go_wp2
      go_ret
      exact ⟨_, rfl, by rw [← HE.out]; exact HO.out, HB.out⟩

end Go.Proofs.Ythiogpojccohgaa

/- (*locks.Table).advance: who may be granted is. -/
namespace Go.Proofs.Ythiogpojccohgaa
set_option maxRecDepth 20000
open Go.RowKit Go.Maps
set_option linter.unusedVariables false
set_option linter.unusedSimpArgs false

theorem addKey_len (xs : List Lit) : ∀ acc : List Lit, acc.length ≤ (xs.foldl addKey acc).length := by
  induction xs with
  | nil => intro acc; exact Nat.le_refl _
  | cons a r ih =>
    intro acc
    rw [List.foldl_cons]
    refine Nat.le_trans ?_ (ih _)
    unfold addKey
    split
    · exact Nat.le_refl _
    · simp

theorem below_box5r (w : World) (r : Rq) : Below w.heap.size w (w.alloc (.cells #[.int .u64 (r.l.n : Int), r.l.x, r.l.y, .int .u8 (r.l.m.toNat : Int), .int .u64 (r.u : Int)] 63)) := below_box4 w _

/-- a block of cells of one kind is no row of another -/
theorem ne_row {w : World} {t : Nat} {xs : Array Value} {ty e : TypeId} {fr : Nat × Nat} (h : w.heap[t]? = some (.cells xs ty fr)) (hte : ty ≠ e) {base size k : Nat} {o : Value} {cs : List Value} (hr : w.ownsRow base e size o k cs) : some t ≠ o.ownBlock := by
  rcases hr.2 with ⟨rfl, _⟩ | ⟨g, cap, cur, rfl, _, hgb, _⟩
  · simp [Value.ownBlock]
  · intro e'
    obtain rfl : t = g := by simpa [Value.ownBlock] using e'
    have := h.symm.trans hgb
    simp at this
    exact hte this.2.1

/-- how many there are -/
def sizU (xs : List Nat) : Nat := Maps.size (setOf (DataW.agg (H := Unit) []) (xs.map litU))

theorem sizU_zero (xs : List Nat) : sizU xs = 0 ↔ xs.length = 0 := by
  unfold sizU
  rw [size_setOf _ _ (fun x hx => by obtain ⟨n, _, rfl⟩ := List.mem_map.1 hx; simp [WideAt.IsKeyLit, litU])]
  cases xs with
  | nil => simp
  | cons a r =>
    simp only [List.map_cons, List.foldl_cons, List.length_cons]
    have h := addKey_len (r.map litU) (addKey [] (litU a))
    have h1 : (addKey [] (litU a)).length = 1 := by unfold addKey; simp
    omega

theorem sizU_le (xs : List Nat) {w : World} {b : Nat} (h : MapU w b xs) : sizU xs ≤ xs.length := World.ownsMap.size_le h

/-- those that stay, those that go: they are of the queue; and how many -/
theorem advB_mem (qs : List Rq) : ∀ gs ah ps, (∀ r ∈ (advB qs gs ah ps).2.1, r ∈ ah ∨ r ∈ qs) ∧ (∀ r ∈ (advB qs gs ah ps).2.2, r ∈ ps ∨ r ∈ qs) ∧ (∀ g ∈ (advB qs gs ah ps).1, g ∈ gs ∨ ∃ r ∈ qs, g = r.l) ∧ (advB qs gs ah ps).1.length + (advB qs gs ah ps).2.1.length = gs.length + ah.length + qs.length ∧ (advB qs gs ah ps).2.2.length ≤ ps.length + qs.length := by
  induction qs with
  | nil => intro gs ah ps; simp [advB]
  | cons a r ih =>
    intro gs ah ps
    unfold advB
    split
    · obtain ⟨h1, h2, h3, h4, h5⟩ := ih (gs ++ [a.l]) ah (ps ++ [a])
      refine ⟨fun x hx => ?_, fun x hx => ?_, fun x hx => ?_, ?_, ?_⟩
      · rcases h1 x hx with h | h
        · exact .inl h
        · exact .inr (List.mem_cons_of_mem _ h)
      · rcases h2 x hx with h | h
        · rcases List.mem_append.1 h with h | h
          · exact .inl h
          · rw [List.mem_singleton.1 h]; exact .inr List.mem_cons_self
        · exact .inr (List.mem_cons_of_mem _ h)
      · rcases h3 x hx with h | ⟨q, hq, h⟩
        · rcases List.mem_append.1 h with h | h
          · exact .inl h
          · rw [List.mem_singleton.1 h]; exact .inr ⟨a, List.mem_cons_self, rfl⟩
        · exact .inr ⟨q, List.mem_cons_of_mem _ hq, h⟩
      · rw [List.length_append] at h4; simp only [List.length_cons, List.length_nil] at h4 ⊢; omega
      · rw [List.length_append] at h5; simp only [List.length_cons, List.length_nil] at h5 ⊢; omega
    · obtain ⟨h1, h2, h3, h4, h5⟩ := ih gs (ah ++ [a]) ps
      refine ⟨fun x hx => ?_, fun x hx => ?_, fun x hx => ?_, ?_, ?_⟩
      · rcases h1 x hx with h | h
        · rcases List.mem_append.1 h with h | h
          · exact .inl h
          · rw [List.mem_singleton.1 h]; exact .inr List.mem_cons_self
        · exact .inr (List.mem_cons_of_mem _ h)
      · rcases h2 x hx with h | h
        · exact .inl h
        · exact .inr (List.mem_cons_of_mem _ h)
      · rcases h3 x hx with h | ⟨q, hq, h⟩
        · exact .inl h
        · exact .inr ⟨q, List.mem_cons_of_mem _ hq, h⟩
      · rw [List.length_append] at h4; simp only [List.length_cons, List.length_nil] at h4 ⊢; omega
      · simp only [List.length_cons] at h5 ⊢; omega

/-- the round's relation -/
structure AdvI (G : Nat → Prop) (w wr : World) (t : Nat) (mo ea : Int) (gs : List Lk) (qs : List Rq) (qv av pv : Value) (gs' : List Lk) (ah ps : List Rq) : Prop where
  at_ : ∃ Gj gvj, LkAt Gj wr t mo ea gs' qs gvj qv ∧ ∀ b, Gj b → G b ∨ w.heap.size ≤ b
  oa : OwnQ w.heap.size wr av ah
  op : OwnQ w.heap.size wr pv ps
  ap : av.ownBlock = none ∨ pv.ownBlock = none ∨ av.ownBlock ≠ pv.ownBlock
  kp : Keeps G w wr

theorem AdvI.below {G : Nat → Prop} {w wr w2 : World} {t : Nat} {mo ea : Int} {gs gs' : List Lk} {qs ah ps : List Rq} {qv av pv : Value} (h : AdvI G w wr t mo ea gs qs qv av pv gs' ah ps) (hb : Below wr.heap.size wr w2) : AdvI G w w2 t mo ea gs qs qv av pv gs' ah ps := by
  obtain ⟨⟨Gj, gvj, h1, h2⟩, h3, h4, h5, h6⟩ := h
  exact ⟨⟨Gj, gvj, h1.below hb, h2⟩, row_below h3 hb, row_below h4 hb, h5, h6.trans (Below.keeps hb _)⟩

theorem kept_own {w w' : World} {B B' n m s s' : Nat} {e e' : TypeId} {v x : Value} {cs ds : List Value} (h : w.ownsRow B' e' s' x m ds) (hr : w.ownsRow B e s v n cs) (hne : x.ownBlock = none ∨ v.ownBlock = none ∨ x.ownBlock ≠ v.ownBlock) (hg : w.grownBy w' v.ownBlock) : w'.ownsRow B' e' s' x m ds := by
  refine h.kept hg ?_
  rcases hne with h9 | h9 | h9
  · exact .inl h9
  · cases hx : x.ownBlock with
    | none => exact .inl rfl
    | some b => right; rw [h9]; simp
  · exact .inr h9

/-- the ahead row has grown -/
theorem AdvI.stay {G : Nat → Prop} {w W w4 : World} {t g4 c4 : Nat} {mo ea : Int} {gs gs' : List Lk} {qs ah ps : List Rq} {qv av pv : Value} (r : Rq) (h : AdvI G w W t mo ea gs qs qv av pv gs' ah ps) (hqv : ∀ b, qv.ownBlock = some b → b < w.heap.size)
    (hown : w4.ownsRow w.heap.size 63 5 (.slice (some ⟨g4, 0, none⟩) (ah.length + 1) c4) (ah.length + 1) (ah.flatMap encR ++ encR r)) (hg : W.grownBy w4 av.ownBlock) (hat : av.ownBlock = some g4 ∨ g4 = W.heap.size) : AdvI G w w4 t mo ea gs qs qv (.slice (some ⟨g4, 0, none⟩) (ah.length + 1) c4) pv gs' (ah ++ [r]) ps := by
  obtain ⟨⟨Gj, gvj, h1, h2⟩, h3, h4, h5, h6⟩ := h
  refine ⟨⟨Gj, gvj, h1.aside h3 ?_ hg, h2⟩, ?_, kept_own h4 h3 ?_ hg, ?_, h6.then (keeps_grown (F := fun b => av.ownBlock = some b) hg (fun q hq => hq)) (fun i hi => .inr (h3.lt i hi).1)⟩
  · cases hq : qv.ownBlock with
    | none => exact .inl rfl
    | some b =>
      right
      intro e
      have := (h3.lt b e.symm).1
      have := hqv b hq
      omega
  · unfold OwnQ
    rw [flat_snoc, List.length_append]
    exact hown
  · rcases h5 with h9 | h9 | h9
    · exact .inr (.inl h9)
    · exact .inl h9
    · exact .inr (.inr fun e => h9 e.symm)
  · cases hp : pv.ownBlock with
    | none => exact .inr (.inl rfl)
    | some b =>
      right; right
      intro e
      have e2 : g4 = b := by simpa [Value.ownBlock] using e
      rcases hat with h9 | h9
      · rcases h5 with h8 | h8 | h8
        · rw [h8] at h9; cases h9
        · rw [h8] at hp; cases hp
        · exact h8 (by rw [h9, hp, e2])
      · have := (h4.lt b hp).2
        omega

/-- the other row has grown -/
theorem AdvI.pass {G : Nat → Prop} {w W w4 : World} {t g4 c4 : Nat} {mo ea : Int} {gs gs' : List Lk} {qs ah ps : List Rq} {qv av pv : Value} (r : Rq) (h : AdvI G w W t mo ea gs qs qv av pv gs' ah ps) (hqv : ∀ b, qv.ownBlock = some b → b < w.heap.size)
    (hown : w4.ownsRow w.heap.size 63 5 (.slice (some ⟨g4, 0, none⟩) (ps.length + 1) c4) (ps.length + 1) (ps.flatMap encR ++ encR r)) (hg : W.grownBy w4 pv.ownBlock) (hat : pv.ownBlock = some g4 ∨ g4 = W.heap.size) : AdvI G w w4 t mo ea gs qs qv av (.slice (some ⟨g4, 0, none⟩) (ps.length + 1) c4) gs' ah (ps ++ [r]) := by
  have h' : AdvI G w W t mo ea gs qs qv pv av gs' ps ah := ⟨h.at_, h.op, h.oa, by rcases h.ap with h9 | h9 | h9; exact .inr (.inl h9); exact .inl h9; exact .inr (.inr fun e => h9 e.symm), h.kp⟩
  have h2 := h'.stay r hqv hown hg hat
  exact ⟨h2.at_, h2.op, h2.oa, by rcases h2.ap with h9 | h9 | h9; exact .inr (.inl h9); exact .inl h9; exact .inr (.inr fun e => h9 e.symm), h2.kp⟩

/-- one more is granted -/
theorem AdvI.grant {G Gj : Nat → Prop} {w W w4 : World} {t g4 c4 : Nat} {mo ea : Int} {gs gs' : List Lk} {qs ah ps : List Rq} {qv av pv gvj : Value} (r : Rq) (hr : r ∈ qs) (hk : Keeps G w W) (hj : LkAt Gj W t mo ea gs' qs gvj qv) (hsub : ∀ b, Gj b → G b ∨ w.heap.size ≤ b)
    (oa : OwnQ w.heap.size W av ah) (op : OwnQ w.heap.size W pv ps) (ap : av.ownBlock = none ∨ pv.ownBlock = none ∨ av.ownBlock ≠ pv.ownBlock)
    (hown : w4.ownsRow 0 32 4 (.slice (some ⟨g4, 0, none⟩) (gs'.length + 1) c4) (gs'.length + 1) (gs'.flatMap encL ++ encL r.l)) (hg : W.grownBy w4 gvj.ownBlock) (hat : gvj.ownBlock = some g4 ∨ g4 = W.heap.size) (hlt : g4 < w4.heap.size) :
    AdvI G w (w4.setCell ⟨t, 2, none⟩ (.slice (some ⟨g4, 0, none⟩) (gs'.length + 1) c4)) t mo ea gs qs qv av pv (gs' ++ [r.l]) ah ps := by
  have hs := hk.size
  have hn := hj.push2 (B := W.heap.size) r.l (hj.oq r hr) (Nat.le_refl _) (fun b hb => .inl (hj.xq r hr b hb)) hown hg hat hlt
  have hbx : BxT w4 t mo ea gvj qv := hj.bx.grown (by decide) hj.rg hg
  have hown2 : ∀ x rs, OwnQ w.heap.size W x rs → OwnQ w.heap.size (w4.setCell ⟨t, 2, none⟩ (.slice (some ⟨g4, 0, none⟩) (gs'.length + 1) c4)) x rs := fun x rs h => rowT_stored (World.ownsRow.kept h hg (rows_ne (by decide) hj.rg h)) hbx (by decide)
  refine ⟨⟨_, _, hn, fun b hb => ?_⟩, hown2 _ _ oa, hown2 _ _ op, ap, ?_⟩
  · rcases hb.1 with h9 | h9
    · exact hsub b h9
    · exact .inr (by omega)
  · refine (hk.then (keeps_grown (F := fun b => gvj.ownBlock = some b) hg (fun q hq => hq)) (fun i hi => hsub i (hj.gg i hi))).then (F' := fun b => b = t) ?_ (fun i hi => ?_)
    · exact (Keeps.refl (fun b => b = t) w4).setCell (p := ⟨t, 2, none⟩) (show t = t from rfl) _
    · rw [hi]; exact hsub t hj.gt

end Go.Proofs.Ythiogpojccohgaa

/- (*locks.Table).advance, walked. -/
namespace Go.Proofs.Ythiogpojccohgaa
set_option maxRecDepth 100000
open Go.RowKit Go.Maps
set_option linter.unusedVariables false
set_option linter.unusedSimpArgs false

/-- what a call leaves that lets requests through -/
def AdvPost (G : Nat → Prop) (w : World) (t : Nat) (mo ea : Int) (gs : List Lk) (qs : List Rq) (e : Ending) (w' : World) : Prop :=
  ∃ v, e = .returned v ∧ OwnU w.heap.size w' v ((advB qs gs [] []).2.2.map (·.l.n)) ∧ Keeps G w w' ∧ ∃ G', LkP G' w' t mo ea (advB qs gs [] []).1 (advB qs gs [] []).2.1 ∧ ∀ b, G' b → G b ∨ w.heap.size ≤ b

set_option maxHeartbeats 8000000 in
theorem adv_any (G : Nat → Prop) (w : World) (t : Nat) (mo ea : Int) (gs : List Lk) (qs : List Rq) (h : LkP G w t mo ea gs qs) (hn : gs.length + qs.length ≤ 1000) :
    Calls Try.prog 34 #[.pointer (some ⟨t, 0, none⟩)] w (AdvPost G w t mo ea gs qs) := by
  obtain ⟨i0, hi, hz0, hz1, hz2⟩ := info_parts infoLk
  obtain ⟨j0, hj0, hy0, hy1, hy2⟩ := info_parts infoRq
  obtain ⟨gv, qv, h⟩ := h
  have HL : Hid (LkAt G w t mo ea gs qs gv qv) := h
  obtain ⟨qa, qc, eq, hqc, hqc2⟩ := row_slice9 h.rq
  obtain ⟨N, hN⟩ : ∃ N, qs.length = N := ⟨_, rfl⟩
  have HN : Hid (qs.length = N) := hN
  have c3 := h.bx.c3
  rw [hN] at eq hn hqc
  subst eq
  have HNN : Hid (gs.length + N ≤ 1000) := hn
  clear h hN hn
  go_enter Try.func34, Try.ntmps34
  go_wp2_with fail
  go_loopg [3, 4, 12] N (fun gk av pv iv wr => ∃ (j na ca np cp : Nat) (aa pa : Option Addr), gk + j = N ∧ iv = .int .i64 (j : Int) ∧ av = .slice aa na ca ∧ pv = .slice pa np cp ∧ na ≤ j ∧ np ≤ j ∧ Hid ((advB (qs.take j) gs [] []).2.1.length = na ∧ (advB (qs.take j) gs [] []).2.2.length = np) ∧ Hid (AdvI G w wr t mo ea gs qs (.slice qa N qc) av pv (advB (qs.take j) gs [] []).1 (advB (qs.take j) gs [] []).2.1 (advB (qs.take j) gs [] []).2.2))
  case atStart => exact ⟨0, 0, 0, 0, 0, none, none, by omega, rfl, rfl, rfl, by omega, by omega, ⟨rfl, rfl⟩, ⟨⟨G, gv, HL.out, fun b hb => .inl hb⟩, World.ownsRow_nil _ _ _ _, World.ownsRow_nil _ _ _ _, .inl rfl, Keeps.refl _ _⟩⟩
  case round =>
    obtain ⟨j, na, ca, np, cp, aa, pa, hj, rfl, rfl, rfl, hnaj, hnpj, HLN, HI⟩ := hrel
    by_cases hlt : j < N
    · have hlt2 : j < qs.length := by rw [HN.out]; exact hlt
      obtain ⟨q1, q2⟩ := gk_nxt hj hlt
      obtain ⟨⟨Gj, gvj, hat, hsub⟩, oa, op, hap, hkp⟩ := HI.out
      obtain ⟨m1, m2, m3, m4, m5⟩ := advB_mem (qs.take j) gs [] []
      have hsn := advB_snoc (qs.take j) qs[j] gs [] []
      rw [← List.take_succ_eq_append_getElem hlt2] at hsn
      have hmemj : qs[j] ∈ qs := List.getElem_mem hlt2
      obtain ⟨b, c, e, _, c0, c1, c2, c3', c4⟩ := hat.rq.at j hlt2
      rw [HN.out] at e
      cases e
      obtain ⟨gs1, hgs1⟩ : ∃ x, (advB (qs.take j) gs [] []).1 = x := ⟨_, rfl⟩
      obtain ⟨ah1, hah1⟩ : ∃ x, (advB (qs.take j) gs [] []).2.1 = x := ⟨_, rfl⟩
      obtain ⟨ps1, hps1⟩ : ∃ x, (advB (qs.take j) gs [] []).2.2 = x := ⟨_, rfl⟩
      rw [hgs1, hah1, hps1] at hsn
      rw [hgs1] at hat m3 m4
      rw [hah1] at oa m1 m4 HLN
      rw [hps1] at op m2 m5 HLN
      have HI1 : Hid (AdvI G w wr t mo ea gs qs (.slice (some ⟨b, 0, none⟩) N qc) (.slice aa na ca) (.slice pa np cp) gs1 ah1 ps1) := ⟨⟨Gj, gvj, hat, hsub⟩, oa, op, hap, hkp⟩
      obtain ⟨r, hg⟩ : ∃ r, qs[j] = r := ⟨_, rfl⟩
      rw [hg] at c0 c1 c2 c3' c4 hsn hmemj
      have HRM : Hid (r ∈ qs) := hmemj
      have hok := hat.oq r hmemj
      have hru := hat.nu r hmemj
      obtain ⟨⟨x1, x2, x3, ex⟩, ⟨y1, y2, y3, ey⟩⟩ := hok.s
      have hlen : gs1.length ≤ 1000 ∧ ah1.length ≤ 1000 ∧ gs1.length + ah1.length ≤ 1000 := by
        have := HNN.out
        simp only [List.length_nil, List.length_take] at m4
        omega
      have hba := below_box5r wr r
      have hbk := blk_any Gj _ t mo ea gs1 qs gvj (.slice (some ⟨b, 0, none⟩) N qc) r.l (.slice aa na ca) ah1 (hat.below hba) hlen.1 (hok.below hba).1.rd (hok.below hba).2.1.rd (row_below oa.rd hba) (fun q hq => by
        rcases m1 q hq with h9 | h9
        · cases h9
        · exact (hat.oq q (List.mem_of_mem_take h9)).below hba) hlen.2.1
      have BY := box5_new wr (.int .u64 (r.l.n : Int)) r.l.x r.l.y (.int .u8 (r.l.m.toNat : Int)) (.int .u64 (r.u : Int)) 63
      obtain ⟨gn, hgn⟩ : ∃ z : Int, (r.l.n : Int) = z := ⟨_, rfl⟩
      obtain ⟨gm, hgm⟩ : ∃ z : Int, (r.l.m.toNat : Int) = z := ⟨_, rfl⟩
      obtain ⟨gu, hgu⟩ : ∃ z : Int, (r.u : Int) = z := ⟨_, rfl⟩
      have henc : encL r.l = [.int .u64 gn, .slice x1 x2 x3, .slice y1 y2 y3, .int .u8 gm] := by unfold encL; rw [ex, ey, hgn, hgm]
      have hencR : encR r = [.int .u64 gn, .slice x1 x2 x3, .slice y1 y2 y3, .int .u8 gm, .int .u64 gu] := by unfold encR; rw [ex, ey, hgn, hgm, hgu]
      have HE : Hid ((encL r.l = [.int .u64 gn, .slice x1 x2 x3, .slice y1 y2 y3, .int .u8 gm] ∧ ∀ u ∈ encL r.l, u.oneCell' = true) ∧ encR r = [.int .u64 gn, .slice x1 x2 x3, .slice y1 y2 y3, .int .u8 gm, .int .u64 gu] ∧ ∀ u ∈ encR r, u.oneCell' = true) := ⟨⟨henc, oneL _ hok.s⟩, hencR, oneR _ hok.s⟩
      rw [ex, ey, hgn, hgm, hgu] at hbk BY hba
      rw [hgn] at c0
      rw [hgm] at c3'
      rw [hgu] at c4
      rw [ex] at c1
      rw [ey] at c2
      unfold lkV at hbk
      have HB0 : Hid (Below wr.heap.size wr (wr.alloc (.cells #[.int .u64 gn, .slice x1 x2 x3, .slice y1 y2 y3, .int .u8 gm, .int .u64 gu] 63))) := hba
      obtain ⟨XS, hXS⟩ : ∃ XS, blkB gs1 ah1 r.l = XS := ⟨_, rfl⟩
      rw [hXS] at hbk hsn
      have HSN : Hid (advB (qs.take (j + 1)) gs [] [] = if XS.length = 0 then (gs1 ++ [r.l], ah1, ps1 ++ [r]) else (gs1, ah1 ++ [r], ps1)) := hsn
      have HLEN : Hid (gs1.length ≤ 1000 ∧ ah1.length ≤ 1000) := ⟨hlen.1, hlen.2.1⟩
      have hct2 := (hat.bx.below hba).c2
      have HTY0 : Hid ((wr.alloc (.cells #[.int .u64 gn, .slice x1 x2 x3, .slice y1 y2 y3, .int .u8 gm, .int .u64 gu] 63)).heap[wr.heap.size]? = some (.cells #[.int .u64 gn, .slice x1 x2 x3, .slice y1 y2 y3, .int .u8 gm, .int .u64 gu] 63 (0, 0))) := heap_alloc_new wr _
      have HBYS : Hid (Box5 (wr.alloc (.cells #[.int .u64 gn, .slice x1 x2 x3, .slice y1 y2 y3, .int .u8 gm, .int .u64 gu] 63)) wr.heap.size (.int .u64 gn) (.slice x1 x2 x3) (.slice y1 y2 y3) (.int .u8 gm) (.int .u64 gu)) := BY
      obtain ⟨z0, z1, z2, z3, z4⟩ := BY
      clear hgs1 hah1 hps1 hsn m1 m2 m3 m4 m5 hat hsub oa op hap hkp hg hmemj hok hru ex ey hgn hgm hgu henc hencR hlen hba hXS HI
      go_wp2_with fail
      refine hbk.mono ?_
      rintro e w2 ⟨mb, rfl, hmu, _, hb2⟩
      have HI2 : Hid (AdvI G w w2 t mo ea gs qs (.slice (some ⟨b, 0, none⟩) N qc) (.slice aa na ca) (.slice pa np cp) gs1 ah1 ps1) := (HI1.out.below HB0.out).below hb2
      have BY2 := HBYS.out.below hb2 (Nat.le_refl _)
      have HMU : Hid (MapU w2 mb XS) := hmu
      have HTY : Hid (w2.heap[wr.heap.size]? = some (.cells #[.int .u64 gn, .slice x1 x2 x3, .slice y1 y2 y3, .int .u8 gm, .int .u64 gu] 63 (0, 0))) := (hb2.block _ (Array.getElem?_eq_some_iff.1 HTY0.out).1).trans HTY0.out
      have hsz : XS.length = 0 ↔ sizU XS = 0 := (sizU_zero XS).symm
      obtain ⟨SZ, hSZ⟩ : ∃ s, sizU XS = s := ⟨_, rfl⟩
      have HSZ : Hid (XS.length = 0 ↔ SZ = 0) := by show _ ↔ _; rw [← hSZ]; exact hsz
      have HSE : Hid (Maps.size (setOf (DataW.agg (H := Unit) []) (XS.map litU)) = SZ) := hSZ
      clear hbk hmu hb2 z0 z1 z2 z3 z4 c0 c1 c2 c3' c4 hct2 HI1 hsz hSZ HBYS
      have HLA : Hid (ah1.length = na ∧ ps1.length = np) := HLN.out
      have hb3 := below_box4 w2 (.cells #[.int .u64 gn, .slice x1 x2 x3, .slice y1 y2 y3, .int .u8 gm, .int .u64 gu] 63)
      have hlaid := laid5 w2 (.int .u64 gn) (.slice x1 x2 x3) (.slice y1 y2 y3) (.int .u8 gm) (.int .u64 gu) 63
      have honeR := HE.out.2.2
      rw [HE.out.2.1] at honeR
      have HQV : Hid (∀ bb, (Value.slice (some ⟨b, 0, none⟩) N qc).ownBlock = some bb → bb < w.heap.size) := fun bb hbb => HL.out.lt bb (HL.out.gq bb hbb)
      by_cases h0 : SZ = 0
      · have HX0 : Hid (XS.length = 0) := HSZ.out.2 h0
        have hs1 : advB (qs.take (j + 1)) gs [] [] = (gs1 ++ [r.l], ah1, ps1 ++ [r]) := by rw [HSN.out, if_pos HX0.out]
        have HS1 : Hid (advB (qs.take (j + 1)) gs [] [] = (gs1 ++ [r.l], ah1, ps1 ++ [r])) := hs1
        subst h0
        obtain ⟨⟨Gj, gvj, hat, hsub⟩, oa, op, hap, hkp⟩ := HI2.out
        obtain ⟨ga, gc, eg, hgc, hgc2⟩ := row_slice9 hat.rg
        obtain ⟨NG, hNG⟩ : ∃ n, gs1.length = n := ⟨_, rfl⟩
        have HNG : Hid (gs1.length = NG) := hNG
        rw [hNG] at eg hgc
        subst eg
        have HAT : Hid (LkAt Gj w2 t mo ea gs1 qs (.slice ga NG gc) (.slice (some ⟨b, 0, none⟩) N qc) ∧ ∀ b, Gj b → G b ∨ w.heap.size ≤ b) := ⟨hat, hsub⟩
        have hbl := (below_box4 w2 (.cells #[.int .u64 gn, .slice x1 x2 x3, .slice y1 y2 y3, .int .u8 gm] 32)).drew
        have tb : w2.drew.cell? ⟨t, 2, none⟩ = some (.slice ga NG gc) := hat.bx.c2
        have tc := (hbl.cell (p := ⟨t, 2, none⟩) hat.bx.lt).trans hat.bx.c2
        have hrow : ((w2.alloc (.cells #[.int .u64 gn, .slice x1 x2 x3, .slice y1 y2 y3, .int .u8 gm] 32)).drew).ownsRow 0 32 4 (.slice ga NG gc) NG (gs1.flatMap encL) := by
          have h9 := hat.rg.below hbl
          unfold RowL at h9
          rw [hNG] at h9
          exact h9
        have hlaidL : ∀ j u, [Value.int .u64 gn, .slice x1 x2 x3, .slice y1 y2 y3, .int .u8 gm][j]? = some u → (w2.alloc (.cells #[.int .u64 gn, .slice x1 x2 x3, .slice y1 y2 y3, .int .u8 gm] 32)).drew.cell? ((⟨w2.heap.size, 0, none⟩ : Addr).add j) = some u := laid4 w2 (.int .u64 gn) (.slice x1 x2 x3) (.slice y1 y2 y3) (.int .u8 gm) 32
        have honeL := HE.out.1.2
        rw [HE.out.1.1] at honeL
        have HBL : Hid (Below w2.heap.size w2 (w2.alloc (.cells #[.int .u64 gn, .slice x1 x2 x3, .slice y1 y2 y3, .int .u8 gm] 32)).drew) := hbl
        have hngI : NG ≤ 1000 := by have := HLEN.out.1; omega
        have B2D := BY2.drew
        have HBYW : Hid (Box5 w2 wr.heap.size (.int .u64 gn) (.slice x1 x2 x3) (.slice y1 y2 y3) (.int .u8 gm) (.int .u64 gu)) := BY2
        obtain ⟨z0, z1, z2, z3, z4⟩ := B2D
        have HWRL : Hid (wr.heap.size < w2.heap.size) := BY2.lt
        clear hs1 hb3 hlaid HSN hat hsub oa op hap hkp hNG hbl BY2
        go_upto_region 7 with (first
          | (at_len; refine wpList_len_own _ rfl _ 60 rfl 29 87 Try.underlying60 _ mb XS.length _ rfl HMU.out ?_; rw [HSE.out])
          | fail)
        go_cut [] (fun wx => Hid (∃ g4 c4, AdvI G w wx t mo ea gs qs (.slice (some ⟨b, 0, none⟩) N qc) (.slice aa na ca) (.slice pa np cp) (gs1 ++ [r.l]) ah1 ps1 ∧ Box5 wx wr.heap.size (.int .u64 gn) (.slice x1 x2 x3) (.slice y1 y2 y3) (.int .u8 gm) (.int .u64 gu) ∧ g4 = c4))
        case first =>
          go_region_law
            (first
              | (refine step_append_lies _ rfl (.tmp 31) (.tmp 34) 51 rfl 0 32 i0 (.agg #[.int .u64 0, .slice none 0 0, .slice none 0 0, .int .u8 0]) 4 64 Try.underlying51 hi hz0 hz1 hz2 rfl (by decide) (.slice ga NG gc) NG _ rfl hrow ⟨w2.heap.size, 0, none⟩ 1 1 [.int .u64 gn, .slice x1 x2 x3, .slice y1 y2 y3, .int .u8 gm] rfl rfl hlaidL honeL (by decide) (by simp only [maxLen]; omega) (by omega) (Nat.zero_le _) _ rfl ?_
                 intro g4 c4 w4 hown hgrow hat4 hlt4
                 have HX4 : Hid (AdvI G w (w4.setCell ⟨t, 2, none⟩ (.slice (some ⟨g4, 0, none⟩) (NG + 1) c4)) t mo ea gs qs (.slice (some ⟨b, 0, none⟩) N qc) (.slice aa na ca) (.slice pa np cp) (gs1 ++ [r.l]) ah1 ps1 ∧ Box5 (w4.setCell ⟨t, 2, none⟩ (.slice (some ⟨g4, 0, none⟩) (NG + 1) c4)) wr.heap.size (.int .u64 gn) (.slice x1 x2 x3) (.slice y1 y2 y3) (.int .u8 gm) (.int .u64 gu)) := by
                   have h9 := hown
                   rw [← HE.out.1.1, ← HNG.out] at h9
                   have hj3 := HAT.out.1.below HBL.out
                   have hi3 := HI2.out.below HBL.out
                   have hbk9 : (w2.alloc (.cells #[.int .u64 gn, .slice x1 x2 x3, .slice y1 y2 y3, .int .u8 gm] 32)).drew.heap[wr.heap.size]? = some (.cells #[.int .u64 gn, .slice x1 x2 x3, .slice y1 y2 y3, .int .u8 gm, .int .u64 gu] 63 (0, 0)) := (HBL.out.block _ HWRL.out).trans HTY.out
                   have hne := ne_row hbk9 (by decide) hrow
                   have hbt := hj3.bx.grown (by decide) hrow hgrow
                   have hbk4 : w4.heap[wr.heap.size]? = some (.cells #[.int .u64 gn, .slice x1 x2 x3, .slice y1 y2 y3, .int .u8 gm, .int .u64 gu] 63 (0, 0)) := (hgrow.block _ (Nat.lt_of_lt_of_le HWRL.out HBL.out.size) hne).trans hbk9
                   have htn : wr.heap.size ≠ t := fun e => by
                     have h7 := hbt
                     unfold BxT at h7
                     rw [← e, hbk4] at h7
                     simp at h7
                   have hgr := AdvI.grant (gs := gs) r HRM.out hi3.kp hj3 HAT.out.2 hi3.oa hi3.op hi3.ap (by rw [HNG.out] at h9 ⊢; exact h9) hgrow hat4 hlt4
                   rw [HNG.out] at hgr
                   refine ⟨hgr, ?_⟩
                   have hb5 := (HBYW.out.below HBL.out (Nat.le_refl _)).grown hgrow hne
                   exact ⟨(cell_other _ _ _ _ htn).trans hb5.c0, (cell_other _ _ _ _ htn).trans hb5.c1, (cell_other _ _ _ _ htn).trans hb5.c2, (cell_other _ _ _ _ htn).trans hb5.c3, (cell_other _ _ _ _ htn).trans hb5.c4⟩
                 have t4 : w4.cell? ⟨t, 2, none⟩ = some (.slice ga NG gc) ∧ w4.frozen? ⟨t, 2, none⟩ = false := by
                   have hb9 := (HAT.out.1.bx.below HBL.out).grown (by decide) hrow hgrow
                   exact ⟨hb9.c2, hb9.f2⟩
                 obtain ⟨t4, f4⟩ := t4
                 clear hown hgrow hat4 hlt4)
              | fail)
          all_goals
            go_wp2_with fail
            go_meet
            exact ⟨0, 0, HX4.out.1, HX4.out.2, rfl⟩
        case rest =>
          obtain ⟨W5, hW5⟩ : ∃ W5, W5 = wc := ⟨_, rfl⟩
          subst hW5
          obtain ⟨_, _, hx1, hx2, _⟩ := hcut.out
          have HX4 : Hid (AdvI G w W5 t mo ea gs qs (.slice (some ⟨b, 0, none⟩) N qc) (.slice aa na ca) (.slice pa np cp) (gs1 ++ [r.l]) ah1 ps1 ∧ Box5 W5 wr.heap.size (.int .u64 gn) (.slice x1 x2 x3) (.slice y1 y2 y3) (.int .u8 gm) (.int .u64 gu)) := ⟨hx1, hx2⟩
          clear hcut hx1 hx2
          have hb6 := below_box4 W5 (.cells #[.int .u64 gn, .slice x1 x2 x3, .slice y1 y2 y3, .int .u8 gm, .int .u64 gu] 63)
          have hlaid := laid5 W5 (.int .u64 gn) (.slice x1 x2 x3) (.slice y1 y2 y3) (.int .u8 gm) (.int .u64 gu) 63
          have HI6 : Hid (AdvI G w (W5.alloc (.cells #[.int .u64 gn, .slice x1 x2 x3, .slice y1 y2 y3, .int .u8 gm, .int .u64 gu] 63)) t mo ea gs qs (.slice (some ⟨b, 0, none⟩) N qc) (.slice aa na ca) (.slice pa np cp) (gs1 ++ [r.l]) ah1 ps1) := HX4.out.1.below hb6
          have hrow6 : (W5.alloc (.cells #[.int .u64 gn, .slice x1 x2 x3, .slice y1 y2 y3, .int .u8 gm, .int .u64 gu] 63)).ownsRow w.heap.size 63 5 (.slice pa np cp) np (ps1.flatMap encR) := by
            have h9 := HI6.out.op
            unfold OwnQ at h9
            rw [HLA.out.2] at h9
            exact h9
          have hws := HI6.out.kp.size
          have hnpI : np ≤ 1000 := by have := HNN.out; omega
          have hb5 := HX4.out.2
          obtain ⟨s0, s1, s2, s3, s4⟩ := hb5
          clear hrow tb tc z0 z1 z2 z3 z4 hlaidL honeL hb6
          go_wp2_with (first
            | (at_builtin; refine wpList_append_lies _ rfl (.tmp 38) (.tmp 40) 52 rfl w.heap.size 63 j0 (.agg #[.int .u64 0, .slice none 0 0, .slice none 0 0, .int .u8 0, .int .u64 0]) 5 72 Try.underlying52 hj0 hy0 hy1 hy2 rfl (by decide) (.slice pa np cp) np _ rfl hrow6 ⟨W5.heap.size, 0, none⟩ 1 1 [.int .u64 gn, .slice x1 x2 x3, .slice y1 y2 y3, .int .u8 gm, .int .u64 gu] rfl rfl hlaid honeR (by decide) (by simp only [maxLen]; omega) (by omega) hws _ rfl ?_; intro g6 c6 w6 hown6 hgrow6 hat6 hlt6)
            | fail)
          have HIF : Hid (AdvI G w w6 t mo ea gs qs (.slice (some ⟨b, 0, none⟩) N qc) (.slice aa na ca) (.slice (some ⟨g6, 0, none⟩) (np + 1) c6) (gs1 ++ [r.l]) ah1 (ps1 ++ [r])) := by
            have h9 := hown6
            rw [← HE.out.2.1, ← HLA.out.2] at h9
            have h8 := HI6.out.pass r HQV.out h9 hgrow6 hat6
            rw [HLA.out.2] at h8
            exact h8
          clear hrow6 hlaid honeR hown6 hgrow6 hat6 hlt6
          go_roundg (gk - 1)
          case measure => exact q1
          case rel => exact ⟨j + 1, na, ca, np + 1, c6, _, _, q2, by go_num, rfl, rfl, by omega, by omega, by rw [HS1.out]; exact ⟨HLA.out.1, by rw [List.length_append, HLA.out.2]; rfl⟩, by rw [HS1.out]; exact HIF.out⟩
      · have HX0 : Hid (¬ XS.length = 0) := fun h9 => h0 (HSZ.out.1 h9)
        have hs1 : advB (qs.take (j + 1)) gs [] [] = (gs1, ah1 ++ [r], ps1) := by rw [HSN.out, if_neg HX0.out]
        have HS1 : Hid (advB (qs.take (j + 1)) gs [] [] = (gs1, ah1 ++ [r], ps1)) := hs1
        have hSZI : (0 : Int) < (SZ : Int) := by omega
        have HI3 := HI2.out.below hb3
        have hrow : (w2.alloc (.cells #[.int .u64 gn, .slice x1 x2 x3, .slice y1 y2 y3, .int .u8 gm, .int .u64 gu] 63)).ownsRow w.heap.size 63 5 (.slice aa na ca) na (ah1.flatMap encR) := by
          have h9 := HI3.oa
          unfold OwnQ at h9
          rw [HLA.out.1] at h9
          exact h9
        have HI3' : Hid (AdvI G w (w2.alloc (.cells #[.int .u64 gn, .slice x1 x2 x3, .slice y1 y2 y3, .int .u8 gm, .int .u64 gu] 63)) t mo ea gs qs (.slice (some ⟨b, 0, none⟩) N qc) (.slice aa na ca) (.slice pa np cp) gs1 ah1 ps1) := HI3
        have hws : w.heap.size ≤ (w2.alloc (.cells #[.int .u64 gn, .slice x1 x2 x3, .slice y1 y2 y3, .int .u8 gm, .int .u64 gu] 63)).heap.size := HI3.kp.size
        have hnaI : na ≤ 1000 := by have := HLEN.out.2; rw [HLA.out.1] at this; exact this
        obtain ⟨z0, z1, z2, z3, z4⟩ := BY2
        clear hs1 h0 HSN HI3
        go_wp2_with (first
          | (at_len; refine wpList_len_own _ rfl _ 60 rfl 29 87 Try.underlying60 _ mb XS.length _ rfl HMU.out ?_; rw [HSE.out])
          | (at_builtin; refine wpList_append_lies _ rfl (.tmp 23) (.tmp 25) 52 rfl w.heap.size 63 j0 (.agg #[.int .u64 0, .slice none 0 0, .slice none 0 0, .int .u8 0, .int .u64 0]) 5 72 Try.underlying52 hj0 hy0 hy1 hy2 rfl (by decide) (.slice aa na ca) na _ rfl hrow ⟨w2.heap.size, 0, none⟩ 1 1 [.int .u64 gn, .slice x1 x2 x3, .slice y1 y2 y3, .int .u8 gm, .int .u64 gu] rfl rfl hlaid honeR (by decide) (by simp only [maxLen]; omega) (by omega) hws _ rfl ?_; intro g4 c4 w4 hown hgrow hat4 hlt4)
          | fail)
        have HIF : Hid (AdvI G w w4 t mo ea gs qs (.slice (some ⟨b, 0, none⟩) N qc) (.slice (some ⟨g4, 0, none⟩) (na + 1) c4) (.slice pa np cp) gs1 (ah1 ++ [r]) ps1) := by
          have h9 := hown
          rw [← HE.out.2.1, ← HLA.out.1] at h9
          have h8 := HI3'.out.stay r HQV.out h9 hgrow hat4
          rw [HLA.out.1] at h8
          exact h8
        clear hrow hlaid honeR hown hgrow hat4 hlt4
        go_roundg (gk - 1)
        case measure => exact q1
        case rel => exact ⟨j + 1, na + 1, c4, np, cp, _, _, q2, by go_num, rfl, rfl, by omega, by omega, by rw [HS1.out]; exact ⟨by rw [List.length_append, HLA.out.1]; rfl, HLA.out.2⟩, by rw [HS1.out]; exact HIF.out⟩
    · have hjN : j = N := by omega
      subst hjN
      have hAll : qs.take j = qs := by rw [← HN.out, List.take_length]
      have HALL : Hid (qs.take j = qs) := hAll
      obtain ⟨⟨Gj, gvj, hat, hsub⟩, oa, op, hap, hkp⟩ := HI.out
      have HF : Hid (LkP (fun b => (G b ∨ w.heap.size ≤ b) ∧ b < wr.heap.size) (wr.setCell ⟨t, 3, none⟩ (.slice aa na ca)) t mo ea (advB qs gs [] []).1 (advB qs gs [] []).2.1 ∧ Keeps G w (wr.setCell ⟨t, 3, none⟩ (.slice aa na ca))) := by
        obtain ⟨m1, _⟩ := advB_mem qs gs [] []
        rw [hAll] at hat oa
        refine ⟨⟨gvj, .slice aa na ca, hat.put3 oa.rd (fun q hq => ?_) (fun b hb => ⟨hsub b hb, hat.lt b hb⟩) (fun b hb => ?_) (fun q hq b hb => ?_) (fun b hb => hb.2) (fun q hq => ?_)⟩, ?_⟩
        · rcases m1 q hq with h9 | h9
          · cases h9
          · exact hat.oq q h9
        · have := oa.lt b hb
          exact ⟨.inr this.1, this.2⟩
        · rcases m1 q hq with h9 | h9
          · cases h9
          · exact ⟨hsub b (hat.xq q h9 b hb), hat.lt b (hat.xq q h9 b hb)⟩
        · rcases m1 q hq with h9 | h9
          · cases h9
          · exact hat.nu q h9
        · exact hkp.then (F' := fun b => b = t) ((Keeps.refl (fun b => b = t) wr).setCell (p := ⟨t, 3, none⟩) (show t = t from rfl) _) (fun i hi => by rw [hi]; exact hsub t hat.gt)
      have f3 := hat.bx.f3
      have c3r := hat.bx.c3
      have hop5 : OwnQ w.heap.size (wr.setCell ⟨t, 3, none⟩ (.slice aa na ca)) (.slice pa np cp) (advB qs gs [] []).2.2 := by
        rw [hAll] at op
        exact rowT_stored op hat.bx (by decide)
      have hwh := whose_any (wr.setCell ⟨t, 3, none⟩ (.slice aa na ca)) (.slice pa np cp) (advB qs gs [] []).2.2 hop5.rd (fun q hq => by
        rcases (advB_mem qs gs [] []).2.1 q hq with h9 | h9
        · cases h9
        · exact (hat.oq q h9).s) (by
        have := (advB_mem qs gs [] []).2.2.2.2
        have := HNN.out
        have := HN.out
        simp only [List.length_nil] at *
        omega)
      have HSZW : Hid (w.heap.size ≤ (wr.setCell ⟨t, 3, none⟩ (.slice aa na ca)).heap.size) := by show _ ≤ _; simpa using hkp.size
      clear hat hsub oa op hap hkp hop5 hAll HI HLN
      go_wp2_with fail
      refine hwh.mono ?_
      rintro e w9 ⟨v, rfl, hv, hb9⟩
      obtain ⟨v1, v2, ev, _⟩ := row_slice9 hv
      subst ev
      have HV : Hid (AdvPost G w t mo ea gs qs (.returned (.slice v1 ((advB qs gs [] []).2.2.map (·.l.n)).length v2)) w9) :=
        ⟨_, rfl, row_mono9 hv HSZW.out, HF.out.2.trans (Below.keeps hb9 _), _, HF.out.1.below hb9, fun b hb => hb.1⟩
      obtain ⟨nv, hnv⟩ : ∃ nv, ((advB qs gs [] []).2.2.map (·.l.n)).length = nv := ⟨_, rfl⟩
      rw [hnv] at HV ⊢
      clear hwh hv hb9 hnv
      go_wp2
      go_ret
      exact HV.out

end Go.Proofs.Ythiogpojccohgaa

/- (*locks.Table).Leave, Release. -/
namespace Go.Proofs.Ythiogpojccohgaa
set_option maxRecDepth 100000
open Go.RowKit Go.Maps
set_option linter.unusedVariables false
set_option linter.unusedSimpArgs false

theorem AdvPost.base {G G1 : Nat → Prop} {w w1 : World} {t : Nat} {mo ea : Int} {gs : List Lk} {qs : List Rq} {e : Ending} {w' : World} (hk : Keeps G w w1) (hG : ∀ b, G1 b → G b ∨ w.heap.size ≤ b) (h : AdvPost G1 w1 t mo ea gs qs e w') : AdvPost G w t mo ea gs qs e w' := by
  obtain ⟨v, h1, h2, h3, G', h4, h5⟩ := h
  exact ⟨v, h1, row_mono9 h2 hk.size, hk.then h3 hG, G', h4, fun b hb => (h5 b hb).elim (fun h9 => hG b h9) (fun h9 => .inr (Nat.le_trans hk.size h9))⟩

/-- without one's request -/
def lvB (qs : List Rq) (n : Nat) : List Rq := qs.filter fun q => !decide (q.l.n = n)
def rlB (gs : List Lk) (n : Nat) : List Lk := gs.filter fun g => !decide (g.n = n)

set_option maxHeartbeats 2000000 in
theorem leave_any (G : Nat → Prop) (w : World) (t : Nat) (mo ea : Int) (gs : List Lk) (qs : List Rq) (n : Nat) (h : LkP G w t mo ea gs qs) (hn : gs.length + qs.length ≤ 1000) :
    Calls Try.prog 20 #[.pointer (some ⟨t, 0, none⟩), .int .u64 (n : Int)] w (AdvPost G w t mo ea gs (lvB qs n)) := by
  have he := eqT t
  obtain ⟨gv, qv, h⟩ := h
  have HL : Hid (LkAt G w t mo ea gs qs gv qv) := h
  have hb0 := below_box4 w (.cells #[.int .u64 (n : Int)] 29)
  have HB0 : Hid (Below w.heap.size w (w.alloc (.cells #[.int .u64 (n : Int)] 29))) := hb0
  have c3 := (h.bx.below hb0).c3
  have hcell : (w.alloc (.cells #[.int .u64 (n : Int)] 29)).cell? ⟨w.heap.size, 0, none⟩ = some (.int .u64 (n : Int)) := one_cell w _ _
  have hw := woq_any (w.alloc (.cells #[.int .u64 (n : Int)] 29)) qv qs 33 (.pointer (some ⟨w.heap.size, 0, none⟩)) (fun q => decide (q.l.n = n)) ent_lv (h.rq.below hb0) (fun q hq => (h.oq q hq).s) (by omega)
    (fun q hq W hW => by
      obtain ⟨⟨a1, l1, c1, e1⟩, ⟨a2, l2, c2, e2⟩⟩ := (h.oq q hq).s
      have h9 := lv1_any W (q.l.n : Int) (q.l.m.toNat : Int) (q.u : Int) (n : Int) a1 a2 l1 c1 l2 c2 w.heap.size ((hW.cell (p := ⟨w.heap.size, 0, none⟩) (by simp)).trans hcell)
      rw [e1, e2]
      rw [beq_nat] at h9
      exact h9)
  obtain ⟨qa, qc, eq, _⟩ := row_slice9 h.rq
  subst eq
  have HN : Hid (gs.length + qs.length ≤ 1000) := hn
  obtain ⟨NQ, hNQ⟩ : ∃ N, qs.length = N := ⟨_, rfl⟩
  rw [hNQ] at c3 hw
  clear h hb0 hNQ hn
  go_enter Try.func20, Try.ntmps20
  go_wp2_with fail
  refine hw.mono ?_
  rintro e w1 ⟨v, rfl, hv, hb1⟩
  have HB1 : Hid (Below w.heap.size w w1) := bsplit HB0.out hb1
  have HV : Hid (OwnQ w.heap.size w1 v (lvB qs n)) := row_mono9 hv (by simp)
  have hat := HL.out.below HB1.out
  have hcell1 := (hb1.cell (p := ⟨w.heap.size, 0, none⟩) (by simp)).trans hcell
  have f3 := hat.bx.f3
  have c3b := hat.bx.c3
  obtain ⟨va, vc, ev, _⟩ := row_slice9 hv
  subst ev
  have hsub : ∀ q ∈ lvB qs n, q ∈ qs := fun q hq => (List.mem_filter.1 hq).1
  have HP : Hid (LkP (fun b => (G b ∨ w.heap.size ≤ b) ∧ b < w1.heap.size) (w1.setCell ⟨t, 3, none⟩ (.slice va (qs.filter fun q => !decide (q.l.n = n)).length vc)) t mo ea gs (lvB qs n) ∧ Keeps G w (w1.setCell ⟨t, 3, none⟩ (.slice va (qs.filter fun q => !decide (q.l.n = n)).length vc))) := by
    refine ⟨⟨gv, _, hat.put3 HV.out.rd (fun q hq => hat.oq q (hsub q hq)) (fun b hb => ⟨.inl hb, hat.lt b hb⟩) (fun b hb => ?_) (fun q hq b hb => ?_) (fun b hb => hb.2) (fun q hq => hat.nu q (hsub q hq))⟩, ?_⟩
    · have := HV.out.lt b hb
      exact ⟨.inr this.1, this.2⟩
    · have h9 := hat.xq q (hsub q hq) b hb
      exact ⟨.inl h9, hat.lt b h9⟩
    · exact (Below.keeps HB1.out G).then (F' := fun b => b = t) ((Keeps.refl (fun b => b = t) w1).setCell (p := ⟨t, 3, none⟩) (show t = t from rfl) _) (fun i hi => by rw [hi]; exact .inl hat.gt)
  have hav := adv_any _ _ t mo ea gs (lvB qs n) HP.out.1 (by have h8 := HN.out; have := List.length_filter_le (fun q : Rq => !decide (q.l.n = n)) qs; show _ + (qs.filter _).length ≤ _; omega)
  obtain ⟨NV, hNV⟩ : ∃ N, (qs.filter fun q => !decide (q.l.n = n)).length = N := ⟨_, rfl⟩
  rw [hNV] at HP hav ⊢
  clear hw hv hb1 hat hsub c3 hcell hcell1 hNV
  go_wp2_with fail
  refine hav.mono ?_
  intro e w2 hp
  have HQ : Hid (AdvPost G w t mo ea gs (lvB qs n) e w2) := AdvPost.base HP.out.2 (fun b hb => hb.1) hp
  obtain ⟨v9, he9, hv9, _⟩ := hp
  subst he9
  obtain ⟨v1, v2, ev, _⟩ := row_slice9 hv9
  subst ev
  obtain ⟨nv, hnv⟩ : ∃ nv, ((advB (lvB qs n) gs [] []).2.2.map (·.l.n)).length = nv := ⟨_, rfl⟩
  rw [hnv] at HQ ⊢
  clear hav hv9 hnv
  go_wp2
  go_ret
  exact HQ.out

set_option maxHeartbeats 2000000 in
theorem release_any (G : Nat → Prop) (w : World) (t : Nat) (mo ea : Int) (gs : List Lk) (qs : List Rq) (n : Nat) (h : LkP G w t mo ea gs qs) (hn : gs.length + qs.length ≤ 1000) :
    Calls Try.prog 8 #[.pointer (some ⟨t, 0, none⟩), .int .u64 (n : Int)] w (AdvPost G w t mo ea (rlB gs n) (lvB qs n)) := by
  have he := eqT t
  obtain ⟨gv, qv, h⟩ := h
  have HL : Hid (LkAt G w t mo ea gs qs gv qv) := h
  have hb0 := below_box4 w (.cells #[.int .u64 (n : Int)] 29)
  have HB0 : Hid (Below w.heap.size w (w.alloc (.cells #[.int .u64 (n : Int)] 29))) := hb0
  have c2 := (h.bx.below hb0).c2
  have hcell : (w.alloc (.cells #[.int .u64 (n : Int)] 29)).cell? ⟨w.heap.size, 0, none⟩ = some (.int .u64 (n : Int)) := one_cell w _ _
  have hw := wol_any (w.alloc (.cells #[.int .u64 (n : Int)] 29)) gv gs 19 (.pointer (some ⟨w.heap.size, 0, none⟩)) (fun g => decide (g.n = n)) ent_rel (h.rg.below hb0) (fun g hg => (h.og g hg).s) (by omega)
    (fun g hg W hW => by
      obtain ⟨⟨a1, l1, c1, e1⟩, ⟨a2, l2, c2, e2⟩⟩ := (h.og g hg).s
      have h9 := rel1_any W (g.n : Int) (g.m.toNat : Int) (n : Int) a1 a2 l1 c1 l2 c2 w.heap.size ((hW.cell (p := ⟨w.heap.size, 0, none⟩) (by simp)).trans hcell)
      rw [e1, e2]
      rw [beq_nat] at h9
      exact h9)
  obtain ⟨qa, qc, eq, _⟩ := row_slice9 h.rg
  subst eq
  have HN : Hid (gs.length + qs.length ≤ 1000) := hn
  obtain ⟨NQ, hNQ⟩ : ∃ N, gs.length = N := ⟨_, rfl⟩
  rw [hNQ] at c2 hw
  clear h hb0 hNQ hn
  go_enter Try.func8, Try.ntmps8
  go_wp2_with fail
  refine hw.mono ?_
  rintro e w1 ⟨v, rfl, hv, hb1⟩
  have HB1 : Hid (Below w.heap.size w w1) := bsplit HB0.out hb1
  have HV : Hid (OwnL w.heap.size w1 v (rlB gs n)) := row_mono9 hv (by simp)
  have hat := HL.out.below HB1.out
  have hcell1 := (hb1.cell (p := ⟨w.heap.size, 0, none⟩) (by simp)).trans hcell
  have f2 := hat.bx.f2
  have c2b := hat.bx.c2
  have hnt : w.heap.size ≠ t := fun e => by have := HL.out.lt t HL.out.gt; omega
  obtain ⟨va, vc, ev, _⟩ := row_slice9 hv
  subst ev
  have hsub : ∀ g ∈ rlB gs n, g ∈ gs := fun q hq => (List.mem_filter.1 hq).1
  have HP : Hid (LkP (fun b => (G b ∨ w.heap.size ≤ b) ∧ b < w1.heap.size) (w1.setCell ⟨t, 2, none⟩ (.slice va (gs.filter fun g => !decide (g.n = n)).length vc)) t mo ea (rlB gs n) qs ∧ Keeps G w (w1.setCell ⟨t, 2, none⟩ (.slice va (gs.filter fun g => !decide (g.n = n)).length vc))) := by
    refine ⟨⟨_, qv, hat.put2 HV.out.rd (fun q hq => hat.og q (hsub q hq)) (fun b hb => ⟨.inl hb, hat.lt b hb⟩) (fun b hb => ?_) (fun q hq b hb => ?_) (fun b hb => hb.2)⟩, ?_⟩
    · have := HV.out.lt b hb
      exact ⟨.inr this.1, this.2⟩
    · have h9 := hat.xg q (hsub q hq) b hb
      exact ⟨.inl h9, hat.lt b h9⟩
    · exact (Below.keeps HB1.out G).then (F' := fun b => b = t) ((Keeps.refl (fun b => b = t) w1).setCell (p := ⟨t, 2, none⟩) (show t = t from rfl) _) (fun i hi => by rw [hi]; exact .inl hat.gt)
  have hav := leave_any _ _ t mo ea (rlB gs n) qs n HP.out.1 (by have h8 := HN.out; have := List.length_filter_le (fun g : Lk => !decide (g.n = n)) gs; show (gs.filter _).length + _ ≤ _; omega)
  obtain ⟨NV, hNV⟩ : ∃ N, (gs.filter fun g => !decide (g.n = n)).length = N := ⟨_, rfl⟩
  rw [hNV] at HP hav ⊢
  have hcell2 : (w1.setCell ⟨t, 2, none⟩ (.slice va NV vc)).cell? ⟨w.heap.size, 0, none⟩ = some (.int .u64 (n : Int)) := (cell_other _ _ _ _ hnt).trans hcell1
  clear hw hv hb1 hat hsub c2 hcell hNV
  go_wp2_with fail
  refine hav.mono ?_
  intro e w2 hp
  have HQ : Hid (AdvPost G w t mo ea (rlB gs n) (lvB qs n) e w2) := AdvPost.base HP.out.2 (fun b hb => hb.1) hp
  obtain ⟨v9, he9, hv9, _⟩ := hp
  subst he9
  obtain ⟨v1, v2, ev, _⟩ := row_slice9 hv9
  subst ev
  obtain ⟨nv, hnv⟩ : ∃ nv, ((advB (lvB qs n) (rlB gs n) [] []).2.2.map (·.l.n)).length = nv := ⟨_, rfl⟩
  rw [hnv] at HQ ⊢
  clear hav hv9 hnv
  go_wp2
  go_ret
  exact HQ.out

end Go.Proofs.Ythiogpojccohgaa

/- (*locks.Table).isFull. -/
namespace Go.Proofs.Ythiogpojccohgaa
set_option maxRecDepth 100000
open Go.RowKit Go.Maps
set_option linter.unusedVariables false
set_option linter.unusedSimpArgs false

set_option maxHeartbeats 4000000 in
theorem full_any (G : Nat → Prop) (w : World) (t : Nat) (mo ea : Int) (gs : List Lk) (qs : List Rq) (gv qv : Value) (n : Nat) (r : Bool) (h : LkAt G w t mo ea gs qs gv qv) (hn : gs.length + qs.length ≤ 1000) (hr : fullB mo ea gs qs n = r) :
    Calls Try.prog 24 #[.pointer (some ⟨t, 0, none⟩), .int .u64 (n : Int)] w fun e w' => e = .returned (.bool r) ∧ Below w.heap.size w w' := by
  have hbd : Below w.heap.size w w.drew := (Below.refl _ _).drew
  have hof := of_any G w.drew t mo ea gs qs gv qv n (h.below hbd) (by omega)
  obtain ⟨ga, gc, eg, hgc, _⟩ := row_slice9 h.rg
  obtain ⟨qa, qc, eq, hqc, _⟩ := row_slice9 h.rq
  subst eg eq
  have HL : Hid (LkAt G w t mo ea gs qs (.slice ga gs.length gc) (.slice qa qs.length qc)) := h
  obtain ⟨M, hM⟩ : ∃ M, (ofB gs n).length = M := ⟨_, rfl⟩
  have HM : Hid ((ofB gs n).length = M) := hM
  have HR : Hid (r = (decide (ea ≤ (M : Int)) || decide (mo ≤ ((gs.length + qs.length : Nat) : Int)))) := by show _ = _; rw [← hr, ← hM]; rfl
  obtain ⟨NG, hNG⟩ : ∃ N, gs.length = N := ⟨_, rfl⟩
  obtain ⟨NQ, hNQ⟩ : ∃ N, qs.length = N := ⟨_, rfl⟩
  rw [hNG, hNQ] at HR hn
  have b0 := h.bx.c0
  have b1 := h.bx.c1
  have b2 := h.bx.c2
  have b3 := h.bx.c3
  rw [hNG] at b2
  rw [hNQ] at b3
  have hMle : M ≤ NG := by rw [← hM, ← hNG]; exact List.length_filter_le _ _
  have HS : Hid (∀ W, Below w.heap.size w W → W.cell? ⟨t, 0, none⟩ = some (.int .i64 mo) ∧ W.cell? ⟨t, 1, none⟩ = some (.int .i64 ea) ∧ W.cell? ⟨t, 2, none⟩ = some (.slice ga NG gc) ∧ W.cell? ⟨t, 3, none⟩ = some (.slice qa NQ qc)) := fun W hW => by
    have hb := h.bx.below hW
    rw [hNG, hNQ] at hb
    exact ⟨hb.c0, hb.c1, hb.c2, hb.c3⟩
  have hS0 := HS.out w.drew hbd
  clear h hr hM hNG hNQ
  by_cases h1 : ea ≤ (M : Int)
  · have HR2 : Hid (r = true) := by show _ = _; rw [HR.out]; simp [h1]
    have hd1 : decide (ea ≤ (M : Int)) = true := decide_eq_true h1
    have hd2 : decide ((M : Int) ≥ ea) = true := decide_eq_true h1
    go_enter Try.func24, Try.ntmps24
    go_wp2_with fail
    refine wp_region_held_drew (S := (fun w' => w'.cell? ⟨t, 0, none⟩ = some (.int .i64 mo) ∧ w'.cell? ⟨t, 1, none⟩ = some (.int .i64 ea) ∧ w'.cell? ⟨t, 2, none⟩ = some (.slice ga NG gc) ∧ w'.cell? ⟨t, 3, none⟩ = some (.slice qa NQ qc))) (by kernel_rfl) ?_ (fun hHeld => ?_)
    · exact hS0
    refine wpAnyH_take (i := 0) (v := (.pointer (some ⟨t, 0, none⟩))) rfl (by kernel_rfl) (by kernel_rfl) (by kernel_rfl) (fun _ _ _ h => h) (Or.inl ⟨by rfl, fun w hSw => by (try dsimp only at hSw); go_simp⟩) hHeld ?_
    simp only [Act.put, List.setIfInBounds_toArray, List.set_cons_zero, List.set_cons_succ, List.getElem_toArray, List.getElem_cons_zero, List.getElem_cons_succ]
    refine wpAnyH_take (i := 1) (v := (.int .u64 (n : Int))) rfl (by kernel_rfl) (by kernel_rfl) (by kernel_rfl) (fun _ _ _ h => h) (Or.inl ⟨by rfl, fun w hSw => by (try dsimp only at hSw); go_simp⟩) hHeld ?_
    simp only [Act.put, List.setIfInBounds_toArray, List.set_cons_zero, List.set_cons_succ, List.getElem_toArray, List.getElem_cons_zero, List.getElem_cons_succ]
    refine wpAnyH_take (i := 4) (v := (.pointer (some ⟨t, 0, none⟩))) rfl (by kernel_rfl) (by kernel_rfl) (by kernel_rfl) (fun _ _ _ h => h) (Or.inl ⟨by rfl, fun w hSw => by (try dsimp only at hSw); go_simp⟩) hHeld ?_
    simp only [Act.put, List.setIfInBounds_toArray, List.set_cons_zero, List.set_cons_succ, List.getElem_toArray, List.getElem_cons_zero, List.getElem_cons_succ]
    refine wpAnyH_take (i := 5) (v := (.pointer (some ⟨t, 0, none⟩))) rfl (by kernel_rfl) (by kernel_rfl) (by kernel_rfl) (fun _ _ _ h => h) (Or.inl ⟨by rfl, fun w hSw => by (try dsimp only at hSw); go_simp⟩) hHeld ?_
    simp only [Act.put, List.setIfInBounds_toArray, List.set_cons_zero, List.set_cons_succ, List.getElem_toArray, List.getElem_cons_zero, List.getElem_cons_succ]
    refine wpAnyH_take (i := 6) (v := (.pointer (some ⟨t, 1, none⟩))) rfl (by kernel_rfl) (by kernel_rfl) (by kernel_rfl) (fun _ _ _ h => h) (Or.inl ⟨by rfl, fun w hSw => by (try dsimp only at hSw); go_simp⟩) hHeld ?_
    simp only [Act.put, List.setIfInBounds_toArray, List.set_cons_zero, List.set_cons_succ, List.getElem_toArray, List.getElem_cons_zero, List.getElem_cons_succ]
    refine wpAnyH_take (i := 7) (v := (.int .i64 ea)) rfl (by kernel_rfl) (by kernel_rfl) (by kernel_rfl) (fun _ _ _ h => h) (Or.inl ⟨by rfl, fun w hSw => by (try dsimp only at hSw); go_simp⟩) hHeld ?_
    simp only [Act.put, List.setIfInBounds_toArray, List.set_cons_zero, List.set_cons_succ, List.getElem_toArray, List.getElem_cons_zero, List.getElem_cons_succ]
    refine wpAnyH_ready (rs := [2]) (by kernel_rfl) (by simp) ?_
    refine AllReadyH.cons rfl (fun K hK => ?_) AllReadyH.nil
    simp only [List.getElem_toArray, List.getElem_cons_zero, List.getElem_cons_succ]
    go_simp
    go_at_call 39
    refine hof.mono ?_
    rintro e w1 ⟨v, rfl, hv, hb1⟩
    obtain ⟨va, vc, ev, _⟩ := row_slice9 hv
    rw [HM.out] at ev
    subst ev
    have HB1 : Hid (Below w.heap.size w w1) := hbd.trans hb1
    have hS1 := HS.out w1 HB1.out
    clear hof hv hHeld
    go_wp2_with fail
    refine hK.out _ _ hS1 (fun hHeld => ?_)
    clear hK K
    refine wpAnyH_take (i := 3) (v := (.int .i64 (M : Int))) rfl (by kernel_rfl) (by kernel_rfl) (by kernel_rfl) (fun _ _ _ h => h) (Or.inl ⟨by rfl, fun w hSw => by (try dsimp only at hSw); go_simp⟩) hHeld ?_
    simp only [Act.put, List.setIfInBounds_toArray, List.set_cons_zero, List.set_cons_succ, List.getElem_toArray, List.getElem_cons_zero, List.getElem_cons_succ]
    refine wpAnyH_take (i := 8) (v := (.bool true)) rfl (by kernel_rfl) (by kernel_rfl) (by kernel_rfl) (fun _ _ _ h => h) (Or.inl ⟨by rfl, fun w hSw => by (try dsimp only at hSw); go_simp⟩) hHeld ?_
    simp only [Act.put, List.setIfInBounds_toArray, List.set_cons_zero, List.set_cons_succ, List.getElem_toArray, List.getElem_cons_zero, List.getElem_cons_succ]
    refine wpAnyH_take (i := 9) (v := (.bool true)) rfl (by kernel_rfl) (by kernel_rfl) (by kernel_rfl) (fun _ _ _ h => h) (Or.inl ⟨by rfl, fun w hSw => by (try dsimp only at hSw); go_simp⟩) hHeld ?_
    simp only [Act.put, List.setIfInBounds_toArray, List.set_cons_zero, List.set_cons_succ, List.getElem_toArray, List.getElem_cons_zero, List.getElem_cons_succ]
    refine wpAnyH_take (i := 10) (v := undef) rfl (by kernel_rfl) (by kernel_rfl) (by kernel_rfl) (fun _ _ _ h => h) (Or.inr ⟨by rfl, rfl⟩) hHeld ?_
    simp only [Act.put, List.setIfInBounds_toArray, List.set_cons_zero, List.set_cons_succ, List.getElem_toArray, List.getElem_cons_zero, List.getElem_cons_succ]
    refine wpAnyH_take (i := 11) (v := undef) rfl (by kernel_rfl) (by kernel_rfl) (by kernel_rfl) (fun _ _ _ h => h) (Or.inr ⟨by rfl, rfl⟩) hHeld ?_
    simp only [Act.put, List.setIfInBounds_toArray, List.set_cons_zero, List.set_cons_succ, List.getElem_toArray, List.getElem_cons_zero, List.getElem_cons_succ]
    refine wpAnyH_take (i := 12) (v := undef) rfl (by kernel_rfl) (by kernel_rfl) (by kernel_rfl) (fun _ _ _ h => h) (Or.inr ⟨by rfl, rfl⟩) hHeld ?_
    simp only [Act.put, List.setIfInBounds_toArray, List.set_cons_zero, List.set_cons_succ, List.getElem_toArray, List.getElem_cons_zero, List.getElem_cons_succ]
    refine wpAnyH_take (i := 13) (v := undef) rfl (by kernel_rfl) (by kernel_rfl) (by kernel_rfl) (fun _ _ _ h => h) (Or.inr ⟨by rfl, rfl⟩) hHeld ?_
    simp only [Act.put, List.setIfInBounds_toArray, List.set_cons_zero, List.set_cons_succ, List.getElem_toArray, List.getElem_cons_zero, List.getElem_cons_succ]
    refine wpAnyH_take (i := 14) (v := undef) rfl (by kernel_rfl) (by kernel_rfl) (by kernel_rfl) (fun _ _ _ h => h) (Or.inr ⟨by rfl, rfl⟩) hHeld ?_
    simp only [Act.put, List.setIfInBounds_toArray, List.set_cons_zero, List.set_cons_succ, List.getElem_toArray, List.getElem_cons_zero, List.getElem_cons_succ]
    refine wpAnyH_take (i := 15) (v := undef) rfl (by kernel_rfl) (by kernel_rfl) (by kernel_rfl) (fun _ _ _ h => h) (Or.inr ⟨by rfl, rfl⟩) hHeld ?_
    simp only [Act.put, List.setIfInBounds_toArray, List.set_cons_zero, List.set_cons_succ, List.getElem_toArray, List.getElem_cons_zero, List.getElem_cons_succ]
    refine wpAnyH_take (i := 16) (v := undef) rfl (by kernel_rfl) (by kernel_rfl) (by kernel_rfl) (fun _ _ _ h => h) (Or.inr ⟨by rfl, rfl⟩) hHeld ?_
    simp only [Act.put, List.setIfInBounds_toArray, List.set_cons_zero, List.set_cons_succ, List.getElem_toArray, List.getElem_cons_zero, List.getElem_cons_succ]
    refine wpAnyH_take (i := 17) (v := undef) rfl (by kernel_rfl) (by kernel_rfl) (by kernel_rfl) (fun _ _ _ h => h) (Or.inr ⟨by rfl, rfl⟩) hHeld ?_
    simp only [Act.put, List.setIfInBounds_toArray, List.set_cons_zero, List.set_cons_succ, List.getElem_toArray, List.getElem_cons_zero, List.getElem_cons_succ]
    refine wpAnyH_take (i := 18) (v := undef) rfl (by kernel_rfl) (by kernel_rfl) (by kernel_rfl) (fun _ _ _ h => h) (Or.inr ⟨by rfl, rfl⟩) hHeld ?_
    simp only [Act.put, List.setIfInBounds_toArray, List.set_cons_zero, List.set_cons_succ, List.getElem_toArray, List.getElem_cons_zero, List.getElem_cons_succ]
    refine wpAnyH_take (i := 19) (v := undef) rfl (by kernel_rfl) (by kernel_rfl) (by kernel_rfl) (fun _ _ _ h => h) (Or.inr ⟨by rfl, rfl⟩) hHeld ?_
    simp only [Act.put, List.setIfInBounds_toArray, List.set_cons_zero, List.set_cons_succ, List.getElem_toArray, List.getElem_cons_zero, List.getElem_cons_succ]
    refine wpAnyH_take (i := 20) (v := undef) rfl (by kernel_rfl) (by kernel_rfl) (by kernel_rfl) (fun _ _ _ h => h) (Or.inr ⟨by rfl, rfl⟩) hHeld ?_
    simp only [Act.put, List.setIfInBounds_toArray, List.set_cons_zero, List.set_cons_succ, List.getElem_toArray, List.getElem_cons_zero, List.getElem_cons_succ]
    refine wpAnyH_take (i := 21) (v := undef) rfl (by kernel_rfl) (by kernel_rfl) (by kernel_rfl) (fun _ _ _ h => h) (Or.inr ⟨by rfl, rfl⟩) hHeld ?_
    simp only [Act.put, List.setIfInBounds_toArray, List.set_cons_zero, List.set_cons_succ, List.getElem_toArray, List.getElem_cons_zero, List.getElem_cons_succ]
    refine wpAnyH_take (i := 22) (v := undef) rfl (by kernel_rfl) (by kernel_rfl) (by kernel_rfl) (fun _ _ _ h => h) (Or.inr ⟨by rfl, rfl⟩) hHeld ?_
    simp only [Act.put, List.setIfInBounds_toArray, List.set_cons_zero, List.set_cons_succ, List.getElem_toArray, List.getElem_cons_zero, List.getElem_cons_succ]
    refine wpAnyH_take (i := 23) (v := undef) rfl (by kernel_rfl) (by kernel_rfl) (by kernel_rfl) (fun _ _ _ h => h) (Or.inr ⟨by rfl, rfl⟩) hHeld ?_
    simp only [Act.put, List.setIfInBounds_toArray, List.set_cons_zero, List.set_cons_succ, List.getElem_toArray, List.getElem_cons_zero, List.getElem_cons_succ]
    refine wpAnyH_take (i := 24) (v := undef) rfl (by kernel_rfl) (by kernel_rfl) (by kernel_rfl) (fun _ _ _ h => h) (Or.inr ⟨by rfl, rfl⟩) hHeld ?_
    simp only [Act.put, List.setIfInBounds_toArray, List.set_cons_zero, List.set_cons_succ, List.getElem_toArray, List.getElem_cons_zero, List.getElem_cons_succ]
    refine wpAnyH_take (i := 25) (v := undef) rfl (by kernel_rfl) (by kernel_rfl) (by kernel_rfl) (fun _ _ _ h => h) (Or.inr ⟨by rfl, rfl⟩) hHeld ?_
    simp only [Act.put, List.setIfInBounds_toArray, List.set_cons_zero, List.set_cons_succ, List.getElem_toArray, List.getElem_cons_zero, List.getElem_cons_succ]
    refine wpAnyH_take (i := 26) (v := (.bool true)) rfl (by kernel_rfl) (by kernel_rfl) (by kernel_rfl) (fun _ _ _ h => h) (Or.inl ⟨by rfl, fun w hSw => by (try dsimp only at hSw); go_simp⟩) hHeld ?_
    simp only [Act.put, List.setIfInBounds_toArray, List.set_cons_zero, List.set_cons_succ, List.getElem_toArray, List.getElem_cons_zero, List.getElem_cons_succ]
    refine wpAnyH_take (i := 27) (v := (.bool true)) rfl (by kernel_rfl) (by kernel_rfl) (by kernel_rfl) (fun _ _ _ h => h) (Or.inl ⟨by rfl, fun w hSw => by (try dsimp only at hSw); go_simp⟩) hHeld ?_
    simp only [Act.put, List.setIfInBounds_toArray, List.set_cons_zero, List.set_cons_succ, List.getElem_toArray, List.getElem_cons_zero, List.getElem_cons_succ]
    refine wpAnyH_done (by kernel_rfl) ?_ _
    go_wp2
    go_ret
    exact ⟨by rw [HR2.out]; rfl, HB1.out⟩
  · have hd1 : decide (ea ≤ (M : Int)) = false := decide_eq_false h1
    have hd2 : decide ((M : Int) ≥ ea) = false := decide_eq_false h1
    have hNN : (NG : Int) + (NQ : Int) ≤ 1000 := by omega
    have hwr : IntKind.i64.wrap ((NG : Int) + (NQ : Int)) = (NG : Int) + (NQ : Int) := by rw [IntKind.wrap_i64]; omega
    have hwr2 : wrap64 ((NG : Int) + (NQ : Int)) = (NG : Int) + (NQ : Int) := by unfold wrap64; omega
    have HR2 : Hid (r = decide (mo ≤ (NG : Int) + (NQ : Int))) := by show _ = _; rw [HR.out, hd1]; simp
    go_enter Try.func24, Try.ntmps24
    go_wp2_with fail
    refine wp_region_held_drew (S := (fun w' => w'.cell? ⟨t, 0, none⟩ = some (.int .i64 mo) ∧ w'.cell? ⟨t, 1, none⟩ = some (.int .i64 ea) ∧ w'.cell? ⟨t, 2, none⟩ = some (.slice ga NG gc) ∧ w'.cell? ⟨t, 3, none⟩ = some (.slice qa NQ qc))) (by kernel_rfl) ?_ (fun hHeld => ?_)
    · exact hS0
    refine wpAnyH_take (i := 0) (v := (.pointer (some ⟨t, 0, none⟩))) rfl (by kernel_rfl) (by kernel_rfl) (by kernel_rfl) (fun _ _ _ h => h) (Or.inl ⟨by rfl, fun w hSw => by (try dsimp only at hSw); go_simp⟩) hHeld ?_
    simp only [Act.put, List.setIfInBounds_toArray, List.set_cons_zero, List.set_cons_succ, List.getElem_toArray, List.getElem_cons_zero, List.getElem_cons_succ]
    refine wpAnyH_take (i := 1) (v := (.int .u64 (n : Int))) rfl (by kernel_rfl) (by kernel_rfl) (by kernel_rfl) (fun _ _ _ h => h) (Or.inl ⟨by rfl, fun w hSw => by (try dsimp only at hSw); go_simp⟩) hHeld ?_
    simp only [Act.put, List.setIfInBounds_toArray, List.set_cons_zero, List.set_cons_succ, List.getElem_toArray, List.getElem_cons_zero, List.getElem_cons_succ]
    refine wpAnyH_take (i := 4) (v := (.pointer (some ⟨t, 0, none⟩))) rfl (by kernel_rfl) (by kernel_rfl) (by kernel_rfl) (fun _ _ _ h => h) (Or.inl ⟨by rfl, fun w hSw => by (try dsimp only at hSw); go_simp⟩) hHeld ?_
    simp only [Act.put, List.setIfInBounds_toArray, List.set_cons_zero, List.set_cons_succ, List.getElem_toArray, List.getElem_cons_zero, List.getElem_cons_succ]
    refine wpAnyH_take (i := 5) (v := (.pointer (some ⟨t, 0, none⟩))) rfl (by kernel_rfl) (by kernel_rfl) (by kernel_rfl) (fun _ _ _ h => h) (Or.inl ⟨by rfl, fun w hSw => by (try dsimp only at hSw); go_simp⟩) hHeld ?_
    simp only [Act.put, List.setIfInBounds_toArray, List.set_cons_zero, List.set_cons_succ, List.getElem_toArray, List.getElem_cons_zero, List.getElem_cons_succ]
    refine wpAnyH_take (i := 6) (v := (.pointer (some ⟨t, 1, none⟩))) rfl (by kernel_rfl) (by kernel_rfl) (by kernel_rfl) (fun _ _ _ h => h) (Or.inl ⟨by rfl, fun w hSw => by (try dsimp only at hSw); go_simp⟩) hHeld ?_
    simp only [Act.put, List.setIfInBounds_toArray, List.set_cons_zero, List.set_cons_succ, List.getElem_toArray, List.getElem_cons_zero, List.getElem_cons_succ]
    refine wpAnyH_take (i := 7) (v := (.int .i64 ea)) rfl (by kernel_rfl) (by kernel_rfl) (by kernel_rfl) (fun _ _ _ h => h) (Or.inl ⟨by rfl, fun w hSw => by (try dsimp only at hSw); go_simp⟩) hHeld ?_
    simp only [Act.put, List.setIfInBounds_toArray, List.set_cons_zero, List.set_cons_succ, List.getElem_toArray, List.getElem_cons_zero, List.getElem_cons_succ]
    refine wpAnyH_ready (rs := [2]) (by kernel_rfl) (by simp) ?_
    refine AllReadyH.cons rfl (fun K hK => ?_) AllReadyH.nil
    simp only [List.getElem_toArray, List.getElem_cons_zero, List.getElem_cons_succ]
    go_simp
    go_at_call 39
    refine hof.mono ?_
    rintro e w1 ⟨v, rfl, hv, hb1⟩
    obtain ⟨va, vc, ev, _⟩ := row_slice9 hv
    rw [HM.out] at ev
    subst ev
    have HB1 : Hid (Below w.heap.size w w1) := hbd.trans hb1
    have hS1 := HS.out w1 HB1.out
    clear hof hv hHeld
    go_wp2_with fail
    refine hK.out _ _ hS1 (fun hHeld => ?_)
    clear hK K
    refine wpAnyH_take (i := 3) (v := (.int .i64 (M : Int))) rfl (by kernel_rfl) (by kernel_rfl) (by kernel_rfl) (fun _ _ _ h => h) (Or.inl ⟨by rfl, fun w hSw => by (try dsimp only at hSw); go_simp⟩) hHeld ?_
    simp only [Act.put, List.setIfInBounds_toArray, List.set_cons_zero, List.set_cons_succ, List.getElem_toArray, List.getElem_cons_zero, List.getElem_cons_succ]
    refine wpAnyH_take (i := 8) (v := (.bool false)) rfl (by kernel_rfl) (by kernel_rfl) (by kernel_rfl) (fun _ _ _ h => h) (Or.inl ⟨by rfl, fun w hSw => by (try dsimp only at hSw); go_simp⟩) hHeld ?_
    simp only [Act.put, List.setIfInBounds_toArray, List.set_cons_zero, List.set_cons_succ, List.getElem_toArray, List.getElem_cons_zero, List.getElem_cons_succ]
    refine wpAnyH_take (i := 9) (v := (.bool false)) rfl (by kernel_rfl) (by kernel_rfl) (by kernel_rfl) (fun _ _ _ h => h) (Or.inl ⟨by rfl, fun w hSw => by (try dsimp only at hSw); go_simp⟩) hHeld ?_
    simp only [Act.put, List.setIfInBounds_toArray, List.set_cons_zero, List.set_cons_succ, List.getElem_toArray, List.getElem_cons_zero, List.getElem_cons_succ]
    refine wpAnyH_take (i := 10) (v := (.pointer (some ⟨t, 0, none⟩))) rfl (by kernel_rfl) (by kernel_rfl) (by kernel_rfl) (fun _ _ _ h => h) (Or.inl ⟨by rfl, fun w hSw => by (try dsimp only at hSw); go_simp⟩) hHeld ?_
    simp only [Act.put, List.setIfInBounds_toArray, List.set_cons_zero, List.set_cons_succ, List.getElem_toArray, List.getElem_cons_zero, List.getElem_cons_succ]
    refine wpAnyH_take (i := 11) (v := (.pointer (some ⟨t, 0, none⟩))) rfl (by kernel_rfl) (by kernel_rfl) (by kernel_rfl) (fun _ _ _ h => h) (Or.inl ⟨by rfl, fun w hSw => by (try dsimp only at hSw); go_simp⟩) hHeld ?_
    simp only [Act.put, List.setIfInBounds_toArray, List.set_cons_zero, List.set_cons_succ, List.getElem_toArray, List.getElem_cons_zero, List.getElem_cons_succ]
    refine wpAnyH_take (i := 12) (v := (.pointer (some ⟨t, 2, none⟩))) rfl (by kernel_rfl) (by kernel_rfl) (by kernel_rfl) (fun _ _ _ h => h) (Or.inl ⟨by rfl, fun w hSw => by (try dsimp only at hSw); go_simp⟩) hHeld ?_
    simp only [Act.put, List.setIfInBounds_toArray, List.set_cons_zero, List.set_cons_succ, List.getElem_toArray, List.getElem_cons_zero, List.getElem_cons_succ]
    refine wpAnyH_take (i := 13) (v := (.slice ga NG gc)) rfl (by kernel_rfl) (by kernel_rfl) (by kernel_rfl) (fun _ _ _ h => h) (Or.inl ⟨by rfl, fun w hSw => by (try dsimp only at hSw); go_simp⟩) hHeld ?_
    simp only [Act.put, List.setIfInBounds_toArray, List.set_cons_zero, List.set_cons_succ, List.getElem_toArray, List.getElem_cons_zero, List.getElem_cons_succ]
    refine wpAnyH_take (i := 14) (v := (.int .i64 (NG : Int))) rfl (by kernel_rfl) (by kernel_rfl) (by kernel_rfl) (fun _ _ _ h => h) (Or.inl ⟨by rfl, fun w hSw => by (try dsimp only at hSw); go_simp⟩) hHeld ?_
    simp only [Act.put, List.setIfInBounds_toArray, List.set_cons_zero, List.set_cons_succ, List.getElem_toArray, List.getElem_cons_zero, List.getElem_cons_succ]
    refine wpAnyH_take (i := 15) (v := (.pointer (some ⟨t, 0, none⟩))) rfl (by kernel_rfl) (by kernel_rfl) (by kernel_rfl) (fun _ _ _ h => h) (Or.inl ⟨by rfl, fun w hSw => by (try dsimp only at hSw); go_simp⟩) hHeld ?_
    simp only [Act.put, List.setIfInBounds_toArray, List.set_cons_zero, List.set_cons_succ, List.getElem_toArray, List.getElem_cons_zero, List.getElem_cons_succ]
    refine wpAnyH_take (i := 16) (v := (.pointer (some ⟨t, 0, none⟩))) rfl (by kernel_rfl) (by kernel_rfl) (by kernel_rfl) (fun _ _ _ h => h) (Or.inl ⟨by rfl, fun w hSw => by (try dsimp only at hSw); go_simp⟩) hHeld ?_
    simp only [Act.put, List.setIfInBounds_toArray, List.set_cons_zero, List.set_cons_succ, List.getElem_toArray, List.getElem_cons_zero, List.getElem_cons_succ]
    refine wpAnyH_take (i := 17) (v := (.pointer (some ⟨t, 3, none⟩))) rfl (by kernel_rfl) (by kernel_rfl) (by kernel_rfl) (fun _ _ _ h => h) (Or.inl ⟨by rfl, fun w hSw => by (try dsimp only at hSw); go_simp⟩) hHeld ?_
    simp only [Act.put, List.setIfInBounds_toArray, List.set_cons_zero, List.set_cons_succ, List.getElem_toArray, List.getElem_cons_zero, List.getElem_cons_succ]
    refine wpAnyH_take (i := 18) (v := (.slice qa NQ qc)) rfl (by kernel_rfl) (by kernel_rfl) (by kernel_rfl) (fun _ _ _ h => h) (Or.inl ⟨by rfl, fun w hSw => by (try dsimp only at hSw); go_simp⟩) hHeld ?_
    simp only [Act.put, List.setIfInBounds_toArray, List.set_cons_zero, List.set_cons_succ, List.getElem_toArray, List.getElem_cons_zero, List.getElem_cons_succ]
    refine wpAnyH_take (i := 19) (v := (.int .i64 (NQ : Int))) rfl (by kernel_rfl) (by kernel_rfl) (by kernel_rfl) (fun _ _ _ h => h) (Or.inl ⟨by rfl, fun w hSw => by (try dsimp only at hSw); go_simp⟩) hHeld ?_
    simp only [Act.put, List.setIfInBounds_toArray, List.set_cons_zero, List.set_cons_succ, List.getElem_toArray, List.getElem_cons_zero, List.getElem_cons_succ]
    refine wpAnyH_take (i := 20) (v := (.int .i64 ((NG : Int) + (NQ : Int)))) rfl (by kernel_rfl) (by kernel_rfl) (by kernel_rfl) (fun _ _ _ h => h) (Or.inl ⟨by rfl, fun w hSw => by (try dsimp only at hSw); go_simp⟩) hHeld ?_
    simp only [Act.put, List.setIfInBounds_toArray, List.set_cons_zero, List.set_cons_succ, List.getElem_toArray, List.getElem_cons_zero, List.getElem_cons_succ]
    refine wpAnyH_take (i := 21) (v := (.pointer (some ⟨t, 0, none⟩))) rfl (by kernel_rfl) (by kernel_rfl) (by kernel_rfl) (fun _ _ _ h => h) (Or.inl ⟨by rfl, fun w hSw => by (try dsimp only at hSw); go_simp⟩) hHeld ?_
    simp only [Act.put, List.setIfInBounds_toArray, List.set_cons_zero, List.set_cons_succ, List.getElem_toArray, List.getElem_cons_zero, List.getElem_cons_succ]
    refine wpAnyH_take (i := 22) (v := (.pointer (some ⟨t, 0, none⟩))) rfl (by kernel_rfl) (by kernel_rfl) (by kernel_rfl) (fun _ _ _ h => h) (Or.inl ⟨by rfl, fun w hSw => by (try dsimp only at hSw); go_simp⟩) hHeld ?_
    simp only [Act.put, List.setIfInBounds_toArray, List.set_cons_zero, List.set_cons_succ, List.getElem_toArray, List.getElem_cons_zero, List.getElem_cons_succ]
    refine wpAnyH_take (i := 23) (v := (.pointer (some ⟨t, 0, none⟩))) rfl (by kernel_rfl) (by kernel_rfl) (by kernel_rfl) (fun _ _ _ h => h) (Or.inl ⟨by rfl, fun w hSw => by (try dsimp only at hSw); go_simp⟩) hHeld ?_
    simp only [Act.put, List.setIfInBounds_toArray, List.set_cons_zero, List.set_cons_succ, List.getElem_toArray, List.getElem_cons_zero, List.getElem_cons_succ]
    refine wpAnyH_take (i := 24) (v := (.int .i64 mo)) rfl (by kernel_rfl) (by kernel_rfl) (by kernel_rfl) (fun _ _ _ h => h) (Or.inl ⟨by rfl, fun w hSw => by (try dsimp only at hSw); go_simp⟩) hHeld ?_
    simp only [Act.put, List.setIfInBounds_toArray, List.set_cons_zero, List.set_cons_succ, List.getElem_toArray, List.getElem_cons_zero, List.getElem_cons_succ]
    refine wpAnyH_take (i := 25) (v := (.bool (decide (mo ≤ (NG : Int) + (NQ : Int))))) rfl (by kernel_rfl) (by kernel_rfl) (by kernel_rfl) (fun _ _ _ h => h) (Or.inl ⟨by rfl, fun w hSw => by (try dsimp only at hSw); go_simp⟩) hHeld ?_
    simp only [Act.put, List.setIfInBounds_toArray, List.set_cons_zero, List.set_cons_succ, List.getElem_toArray, List.getElem_cons_zero, List.getElem_cons_succ]
    refine wpAnyH_take (i := 26) (v := (.bool (decide (mo ≤ (NG : Int) + (NQ : Int))))) rfl (by kernel_rfl) (by kernel_rfl) (by kernel_rfl) (fun _ _ _ h => h) (Or.inl ⟨by rfl, fun w hSw => by (try dsimp only at hSw); go_simp⟩) hHeld ?_
    simp only [Act.put, List.setIfInBounds_toArray, List.set_cons_zero, List.set_cons_succ, List.getElem_toArray, List.getElem_cons_zero, List.getElem_cons_succ]
    refine wpAnyH_take (i := 27) (v := (.bool (decide (mo ≤ (NG : Int) + (NQ : Int))))) rfl (by kernel_rfl) (by kernel_rfl) (by kernel_rfl) (fun _ _ _ h => h) (Or.inl ⟨by rfl, fun w hSw => by (try dsimp only at hSw); go_simp⟩) hHeld ?_
    simp only [Act.put, List.setIfInBounds_toArray, List.set_cons_zero, List.set_cons_succ, List.getElem_toArray, List.getElem_cons_zero, List.getElem_cons_succ]
    refine wpAnyH_done (by kernel_rfl) ?_ _
    go_wp2
    go_ret
    exact ⟨by rw [HR2.out]; rfl, HB1.out⟩

end Go.Proofs.Ythiogpojccohgaa

/- (*locks.Table).Ask. -/
namespace Go.Proofs.Ythiogpojccohgaa
set_option maxRecDepth 100000
open Go.RowKit Go.Maps
set_option linter.unusedVariables false
set_option linter.unusedSimpArgs false

/-- what is asked for, in pure terms -/
def askB (mo ea : Int) (gs : List Lk) (qs : List Rq) (l l' : Lk) (u : Nat) : Int × List Lk × List Rq :=
  if rightB l = false then (9, gs, qs) else if (qs.any fun q => decide (q.l.n = l.n)) = true then (4, gs, qs) else if hasB gs l = true then (0, gs, qs) else if fullB mo ea gs qs l.n = true then (7, gs, qs)
  else if (blkB gs qs l).length = 0 then (0, gs ++ [l'], qs) else (3, gs, qs ++ [⟨l', u⟩])

theorem blkB_same (gs : List Lk) (qs : List Rq) (l : Lk) (x y : Value) : blkB gs qs ⟨l.n, l.f, l.t, l.m, x, y⟩ = blkB gs qs l := rfl

def AskPost (G : Nat → Prop) (w : World) (t : Nat) (mo ea : Int) (gs : List Lk) (qs : List Rq) (l : Lk) (u : Nat) (e : Ending) (w' : World) : Prop :=
  ∃ l' : Lk, (l'.n = l.n ∧ l'.f = l.f ∧ l'.t = l.t ∧ l'.m = l.m) ∧ e = .returned (.int .i64 (askB mo ea gs qs l l' u).1) ∧ Keeps G w w' ∧ ∃ G', LkP G' w' t mo ea (askB mo ea gs qs l l' u).2.1 (askB mo ea gs qs l l' u).2.2 ∧ ∀ b, G' b → G b ∨ w.heap.size ≤ b

theorem AskPost.no {G : Nat → Prop} {w w' : World} {t : Nat} {mo ea c : Int} {gs : List Lk} {qs : List Rq} {l : Lk} {u : Nat} (h : LkP G w t mo ea gs qs) (hb : Below w.heap.size w w') (hc : ∀ l', askB mo ea gs qs l l' u = (c, gs, qs)) : AskPost G w t mo ea gs qs l u (.returned (.int .i64 c)) w' := by
  refine ⟨l, ⟨rfl, rfl, rfl, rfl⟩, by rw [hc], Below.keeps hb _, G, ?_, fun b hb => .inl hb⟩
  rw [hc]
  exact h.below hb

set_option maxHeartbeats 8000000 in
theorem ask_any (G : Nat → Prop) (w : World) (t : Nat) (mo ea : Int) (gs : List Lk) (qs : List Rq) (l : Lk) (u : Nat) (h : LkP G w t mo ea gs qs) (hn : gs.length + qs.length ≤ 900) (hx : Rd w l.x l.f) (hy : Rd w l.y l.t) (hln : l.n < 18446744073709551616) (hun : u < 18446744073709551616) :
    Calls Try.prog 9 #[.pointer (some ⟨t, 0, none⟩), lkV (l.n : Int) l.x l.y (l.m.toNat : Int), .int .u64 (u : Int)] w (AskPost G w t mo ea gs qs l u) := by
  obtain ⟨i0, hi, hz0, hz1, hz2⟩ := info_parts infoLk
  obtain ⟨j0, hj0, hy0, hy1, hy2⟩ := info_parts infoRq
  have he := eqT t
  have HP : Hid (LkP G w t mo ea gs qs) := h
  obtain ⟨gv, qv, h⟩ := h
  have HL : Hid (LkAt G w t mo ea gs qs gv qv) := h
  obtain ⟨x1, x3, ex⟩ := hx.len
  obtain ⟨y1, y3, ey⟩ := hy.len
  have HX : Hid (∀ W, Below w.heap.size w W → Rd W l.x l.f ∧ Rd W l.y l.t) := fun W hW => ⟨hx.below hW (Nat.le_refl _), hy.below hW (Nat.le_refl _)⟩
  have HNS : Hid (gs.length + qs.length ≤ 900 ∧ l.n < 18446744073709551616 ∧ u < 18446744073709551616) := ⟨hn, hln, hun⟩
  have hb0 := below_box4 w (.cells #[.int .u64 (l.n : Int), l.x, l.y, .int .u8 (l.m.toNat : Int)] 32)
  have HB0 : Hid (Below w.heap.size w (w.alloc (.cells #[.int .u64 (l.n : Int), l.x, l.y, .int .u8 (l.m.toNat : Int)] 32))) := hb0
  obtain ⟨r1, hr1⟩ : ∃ r, rightB l = r := ⟨_, rfl⟩
  have hri := right_any (w.alloc (.cells #[.int .u64 (l.n : Int), l.x, l.y, .int .u8 (l.m.toNat : Int)] 32)) l.x l.y l.f l.t (l.n : Int) (l.m.toNat : Int) r1 (HX.out _ hb0).1 (HX.out _ hb0).2 (by rw [← rightB_is]; exact hr1)
  have HR1 : Hid (rightB l = r1) := hr1
  have BX : Hid (Box4f (w.alloc (.cells #[.int .u64 (l.n : Int), l.x, l.y, .int .u8 (l.m.toNat : Int)] 32)) w.heap.size (.int .u64 (l.n : Int)) l.x l.y (.int .u8 (l.m.toNat : Int))) := box4f_new w _ _ _ _ _
  have HPL : Hid (∀ W, Below w.heap.size w W → Calls Try.prog 22 #[.pointer (some ⟨t, 0, none⟩), .int .u64 (l.n : Int)] W fun e w' => e = .returned (.int .i64 (idxB (fun q : Rq => decide (q.l.n = l.n)) qs)) ∧ Below W.heap.size W w') := fun W hW => place_any G W t mo ea gs qs gv qv l.n (h.below hW) (by omega)
  obtain ⟨r2, hr2⟩ : ∃ r, hasB gs l = r := ⟨_, rfl⟩
  have HHA : Hid (∀ W, Below w.heap.size w W → Calls Try.prog 23 #[.pointer (some ⟨t, 0, none⟩), lkV (l.n : Int) l.x l.y (l.m.toNat : Int)] W fun e w' => e = .returned (.bool r2) ∧ Below W.heap.size W w') := fun W hW => has_any G W t mo ea gs qs gv qv l r2 (h.below hW) (by omega) (HX.out _ hW).1 (HX.out _ hW).2 hr2
  have HR2 : Hid (hasB gs l = r2) := hr2
  obtain ⟨r3, hr3⟩ : ∃ r, fullB mo ea gs qs l.n = r := ⟨_, rfl⟩
  have HFU : Hid (∀ W, Below w.heap.size w W → Calls Try.prog 24 #[.pointer (some ⟨t, 0, none⟩), .int .u64 (l.n : Int)] W fun e w' => e = .returned (.bool r3) ∧ Below W.heap.size W w') := fun W hW => full_any G W t mo ea gs qs gv qv l.n r3 (h.below hW) (by omega) hr3
  have HR3 : Hid (fullB mo ea gs qs l.n = r3) := hr3
  have HPI : Hid (decide (0 ≤ idxB (fun q : Rq => decide (q.l.n = l.n)) qs) = qs.any fun q => decide (q.l.n = l.n)) := idxB_any _ _
  obtain ⟨pi, hpi⟩ : ∃ z, idxB (fun q : Rq => decide (q.l.n = l.n)) qs = z := ⟨_, rfl⟩
  obtain ⟨ln, hlnq⟩ : ∃ z : Int, (l.n : Int) = z := ⟨_, rfl⟩
  obtain ⟨lm, hlm⟩ : ∃ z : Int, (l.m.toNat : Int) = z := ⟨_, rfl⟩
  obtain ⟨U, hU⟩ : ∃ z : Int, (u : Int) = z := ⟨_, rfl⟩
  have HLV : Hid ((l.n : Int) = ln ∧ (l.m.toNat : Int) = lm ∧ (u : Int) = U ∧ l.x = .slice x1 l.f.length x3 ∧ l.y = .slice y1 l.t.length y3) := ⟨hlnq, hlm, hU, ex, ey⟩
  rw [hpi] at HPL HPI
  rw [ex, ey, hlnq, hlm] at HB0 hri BX HHA
  rw [hlnq] at HPL HFU
  rw [ex, ey, hlnq, hlm, hU]
  have BX' := BX.out.bx
  obtain ⟨z0, z1, z2, z3⟩ := BX'
  clear h hx hy hln hun hn hb0 hr1 hr2 hr3 hpi ex ey hlnq hlm hU
  unfold lkV at hri HHA ⊢
  go_enter Try.func9, Try.ntmps9
  go_wp2_with fail
  refine hri.mono ?_
  rintro e w1 ⟨rfl, hb1⟩
  have HB1 : Hid (Below w.heap.size w w1) := bsplit HB0.out hb1
  have BX1 : Hid (Box4f w1 w.heap.size (.int .u64 ln) (.slice x1 l.f.length x3) (.slice y1 l.t.length y3) (.int .u8 lm)) := BX.out.below hb1 (Nat.le_refl _)
  clear hri hb1 z0 z1 z2 z3
  obtain ⟨⟨z0, z1, z2, z3⟩, _, _, _, _⟩ := BX1.out
  cases r1 with
  | false =>
    go_wp2
    go_ret
    exact AskPost.no HP.out HB1.out (fun l' => by unfold askB; rw [if_pos HR1.out])
  | true =>
    have hpl := HPL.out w1 HB1.out
    go_wp2_with fail
    refine hpl.mono ?_
    rintro e w2 ⟨rfl, hb2⟩
    have HB2 : Hid (Below w.heap.size w w2) := bsplit HB1.out hb2
    have BX2 : Hid (Box4f w2 w.heap.size (.int .u64 ln) (.slice x1 l.f.length x3) (.slice y1 l.t.length y3) (.int .u8 lm)) := BX1.out.below hb2 (Nat.le_refl _)
    clear hpl hb2 z0 z1 z2 z3
    obtain ⟨⟨z0, z1, z2, z3⟩, _, _, _, _⟩ := BX2.out
    by_cases hp0 : 0 ≤ pi
    · have HQ : Hid ((qs.any fun q => decide (q.l.n = l.n)) = true) := by show _ = _; rw [← HPI.out]; exact decide_eq_true hp0
      go_wp2
      go_ret
      exact AskPost.no HP.out HB2.out (fun l' => by unfold askB; rw [if_neg (by rw [HR1.out]; decide), if_pos HQ.out])
    · have HQ : Hid ((qs.any fun q => decide (q.l.n = l.n)) = false) := by show _ = _; rw [← HPI.out]; exact decide_eq_false hp0
      have hha := HHA.out w2 HB2.out
      go_wp2_with fail
      refine hha.mono ?_
      rintro e w3 ⟨rfl, hb3⟩
      have HB3 : Hid (Below w.heap.size w w3) := bsplit HB2.out hb3
      have BX3 : Hid (Box4f w3 w.heap.size (.int .u64 ln) (.slice x1 l.f.length x3) (.slice y1 l.t.length y3) (.int .u8 lm)) := BX2.out.below hb3 (Nat.le_refl _)
      clear hha hb3 z0 z1 z2 z3
      obtain ⟨⟨z0, z1, z2, z3⟩, _, _, _, _⟩ := BX3.out
      cases r2 with
      | true =>
        go_wp2
        go_ret
        exact AskPost.no HP.out HB3.out (fun l' => by unfold askB; rw [if_neg (by rw [HR1.out]; decide), if_neg (by rw [HQ.out]; decide), if_pos HR2.out])
      | false =>
        have hfu := HFU.out w3 HB3.out
        go_wp2_with fail
        refine hfu.mono ?_
        rintro e w4 ⟨rfl, hb4⟩
        have HB4 : Hid (Below w.heap.size w w4) := bsplit HB3.out hb4
        have BX4 : Hid (Box4f w4 w.heap.size (.int .u64 ln) (.slice x1 l.f.length x3) (.slice y1 l.t.length y3) (.int .u8 lm)) := BX3.out.below hb4 (Nat.le_refl _)
        clear hfu hb4 z0 z1 z2 z3
        obtain ⟨⟨z0, z1, z2, z3⟩, g0, g1, g2, g3⟩ := BX4.out
        cases r3 with
        | true =>
          go_wp2
          go_ret
          exact AskPost.no HP.out HB4.out (fun l' => by unfold askB; rw [if_neg (by rw [HR1.out]; decide), if_neg (by rw [HQ.out]; decide), if_neg (by rw [HR2.out]; decide), if_pos HR3.out])
        | false =>
          have HASK : Hid (∀ l', askB mo ea gs qs l l' u = if (blkB gs qs l).length = 0 then (0, gs ++ [l'], qs) else (3, gs, qs ++ [⟨l', u⟩])) := fun l' => by unfold askB; rw [if_neg (by rw [HR1.out]; decide), if_neg (by rw [HQ.out]; decide), if_neg (by rw [HR2.out]; decide), if_neg (by rw [HR3.out]; decide)]
          have hrb : l.f.length ≤ 65 ∧ l.t.length ≤ 65 := by
            have h9 := HR1.out
            unfold rightB at h9
            simp only [Bool.and_eq_true, decide_eq_true_eq] at h9
            exact ⟨h9.1.1.2, h9.1.2⟩
          have hap := apart_any w4 (.slice x1 l.f.length x3) (.slice y1 l.t.length y3) l.f l.t ln lm (by have := (HX.out _ HB4.out).1; rw [HLV.out.2.2.2.1] at this; exact this) (by have := (HX.out _ HB4.out).2; rw [HLV.out.2.2.2.2] at this; exact this) hrb.1 hrb.2
          have HRB : Hid (l.f.length ≤ 65 ∧ l.t.length ≤ 65) := hrb
          unfold lkV at hap
          clear hrb
          go_wp2_with fail
          refine hap.mono ?_
          rintro e w5 ⟨x', y', rfl, ox, oy, hb5⟩
          obtain ⟨x4, x5, ex'⟩ := ox.rd.len
          obtain ⟨y4, y5, ey'⟩ := oy.rd.len
          subst ex' ey'
          have HB5 : Hid (Below w.heap.size w w5) := bsplit HB4.out hb5
          obtain ⟨⟨c0, c1, c2, c3⟩, k0, k1, k2, k3⟩ := BX4.out.below hb5 (Nat.le_refl _)
          have hbx4 : w.heap.size < w4.heap.size := BX4.out.bx.lt
          have HOX : Hid (OwnN w4.heap.size w5 (.slice x4 l.f.length x5) l.f ∧ OwnN w4.heap.size w5 (.slice y4 l.t.length y5) l.t) := ⟨ox, oy⟩
          clear hap ox oy hb5 z0 z1 z2 z3 g0 g1 g2 g3
          go_upto_region 10 with fail
          obtain ⟨FL, hFL⟩ : ∃ z, l.f.length = z := ⟨_, rfl⟩
          obtain ⟨TL, hTL⟩ : ∃ z, l.t.length = z := ⟨_, rfl⟩
          have HFT : Hid (l.f.length = FL ∧ l.t.length = TL) := ⟨hFL, hTL⟩
          have B6' : Box4 ((((w5.setCell ⟨w.heap.size, 0, none⟩ (.int .u64 ln)).setCell ⟨w.heap.size, 1, none⟩ (.slice x4 l.f.length x5)).setCell ⟨w.heap.size, 2, none⟩ (.slice y4 l.t.length y5)).setCell ⟨w.heap.size, 3, none⟩ (.int .u8 lm)) w.heap.size (.int .u64 ln) (.slice x4 l.f.length x5) (.slice y4 l.t.length y5) (.int .u8 lm) := by
            constructor <;> simp [go_sem, c0, c1, c2, c3, k0, k1, k2, k3]
          have HB6' : Below w.heap.size w ((((w5.setCell ⟨w.heap.size, 0, none⟩ (.int .u64 ln)).setCell ⟨w.heap.size, 1, none⟩ (.slice x4 l.f.length x5)).setCell ⟨w.heap.size, 2, none⟩ (.slice y4 l.t.length y5)).setCell ⟨w.heap.size, 3, none⟩ (.int .u8 lm)) := below_store4 HB5.out (Nat.le_refl _) _ _ _ _
          have ho1 := ownN_stored4 (b := w.heap.size) HOX.out.1 (fun g hg => by have := (ownN_lt9 HOX.out.1 g hg).1; omega) (.int .u64 ln) (.slice x4 l.f.length x5) (.slice y4 l.t.length y5) (.int .u8 lm)
          have ho2 := ownN_stored4 (b := w.heap.size) HOX.out.2 (fun g hg => by have := (ownN_lt9 HOX.out.2 g hg).1; omega) (.int .u64 ln) (.slice x4 l.f.length x5) (.slice y4 l.t.length y5) (.int .u8 lm)
          obtain ⟨W6, hW6⟩ : ∃ W6, (((w5.setCell ⟨w.heap.size, 0, none⟩ (.int .u64 ln)).setCell ⟨w.heap.size, 1, none⟩ (.slice x4 l.f.length x5)).setCell ⟨w.heap.size, 2, none⟩ (.slice y4 l.t.length y5)).setCell ⟨w.heap.size, 3, none⟩ (.int .u8 lm) = W6 := ⟨_, rfl⟩
          rw [hW6] at B6' HB6' ho1 ho2 ⊢
          have HB6 : Hid (Below w.heap.size w W6) := HB6'
          have HOK6 : Hid (LkOk W6 ⟨l.n, l.f, l.t, l.m, .slice x4 l.f.length x5, .slice y4 l.t.length y5⟩ ∧ OwnN w.heap.size W6 (.slice x4 l.f.length x5) l.f ∧ OwnN w.heap.size W6 (.slice y4 l.t.length y5) l.t) := ⟨⟨ho1.mono (Nat.zero_le _), ho2.mono (Nat.zero_le _), HNS.out.2.1, HRB.out.1, HRB.out.2⟩, ho1.mono (by omega), ho2.mono (by omega)⟩
          rw [hFL, hTL] at B6' ⊢
          rw [hFL, hTL] at HOK6
          have HB6B : Hid (Box4 W6 w.heap.size (.int .u64 ln) (.slice x4 FL x5) (.slice y4 TL y5) (.int .u8 lm)) := B6'
          have hat6 := HL.out.below HB6'
          obtain ⟨qa, qc, eq, hqc, _⟩ := row_slice9 hat6.rq
          obtain ⟨ga, gc, eg, hgc, _⟩ := row_slice9 hat6.rg
          obtain ⟨NG, hNG⟩ : ∃ N, gs.length = N := ⟨_, rfl⟩
          obtain ⟨NQ, hNQ⟩ : ∃ N, qs.length = N := ⟨_, rfl⟩
          rw [hNQ] at eq hqc
          rw [hNG] at eg hgc
          subst eq eg
          have HNGQ : Hid (gs.length = NG ∧ qs.length = NQ) := ⟨hNG, hNQ⟩
          have HAT6 : Hid (LkAt G W6 t mo ea gs qs (.slice ga NG gc) (.slice qa NQ qc)) := hat6
          have hbd : Below W6.heap.size W6 W6.drew := (Below.refl _ _).drew
          have hat6d := hat6.below hbd
          have hbk := blk_any G W6.drew t mo ea gs qs (.slice ga NG gc) (.slice qa NQ qc) ⟨l.n, l.f, l.t, l.m, .slice x4 FL x5, .slice y4 TL y5⟩ (.slice qa NQ qc) qs hat6d (by have := HNS.out.1; omega) (HOK6.out.1.below hbd).1.rd (HOK6.out.1.below hbd).2.1.rd hat6d.rq hat6d.oq (by have := HNS.out.1; omega)
          rw [blkB_same] at hbk
          simp only [HLV.out.1, HLV.out.2.1] at hbk
          unfold lkV at hbk
          have hS0 : W6.drew.cell? ⟨w.heap.size, 0, none⟩ = some (.int .u64 ln) ∧ W6.drew.cell? ⟨w.heap.size, 1, none⟩ = some (.slice x4 FL x5) ∧ W6.drew.cell? ⟨w.heap.size, 2, none⟩ = some (.slice y4 TL y5) ∧ W6.drew.cell? ⟨w.heap.size, 3, none⟩ = some (.int .u8 lm) ∧ W6.drew.cell? ⟨t, 3, none⟩ = some (.slice qa NQ qc) := ⟨B6'.c0, B6'.c1, B6'.c2, B6'.c3, hat6.bx.c3⟩
          obtain ⟨XS, hXS⟩ : ∃ XS, blkB gs qs l = XS := ⟨_, rfl⟩
          rw [hXS] at hbk
          have HXS : Hid (blkB gs qs l = XS) := hXS
          have hszz : XS.length = 0 ↔ sizU XS = 0 := (sizU_zero XS).symm
          obtain ⟨SZ, hSZ⟩ : ∃ s, sizU XS = s := ⟨_, rfl⟩
          have HSZ : Hid (XS.length = 0 ↔ SZ = 0) := by show _ ↔ _; rw [← hSZ]; exact hszz
          have HSE : Hid (Maps.size (setOf (DataW.agg (H := Unit) []) (XS.map litU)) = SZ) := hSZ
          clear hW6 ho1 ho2 hat6 hat6d hFL hTL hNG hNQ B6' HB6' c0 c1 c2 c3 k0 k1 k2 k3 hXS hszz hSZ HOX
          go_cut [40] (fun bv wx => ∃ rb : Bool, bv = .bool rb ∧ Hid (rb = true ↔ ¬ SZ = 0) ∧ Hid (Below W6.heap.size W6 wx))
          case first =>
            refine wp_region_held_drew (S := (fun w' => w'.cell? ⟨w.heap.size, 0, none⟩ = some (.int .u64 ln) ∧ w'.cell? ⟨w.heap.size, 1, none⟩ = some (.slice x4 FL x5) ∧ w'.cell? ⟨w.heap.size, 2, none⟩ = some (.slice y4 TL y5) ∧ w'.cell? ⟨w.heap.size, 3, none⟩ = some (.int .u8 lm) ∧ w'.cell? ⟨t, 3, none⟩ = some (.slice qa NQ qc))) (by kernel_rfl) ?_ (fun hHeld => ?_)
            · exact hS0
            refine wpAnyH_take (i := 0) (v := (.pointer (some ⟨t, 0, none⟩))) rfl (by kernel_rfl) (by kernel_rfl) (by kernel_rfl) (fun _ _ _ h => h) (Or.inl ⟨by rfl, fun w hSw => by (try dsimp only at hSw); go_simp⟩) hHeld ?_
            simp only [Act.put, List.setIfInBounds_toArray, List.set_cons_zero, List.set_cons_succ, List.getElem_toArray, List.getElem_cons_zero, List.getElem_cons_succ]
            refine wpAnyH_take (i := 1) (v := (.agg #[.int .u64 ln, .slice x4 FL x5, .slice y4 TL y5, .int .u8 lm])) rfl (by kernel_rfl) (by kernel_rfl) (by kernel_rfl) (fun _ _ _ h => h) (Or.inl ⟨by rfl, fun w hSw => by (try dsimp only at hSw); go_simp⟩) hHeld ?_
            simp only [Act.put, List.setIfInBounds_toArray, List.set_cons_zero, List.set_cons_succ, List.getElem_toArray, List.getElem_cons_zero, List.getElem_cons_succ]
            refine wpAnyH_take (i := 2) (v := (.pointer (some ⟨t, 0, none⟩))) rfl (by kernel_rfl) (by kernel_rfl) (by kernel_rfl) (fun _ _ _ h => h) (Or.inl ⟨by rfl, fun w hSw => by (try dsimp only at hSw); go_simp⟩) hHeld ?_
            simp only [Act.put, List.setIfInBounds_toArray, List.set_cons_zero, List.set_cons_succ, List.getElem_toArray, List.getElem_cons_zero, List.getElem_cons_succ]
            refine wpAnyH_take (i := 3) (v := (.pointer (some ⟨t, 0, none⟩))) rfl (by kernel_rfl) (by kernel_rfl) (by kernel_rfl) (fun _ _ _ h => h) (Or.inl ⟨by rfl, fun w hSw => by (try dsimp only at hSw); go_simp⟩) hHeld ?_
            simp only [Act.put, List.setIfInBounds_toArray, List.set_cons_zero, List.set_cons_succ, List.getElem_toArray, List.getElem_cons_zero, List.getElem_cons_succ]
            refine wpAnyH_take (i := 4) (v := (.pointer (some ⟨t, 3, none⟩))) rfl (by kernel_rfl) (by kernel_rfl) (by kernel_rfl) (fun _ _ _ h => h) (Or.inl ⟨by rfl, fun w hSw => by (try dsimp only at hSw); go_simp⟩) hHeld ?_
            simp only [Act.put, List.setIfInBounds_toArray, List.set_cons_zero, List.set_cons_succ, List.getElem_toArray, List.getElem_cons_zero, List.getElem_cons_succ]
            refine wpAnyH_take (i := 5) (v := (.slice qa NQ qc)) rfl (by kernel_rfl) (by kernel_rfl) (by kernel_rfl) (fun _ _ _ h => h) (Or.inl ⟨by rfl, fun w hSw => by (try dsimp only at hSw); go_simp⟩) hHeld ?_
            simp only [Act.put, List.setIfInBounds_toArray, List.set_cons_zero, List.set_cons_succ, List.getElem_toArray, List.getElem_cons_zero, List.getElem_cons_succ]
            refine wpAnyH_ready (rs := [6]) (by kernel_rfl) (by simp) ?_
            refine AllReadyH.cons rfl (fun K hK => ?_) AllReadyH.nil
            simp only [List.getElem_toArray, List.getElem_cons_zero, List.getElem_cons_succ]
            go_simp
            go_at_call 26
            refine hbk.mono ?_
            rintro e w7 ⟨mb, rfl, hmu, _, hb7⟩
            have HB7 : Hid (Below W6.heap.size W6 w7) := hbd.trans hb7
            have hB7 := HB6B.out.below HB7.out (Nat.le_refl _)
            have hS1 : w7.cell? ⟨w.heap.size, 0, none⟩ = some (.int .u64 ln) ∧ w7.cell? ⟨w.heap.size, 1, none⟩ = some (.slice x4 FL x5) ∧ w7.cell? ⟨w.heap.size, 2, none⟩ = some (.slice y4 TL y5) ∧ w7.cell? ⟨w.heap.size, 3, none⟩ = some (.int .u8 lm) ∧ w7.cell? ⟨t, 3, none⟩ = some (.slice qa NQ qc) := ⟨hB7.c0, hB7.c1, hB7.c2, hB7.c3, (HAT6.out.below HB7.out).bx.c3⟩
            have hlen : (Builtin.len_ #[60] 3 #[.map (some mb)]).run Try.prog w7 = .ok (.int .i64 (SZ : Int)) w7 := by
              have h9 := World.ownsMap.len hmu Try.underlying60 3
              rw [HSE.out] at h9
              exact h9
            clear hbk hmu hHeld hb7 hB7
            go_wp2_with fail
            refine hK.out _ _ hS1 (fun hHeld => ?_)
            clear hK K
            refine wpAnyH_ready (rs := [7]) (by kernel_rfl) (by simp) ?_
            refine AllReadyH.cons rfl (fun K hK => ?_) AllReadyH.nil
            simp only [List.getElem_toArray, List.getElem_cons_zero, List.getElem_cons_succ]
            go_simp
            clear hHeld
            refine hK.out _ _ hS1 (fun hHeld => ?_)
            clear hK K
            refine wpAnyH_take (i := 8) (v := (.bool (decide ((0 : Int) < (SZ : Int))))) rfl (by kernel_rfl) (by kernel_rfl) (by kernel_rfl) (fun _ _ _ h => h) (Or.inl ⟨by rfl, fun w hSw => by (try dsimp only at hSw); go_simp⟩) hHeld ?_
            simp only [Act.put, List.setIfInBounds_toArray, List.set_cons_zero, List.set_cons_succ, List.getElem_toArray, List.getElem_cons_zero, List.getElem_cons_succ]
            refine wpAnyH_done (by kernel_rfl) ?_ _
            go_wp2_with fail
            go_meet
            exact ⟨_, rfl, by show _ ↔ _; rw [decide_eq_true_iff]; omega, HB7⟩
          case rest =>
            obtain ⟨rb, rfl, HRBB, HBC⟩ := hcut
            obtain ⟨w8, hw8⟩ : ∃ w8, w8 = wc := ⟨_, rfl⟩
            subst hw8
            have B8 := HB6B.out.below HBC.out (Nat.le_refl _)
            have HB8 : Hid (Below w.heap.size w w8) := bsplit HB6.out HBC.out
            have hat8 := HAT6.out.below HBC.out
            have HAT8 : Hid (LkAt G w8 t mo ea gs qs (.slice ga NG gc) (.slice qa NQ qc)) := hat8
            have HOK8 : Hid (LkOk w8 ⟨l.n, l.f, l.t, l.m, .slice x4 FL x5, .slice y4 TL y5⟩ ∧ OwnN w.heap.size w8 (.slice x4 FL x5) l.f ∧ OwnN w.heap.size w8 (.slice y4 TL y5) l.t) := ⟨HOK6.out.1.below HBC.out, HOK6.out.2.1.below HBC.out (Nat.le_refl _), HOK6.out.2.2.below HBC.out (Nat.le_refl _)⟩
            have HGX : Hid (∀ b, ((Value.slice x4 FL x5).ownBlock = some b ∨ (Value.slice y4 TL y5).ownBlock = some b) → G b ∨ w.heap.size ≤ b) := fun b hb => by
              rcases hb with hb | hb
              · exact .inr (ownN_lt9 HOK8.out.2.1 b hb).1
              · exact .inr (ownN_lt9 HOK8.out.2.2 b hb).1
            have HS8 : Hid (∀ u ∈ [Value.int .u64 ln, .slice x4 FL x5, .slice y4 TL y5, .int .u8 lm], u.oneCell' = true) := fun u hu => by
              simp only [List.mem_cons, List.not_mem_nil, or_false] at hu
              rcases hu with rfl | rfl | rfl | rfl <;> rfl
            have HS5 : Hid (∀ u ∈ [Value.int .u64 ln, .slice x4 FL x5, .slice y4 TL y5, .int .u8 lm, .int .u64 U], u.oneCell' = true) := fun u hu => by
              simp only [List.mem_cons, List.not_mem_nil, or_false] at hu
              rcases hu with rfl | rfl | rfl | rfl | rfl <;> rfl
            obtain ⟨z0, z1, z2, z3⟩ := B8.drew
            have hNb : NG ≤ 900 ∧ NQ ≤ 900 := by have := HNS.out.1; have := HNGQ.out; omega
            have hNG9 := hNb.1
            have hNQ9 := hNb.2
            clear hNb
            cases rb with
            | true =>
              have HZ : Hid (¬ XS.length = 0) := by have h9 := HRBB.out.1 rfl; have := HSZ.out; show ¬ _; omega
              have hbl := (below_box4 w8 (.cells #[.int .u64 ln, .slice x4 FL x5, .slice y4 TL y5, .int .u8 lm, .int .u64 U] 63)).drew
              have tb : w8.drew.cell? ⟨t, 3, none⟩ = some (.slice qa NQ qc) := hat8.bx.c3
              have tc := (hbl.cell (p := ⟨t, 3, none⟩) hat8.bx.lt).trans hat8.bx.c3
              have hrow : (w8.alloc (.cells #[.int .u64 ln, .slice x4 FL x5, .slice y4 TL y5, .int .u8 lm, .int .u64 U] 63)).drew.ownsRow 0 63 5 (.slice qa NQ qc) NQ (qs.flatMap encR) := by
                have h9 := hat8.rq.below hbl
                unfold RowQ at h9
                rw [HNGQ.out.2] at h9
                exact h9
              have hlaid : ∀ j u, [Value.int .u64 ln, .slice x4 FL x5, .slice y4 TL y5, .int .u8 lm, .int .u64 U][j]? = some u → (w8.alloc (.cells #[.int .u64 ln, .slice x4 FL x5, .slice y4 TL y5, .int .u8 lm, .int .u64 U] 63)).drew.cell? ((⟨w8.heap.size, 0, none⟩ : Addr).add j) = some u := laid5 w8 (.int .u64 ln) (.slice x4 FL x5) (.slice y4 TL y5) (.int .u8 lm) (.int .u64 U) 63
              have HBL : Hid (Below w8.heap.size w8 (w8.alloc (.cells #[.int .u64 ln, .slice x4 FL x5, .slice y4 TL y5, .int .u8 lm, .int .u64 U] 63)).drew) := hbl
              clear hbl hat8
              go_wp2_with fail
              go_region_law
                (first
                  | (refine step_append_lies _ rfl (.tmp 45) (.tmp 49) 52 rfl 0 63 j0 (.agg #[.int .u64 0, .slice none 0 0, .slice none 0 0, .int .u8 0, .int .u64 0]) 5 72 Try.underlying52 hj0 hy0 hy1 hy2 rfl (by decide) (.slice qa NQ qc) NQ _ rfl hrow ⟨w8.heap.size, 0, none⟩ 1 1 [.int .u64 ln, .slice x4 FL x5, .slice y4 TL y5, .int .u8 lm, .int .u64 U] rfl rfl hlaid HS5.out (by decide) (by simp only [maxLen]; omega) (by omega) (Nat.zero_le _) _ rfl ?_
                     intro g4 c4 w9 hown hgrow hat4 hlt4
                     have HX4 : Hid (AskPost G w t mo ea gs qs l u (.returned (.int .i64 3)) (w9.setCell ⟨t, 3, none⟩ (.slice (some ⟨g4, 0, none⟩) (NQ + 1) c4))) := by
                       have h9 := hown
                       rw [← HNGQ.out.2] at h9
                       have he9 : encR ⟨⟨l.n, l.f, l.t, l.m, .slice x4 FL x5, .slice y4 TL y5⟩, u⟩ = [.int .u64 ln, .slice x4 FL x5, .slice y4 TL y5, .int .u8 lm, .int .u64 U] := by unfold encR; simp only [HLV.out.1, HLV.out.2.1, HLV.out.2.2.1]
                       rw [← he9] at h9
                       have hj3 := HAT8.out.below HBL.out
                       have hpu := hj3.push3 (B := w.heap.size) ⟨⟨l.n, l.f, l.t, l.m, .slice x4 FL x5, .slice y4 TL y5⟩, u⟩ (HOK8.out.1.below HBL.out) (bsplit HB8.out HBL.out).size (fun b hb => HGX.out b hb) (by rw [HNGQ.out.2] at h9 ⊢; exact h9) hgrow hat4 hlt4 HNS.out.2.2
                       rw [HNGQ.out.2] at hpu
                       refine ⟨⟨l.n, l.f, l.t, l.m, .slice x4 FL x5, .slice y4 TL y5⟩, ⟨rfl, rfl, rfl, rfl⟩, ?_, ?_, (fun b => (G b ∨ w.heap.size ≤ b) ∧ b < w9.heap.size), ?_, fun b hb => hb.1⟩
                       · rw [HASK.out, if_neg (by rw [HXS.out]; exact HZ.out)]
                       · refine ((Below.keeps (bsplit HB8.out HBL.out) G).then (keeps_grown (F := fun b => (Value.slice qa NQ qc).ownBlock = some b) hgrow (fun q hq => hq)) (fun i hi => .inl (hj3.gq i hi))).then (F' := fun b => b = t) ((Keeps.refl (fun b => b = t) w9).setCell (p := ⟨t, 3, none⟩) (show t = t from rfl) _) (fun i hi => by rw [hi]; exact .inl hj3.gt)
                       · rw [HASK.out, if_neg (by rw [HXS.out]; exact HZ.out)]
                         exact ⟨_, _, hpu⟩
                     have t4 : w9.cell? ⟨t, 3, none⟩ = some (.slice qa NQ qc) ∧ w9.frozen? ⟨t, 3, none⟩ = false := by
                       have hb9 := (HAT8.out.bx.below HBL.out).grown (by decide) hrow hgrow
                       exact ⟨hb9.c3, hb9.f3⟩
                     obtain ⟨t4, f4⟩ := t4
                     clear hown hgrow hat4 hlt4)
                  | fail)
              all_goals
                clear hrow tb tc t4 f4 z0 z1 z2 z3 hlaid
                go_wp2
                go_ret
                exact HX4.out
            | false =>
              have HZ : Hid (XS.length = 0) := by
                have h9 := HRBB.out
                have h8 := HSZ.out
                show _ = _
                by_cases h7 : SZ = 0
                · exact h8.2 h7
                · have := h9.2 h7; cases this
              have hbl := (below_box4 w8 (.cells #[.int .u64 ln, .slice x4 FL x5, .slice y4 TL y5, .int .u8 lm] 32)).drew
              have tb : w8.drew.cell? ⟨t, 2, none⟩ = some (.slice ga NG gc) := hat8.bx.c2
              have tc := (hbl.cell (p := ⟨t, 2, none⟩) hat8.bx.lt).trans hat8.bx.c2
              have hrow : (w8.alloc (.cells #[.int .u64 ln, .slice x4 FL x5, .slice y4 TL y5, .int .u8 lm] 32)).drew.ownsRow 0 32 4 (.slice ga NG gc) NG (gs.flatMap encL) := by
                have h9 := hat8.rg.below hbl
                unfold RowL at h9
                rw [HNGQ.out.1] at h9
                exact h9
              have hlaid : ∀ j u, [Value.int .u64 ln, .slice x4 FL x5, .slice y4 TL y5, .int .u8 lm][j]? = some u → (w8.alloc (.cells #[.int .u64 ln, .slice x4 FL x5, .slice y4 TL y5, .int .u8 lm] 32)).drew.cell? ((⟨w8.heap.size, 0, none⟩ : Addr).add j) = some u := laid4 w8 (.int .u64 ln) (.slice x4 FL x5) (.slice y4 TL y5) (.int .u8 lm) 32
              have HBL : Hid (Below w8.heap.size w8 (w8.alloc (.cells #[.int .u64 ln, .slice x4 FL x5, .slice y4 TL y5, .int .u8 lm] 32)).drew) := hbl
              clear hbl hat8
              go_wp2_with fail
              go_region_law
                (first
                  | (refine step_append_lies _ rfl (.tmp 57) (.tmp 59) 51 rfl 0 32 i0 (.agg #[.int .u64 0, .slice none 0 0, .slice none 0 0, .int .u8 0]) 4 64 Try.underlying51 hi hz0 hz1 hz2 rfl (by decide) (.slice ga NG gc) NG _ rfl hrow ⟨w8.heap.size, 0, none⟩ 1 1 [.int .u64 ln, .slice x4 FL x5, .slice y4 TL y5, .int .u8 lm] rfl rfl hlaid HS8.out (by decide) (by simp only [maxLen]; omega) (by omega) (Nat.zero_le _) _ rfl ?_
                     intro g4 c4 w9 hown hgrow hat4 hlt4
                     have HX4 : Hid (AskPost G w t mo ea gs qs l u (.returned (.int .i64 0)) (w9.setCell ⟨t, 2, none⟩ (.slice (some ⟨g4, 0, none⟩) (NG + 1) c4))) := by
                       have h9 := hown
                       rw [← HNGQ.out.1] at h9
                       have he9 : encL ⟨l.n, l.f, l.t, l.m, .slice x4 FL x5, .slice y4 TL y5⟩ = [.int .u64 ln, .slice x4 FL x5, .slice y4 TL y5, .int .u8 lm] := by unfold encL; simp only [HLV.out.1, HLV.out.2.1]
                       rw [← he9] at h9
                       have hj3 := HAT8.out.below HBL.out
                       have hpu := hj3.push2 (B := w.heap.size) ⟨l.n, l.f, l.t, l.m, .slice x4 FL x5, .slice y4 TL y5⟩ (HOK8.out.1.below HBL.out) (bsplit HB8.out HBL.out).size (fun b hb => HGX.out b hb) (by rw [HNGQ.out.1] at h9 ⊢; exact h9) hgrow hat4 hlt4
                       rw [HNGQ.out.1] at hpu
                       refine ⟨⟨l.n, l.f, l.t, l.m, .slice x4 FL x5, .slice y4 TL y5⟩, ⟨rfl, rfl, rfl, rfl⟩, ?_, ?_, (fun b => (G b ∨ w.heap.size ≤ b) ∧ b < w9.heap.size), ?_, fun b hb => hb.1⟩
                       · rw [HASK.out, if_pos (by rw [HXS.out]; exact HZ.out)]
                       · refine ((Below.keeps (bsplit HB8.out HBL.out) G).then (keeps_grown (F := fun b => (Value.slice ga NG gc).ownBlock = some b) hgrow (fun q hq => hq)) (fun i hi => .inl (hj3.gg i hi))).then (F' := fun b => b = t) ((Keeps.refl (fun b => b = t) w9).setCell (p := ⟨t, 2, none⟩) (show t = t from rfl) _) (fun i hi => by rw [hi]; exact .inl hj3.gt)
                       · rw [HASK.out, if_pos (by rw [HXS.out]; exact HZ.out)]
                         exact ⟨_, _, hpu⟩
                     have t4 : w9.cell? ⟨t, 2, none⟩ = some (.slice ga NG gc) ∧ w9.frozen? ⟨t, 2, none⟩ = false := by
                       have hb9 := (HAT8.out.bx.below HBL.out).grown (by decide) hrow hgrow
                       exact ⟨hb9.c2, hb9.f2⟩
                     obtain ⟨t4, f4⟩ := t4
                     clear hown hgrow hat4 hlt4)
                  | fail)
              all_goals
                clear hrow tb tc t4 f4 z0 z1 z2 z3 hlaid
                go_wp2
                go_ret
                exact HX4.out

end Go.Proofs.Ythiogpojccohgaa
