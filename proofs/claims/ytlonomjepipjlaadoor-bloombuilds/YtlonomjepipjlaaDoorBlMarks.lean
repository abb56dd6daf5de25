/- bloom.Build: marks of loops over functions; bits that are set. -/
import Derived.Test.YtlonomjepipjlaaDoorBlBuild
namespace Go.Proofs.YtlonomjepipjlaaDoor
open Go.RowKit Go.Shelf
set_option linter.unusedVariables false

/-- marks that loops over functions left -/
def Marks (lo hi : Nat) (W : World) : List Deferred → Prop
  | [] => True
  | d :: ds => (∃ D, d = { target := .collected D, args := #[] } ∧ lo ≤ D ∧ D < hi ∧ W.heap[D]? = some (.deferred (some [])) ∧ ∀ d' ∈ ds, d' ≠ d) ∧ Marks lo hi W ds

theorem Marks.to {lo hi hi' : Nat} {W W' : World} (hh : hi ≤ hi') (h : ∀ D, lo ≤ D → D < hi → W.heap[D]? = some (.deferred (some [])) → W'.heap[D]? = some (.deferred (some []))) : ∀ {ds : List Deferred}, Marks lo hi W ds → Marks lo hi' W' ds
  | [], _ => trivial
  | d :: ds, ⟨⟨D, e, h1, h2, h3, h4⟩, hs⟩ => ⟨⟨D, e, h1, Nat.lt_of_lt_of_le h2 hh, h D h1 h2 h3, h4⟩, Marks.to hh h hs⟩

theorem Marks.keeps {lo hi : Nat} {W W' : World} {ds : List Deferred} (h : Marks lo hi W ds) (k : KeepsOthers W W') : Marks lo hi W' ds :=
  h.to (Nat.le_refl _) (fun D _ _ hD => k.same D _ hD rfl)

theorem Marks.more {lo hi hi' : Nat} {W : World} {ds : List Deferred} (h : Marks lo hi W ds) (hh : hi ≤ hi') : Marks lo hi' W ds :=
  h.to hh (fun D _ _ hD => hD)

theorem Marks.mem {lo hi : Nat} {W : World} : ∀ {ds : List Deferred}, Marks lo hi W ds → ∀ d ∈ ds, ∃ D, d = { target := .collected D, args := #[] } ∧ lo ≤ D ∧ D < hi
  | [], _, d, hd => by cases hd
  | e :: ds, ⟨⟨D, e1, h1, h2, _, _⟩, hs⟩, d, hd => by
    rcases List.mem_cons.1 hd with h | h
    · exact ⟨D, by rw [h]; exact e1, h1, h2⟩
    · exact Marks.mem hs d h

/-- one more mark, laid behind all others -/
theorem Marks.push {lo hi hi' D : Nat} {W : World} {ds : List Deferred} (h : Marks lo hi W ds) (h1 : hi ≤ D) (h2 : D < hi') (h0 : lo ≤ D) (hD : W.heap[D]? = some (.deferred (some []))) : Marks lo hi' W ({ target := .collected D, args := #[] } :: ds) := by
  refine ⟨⟨D, rfl, h0, h2, hD, fun d' hd' e => ?_⟩, h.more (by omega)⟩
  obtain ⟨D', e', _, hlt⟩ := h.mem d' hd'
  rw [e'] at e
  simp only [Deferred.mk.injEq, Target.collected.injEq] at e
  omega

/-- at the function's end the marks are shut, one by one -/
theorem leave_marks {F : Fence} {n : Nat} {P : Program} {fn : Func} {tmps : Array Value} {R : Ending → World → Prop} {lo hi : Nat} (T : World → Prop)
    (hT : ∀ W D, T W → lo ≤ D → W.heap[D]? = some (.deferred (some [])) → T (W.putObj D (.deferred none))) (hend : ∀ W, T W → LeavesInM F n P fn tmps R [] .returning W) :
    ∀ (ds : List Deferred) (W : World), Marks lo hi W ds → T W → LeavesInM F n P fn tmps R ds .returning W
  | [], W, _, hW => hend W hW
  | d :: ds, W, ⟨⟨D, e, h1, h2, h3, h4⟩, hs⟩, hW => by
    subst e
    refine ⟨by simp, .inl ⟨D, _, rfl, run_takeDeferred h3, ?_⟩⟩
    have hin : ∀ {es : List Deferred}, (∀ d' ∈ es, d' ≠ { target := .collected D, args := #[] }) → Marks lo hi W es → Marks lo hi (W.putObj D (.deferred none)) es := by
      intro es
      induction es with
      | nil => intro _ _; trivial
      | cons x xs ih =>
        intro hx hm
        obtain ⟨⟨D', e', a1, a2, a3, a4⟩, hm'⟩ := hm
        refine ⟨⟨D', e', a1, a2, ?_, a4⟩, ih (fun d' hd' => hx d' (List.mem_cons_of_mem _ hd')) hm'⟩
        have hne : D' ≠ D := fun e => hx x (List.mem_cons_self) (by rw [e', e])
        rw [(grownBy_putObj' W D (.deferred none)).block D' (Array.getElem?_eq_some_iff.1 a3).1 (by simp; omega)]
        exact a3
    exact leave_marks T hT hend ds _ (hin h4 hs) (hT W D hW h1 h3)

theorem cell_els {w : World} {q p : Addr} {u : Value} (h : q.block ≠ p.block) : (w.setCell p u).cell? q = w.cell? q := by
  unfold World.cell?
  rw [Below.heap_setCell w p u q.block h]

/-- the k-th bit is set -/
def setBit (l : List UInt8) (k : Nat) : List UInt8 := l.set (k / 8) (UInt8.ofNat ((l.getD (k / 8) 0).toNat ||| 2 ^ (k % 8)))

theorem setBit_len (l : List UInt8) (k : Nat) : (setBit l k).length = l.length := by simp [setBit]

theorem bv_set (l : List UInt8) (q : Nat) (b : UInt8) : bv (l.set q b) = (bv l).set q (.int .u8 (b.toNat : Int)) := by
  unfold bv
  rw [List.map_set]

theorem or_bit (y r : Nat) (hy : y < 2 ^ 8) (hr : r < 8) : bits BinOp.or IntKind.u8 (y : Int) ((2 : Int) ^ r % 256) = (((UInt8.ofNat (y ||| 2 ^ r)).toNat : Nat) : Int) := by
  have h2 : (2 : Nat) ^ r < 256 := Nat.lt_of_lt_of_le (Nat.pow_lt_pow_right (by omega) hr) (by decide)
  have e1 : (2 : Int) ^ r % 256 = ((2 ^ r : Nat) : Int) := by
    have e : (2 : Int) ^ r = ((2 ^ r : Nat) : Int) := by push_cast; rfl
    rw [e]
    generalize (2 : Nat) ^ r = p at h2 ⊢
    omega
  have h3 : y ||| 2 ^ r < 256 := Nat.or_lt_two_pow (n := 8) (by omega) h2
  rw [e1, u8_or_nat y (2 ^ r) (by omega) h2]
  congr 1
  rw [UInt8.toNat_ofNat_of_lt' (by simpa using h3)]

/-- a key's bits are set -/
def addKey (c sz : Nat) (hB : 0 < 8 * sz) (l : List UInt8) (key : List UInt8) : List UInt8 := (probesN key c (8 * sz) hB).foldl (fun m x => setBit m x.1) l

theorem fold_len {sz : Nat} : ∀ (xs : List (Fin (8 * sz))) (l : List UInt8), (xs.foldl (fun m x => setBit m x.1) l).length = l.length
  | [], l => rfl
  | x :: xs, l => by rw [List.foldl_cons, fold_len xs, setBit_len]

theorem setBit_last {l : List UInt8} {k sz : Nat} (hk : k < 8 * sz) (hl : l.length = sz + 1) : (setBit l k).getD sz 0 = l.getD sz 0 := by
  unfold setBit
  rw [List.getD_eq_getElem?_getD, List.getElem?_set_ne (by omega), ← List.getD_eq_getElem?_getD]

theorem fold_last {sz : Nat} : ∀ (xs : List (Fin (8 * sz))) (l : List UInt8), l.length = sz + 1 → (xs.foldl (fun m x => setBit m x.1) l).getD sz 0 = l.getD sz 0
  | [], l, _ => rfl
  | x :: xs, l, h => by rw [List.foldl_cons, fold_last xs _ (by rw [setBit_len, h]), setBit_last x.2 h]

/-- bits that are set, one by one -/
def setAll {sz : Nat} (l : List UInt8) (xs : List (Fin (8 * sz))) : List UInt8 := xs.foldl (fun m x => setBit m x.1) l

theorem setAll_snoc {sz : Nat} (l : List UInt8) (xs : List (Fin (8 * sz))) (x : Fin (8 * sz)) : setAll l (xs ++ [x]) = setBit (setAll l xs) x.1 := by simp [setAll]
theorem setAll_len {sz : Nat} (l : List UInt8) (xs : List (Fin (8 * sz))) : (setAll l xs).length = l.length := fold_len xs l
theorem setAll_last {sz : Nat} (l : List UInt8) (xs : List (Fin (8 * sz))) (h : l.length = sz + 1) : (setAll l xs).getD sz 0 = l.getD sz 0 := fold_last xs l h

/-- how many bytes a filter has, but its last one -/
def sizN (b : Int) (n : Nat) : Nat := if (takN b * n + 7) / 8 < 8 then 8 else (takN b * n + 7) / 8

theorem sizN_pos (b : Int) (n : Nat) : 0 < 8 * sizN b n := by
  unfold sizN
  split <;> omega

/-- the filter of keys -/
def buildF (b : Int) (keys : List (List UInt8)) : List UInt8 := keys.foldl (addKey (prbN b) (sizN b keys.length) (sizN_pos b keys.length)) (List.replicate (sizN b keys.length) 0 ++ [UInt8.ofNat (prbN b)])

end Go.Proofs.YtlonomjepipjlaaDoor
