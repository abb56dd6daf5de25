/- reel.Piece. -/
import Derived.Test.YtppoimmoohfbnaaDoorReelAt
namespace Go.Proofs.YtppoimmoohfbnaaDoor
open Go.RowKit
set_option linter.unusedVariables false

/-- what reel.Piece answers -/
def PiecePost (w : World) (a : Nat) (q : Option (UInt8 × List UInt8)) (x : Ending) (w' : World) : Prop :=
  Below w.heap.size w w' ∧ match q with
    | none => x = .returned (.tuple #[.int .u8 0, .slice none 0 0, .int .i64 0, .bool false])
    | some (k, t) => ∃ y, x = .returned (.tuple #[.int .u8 (k.toNat : Int), y, .int .i64 ((a + 7 + t.length : Nat) : Int), .bool true]) ∧ OwnN w.heap.size w' y t

theorem pcAt_len {p : List UInt8} {a : Nat} {k : UInt8} {t : List UInt8} (h : pcAt p a = some (k, t)) : t.length ≤ 64 := by
  unfold pcAt at h
  split at h
  · rename_i e
    split at h
    · cases h
      have := congrArg List.length e
      rw [List.length_take] at this
      have hl := left_bd a
      simp only [List.length_cons] at this
      rw [List.length_take]
      omega
    · cases h
  · cases h

set_option maxRecDepth 100000 in
set_option maxHeartbeats 4000000 in
theorem piecef_at (w : World) (a b off c : Nat) (p : List UInt8) (hcs : ∀ j u, (bv p)[j]? = some u → w.cell? ⟨b, off + j, none⟩ = some u) (ha : a < p.length) (hc : p.length ≤ c) (hM : c ≤ maxLen) (hp : p.length ≤ 1000000) (hT : Tab w) :
    Calls Tryd.prog 18 #[.slice (some ⟨b, off, none⟩) p.length c, .int .i64 (a : Int)] w (PiecePost w a (pcAt p a)) := by
  have hpc := piece_at w a b off c p hcs ha hc hM hp hT
  have ha1 : (a : Int) ≤ 1000000 := by omega
  have ha0 : (0 : Int) ≤ (a : Int) := by omega
  obtain ⟨q, hq⟩ : ∃ q, pcAt p a = q := ⟨_, rfl⟩
  have HL : Hid (∀ k t, q = some (k, t) → t.length ≤ 64) := fun k t h => pcAt_len (hq.trans h)
  rw [hq] at hpc ⊢
  clear hcs ha hc hM hp hT hq
  cases q with
  | none =>
    go_enter Tryd.func18, Tryd.ntmps18
    go_wp2_with fail
    refine hpc.mono ?_
    rintro x w1 ⟨hb, rfl⟩
    have HB : Hid (Below w.heap.size w w1) := hb
    clear hb hpc
    go_wp2
    refine bodyPost_ret (v := .tuple #[.int .u8 0, .slice none 0 0, .int .i64 0, .bool false]) (by simp [results]) rfl ?_
    exact ⟨HB.out, rfl⟩
  | some kt =>
    obtain ⟨k, t⟩ := kt
    have hl := HL.out k t rfl
    have hlI : (t.length : Int) ≤ 64 := by omega
    go_enter Tryd.func18, Tryd.ntmps18
    go_wp2_with fail
    refine hpc.mono ?_
    rintro x w1 ⟨hb, o', d', rfl, hrd⟩
    have HB : Hid (Below w.heap.size w w1) := hb
    have hcl := clone_any w1 _ t (hrd.below hb (Nat.le_refl _)).arg (by omega)
    clear hb hpc hrd
    go_wp2_with fail
    refine hcl.mono ?_
    rintro x w2 ⟨y, rfl, hy, hb2⟩
    obtain ⟨y1, y2, rfl⟩ := hy.rd.len
    have HY : Hid (OwnN w1.heap.size w2 (.slice y1 t.length y2) t) := hy
    have HB2 : Hid (Below w.heap.size w w2) := HB.out.trans (hb2.mono HB.out.size)
    clear hy hb2 hcl
    go_wp2
    refine bodyPost_ret (v := .tuple #[.int .u8 (k.toNat : Int), .slice y1 t.length y2, .int .i64 ((a : Int) + 7 + (t.length : Int)), .bool true]) (by simp [results]) rfl ?_
    refine ⟨HB2.out, .slice y1 t.length y2, ?_, HY.out.mono HB.out.size⟩
    rw [Int.natCast_add, Int.natCast_add]
    rfl

end Go.Proofs.YtppoimmoohfbnaaDoor
