/- What both Reads of a version answer. -/
import Derived.Test.YtdopfijoplldkaaKeyRefReadOk
namespace Go.Proofs.Ytdopfijoplldkaa
open Go.RowKit

/-- user, Seq, Kind, what stands behind, and the error -/
def keyS (l : List UInt8) : List UInt8 × Nat × Nat × List UInt8 × Nat :=
  if (textS l 64).2.2 = 0 then
    match (textS l 64).2.1 with
    | a0 :: a1 :: a2 :: a3 :: a4 :: a5 :: a6 :: a7 :: t =>
      if chk (textS l 64).1.length (seqOf a1 a2 a3 a4 a5 a6 a7 : Nat) (a0.toNat : Nat) = 0 then ((textS l 64).1, seqOf a1 a2 a3 a4 a5 a6 a7, a0.toNat, t, 0) else ([], 0, 0, [], 4)
    | _ => ([], 0, 0, [], 2)
  else ([], 0, 0, [], (textS l 64).2.2)

theorem keyS_err {l u r : List UInt8} {e : Nat} (hT : textS l 64 = (u, r, e)) (he : ¬ e = 0) : keyS l = ([], 0, 0, [], e) := by
  unfold keyS; rw [hT]; simp only; rw [if_neg he]

theorem keyS_short {l u r : List UInt8} (hT : textS l 64 = (u, r, 0)) (hr : r.length < 8) : keyS l = ([], 0, 0, [], 2) := by
  unfold keyS; rw [hT]; simp only [if_true]
  match r, hr with
  | [], _ => rfl
  | [_], _ => rfl
  | [_, _], _ => rfl
  | [_, _, _], _ => rfl
  | [_, _, _, _], _ => rfl
  | [_, _, _, _, _], _ => rfl
  | [_, _, _, _, _, _], _ => rfl
  | [_, _, _, _, _, _, _], _ => rfl

theorem keyS_form {l u t : List UInt8} {a0 a1 a2 a3 a4 a5 a6 a7 : UInt8} (hT : textS l 64 = (u, a0 :: a1 :: a2 :: a3 :: a4 :: a5 :: a6 :: a7 :: t, 0)) (hc : ¬ chk u.length (seqOf a1 a2 a3 a4 a5 a6 a7 : Nat) (a0.toNat : Nat) = 0) : keyS l = ([], 0, 0, [], 4) := by
  unfold keyS; rw [hT]; simp only [if_true]; rw [if_neg hc]

theorem keyS_ok {l u t : List UInt8} {a0 a1 a2 a3 a4 a5 a6 a7 : UInt8} (hT : textS l 64 = (u, a0 :: a1 :: a2 :: a3 :: a4 :: a5 :: a6 :: a7 :: t, 0)) (hc : chk u.length (seqOf a1 a2 a3 a4 a5 a6 a7 : Nat) (a0.toNat : Nat) = 0) : keyS l = (u, seqOf a1 a2 a3 a4 a5 a6 a7, a0.toNat, t, 0) := by
  unfold keyS; rw [hT]; simp only [if_true]; rw [if_pos hc]

theorem eight {r : List UInt8} (h : 8 ≤ r.length) : ∃ a0 a1 a2 a3 a4 a5 a6 a7 t, r = a0 :: a1 :: a2 :: a3 :: a4 :: a5 :: a6 :: a7 :: t := by
  match r, h with
  | a0 :: a1 :: a2 :: a3 :: a4 :: a5 :: a6 :: a7 :: t, _ => exact ⟨a0, a1, a2, a3, a4, a5, a6, a7, t, rfl⟩

/-- the answer, as a value -/
def KeyPost (l : List UInt8) (w w' : World) (o : Ending) : Prop :=
  ∃ x y, o = .returned (.tuple #[.agg #[x, .int .u64 ((keyS l).2.1 : Int), .int .u8 ((keyS l).2.2.1 : Int)], y, .int .i64 ((keyS l).2.2.2.2 : Int)]) ∧ Rd w' x (keyS l).1 ∧ Rd w' y (keyS l).2.2.2.1 ∧ From (w.heap.size + 1) x ∧ From (w.heap.size + 1) y ∧ Below w.heap.size w w'

theorem read_any (w : World) (v : Value) (l : List UInt8) (hv : Rd w v l) (hlen : l.length ≤ 1000000) :
    Calls Try.prog 67 #[v] w fun o w' => KeyPost l w w' o := by
  obtain ⟨⟨u, r, e⟩, hT⟩ : ∃ y, textS l 64 = y := ⟨_, rfl⟩
  by_cases he : e = 0
  · subst he
    by_cases hr : r.length < 8
    · refine (kr_short w v l u r hv hlen hT hr).mono ?_
      rintro o w' ⟨rfl, hb⟩
      unfold KeyPost
      rw [keyS_short hT hr]
      exact ⟨_, _, rfl, .inl ⟨rfl, rfl⟩, .inl ⟨rfl, rfl⟩, from_nil _, from_nil _, hb⟩
    · obtain ⟨a0, a1, a2, a3, a4, a5, a6, a7, t, rfl⟩ := eight (r := r) (by omega)
      have hd : ((seqOf a1 a2 a3 a4 a5 a6 a7 * 256 + a0.toNat : Nat) : Int) / 256 = (seqOf a1 a2 a3 a4 a5 a6 a7 : Nat) := by have := a0.toNat_lt; omega
      have hm : ((seqOf a1 a2 a3 a4 a5 a6 a7 * 256 + a0.toNat : Nat) : Int) % 256 = (a0.toNat : Nat) := by have := a0.toNat_lt; omega
      by_cases hc : chk u.length (seqOf a1 a2 a3 a4 a5 a6 a7 : Nat) (a0.toNat : Nat) = 0
      · refine (kr_ok w v l u t a0 a1 a2 a3 a4 a5 a6 a7 _ _ _ hv hlen hT rfl hd hm (by omega) (by omega) hc).mono ?_
        rintro o w' ⟨x, y, rfl, hx, hy, fx, fy, hb⟩
        unfold KeyPost
        rw [keyS_ok hT hc]
        exact ⟨x, y, rfl, hx, hy, fx, fy, hb⟩
      · refine (kr_form w v l u t a0 a1 a2 a3 a4 a5 a6 a7 _ _ _ _ hv hlen hT rfl hd hm (by omega) (by omega) rfl hc).mono ?_
        rintro o w' ⟨rfl, hb⟩
        unfold KeyPost
        rw [keyS_form hT hc]
        exact ⟨_, _, rfl, .inl ⟨rfl, rfl⟩, .inl ⟨rfl, rfl⟩, from_nil _, from_nil _, hb⟩
  · refine (kr_err w v l u r e hv hlen hT he).mono ?_
    rintro o w' ⟨rfl, hb⟩
    unfold KeyPost
    rw [keyS_err hT he]
    exact ⟨_, _, rfl, .inl ⟨rfl, rfl⟩, .inl ⟨rfl, rfl⟩, from_nil _, from_nil _, hb⟩

end Go.Proofs.Ytdopfijoplldkaa
