/- TakeText, both ways. -/
import Derived.Test.YtdopfijoplldkaaRefText
namespace Go.Proofs.Ytdopfijoplldkaa
set_option maxRecDepth 20000
open Go.RowKit

/-- what both TakeTexts answer -/
def textS (l : List UInt8) (most : Int) : List UInt8 × List UInt8 × Nat :=
  if (frontS l).2.2 = 0 then
    if most < 0 ∨ most < ((frontS l).1 : Int) then ([], [], 3)
    else if l.length - (frontS l).2.1 < (frontS l).1 then ([], [], 2)
    else ((l.drop (frontS l).2.1).take (frontS l).1, l.drop ((frontS l).2.1 + (frontS l).1), 0)
  else ([], [], (frontS l).2.2)

theorem text_any (w : World) (v : Value) (l : List UInt8) (most : Int) (hm2 : most ≤ 9223372036854775807) (hv : Rd w v l) (hlen : l.length ≤ 1099511627776) :
    Calls Try.prog 71 #[v, .int .i64 most] w fun e w' => ∃ x y, e = .returned (.tuple #[x, y, .int .i64 ((textS l most).2.2 : Int)]) ∧ Rd w' x (textS l most).1 ∧ Rd w' y (textS l most).2.1 ∧ From w.heap.size x ∧ From w.heap.size y ∧ Below w.heap.size w w' := by
  obtain ⟨⟨n, s, e⟩, hf⟩ : ∃ y, frontS l = y := ⟨_, rfl⟩
  by_cases he : e = 0
  · subst he
    by_cases h1 : most < 0 ∨ most < (n : Int)
    · have hT : textS l most = ([], [], 3) := by unfold textS; rw [hf]; simp only [if_true]; rw [if_pos h1]
      refine (tt_long w v l most n s hm2 hv hf h1).mono ?_
      rintro r w' ⟨rfl, hb⟩
      rw [hT]
      exact ⟨_, _, rfl, .inl ⟨rfl, rfl⟩, .inl ⟨rfl, rfl⟩, from_nil _, from_nil _, hb⟩
    · by_cases h2 : l.length - s < n
      · have hT : textS l most = ([], [], 2) := by unfold textS; rw [hf]; simp only [if_true]; rw [if_neg h1, if_pos h2]
        refine (tt_short w v l most n s hm2 hv hf (by omega) h2).mono ?_
        rintro r w' ⟨rfl, hb⟩
        rw [hT]
        exact ⟨_, _, rfl, .inl ⟨rfl, rfl⟩, .inl ⟨rfl, rfl⟩, from_nil _, from_nil _, hb⟩
      · have hT : textS l most = ((l.drop s).take n, l.drop (s + n), 0) := by unfold textS; rw [hf]; simp only [if_true]; rw [if_neg h1, if_neg h2]
        refine (tt_ok w v l _ _ most n s hm2 hv hf (by omega) (by omega) hlen rfl rfl).mono ?_
        rintro r w' ⟨x, y, rfl, hx, hy, hb⟩
        rw [hT]
        exact ⟨x, y, rfl, hx.rd, hy.rd, hx.from, hy.from, hb⟩
  · obtain ⟨rfl, rfl, h24⟩ := frontS_err hf he
    have hT : textS l most = ([], [], e) := by unfold textS; rw [hf]; simp only; rw [if_neg he]
    refine (tt_front w v l most e hv hf h24).mono ?_
    rintro r w' ⟨rfl, hb⟩
    rw [hT]
    exact ⟨_, _, rfl, .inl ⟨rfl, rfl⟩, .inl ⟨rfl, rfl⟩, from_nil _, from_nil _, hb⟩

/-- what stands behind the number, as bytes -/
def behindS (l : List UInt8) : List UInt8 := if (frontS l).2.2 = 0 then l.drop (frontS l).2.1 else []

theorem TakePost.rd {l : List UInt8} {B : Nat} {w : World} {x : Value} (h : TakePost l B w x) : Rd w x (behindS l) := by
  unfold TakePost at h
  unfold behindS
  split at h
  · rename_i e; rw [if_pos e]; exact h.rd
  · rename_i e; rw [if_neg e]; exact .inl ⟨h, rfl⟩

end Go.Proofs.Ytdopfijoplldkaa
