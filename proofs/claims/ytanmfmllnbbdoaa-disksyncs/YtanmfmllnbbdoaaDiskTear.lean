/- A file's tail; a file at a crash. -/
import Derived.Test.YtanmfmllnbbdoaaDiskList
namespace Go.Proofs.Ytanmfmllnbbdoaa
open Go.RowKit Go.Maps Go.WideShapes

/-- how many bytes of a tail a crash keeps -/
def keptN (n s : Nat) (keep : Int) : Nat := (min (max keep 0) ((n - s : Nat) : Int)).toNat

/-- what a crash leaves of a file's bytes -/
def tear (data : List UInt8) (s : Nat) (keep : Int) (t : UInt8) : List UInt8 :=
  if 0 < keptN data.length s keep ∧ keptN data.length s keep < data.length - s then
    (data.take (s + keptN data.length s keep)).set (s + keptN data.length s keep - 1) ((data.getD (s + keptN data.length s keep - 1) 0) ^^^ t)
  else data.take (s + keptN data.length s keep)

theorem keptN_le (n s : Nat) (keep : Int) : keptN n s keep ≤ n - s := by
  unfold keptN
  omega

theorem setBy_twice {α : Type} (nm : α → List UInt8) (x y : α) (h : nm x = nm y) (l : List α) : setBy nm x (setBy nm y l) = setBy nm x l := by
  unfold setBy
  rw [List.map_map]
  refine List.map_congr_left fun z _ => ?_
  simp only [Function.comp]
  by_cases e : nm z = nm y
  · rw [if_pos e, if_pos h.symm, if_pos (e.trans h.symm)]
  · rw [if_neg e, if_neg fun e' => e (e'.trans h)]

theorem tail_any (F : Nat → Prop) (w : World) (d m : Nat) (S : Dsk) (fs : List FileT) (f : FileT) (h : DiskAt F w d m S fs) (hf : f ∈ fs) :
    Calls Try.prog 50 #[.pointer (some ⟨f.g, 0, none⟩)] w fun e w' => e = .returned (.int .i64 ((f.data.length - f.syn : Nat) : Int)) ∧ w' = w.drew := by
  have hA := h.fl f hf
  obtain ⟨k0, k1, _⟩ := hA.two
  obtain ⟨ao, cap, hv⟩ := hA.own.rd.len
  rw [hv] at k0
  have h1 := hA.syn
  have h2 := h.data_le hf
  obtain ⟨n, hn⟩ : ∃ n, f.data.length = n := ⟨_, rfl⟩
  obtain ⟨s, hs⟩ : ∃ s, f.syn = s := ⟨_, rfl⟩
  rw [hn] at k0
  rw [hs] at k1
  rw [hn, hs]
  have hw : IntKind.i64.wrap ((n : Int) - (s : Int)) = ((n - s : Nat) : Int) := by rw [IntKind.wrap_i64]; omega
  clear h hA hv h1 h2 hn hs
  go_enter Try.func50, Try.ntmps50
  go_wp2
  go_region
  all_goals
    go_wp2
    go_ret
    exact ⟨rfl, rfl⟩

end Go.Proofs.Ytanmfmllnbbdoaa
