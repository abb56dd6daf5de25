/- Crash. -/
import Derived.Test.YtanmfmllnbbdoaaDiskCrash1
import Derived.Deep.LoopGhost
namespace Go.Proofs.Ytanmfmllnbbdoaa
open Go.RowKit Go.Maps Go.WideShapes Go.Sort

/-- what a crash makes of the files -/
def crashL (t : UInt8) : List FileA → List Int → List FileA
  | [], _ => []
  | f :: r, ks => if f.data.length - f.syn = 0 then f :: crashL t r ks
    else ⟨f.name, tear f.data f.syn (ks.headD 0) t, (tear f.data f.syn (ks.headD 0) t).length⟩ :: crashL t r ks.tail

def crashD (S : Dsk) (ks : List Int) (t : UInt8) : Dsk := { S with off := false, left := 0, fs := crashL t S.fs ks }

/-- a slice of integers that lies elsewhere -/
def ArgI (F : Nat → Prop) (w : World) (v : Value) (ks : List Int) : Prop :=
  (∃ a cap, v = .slice a 0 cap ∧ ks = []) ∨ ∃ b off cap, v = .slice (some ⟨b, off, none⟩) ks.length cap ∧ ks.length ≤ cap ∧ cap ≤ maxLen ∧ ¬ F b ∧ ∀ j (h : j < ks.length), w.cell? ⟨b, off + j, none⟩ = some (.int .i64 ks[j])

theorem Keeps.cell {F : Nat → Prop} {a b : World} (h : Keeps F a b) {p : Addr} {v : Value} (hp : ¬ F p.block) (hc : a.cell? p = some v) : b.cell? p = some v :=
  (World.cell?_of_block (h.block p.block (World.block_lt_of_cell? a p hc) hp)).trans hc

theorem ArgI.keeps {F : Nat → Prop} {w w' : World} {v : Value} {ks : List Int} (h : ArgI F w v ks) (hk : Keeps F w w') : ArgI F w' v ks := by
  rcases h with h | ⟨b, off, cap, e, h1, h2, hF, h3⟩
  · exact .inl h
  · exact .inr ⟨b, off, cap, e, h1, h2, hF, fun j hj => hk.cell (p := ⟨b, off + j, none⟩) hF (h3 j hj)⟩

theorem setBy_mid {α : Type} {nm : α → List UInt8} {A B : List α} {f f' : α} (hr : Rise nm (A ++ f :: B)) (e : nm f' = nm f) : setBy nm f' (A ++ f :: B) = A ++ f' :: B := by
  have hne := hr.ne
  rw [List.pairwise_append] at hne
  obtain ⟨_, h2, h3⟩ := hne
  obtain ⟨h4, _⟩ := List.pairwise_cons.1 h2
  unfold setBy
  rw [List.map_append, List.map_cons, if_pos e.symm]
  congr 1
  · refine (List.map_congr_left fun x hx => ?_).trans (List.map_id A)
    rw [if_neg fun e' => h3 x hx f (by simp) (e'.trans e)]
    rfl
  · congr 1
    refine (List.map_congr_left fun x hx => ?_).trans (List.map_id B)
    rw [if_neg fun e' => h4 x hx (e'.trans e).symm]
    rfl

theorem restore_any (F : Nat → Prop) (w : World) (d m : Nat) (S : Dsk) (fs : List FileT) (h : DiskAt F w d m S fs) :
    Calls Try.prog 52 #[.pointer (some ⟨d, 0, none⟩)] w fun e w' => e = .returned (.tuple #[]) ∧ DiskAt F w' d m { S with off := false, left := 0 } fs ∧ Keeps F w w' := by
  have HH : Hid (DiskAt F w d m S fs) := h
  have f0 := h.five.fz 0
  have k0 := h.five.k0
  have f3 := h.five.fz 3
  obtain ⟨z, hz⟩ := h.dk
  have k3 : w.cell? ⟨d, 3, none⟩ = some (.int .i64 z) := (cell_of_row w d 3 _ 66 (0, 0) hz).trans rfl
  have hs := five_set hz 0 (.bool false)
  have hs3 := five_set hs 3 (.int .i64 (wrap64 (z + 1)))
  have hfd := h.fd
  have ok := h.ok
  have D1 : Hid (DiskAt F ((w.setCell ⟨d, 0, none⟩ (.bool false)).setCell ⟨d, 3, none⟩ (.int .i64 (wrap64 (z + 1)))) d m { S with off := false } fs) :=
    HH.out.turn (but_set (but_set (But.refl d w) 0 _) 3 _) (by simpa using hs3) rfl ⟨ok.l0, ok.l1, ok.c0, ok.r0, ok.r1, ok.us⟩
  have HF : Hid (F d) := hfd
  clear h hs hs3 ok hfd hz
  go_enter Try.func52, Try.ntmps52
  go_wp2_with fail
  refine (powarm_any F _ d m _ fs 0 D1.out (by omega) (by omega)).mono ?_
  rintro e w2 ⟨rfl, hD2, hK2⟩
  have K2 : Hid _ := hK2
  have D2 : Hid _ := hD2
  clear hD2 hK2
  go_wp2
  go_end0
  exact ⟨rfl, D2.out, (((Keeps.refl F w).setCell (p := ⟨d, 0, none⟩) HF.out _).setCell (p := ⟨d, 3, none⟩) HF.out _).trans K2.out⟩

/-- where a crash has come to -/
structure Mid (F : Nat → Prop) (w1 wr : World) (d m : Nat) (S : Dsk) (t : UInt8) (ks : List Int) (j : Nat) (kv : Value) (A : List FileA) (ks' : List Int) (fs : List FileT) : Prop where
  len : A.length = j
  sum : crashL t S.fs ks = A ++ crashL t (S.fs.drop j) ks'
  nms : (A ++ S.fs.drop j).map FileA.name = S.fs.map FileA.name
  arg : ArgI F wr kv ks'
  dk : DiskAt F wr d m { S with fs := A ++ S.fs.drop j } fs
  kp : Keeps F w1 wr

theorem getBy_mid {α : Type} {nm : α → List UInt8} {A B : List α} {f : α} (hr : Rise nm (A ++ f :: B)) : getBy nm (nm f) (A ++ f :: B) = some f := getBy_of_mem hr (by simp)

theorem name_row {B : Nat} {w : World} {v : Value} {ns : List (List UInt8)} (h : OwnS B w v ns) (hn : ns ≠ []) : ∃ g cap, v = .slice (some ⟨g, 0, none⟩) ns.length cap ∧ ns.length ≤ cap ∧ cap ≤ 9223372036854775807 ∧ B ≤ g ∧ ∀ j (hj : j < ns.length), w.cell? ⟨g, j, none⟩ = some (.string ⟨ns[j].toArray⟩) := by
  have h0 := h
  rcases h.2 with ⟨e, e2⟩ | ⟨g, cap, cur, rfl, hB, hg, h1, h2, h3, h4⟩
  · exact absurd (List.eq_nil_of_length_eq_zero e2) hn
  · refine ⟨g, cap, rfl, h1, by unfold maxLen at h2; omega, hB, fun j hj => ?_⟩
    have := World.ownsRow.cells h0 rfl j _ (by rw [List.getElem?_map, List.getElem?_eq_getElem hj]; rfl)
    simpa [Addr.add_lit] using this

end Go.Proofs.Ytanmfmllnbbdoaa
