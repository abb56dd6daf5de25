/- DiskSyncs: what is synced stays, on plain disks. -/
import Derived.Test.YtanmfmllnbbdoaaDOpArg
import Derived.Test.YtanmfmllnbbdoaaConvStr
namespace Go.Proofs.Ytanmfmllnbbdoaa
open Go.RowKit Go.Maps Go.WideShapes Go.Sort
set_option linter.unusedVariables false

def kept : List UInt8 := [107, 101, 112, 116]
def keptS : ByteArray := ⟨#[107, 101, 112, 116]⟩

structure KInv (S : Dsk) (P : List UInt8) (j : Nat) : Prop where
  kf : ∃ X, getBy FileA.name kept S.fs = some ⟨kept, P ++ X, P.length⟩
  nms : ∀ f ∈ S.fs, isName f.name = true
  ch : S.ch ≤ 3 + (j : Int)
  rise : Rise FileA.name S.fs

theorem isName_len {l : List UInt8} (h : isName l = true) : l.length ≤ 1000000 := by
  unfold isName at h
  simp at h
  omega

theorem KInv.len {S : Dsk} {P : List UInt8} {j : Nat} (h : KInv S P j) : ∀ f ∈ S.fs, f.name.length ≤ 1000000 := fun f hf => isName_len (h.nms f hf)

theorem chg_ch (S : Dsk) : (chg S).2.ch ≤ S.ch + 1 := by
  unfold chg
  repeat' split
  all_goals simp only
  all_goals omega

theorem KInv.chg {S : Dsk} {P : List UInt8} {j : Nat} (h : KInv S P j) : KInv (chg S).2 P (j + 1) := by
  have e := (chg_fs S).1
  refine ⟨by rw [e]; exact h.kf, by rw [e]; exact h.nms, ?_, by rw [e]; exact h.rise⟩
  have := chg_ch S
  have := h.ch
  omega

theorem KInv.next {S : Dsk} {P : List UInt8} {j : Nat} (h : KInv S P j) : KInv S P (j + 1) := ⟨h.kf, h.nms, by have := h.ch; omega, h.rise⟩

theorem KInv.swap {S q : Dsk} {P : List UInt8} {j : Nat} (h : KInv S P j) (e : q.fs = S.fs) (hc : q.ch = S.ch) : KInv q P j := ⟨by rw [e]; exact h.kf, by rw [e]; exact h.nms, by rw [hc]; exact h.ch, by rw [e]; exact h.rise⟩

theorem KInv.put {S : Dsk} {P : List UInt8} {j : Nat} (h : KInv S P j) (f : FileA) (hn : isName f.name = true) (hk : f.name ≠ kept) : KInv { S with fs := putBy FileA.name f S.fs } P j := by
  refine ⟨?_, fun g hg => ?_, h.ch, rise_put h.rise f⟩
  · simp only
    rw [getBy_put_other FileA.name f S.fs h.rise kept hk]
    exact h.kf
  · rcases (putBy_mem FileA.name f g S.fs).1 hg with rfl | ⟨hg, _⟩
    · exact hn
    · exact h.nms g hg

theorem KInv.del {S : Dsk} {P : List UInt8} {j : Nat} (h : KInv S P j) (l : List UInt8) (hk : l ≠ kept) : KInv { S with fs := delBy FileA.name l S.fs } P j := by
  refine ⟨?_, fun g hg => h.nms g ((delBy_mem FileA.name l g S.fs).1 hg).1, h.ch, rise_del h.rise l⟩
  simp only
  rw [getBy_del_other FileA.name l kept S.fs h.rise hk]
  exact h.kf

theorem KInv.do {S : Dsk} {P : List UInt8} {j : Nat} (h : KInv S P j) (fs : List FileA) (h2 : KInv { S with fs := fs } P j) : KInv (doD S fs).2 P (j + 1) := by
  unfold doD
  split
  · refine ⟨h2.kf, h2.nms, ?_, h2.rise⟩
    have := chg_ch S
    have := h.ch
    simp only
    omega
  · exact h.chg

theorem KInv.create {S : Dsk} {P : List UInt8} {j : Nat} (h : KInv S P j) (l : List UInt8) (hk : l ≠ kept) : KInv (createD S l).2 P (j + 1) := by
  unfold createD
  split
  · exact h.next
  · rename_i hn
    split
    · exact h.next
    · split
      · exact h.next
      · have h2 := h.do (putBy FileA.name ⟨l, [], 0⟩ S.fs) (h.put ⟨l, [], 0⟩ (by simpa using hn) hk)
        unfold doD at h2
        exact h2

theorem KInv.dele {S : Dsk} {P : List UInt8} {j : Nat} (h : KInv S P j) (l : List UInt8) (hk : l ≠ kept) : KInv (delD S l).2 P (j + 1) := by
  unfold delD
  split
  · exact h.next
  · exact h.do _ (h.del l hk)

theorem KInv.ren {S : Dsk} {P : List UInt8} {j : Nat} (h : KInv S P j) (a b : List UInt8) (ha : a ≠ kept) (hb : b ≠ kept) : KInv (renD S a b).2 P (j + 1) := by
  unfold renD
  split
  · exact h.next
  · rename_i hn
    split
    · exact h.next
    · rename_i f hf
      exact h.do _ ((h.del a ha).put { f with name := b } (by simpa using hn) hb)

theorem KInv.arm {S : Dsk} {P : List UInt8} {j : Nat} (h : KInv S P j) (n : Int) : KInv (armD S n).2 P (j + 1) := by
  unfold armD
  split
  · exact h.next
  · exact (h.next).swap rfl rfl

theorem KInv.app {S : Dsk} {P : List UInt8} {j : Nat} (h : KInv S P j) (l p : List UInt8) : KInv (appD S l p).2 P (j + 1) := by
  unfold appD
  split
  · exact h.next
  · rename_i f hf
    split
    · exact h.next
    · split
      · exact h.next
      · obtain ⟨hm, hn⟩ := getBy_some hf
        refine KInv.chg ⟨?_, fun g hg => ?_, h.ch, rise_set h.rise _⟩
        · obtain ⟨X, hX⟩ := h.kf
          by_cases e : l = kept
          · subst e
            rw [hX] at hf
            cases hf
            refine ⟨X ++ p, ?_⟩
            have := getBy_set_same FileA.name (⟨kept, P ++ X ++ p, P.length⟩ : FileA) _ S.fs hX
            rw [List.append_assoc] at this
            simp only
            rw [List.append_assoc]
            exact this
          · refine ⟨X, ?_⟩
            simp only
            rw [getBy_set_other FileA.name _ S.fs kept (by simp only; rw [hn]; exact e)]
            exact hX
        · rcases setBy_mem hg with rfl | ⟨hg, _⟩
          · exact h.nms f hm
          · exact h.nms g hg

theorem KInv.first (P : List UInt8) : KInv (one 3 5000 kept P P.length) P 0 := by
  refine ⟨⟨[], by simp [one, getBy]⟩, fun f hf => ?_, by simp [one], by simp [one, Rise]⟩
  simp [one] at hf
  subst hf
  rfl

theorem crashL_get (t : UInt8) (k : List UInt8) (f : FileA) : ∀ (fs : List FileA) (ks : List Int), getBy FileA.name k fs = some f → ∃ g, getBy FileA.name k (crashL t fs ks) = some g ∧ (g.data = f.data ∨ ∃ keep, g.data = tear f.data f.syn keep t) := by
  intro fs
  induction fs with
  | nil => intro ks h; simp [getBy] at h
  | cons x r ih =>
    intro ks h
    unfold getBy at h
    rw [List.find?_cons] at h
    unfold crashL
    by_cases e : x.name = k
    · rw [show (x.name == k) = true by simpa using e] at h
      simp only [Option.some.injEq] at h
      subst h
      split
      · exact ⟨x, by unfold getBy; rw [List.find?_cons, show (x.name == k) = true by simpa using e], .inl rfl⟩
      · exact ⟨_, by unfold getBy; rw [List.find?_cons, show (x.name == k) = true by simpa using e], .inr ⟨_, rfl⟩⟩
    · rw [show (x.name == k) = false by simpa using e] at h
      have h' : getBy FileA.name k r = some f := h
      split
      · obtain ⟨g, h1, h2⟩ := ih ks h'
        exact ⟨g, by unfold getBy; rw [List.find?_cons, show (x.name == k) = false by simpa using e]; exact h1, h2⟩
      · obtain ⟨g, h1, h2⟩ := ih ks.tail h'
        exact ⟨g, by unfold getBy; rw [List.find?_cons, show (x.name == k) = false by simpa using e]; exact h1, h2⟩

theorem tear_front (P X : List UInt8) (keep : Int) (t : UInt8) : ∃ Y, tear (P ++ X) P.length keep t = P ++ Y := by
  obtain ⟨n, hn⟩ : ∃ n : Nat, (min (max keep 0) (X.length : Int)) = (n : Int) := ⟨(min (max keep 0) (X.length : Int)).toNat, by omega⟩
  rw [tear_torn P X keep t n hn]
  unfold torn
  split
  · rename_i h
    refine ⟨(X.take n).set (n - 1) ((P ++ X.take n).getD (P.length + n - 1) 0 ^^^ t), ?_⟩
    rw [List.set_append_right _ _ (by omega), show P.length + n - 1 - P.length = n - 1 by omega]
  · exact ⟨_, rfl⟩

theorem KInv.crash {S : Dsk} {P : List UInt8} {j : Nat} (h : KInv S P j) (ks : List Int) (t : UInt8) : ∃ Y, readD (crashD S ks t) kept = (0, P ++ Y) := by
  obtain ⟨X, hX⟩ := h.kf
  obtain ⟨g, h1, h2⟩ := crashL_get t kept _ S.fs ks hX
  unfold readD crashD
  simp only
  rw [h1]
  simp only [Bool.false_eq_true, if_false, Prod.mk.injEq, true_and]
  rcases h2 with h2 | ⟨keep, h2⟩
  · exact ⟨X, h2⟩
  · obtain ⟨Y, hY⟩ := tear_front P X keep t
    exact ⟨Y, by rw [h2]; exact hY⟩

/-- []byte(s), of whatever length -/
theorem conv_any (w : World) (t : ByteArray) (l : List UInt8) (hl : t.data.toList = l) (hm : t.size ≤ maxLen) :
    ∃ cap w', (convert 9 31 (.string t)).run Try.prog w = .ok (.slice (some ⟨w.heap.size, 0, none⟩) l.length cap) w' ∧ Rd w' (.slice (some ⟨w.heap.size, 0, none⟩) l.length cap) l ∧ Below w.heap.size w w' := by
  subst hl
  have hsz : t.size = t.data.toList.length := by rw [Array.length_toList]; rfl
  have hcap := grownCap_ge w t.size 0 5
  have hcap2 := grownCap_le_maxLen w t.size 0 5 hm
  refine ⟨grownCap w t.size 0 5, Lib.bytesWorld w 5 t, ?_, .inr ⟨w.heap.size, 0, grownCap w t.size 0 5, rfl, by rw [← hsz]; exact hcap, hcap2, fun j u hu => ?_⟩, ?_⟩
  · have := Lib.run_convert_string_bytes (P := Try.prog) w 9 31 5 t Try.underlying9 Try.underlying31 Try.underlying5
    rw [this, hsz]
  · have hj : j < t.data.toList.length := by have := (List.getElem?_eq_some_iff.1 hu).1; rwa [bv_length] at this
    rw [Nat.zero_add, Lib.bytesWorld_cell w 5 t j (by rw [hsz]; exact hj), ← hu, bv_get _ j hj]
    have hj2 : j < t.data.size := by rwa [Array.length_toList] at hj
    have e : t.data[j]? = some t.data[j] := Array.getElem?_eq_getElem hj2
    simp [List.getD]
    rw [e]
    rfl
  · refine ⟨?_, ?_, ?_, ?_, fun k hk => Lib.bytesWorld_at_old w 5 t k hk⟩
    all_goals first | rfl | (rw [Lib.bytesWorld_size]; omega)

theorem cut_kept {t : ByteArray} (h : t.data.toList.take 40 = kept) : t = keptS := by
  have hl : (t.data.toList.take 40).length = 4 := by rw [h]; rfl
  rw [List.length_take] at hl
  rw [List.take_of_length_le (by omega)] at h
  cases t
  rename_i d
  simp only at h
  unfold keptS
  congr 1
  rw [← Array.toList_inj, h]
  rfl

end Go.Proofs.Ytanmfmllnbbdoaa
