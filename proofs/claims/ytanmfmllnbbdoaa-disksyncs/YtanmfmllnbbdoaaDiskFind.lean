/- disk.New, change, find. -/
import Derived.Test.YtanmfmllnbbdoaaDiskHeap
namespace Go.Proofs.Ytanmfmllnbbdoaa
open Go.RowKit Go.Maps Go.WideShapes

theorem five_set {w : World} {d : Nat} {c0 c1 c2 c3 c4 c5 : Value} (h : w.heap[d]? = some (.cells #[c0, c1, c2, c3, c4, c5] 66 (0, 0))) (i : Nat) (u : Value) :
    (w.setCell ⟨d, i, none⟩ u).heap[d]? = some (.cells (#[c0, c1, c2, c3, c4, c5].setIfInBounds i u) 66 (0, 0)) := heap_setCell_same w d i _ 66 u h

/-- all blocks but one are as they were -/
def But (d : Nat) (w w' : World) : Prop := ∀ i, i < w.heap.size → i ≠ d → w'.heap[i]? = w.heap[i]?

theorem but_set {d : Nat} {a w : World} (h : But d a w) (i : Nat) (u : Value) : But d a (w.setCell ⟨d, i, none⟩ u) := fun j hj hd => (Below.heap_setCell _ _ _ _ (by simpa using hd)).trans (h j hj hd)

theorem But.refl (d : Nat) (w : World) : But d w w := fun _ _ _ => rfl

/-- the cells of a disk -/
structure Five (w : World) (d m : Nat) (S : Dsk) : Prop where
  k0 : w.cell? ⟨d, 0, none⟩ = some (.bool S.off)
  k1 : w.cell? ⟨d, 1, none⟩ = some (.int .i64 S.left)
  k2 : w.cell? ⟨d, 2, none⟩ = some (.int .i64 S.ch)
  k3 : w.cell? ⟨d, 4, none⟩ = some (.int .i64 S.room)
  k4 : w.cell? ⟨d, 5, none⟩ = some (.map (some m))
  fz : ∀ i, w.frozen? ⟨d, i, none⟩ = false

theorem DiskAt.five {F : Nat → Prop} {w : World} {d m : Nat} {S : Dsk} {fs : List FileT} (h : DiskAt F w d m S fs) : Five w d m S := by
  have k := fun i => cell_of_row w d i _ 66 (0, 0) h.dkz
  exact ⟨by rw [k]; rfl, by rw [k]; rfl, by rw [k]; rfl, by rw [k]; rfl, by rw [k]; rfl, fun i => frozen_of_row w d i _ 66 h.dkz⟩

set_option maxHeartbeats 2000000 in
theorem change_any (F : Nat → Prop) (w : World) (d m : Nat) (S q : Dsk) (c : Int) (fs : List FileT) (h : DiskAt F w d m S fs) (hc2 : S.ch ≤ 1099511627776) (hq : chg S = (c, q)) :
    Calls Try.prog 40 #[.pointer (some ⟨d, 0, none⟩)] w fun e w' => e = .returned (.int .i64 c) ∧ DiskAt F w' d m q fs ∧ Keeps F w w' := by
  have HH : Hid (DiskAt F w d m S fs) := h
  obtain ⟨off, left, ch, room, A⟩ := S
  obtain ⟨hl, hl2, hc, o4, o5, o6⟩ := h.ok
  simp only at hl hl2 hc hc2 o4 o5 o6
  obtain ⟨z9, hD⟩ := h.dk
  obtain ⟨k0, k1, k2, _, _, f⟩ := h.five
  simp only at k0 k1 k2
  have f0 := f 0; have f1 := f 1; have f2 := f 2
  have HQ : Hid _ := hq
  have HD : Hid _ := hD
  have hBd := h.fd
  have O4 : Hid _ := o4
  have O5 : Hid _ := o5
  have O6 : Hid _ := o6
  clear f hq hD h o4 o5 o6
  have s1 := five_set HD.out 2 (.int .i64 (ch + 1))
  have t1 := but_set (But.refl d w) 2 (.int .i64 (ch + 1))
  have HS1 : Hid _ := s1
  have b1 : Keeps F w (w.setCell ⟨d, 2, none⟩ (.int .i64 (ch + 1))) := (Keeps.refl _ _).setCell (p := ⟨d, 2, none⟩) hBd _
  clear s1
  cases off
  · by_cases h0 : left = 0
    · subst h0
      have hr := HQ.out
      simp only [chg, Bool.false_eq_true, if_false, if_true, Prod.mk.injEq] at hr
      obtain ⟨rfl, rfl⟩ := hr
      go_enter Try.func40, Try.ntmps40
      go_wp2
      go_ret
      exact ⟨rfl, HH.out.turn t1 (by simpa using HS1.out) rfl ⟨by simp, by simp, by simp; omega, O4.out, O5.out, O6.out⟩, b1⟩
    · have h0b : ((left : Int) == 0) = false := by simp [h0]
      have s2 := heap_setCell_same _ d 1 _ 66 (.int .i64 (left - 1)) HS1.out
      have t2 := but_set t1 1 (.int .i64 (left - 1))
      have b2 : Keeps F w ((w.setCell ⟨d, 2, none⟩ (.int .i64 (ch + 1))).setCell ⟨d, 1, none⟩ (.int .i64 (left - 1))) := b1.setCell (p := ⟨d, 1, none⟩) hBd _
      have HS2 : Hid _ := s2
      clear s2
      by_cases h1 : 0 < left - 1
      · have hr := HQ.out
        simp only [chg, Bool.false_eq_true, if_false] at hr
        rw [if_neg h0, if_pos h1] at hr
        simp only [Prod.mk.injEq] at hr
        obtain ⟨rfl, rfl⟩ := hr
        go_enter Try.func40, Try.ntmps40
        go_wp2
        go_ret
        exact ⟨rfl, HH.out.turn t2 (by simpa using HS2.out) rfl ⟨by simp only; omega, by simp only; omega, by simp only; omega, O4.out, O5.out, O6.out⟩, b2⟩
      · have hr := HQ.out
        simp only [chg, Bool.false_eq_true, if_false] at hr
        rw [if_neg h0, if_neg h1] at hr
        simp only [Prod.mk.injEq] at hr
        obtain ⟨rfl, rfl⟩ := hr
        have s3 := heap_setCell_same _ d 0 _ 66 (.bool true) HS2.out
        have t3 := but_set t2 0 (.bool true)
        have b3 : Keeps F w (((w.setCell ⟨d, 2, none⟩ (.int .i64 (ch + 1))).setCell ⟨d, 1, none⟩ (.int .i64 (left - 1))).setCell ⟨d, 0, none⟩ (.bool true)) := b2.setCell (p := ⟨d, 0, none⟩) hBd _
        have HS3 : Hid _ := s3
        clear s3
        go_enter Try.func40, Try.ntmps40
        go_wp2
        go_ret
        exact ⟨rfl, HH.out.turn t3 (by simpa using HS3.out) rfl ⟨by simp only; omega, by simp only; omega, by simp only; omega, O4.out, O5.out, O6.out⟩, b3⟩
  · have hr := HQ.out
    simp only [chg, if_true, Prod.mk.injEq] at hr
    obtain ⟨rfl, rfl⟩ := hr
    go_enter Try.func40, Try.ntmps40
    go_wp2
    go_ret
    exact ⟨rfl, HH.out, Keeps.refl _ _⟩

/-- a pointer to the file of a name -/
def ptrOf (fs : List FileT) (l : List UInt8) : Option Addr := (getBy FileT.name l fs).map fun f => ⟨f.g, 0, none⟩

theorem atKey_mapD (fs : List FileT) (l : List UInt8) : (mapD fs).atKey (.string l) .nil = match getBy FileT.name l fs with | some f => .lit (.int .i64 (f.g : Int)) | none => .nil := by
  unfold mapD getBy DataW.atKey
  induction fs with
  | nil => rfl
  | cons f fs ih =>
    simp only [List.map_cons, List.find?_cons]
    have e : (entF f).1.sameKey (.string l) = (f.name == l) := rfl
    rw [e]
    cases f.name == l
    · exact ih
    · rfl

theorem ptrElem_inv {v : Value} {fs : List FileT} {l : List UInt8} {ps : List MemPlace} (h : ptrElem v = some ((mapD fs).atKey (.string l) .nil, ps)) : v = .pointer (ptrOf fs l) := by
  rw [atKey_mapD] at h
  unfold ptrOf
  cases hg : getBy FileT.name l fs with
  | none =>
    rw [hg] at h
    unfold ptrElem at h
    split at h
    · rfl
    · simp at h
    · simp at h
  | some f =>
    rw [hg] at h
    unfold ptrElem at h
    split at h
    · simp at h
    · simp only [Option.some.injEq, Prod.mk.injEq, DataW.lit.injEq, Lit.int.injEq, true_and] at h
      have : _ = f.g := Int.ofNat_inj.1 h.1
      subst this
      rfl
    · simp at h

theorem zero_ptr (w : World) : (zeroValue 71).run Try.prog w = .ok (.pointer none) w := Try.zeroValue71 w

theorem str_key {s : ByteArray} {l : List UInt8} (hs : s.data.toList = l) (hl : l.length ≤ 1000000) : keyOf Try.prog 9 (.string s) = some (.string l) := by
  have hsz : s.size ≤ maxLen := by
    have e : s.size = l.length := by rw [← hs, Array.length_toList]; rfl
    unfold maxLen
    omega
  subst hs
  exact WideMaps.keyOf_string_mk Try.underlying9 hsz

theorem find_run {F : Nat → Prop} {w : World} {d m : Nat} {S : Dsk} {fs : List FileT} (h : DiskAt F w d m S fs) (s : ByteArray) (l : List UInt8) (hs : s.data.toList = l) (hl : l.length ≤ 1000000) :
    (Instr.lookup 62 (.map (some m)) (.string s) false).run Try.prog w = .ok (.pointer (ptrOf fs l)) w := by
  obtain ⟨v, ps, hrun, hv⟩ := h.mp.lookup (string_keyed Try.underlying9) Try.underlying62 (zero_ptr w) (zd := .nil) (zp := []) rfl (key := .string s) (kl := .string l) (str_key hs hl)
  rw [hrun, ptrElem_inv hv]

theorem find_any (F : Nat → Prop) (w : World) (d m : Nat) (S : Dsk) (fs : List FileT) (s : ByteArray) (l : List UInt8) (h : DiskAt F w d m S fs) (hs : s.data.toList = l) (hl : l.length ≤ 1000000) :
    Calls Try.prog 44 #[.pointer (some ⟨d, 0, none⟩), .string s] w fun e w' => e = .returned (.pointer (ptrOf fs l)) ∧ w' = w := by
  have hrun := find_run h s l hs hl
  have k4 := h.five.k4
  clear h
  go_enter Try.func44, Try.ntmps44
  go_wp2
  go_ret
  exact ⟨rfl, rfl⟩

theorem new_ok (w : World) (room : Int) (h1 : 1 ≤ room) (h2 : room ≤ 1048576) :
    Calls Try.prog 11 #[.int .i64 room] w fun e w' => ∃ d, e = .returned (.tuple #[.pointer (some ⟨d, 0, none⟩), .int .i64 0]) ∧ DiskIs (fun i => w.heap.size ≤ i) w' d ⟨false, 0, 0, room, []⟩ ∧ Below w.heap.size w w' := by
  have hm := World.ownsMap_made w Try.prog 9 ptrElem
  have hi1 : ¬ room < 1 := by omega
  have hi2 : ¬ 1048576 < room := by omega
  have hmk : ∀ w : World, (Instr.makeMap 62 none).run Try.prog w = .ok (.map (some w.heap.size)) (w.alloc (.map #[] 0)) := fun w => run_makeMap _ w
  go_enter Try.func11, Try.ntmps11
  go_wp2
  go_ret2
  refine ⟨w.heap.size + 1, rfl, ⟨w.heap.size, [], ⟨0, ?_⟩, hm.alloc _, fun _ h => by simp at h, List.Pairwise.nil, List.Pairwise.nil, Nat.le_succ _, Nat.le_refl _, rfl, by simp, ⟨by simp, by simp, by simp, h1, h2, ?_⟩⟩, ((Below.refl _ _).alloc (Nat.le_refl _) _).alloc (by simp) _⟩
  · have := heap_alloc_new (w.alloc (.map #[] 0)) (.cells #[.bool false, .int .i64 0, .int .i64 0, .int .i64 0, .int .i64 room, .map (some w.heap.size)] 66)
    rw [show (w.alloc (.map #[] 0)).heap.size = w.heap.size + 1 by simp] at this
    exact this
  · simp only [usedA, List.map_nil, List.sum_nil]
    omega

end Go.Proofs.Ytanmfmllnbbdoaa
