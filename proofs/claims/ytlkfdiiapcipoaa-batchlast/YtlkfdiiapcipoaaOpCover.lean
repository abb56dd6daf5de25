/- Is an op of a key: batch.of, and the document's own answer; an op, apart. -/
import Derived.Test.YtlkfdiiapcipoaaOps
import Derived.Test.YtlkfdiiapcipoaaOpChk
import Derived.Deep.RegionHeld3
namespace Go.Proofs.Ytlkfdiiapcipoaa
open Go.RowKit

/-- is an op of a key -/
def cov (k : Int) (l m key : List UInt8) : Bool := if k = 3 then !decide (Lib.compareBytes key l < 0) && decide (Lib.compareBytes key m < 0) else l == key

set_option maxHeartbeats 2000000 in
theorem of_any (w : World) (x y z : Value) (l m key : List UInt8) (k : Int) (b : Bool) (hx : Rd w x l) (hy : Rd w y m) (hz : Rd w z key) (hb : cov k l m key = b) :
    Calls Try.prog 45 #[.agg #[.int .u8 k, x, y], z] w fun e w' => e = .returned (.bool b) ∧ Below w.heap.size w w' := by
  have hB := below_box w #[.int .u8 k, x, y] 27
  have rx := hx.below hB (Nat.le_refl _)
  have ry := hy.below hB (Nat.le_refl _)
  have rz := hz.below hB (Nat.le_refl _)
  obtain ⟨a1, a2, ea⟩ := hx.len
  obtain ⟨b1, b2, eb⟩ := hy.len
  subst ea eb
  have H : Hid _ := hb
  clear hx hy hz hb
  by_cases h3 : k = 3
  · subst h3
    obtain ⟨p, hp⟩ : ∃ p, decide (Lib.compareBytes key l < 0) = p := ⟨_, rfl⟩
    obtain ⟨q, hq⟩ : ∃ q, decide (Lib.compareBytes key m < 0) = q := ⟨_, rfl⟩
    have HP : Hid _ := hp
    have HQ : Hid _ := hq
    have fin : Hid (b = (!p && q)) := by show _ = _; rw [← H.out, ← hp, ← hq]; rfl
    clear hp hq H
    go_enter Try.func45, Try.ntmps45
    go_wp2_with fail
    refine (less_b _ _ _ key l p rz rx HP.out).mono ?_
    rintro e w1 ⟨rfl, hw⟩
    subst hw
    cases p
    · go_wp2_with fail
      refine (less_b _ _ _ key m q rz ry HQ.out).mono ?_
      rintro e w1 ⟨rfl, hw⟩
      subst hw
      go_wp2
      go_ret
      exact ⟨ret_bool (by rw [fin.out]; simp), hB⟩
    · go_wp2
      go_ret
      exact ⟨ret_bool (by rw [fin.out]; simp), hB⟩
  · have fin : Hid ((l == key) = b) := by show _ = _; rw [← H.out]; unfold cov; rw [if_neg h3]
    clear H
    go_enter Try.func45, Try.ntmps45
    go_wp2_with fail
    refine (equal_any _ _ _ l key rx rz).mono ?_
    rintro e w1 ⟨rfl, hw⟩
    subst hw
    go_wp2
    go_ret
    exact ⟨ret_bool (fin.out), hB⟩

set_option maxHeartbeats 2000000 in
theorem covers_any (w : World) (x y z : Value) (l m key : List UInt8) (k : Int) (b : Bool) (hx : Rd w x l) (hy : Rd w y m) (hz : Rd w z key) (hb : cov k l m key = b) :
    Calls Try.prog 28 #[.agg #[.int .u8 k, x, y], z] w fun e w' => e = .returned (.bool b) ∧ Below w.heap.size w w' := by
  have hB := below_box w #[.int .u8 k, x, y] 27
  have rx := hx.below hB (Nat.le_refl _)
  have ry := hy.below hB (Nat.le_refl _)
  have rz := hz.below hB (Nat.le_refl _)
  obtain ⟨a1, a2, ea⟩ := hx.len
  obtain ⟨b1, b2, eb⟩ := hy.len
  subst ea eb
  have H : Hid _ := hb
  clear hx hy hz hb
  by_cases h3 : k = 3
  · subst h3
    obtain ⟨p, hp⟩ : ∃ p, decide (Lib.compareBytes key l < 0) = p := ⟨_, rfl⟩
    obtain ⟨q, hq⟩ : ∃ q, decide (Lib.compareBytes key m < 0) = q := ⟨_, rfl⟩
    have HP : Hid _ := hp
    have HQ : Hid _ := hq
    have fin : Hid (b = (!p && q)) := by show _ = _; rw [← H.out, ← hp, ← hq]; rfl
    clear hp hq H
    go_enter Try.func28, Try.ntmps28
    go_wp2_with fail
    refine (refless_any _ _ _ key l p rz rx HP.out).mono ?_
    rintro e w1 ⟨rfl, hw⟩
    subst hw
    cases p
    · go_wp2_with fail
      refine (refless_any _ _ _ key m q rz ry HQ.out).mono ?_
      rintro e w1 ⟨rfl, hw⟩
      subst hw
      go_wp2
      go_ret
      exact ⟨ret_bool (by rw [fin.out]; simp), hB⟩
    · go_wp2
      go_ret
      exact ⟨ret_bool (by rw [fin.out]; simp), hB⟩
  · have fin : Hid ((l == key) = b) := by show _ = _; rw [← H.out]; unfold cov; rw [if_neg h3]
    clear H
    go_enter Try.func28, Try.ntmps28
    go_wp2_with fail
    refine (same_b _ _ _ l key b rx rz fin.out).mono ?_
    rintro e w1 ⟨rfl, hw⟩
    subst hw
    go_wp2
    go_ret
    exact ⟨ret_bool (rfl), hB⟩

theorem OwnN.other {B : Nat} {w : World} {v : Value} {l : List UInt8} (h : OwnN B w v l) (p : Addr) (hp : p.block < B) (u : Value) : OwnN B (w.setCell p u) v l := by
  rcases h with h | h
  · exact .inl h
  · obtain ⟨g, c, rfl⟩ := h.shape
    have := h.lt.1
    exact .inr (h.other p (by omega) u)

theorem OwnN.store3 {B : Nat} {w : World} {v : Value} {l : List UInt8} (h : OwnN B w v l) {b : Nat} (hb : b < B) (u0 u1 u2 : Value) : OwnN B (((w.setCell ⟨b, 0, none⟩ u0).setCell ⟨b, 1, none⟩ u1).setCell ⟨b, 2, none⟩ u2) v l :=
  ((h.other ⟨b, 0, none⟩ hb u0).other ⟨b, 1, none⟩ hb u1).other ⟨b, 2, none⟩ hb u2

theorem OwnN.drew {B : Nat} {w : World} {v : Value} {l : List UInt8} (h : OwnN B w v l) : OwnN B w.drew v l := h

theorem OwnN.len {B : Nat} {w : World} {v : Value} {l : List UInt8} (h : OwnN B w v l) : ∃ ao cap, v = .slice ao l.length cap := h.rd.len

theorem arg_drew2 {w : World} {v : Value} {l : List UInt8} (h : Rd w v l) : Arg w.drew v l := Rd.arg (Rd.drew h)

set_option maxHeartbeats 4000000 in
theorem apart_any (w : World) (x y : Value) (l m : List UInt8) (k : Int) (hx : Rd w x l) (hy : Rd w y m) (hl : l.length ≤ 1000000) (hm : m.length ≤ 1000000) :
    Calls Try.prog 46 #[.agg #[.int .u8 k, x, y]] w fun e w' => ∃ x' y', e = .returned (.agg #[.int .u8 k, x', y']) ∧ OwnN (w.heap.size + 2) w' x' l ∧ OwnN (w.heap.size + 2) w' y' m ∧ Below w.heap.size w w' := by
  obtain ⟨a1, a2, ea⟩ := hx.len
  obtain ⟨b1, b2, eb⟩ := hy.len
  subst ea eb
  have hB0 := below_box w #[.int .u8 k, .slice a1 l.length a2, .slice b1 m.length b2] 27
  have hB1 := hB0.alloc hB0.size (.cells #[.int .u8 0, .slice none 0 0, .slice none 0 0] 27)
  have p0 := (box_new w (.int .u8 k) (.slice a1 l.length a2) (.slice b1 m.length b2) 27).alloc (.cells #[.int .u8 0, .slice none 0 0, .slice none 0 0] 27)
  have q0 := box_new (w.alloc (.cells #[.int .u8 k, .slice a1 l.length a2, .slice b1 m.length b2] 27)) (.int .u8 0) (.slice none 0 0) (.slice none 0 0) 27
  have hsz : (w.alloc (.cells #[.int .u8 k, .slice a1 l.length a2, .slice b1 m.length b2] 27)).heap.size = w.heap.size + 1 := by simp
  rw [hsz] at q0
  have rx := hx.below hB1 (Nat.le_refl _)
  have ry := hy.below hB1 (Nat.le_refl _)
  replace p0 := p0.drew
  replace q0 := q0.drew
  have hB2 := hB1.drew
  clear hx hy hB0 hsz hB1
  go_enter Try.func46, Try.ntmps46
  go_wp2_with fail
  go_region_held3 (fun w' => w'.cell? ⟨w.heap.size, 0, none⟩ = some (.int .u8 k) ∧ w'.cell? ⟨w.heap.size, 1, none⟩ = some (.slice a1 l.length a2) ∧ w'.cell? ⟨w.heap.size, 2, none⟩ = some (.slice b1 m.length b2))
    (first | exact ⟨p3.c0, p3.c1, p3.c2⟩ | exact ⟨p2.c0, p2.c1, p2.c2⟩ | exact ⟨p1.c0, p1.c1, p1.c2⟩ | exact ⟨p0.c0, p0.c1, p0.c2⟩)
    (first
      | (go_at_call_of 54 (Value.slice a1 l.length a2); refine (clone_any _ _ l (arg_drew2 rx) (by omega)).mono ?_; rintro e wx ⟨x, rfl, ox, hbx⟩; have p1 := p0.below hbx (Nat.le_refl _); have q1 := q0.below hbx (Nat.le_refl _); obtain ⟨xa, xc, hxx⟩ := ox.len; subst hxx)
      | (go_at_call_of 54 (Value.slice b1 m.length b2); refine (clone_any _ _ m (Rd.arg (Rd.below (Rd.drew ry) hbx (Nat.le_refl _))) (by omega)).mono ?_; rintro e wy ⟨y, rfl, oy, hby⟩; have p2 := p1.below hby (Nat.le_refl _); have q2 := q1.below hby (Nat.le_refl _); obtain ⟨ya, yc, hyy⟩ := oy.len; subst hyy; have p3 := ((p2.other ⟨w.heap.size + 1, 0, none⟩ (by simp) (.int .u8 k)).other ⟨w.heap.size + 1, 1, none⟩ (by simp) (.slice xa l.length xc)).other ⟨w.heap.size + 1, 2, none⟩ (by simp) (.slice ya m.length yc); obtain ⟨e0, e1, e2, f0, f1, f2⟩ := q2)
      | fail)
  all_goals
    have hBx := hB2.trans (hbx.mono hB2.size)
    have hBy := hBx.trans (hby.mono hBx.size)
    have h1 := hbx.size
    have ox2 := ((ox.below hby (Nat.le_refl _)).mono (C := w.heap.size + 2) (by simp)).store3 (b := w.heap.size + 1) (by omega) (.int .u8 k) (.slice xa l.length xc) (.slice ya m.length yc)
    have oy2 := (oy.mono (C := w.heap.size + 2) (by simp at h1; omega)).store3 (b := w.heap.size + 1) (by omega) (.int .u8 k) (.slice xa l.length xc) (.slice ya m.length yc)
    have hBz := below_store3 hBy (b := w.heap.size + 1) (Nat.le_succ _) (.int .u8 k) (.slice xa l.length xc) (.slice ya m.length yc)
    clear p0 p1 p2 p3 q0 q1 ox oy rx ry hB2 hBx hBy
    go_wp2
    refine bodyPost_ret (v := .agg #[.int .u8 k, .slice xa l.length xc, .slice ya m.length yc]) (by simp [results, Try.results46, go_sem, e0, e1, e2]) rfl ⟨_, _, rfl, ox2, oy2, hBz⟩

end Go.Proofs.Ytlkfdiiapcipoaa
