/- tomb.apart: a span of one's own. -/
import Derived.Test.YthcoblmfmbmdkaaTbSmall
import Derived.Test.YthcoblmfmbmdkaaClone
import Derived.Deep.RegionHeld3
namespace Go.Proofs.Ythcoblmfmbmdkaa
set_option maxRecDepth 20000
open Go.RowKit
set_option linter.unusedVariables false
set_option linter.unusedSimpArgs false

theorem ownN_stT {B : Nat} {w : World} {v : Value} {l : List UInt8} (h : OwnN B w v l) (p : Addr) (hp : p.block < B) (u : Value) : OwnN B (w.setCell p u) v l := by
  rcases h with h | h
  · exact .inl h
  · obtain ⟨g, k, e⟩ := h.shape
    subst e
    exact .inr (h.other p (by have := h.lt.1; omega) u)

theorem ownN_st3T {B : Nat} {w : World} {v : Value} {l : List UInt8} (h : OwnN B w v l) {b : Nat} (hb : b < B) (u0 u1 u2 : Value) : OwnN B (((w.setCell ⟨b, 0, none⟩ u0).setCell ⟨b, 1, none⟩ u1).setCell ⟨b, 2, none⟩ u2) v l :=
  ownN_stT (ownN_stT (ownN_stT h ⟨b, 0, none⟩ hb u0) ⟨b, 1, none⟩ hb u1) ⟨b, 2, none⟩ hb u2

theorem Box.other3T {w : World} {b : Nat} {v0 v1 v2 : Value} (h : Box w b v0 v1 v2) (b' : Nat) (hne : b ≠ b') (u0 u1 u2 : Value) : Box (((w.setCell ⟨b', 0, none⟩ u0).setCell ⟨b', 1, none⟩ u1).setCell ⟨b', 2, none⟩ u2) b v0 v1 v2 :=
  ((h.other ⟨b', 0, none⟩ hne u0).other ⟨b', 1, none⟩ hne u1).other ⟨b', 2, none⟩ hne u2

set_option maxHeartbeats 4000000 in
theorem tapart_any (w : World) (xv yv : Value) (l m : List UInt8) (s : Int) (hx : Arg w xv l) (hy : Arg w yv m) (hl : l.length ≤ 1000000) (hm : m.length ≤ 1000000) :
    Calls Try.prog 62 #[spV xv yv s] w fun e w' => ∃ x y, e = .returned (spV x y s) ∧ OwnN (w.heap.size + 2) w' x l ∧ OwnN (w.heap.size + 2) w' y m ∧ Below w.heap.size w w' := by
  obtain ⟨x1, x2, ex⟩ := Arg.shape hx
  obtain ⟨y1, y2, ey⟩ := Arg.shape hy
  subst ex ey
  obtain ⟨nl, hnl⟩ : ∃ nl, l.length = nl := ⟨_, rfl⟩
  obtain ⟨ml, hml⟩ : ∃ ml, m.length = ml := ⟨_, rfl⟩
  rw [hnl] at hx ⊢
  rw [hml] at hy ⊢
  have HLM : Hid (l.length = nl ∧ m.length = ml ∧ nl ≤ 1000000 ∧ ml ≤ 1000000) := ⟨hnl, hml, by omega, by omega⟩
  have hb0 := below_box4 w (.cells #[.slice x1 nl x2, .slice y1 ml y2, .int .u64 s] 46)
  have hb1 := below_box4 (w.alloc (.cells #[.slice x1 nl x2, .slice y1 ml y2, .int .u64 s] 46)) (.cells #[.slice none 0 0, .slice none 0 0, .int .u64 0] 46)
  have bx := ((box_new w (.slice x1 nl x2) (.slice y1 ml y2) (.int .u64 s) 46).below hb1 (Nat.le_refl _)).drew
  have br := box_new (w.alloc (.cells #[.slice x1 nl x2, .slice y1 ml y2, .int .u64 s] 46)) (.slice none 0 0) (.slice none 0 0) (.int .u64 0) 46
  rw [show (w.alloc (.cells #[.slice x1 nl x2, .slice y1 ml y2, .int .u64 s] 46)).heap.size = w.heap.size + 1 by simp] at br
  have rx0 := arg_drew ((hx.below hb0 (Nat.le_refl _)).below hb1 (Nat.le_refl _))
  have ry0 := arg_drew ((hy.below hb0 (Nat.le_refl _)).below hb1 (Nat.le_refl _))
  have HB1 : Hid (Below w.heap.size w ((w.alloc (.cells #[.slice x1 nl x2, .slice y1 ml y2, .int .u64 s] 46)).alloc (.cells #[.slice none 0 0, .slice none 0 0, .int .u64 0] 46)).drew) := (hb0.trans (hb1.mono hb0.size)).drew
  have HSZ : Hid (((w.alloc (.cells #[.slice x1 nl x2, .slice y1 ml y2, .int .u64 s] 46)).alloc (.cells #[.slice none 0 0, .slice none 0 0, .int .u64 0] 46)).drew.heap.size = w.heap.size + 2) := by show _ = _; simp
  have HBR : Hid (Box ((w.alloc (.cells #[.slice x1 nl x2, .slice y1 ml y2, .int .u64 s] 46)).alloc (.cells #[.slice none 0 0, .slice none 0 0, .int .u64 0] 46)).drew (w.heap.size + 1) (.slice none 0 0) (.slice none 0 0) (.int .u64 0)) := br.drew
  clear hx hy hl hm hnl hml hb0 hb1 br
  go_enter Try.func62, Try.ntmps62
  go_wp2_with fail
  go_region_held3 (fun w' => w'.cell? ⟨w.heap.size, 0, none⟩ = some (.slice x1 nl x2) ∧ w'.cell? ⟨w.heap.size, 1, none⟩ = some (.slice y1 ml y2) ∧ w'.cell? ⟨w.heap.size, 2, none⟩ = some (.int .u64 s))
    (first | with_reducible exact ⟨bs.c0, bs.c1, bs.c2⟩ | with_reducible exact ⟨by2.c0, by2.c1, by2.c2⟩ | with_reducible exact ⟨bx2.c0, bx2.c1, bx2.c2⟩ | with_reducible exact ⟨bx.c0, bx.c1, bx.c2⟩)
    (first
      | (go_at_call 74; refine (clone_any _ _ l rx0 (by have := HLM.out; omega)).mono ?_; rintro e wx ⟨x, rfl, ox, hbx⟩; obtain ⟨xa, xk, hx⟩ := ox.rd.len; rw [HLM.out.1] at hx; subst hx; have bx2 := bx.below hbx (Nat.le_refl _); clear rx0)
      | (go_at_call 74; refine (clone_any _ _ m (ry0.below hbx (Nat.le_refl _)) (by have := HLM.out; omega)).mono ?_; rintro e wy ⟨y, rfl, oy, hby⟩; obtain ⟨ya, yk, hy⟩ := oy.rd.len; rw [HLM.out.2.1] at hy; subst hy; have by2 := bx2.below hby (Nat.le_refl _)
         have HBY : Hid (Below w.heap.size w wy) := bsplit (bsplit HB1.out hbx) hby
         have HOX : Hid (OwnN (w.heap.size + 2) wy (.slice xa nl xk) l) := by have h9 := ox.below hby (Nat.le_refl _); rw [HSZ.out] at h9; exact h9
         have HOY : Hid (OwnN (w.heap.size + 2) wy (.slice ya ml yk) m) := oy.mono (by have h8 := hbx.size; rw [HSZ.out] at h8; exact h8)
         have bs := by2.other3T (w.heap.size + 1) (by omega) (.slice xa nl xk) (.slice ya ml yk) (.int .u64 s)
         obtain ⟨c0, c1, c2, f0, f1, f2⟩ := (HBR.out.below hbx (Nat.le_refl _)).below hby (Nat.le_refl _))
      | fail)
  go_wp2
  exact bodyPost_ret (v := spV (.slice xa nl xk) (.slice ya ml yk) s) (by simp [results, Try.results62, go_sem, c0, c1, c2]) rfl ⟨_, _, rfl, ownN_st3T HOX.out (by omega) _ _ _, ownN_st3T HOY.out (by omega) _ _ _, below_store3 HBY.out (Nat.le_succ _) _ _ _⟩

end Go.Proofs.Ythcoblmfmbmdkaa
