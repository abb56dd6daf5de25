/- batch.Bytes. -/
import Derived.Test.YtmgofohaoppajaaDoorOpCheck
import Derived.Test.YtmgofohaoppajaaDoorOpsPush
import Derived.Test.YtmgofohaoppajaaDoorParts
import Derived.Test.YtmgofohaoppajaaDoorText
import Derived.Deep.RegionHeld3
import Derived.Deep.LoopGhost
namespace Go.Proofs.YtmgofohaoppajaaDoor
set_option maxRecDepth 20000
open Go.RowKit

/-- slices of bytes in a row of the call's own, each of them the call's own -/
def OwnL (B : Nat) (w : World) (v : Value) (ls : List (List UInt8)) : Prop :=
  ∃ vs, w.ownsRow B 26 1 v ls.length vs ∧ ∀ j (h : j < ls.length), ∃ x, vs[j]? = some x ∧ OwnN B w x ls[j]

theorem OwnL.below {B C : Nat} {w w' : World} {v : Value} {ls : List (List UInt8)} (h : OwnL B w v ls) (hb : Below C w w') (hC : w.heap.size ≤ C) : OwnL B w' v ls := by
  obtain ⟨cs, hr, hj⟩ := h
  have hb' : Below w.heap.size w w' := ⟨hb.os, hb.tape, hb.output, hb.size, fun i hi => hb.block i (Nat.lt_of_lt_of_le hi hC)⟩
  refine ⟨cs, row_below hr hb', fun j h => ?_⟩
  obtain ⟨x, c0, ox⟩ := hj j h
  exact ⟨x, c0, ox.below hb hC⟩

theorem OwnL.drew {B : Nat} {w : World} {v : Value} {ls : List (List UInt8)} (h : OwnL B w v ls) : OwnL B w.drew v ls := h

theorem OwnL.rd {B : Nat} {w : World} {v : Value} {ls : List (List UInt8)} (h : OwnL B w v ls) : RdL w v ls := by
  obtain ⟨cs, hr, hj⟩ := h
  have hr2 := hr
  rcases hr.2 with ⟨e, hn⟩ | ⟨g, cap, cur, e, hb, hg, h1, h2, h3, h4⟩
  · exact .inl ⟨e, List.eq_nil_of_length_eq_zero hn⟩
  · subst e
    refine .inr ⟨g, 0, cap, rfl, h1, h2, fun j h => ?_⟩
    obtain ⟨x, c0, ox⟩ := hj j h
    have := hr2.cells (g := g) rfl _ _ c0
    rw [Addr.add_lit] at this
    exact ⟨x, this, ox.rd⟩

theorem OwnN.grownL {w w' : World} {B B' n : Nat} {v x : Value} {cs : List Value} {l : List UInt8} (h : OwnN B' w x l) (hr : w.ownsRow B 26 1 v n cs) (hg : w.grownBy w' v.ownBlock) : OwnN B' w' x l := by
  rcases h with h | h
  · exact .inl h
  · obtain ⟨g, c, rfl⟩ := h.shape
    refine .inr (own_kept h hg ?_)
    rcases rows_apart hr h.row with e | e
    · rw [e]; simp
    · exact fun h => e h.symm

theorem own_push3 {B : Nat} {w w' : World} {v v' x y z : Value} {ls : List (List UInt8)} {cs : List Value} (a b c : List UInt8) (hrow : w.ownsRow B 26 1 v ls.length cs)
    (hel : ∀ j (h : j < ls.length), ∃ x, cs[j]? = some x ∧ OwnN B w x ls[j])
    (hx : OwnN B w x a) (hy : OwnN B w y b) (hz : OwnN B w z c) (hn : w'.ownsRow B 26 1 v' (ls.length + 3) (cs ++ [x, y, z])) (hg : w.grownBy w' v.ownBlock) : OwnL B w' v' (ls ++ [a, b, c]) := by
  have hcl : cs.length = ls.length := by have := hrow.1; omega
  refine ⟨_, by rw [List.length_append]; exact hn, fun j h => ?_⟩
  by_cases hj : j < ls.length
  · obtain ⟨x', c0, ox⟩ := hel j hj
    exact ⟨x', by rw [List.getElem?_append_left (by omega)]; exact c0, by rw [List.getElem_append_left hj]; exact ox.grownL hrow hg⟩
  · have hj3 : j = ls.length ∨ j = ls.length + 1 ∨ j = ls.length + 2 := by rw [List.length_append] at h; simp at h; omega
    rcases hj3 with rfl | rfl | rfl
    · exact ⟨x, by rw [List.getElem?_append_right (by omega), show ls.length - cs.length = 0 by omega]; rfl, by simpa using hx.grownL hrow hg⟩
    · exact ⟨y, by rw [List.getElem?_append_right (by omega), show ls.length + 1 - cs.length = 1 by omega]; rfl, by simpa using hy.grownL hrow hg⟩
    · exact ⟨z, by rw [List.getElem?_append_right (by omega), show ls.length + 2 - cs.length = 2 by omega]; rfl, by simpa using hz.grownL hrow hg⟩

theorem oneL (a b d : Option Addr) (n m k c c2 c3 : Nat) : ∀ u ∈ [Value.slice a n c, .slice b m c2, .slice d k c3], u.oneCell' = true := by
  intro u hu
  simp at hu
  rcases hu with rfl | rfl | rfl <;> rfl

/-- an op's bytes, in three parts -/
def opP (o : OpB) : List (List UInt8) := [Mth.numB o.1.toNat, textB o.2.1, textB o.2.2]

/-- a batch's bytes, in parts -/
def partsO (n : Nat) (os : List OpB) : List (List UInt8) := Mth.numB n :: os.flatMap opP

/-- a batch's bytes -/
def batB (os : List OpB) : List UInt8 := (partsO os.length os).flatten

theorem partsO_take {n : Nat} {os : List OpB} {j : Nat} (h : j < os.length) : partsO n (os.take (j + 1)) = partsO n (os.take j) ++ opP os[j] := by
  unfold partsO
  rw [List.take_succ_eq_append_getElem h, List.flatMap_append]
  simp

theorem partsO_length (n : Nat) (os : List OpB) : (partsO n os).length = 1 + 3 * os.length := by
  unfold partsO
  rw [List.length_cons]
  have : (os.flatMap opP).length = 3 * os.length := by
    induction os with
    | nil => rfl
    | cons o os ih =>
      rw [List.flatMap_cons, List.length_append, ih, List.length_cons]
      have : (opP o).length = 3 := rfl
      omega
  omega

theorem textB_le (l : List UInt8) : (textB l).length ≤ l.length + 9 := by
  unfold textB
  rw [List.length_append, Mth.numB_length]
  have := (Mth.numL_bd l.length).2
  omega

theorem parts_len (n : Nat) (os : List OpB) : (partsO n os).flatten.length ≤ 9 + 27 * os.length + sizeO os := by
  have h1 : (Mth.numB n).length ≤ 9 := by rw [Mth.numB_length]; exact (Mth.numL_bd _).2
  unfold partsO
  rw [List.flatten_cons, List.length_append]
  have : (os.flatMap opP).flatten.length ≤ 27 * os.length + sizeO os := by
    induction os with
    | nil => simp
    | cons o os ih =>
      have e1 : ((o :: os).flatMap opP).flatten = Mth.numB o.1.toNat ++ (textB o.2.1 ++ (textB o.2.2 ++ (os.flatMap opP).flatten)) := by simp [opP]
      have e2 : sizeO (o :: os) = o.2.1.length + o.2.2.length + sizeO os := by simp [sizeO]
      have h2 := textB_le o.2.1
      have h3 := textB_le o.2.2
      have h4 : (Mth.numB o.1.toNat).length ≤ 9 := by rw [Mth.numB_length]; exact (Mth.numL_bd _).2
      rw [e1, e2]
      simp only [List.length_append, List.length_cons]
      omega
  omega

theorem bytes_err (w : World) (v : Value) (os : List OpB) (c : Int) (hv : RdO w v os) (hc : chkL os = c) (hc0 : ¬ c = 0) :
    Calls Tryd.prog 34 #[v] w fun e w' => e = .returned (.tuple #[.slice none 0 0, .int .i64 c]) ∧ Below w.heap.size w w' := by
  have hcb : (c != 0) = true := by simp [hc0]
  have hcb2 : (c == 0) = false := by simp [hc0]
  have HC : Hid _ := hc
  clear hc
  obtain ⟨ao, cap, rfl, h1, h2, h3⟩ := hv
  have hv : RdO w (.slice ao os.length cap) os := ⟨ao, cap, rfl, h1, h2, h3⟩
  clear h3
  go_enter Tryd.func34, Tryd.ntmps34
  go_wp2_with fail
  refine (bcheck_any _ _ os c hv HC.out).mono ?_
  rintro e w1 ⟨rfl, hb⟩
  go_wp2
  go_ret2
  exact ⟨rfl, hb⟩

set_option maxHeartbeats 4000000 in
theorem bytes_ok (w : World) (v : Value) (os : List OpB) (hv : RdO w v os) (hc : chkL os = 0) (hn : os.length ≤ 64) (hs : sizeO os ≤ 1000000) :
    Calls Tryd.prog 34 #[v] w fun e w' => ∃ x, e = .returned (.tuple #[x, .int .i64 0]) ∧ Own w.heap.size w' x (batB os) ∧ Below w.heap.size w w' := by
  obtain ⟨i0, hi, hz0, hz1, hz2⟩ := info_parts info24
  have HV : Hid _ := hv
  obtain ⟨ao, cap, rfl, h1, h2, h3⟩ := hv
  unfold maxLen at h2
  have HC : Hid _ := hc
  clear h3 hc
  go_enter Tryd.func34, Tryd.ntmps34
  go_wp2_with fail
  refine (bcheck_any _ _ os 0 (show RdO w _ os from HV.out) HC.out).mono ?_
  rintro e w1 ⟨rfl, hb⟩
  obtain ⟨nb, hnb⟩ : ∃ nb, Mth.numB os.length = nb := ⟨_, rfl⟩
  have HNB : Hid _ := hnb
  clear hnb
  go_wp2_with fail
  refine (num_any os.length _ (by omega)).mono ?_
  rintro e w2 ⟨x, rfl, ox, hb2⟩
  rw [HNB.out] at ox
  obtain ⟨gx, kx, hx⟩ := ox.shape
  subst hx
  have hB2 := hb.trans (hb2.mono hb.size)
  have hbe := below_box w2 #[.slice (some ⟨gx, 0, none⟩) nb.length kx] 26
  have hB3 := hB2.trans (hbe.mono hB2.size)
  have hL3 : OwnL w.heap.size (w2.alloc (.cells #[.slice (some ⟨gx, 0, none⟩) nb.length kx] 26)) (.slice (some ⟨w2.heap.size, 0, none⟩) 1 1) (partsO os.length (os.take 0)) := by
    refine ⟨[.slice (some ⟨gx, 0, none⟩) nb.length kx], World.ownsRow_lit w2 #[.slice (some ⟨gx, 0, none⟩) nb.length kx] 1 hB2.size (by simp [maxLen]) rfl, fun j h => ?_⟩
    have hj : j = 0 := by simp [partsO] at h; omega
    subst hj
    exact ⟨_, rfl, .inr (by have e : (partsO os.length (os.take 0))[0]'h = nb := HNB.out; rw [e]; exact (ox.below hbe (Nat.le_refl _)).mono hb.size)⟩
  clear hb hb2 ox hB2 hbe
  go_wp2_with fail
  go_loopg [5, 20] os.length (fun gk pv iv wr => ∃ j n' c' : Nat, ∃ a' : Option Addr, gk + j = os.length ∧ iv = .int .i64 (j : Int) ∧ pv = .slice a' n' c' ∧ OwnL w.heap.size wr pv (partsO os.length (os.take j)) ∧ Below w.heap.size w wr)
  case atStart => exact ⟨0, 1, 1, _, rfl, rfl, rfl, hL3, hB3⟩
  case round =>
    obtain ⟨j, n', c', a', hj, rfl, rfl, hO, hB⟩ := hrel
    clear hL3 hB3
    have hrd : RdO wr _ os := LsO.below (show RdO w _ os from HV.out) hB (Nat.le_refl _)
    by_cases hlt : j < os.length
    · obtain ⟨_, _, e, _, _, h3⟩ := hrd
      cases e
      obtain ⟨b, off, rfl, xv, yv, c0, c1, c2, rx, ry⟩ := h3 j hlt
      obtain ⟨x1, x2, ex⟩ := rx.len
      obtain ⟨y1, y2, ey⟩ := ry.len
      subst ex ey
      obtain ⟨⟨ok, ol, om⟩, ho⟩ : ∃ o, os[j] = o := ⟨_, rfl⟩
      have hsl : ol.length + om.length ≤ 1000000 := by
        have e1 := sizeO_take hlt
        have e2 := sizeO_le os (j + 1)
        rw [ho] at e1
        simp only at e1
        omega
      rw [ho] at c0 c1 c2 rx ry
      obtain ⟨nk, hnk⟩ : ∃ nk, Mth.numB ok.toNat = nk := ⟨_, rfl⟩
      obtain ⟨tk, htk⟩ : ∃ tk, textB ol = tk := ⟨_, rfl⟩
      obtain ⟨tv, htv⟩ : ∃ tv, textB om = tv := ⟨_, rfl⟩
      have HNK : Hid _ := hnk
      have HTK : Hid _ := htk
      have HTV : Hid _ := htv
      have HR : Hid (partsO os.length (os.take (j + 1)) = partsO os.length (os.take j) ++ [nk, tk, tv]) := by show _ = _; rw [partsO_take hlt, ho, ← hnk, ← htk, ← htv]; rfl
      have htl : (partsO os.length (os.take j)).length = 1 + 3 * j := by rw [partsO_length, List.length_take]; omega
      clear h3 ho hnk htk htv
      have hlow := hB.size
      have hb0 := below_box wr #[.int .u8 (ok.toNat : Int), .slice x1 ol.length x2, .slice y1 om.length y2] 72
      have bx := (box_new wr (.int .u8 (ok.toNat : Int)) (.slice x1 ol.length x2) (.slice y1 om.length y2) 72).drew
      have rx0 := Rd.drew (rx.below hb0 (Nat.le_refl _))
      have ry0 := Rd.drew (ry.below hb0 (Nat.le_refl _))
      have hO0 := (hO.below hb0 (Nat.le_refl _)).drew
      have hB0 := (hB.alloc hB.size (.cells #[.int .u8 (ok.toNat : Int), .slice x1 ol.length x2, .slice y1 om.length y2] 72)).drew
      have hne : some wr.heap.size ≠ (Value.slice a' n' c').ownBlock := by
        obtain ⟨cs, hrow, _⟩ := hO
        intro e
        have := (hrow.lt _ e.symm).2
        omega
      have hlen : n' = (partsO os.length (os.take j)).length := by
        obtain ⟨cs, hrow, _⟩ := hO
        rcases hrow.2 with ⟨e, e2⟩ | ⟨g, cap', cur, e, _⟩
        · cases e; exact e2.symm
        · cases e; rfl
      subst hlen
      have hn' : (partsO os.length (os.take j)).length ≤ 1000 := by omega
      clear rx ry hO hB hb0 htl
      have hok : ok.toNat < 256 := ok.toNat_lt
      have hwk : IntKind.u64.wrap (ok.toNat : Int) = (ok.toNat : Int) := by rw [IntKind.wrap_u64]; omega
      go_wp2_with fail
      go_region_held3 (fun w' => w'.cell? ⟨wr.heap.size, 0, none⟩ = some (.int .u8 (ok.toNat : Int)) ∧ w'.cell? ⟨wr.heap.size, 1, none⟩ = some (.slice x1 ol.length x2) ∧ w'.cell? ⟨wr.heap.size, 2, none⟩ = some (.slice y1 om.length y2))
        (first | exact ⟨b4.c0, b4.c1, b4.c2⟩ | exact ⟨be.c0, be.c1, be.c2⟩ | exact ⟨bx3.c0, bx3.c1, bx3.c2⟩ | exact ⟨bx2.c0, bx2.c1, bx2.c2⟩ | exact ⟨bx1.c0, bx1.c1, bx1.c2⟩ | exact ⟨bx.c0, bx.c1, bx.c2⟩)
        (first
          | (go_at_call 36; refine (num_any ok.toNat _ (by omega)).mono ?_; rintro e wk ⟨x, rfl, okk, hbk⟩; rw [HNK.out] at okk; obtain ⟨gk1, kk1, hx⟩ := okk.shape; subst hx; have bx1 := bx.below hbk (Nat.le_refl _))
          | (go_at_call_of 37 (Value.slice x1 ol.length x2); refine (text_own _ _ ol (rx0.below hbk (Nat.le_refl _)) (by omega)).mono ?_; rintro e wx ⟨x, rfl, ox, hbx⟩; rw [HTK.out] at ox; obtain ⟨gx, kx, hx⟩ := ox.shape; subst hx; have bx2 := bx1.below hbx (Nat.le_refl _))
          | (go_at_call_of 37 (Value.slice y1 om.length y2); refine (text_own _ _ om ((ry0.below hbk (Nat.le_refl _)).below hbx (Nat.le_refl _)) (by omega)).mono ?_; rintro e wy ⟨y, rfl, oy, hby⟩; rw [HTV.out] at oy; obtain ⟨gy, ky, hy⟩ := oy.shape; subst hy; have bx3 := bx2.below hby (Nat.le_refl _); have be := bx3.alloc (.cells #[.slice (some ⟨gk1, 0, none⟩) nk.length kk1, .slice (some ⟨gx, 0, none⟩) tk.length kx, .slice (some ⟨gy, 0, none⟩) tv.length ky] 26))
          | (have hbe := below_box wy #[.slice (some ⟨gk1, 0, none⟩) nk.length kk1, .slice (some ⟨gx, 0, none⟩) tk.length kx, .slice (some ⟨gy, 0, none⟩) tv.length ky] 26
             have hOe := (((hO0.below hbk (Nat.le_refl _)).below hbx (Nat.le_refl _)).below hby (Nat.le_refl _)).below hbe (Nat.le_refl _)
             have hBk := hB0.trans (hbk.mono hB0.size)
             have hBx := hBk.trans (hbx.mono hBk.size)
             have hBy := hBx.trans (hby.mono hBx.size)
             have hBe := hBy.trans (hbe.mono hBy.size)
             have oke := (((okk.below hbx (Nat.le_refl _)).below hby (Nat.le_refl _)).below hbe (Nat.le_refl _)).mono (C := w.heap.size) hB0.size
             have oxe := ((ox.below hby (Nat.le_refl _)).below hbe (Nat.le_refl _)).mono (C := w.heap.size) hBk.size
             have oye := (oy.below hbe (Nat.le_refl _)).mono (C := w.heap.size) hBx.size
             obtain ⟨cs, hrow, hel⟩ := hOe
             have hsz : w.heap.size ≤ wy.heap.size := hBy.size
             refine step_append_lies _ rfl (.tmp 24) (.tmp 35) 32 rfl w.heap.size 26 i0 (.slice none 0 0) 1 24 Tryd.underlying32 hi hz0 hz1 hz2 rfl (by decide) (.slice a' (partsO os.length (os.take j)).length c') (partsO os.length (os.take j)).length cs rfl hrow ⟨wy.heap.size, 0, none⟩ 3 3 [.slice (some ⟨gk1, 0, none⟩) nk.length kk1, .slice (some ⟨gx, 0, none⟩) tk.length kx, .slice (some ⟨gy, 0, none⟩) tv.length ky] rfl rfl (laid3 _ _ _ _ _) (oneL _ _ _ _ _ _ _ _ _) (by decide) (by simp only [maxLen]; omega) (by omega) (by simp; omega) _ rfl ?_
             intro g4 c4 w4 hown hgrow hat hlt4
             have b4 := be.grown hgrow hne
             have hpush := own_push3 nk tk tv hrow hel (.inr oke) (.inr oxe) (.inr oye) hown hgrow
             have hB4 := hBe.grown hgrow (Nat.le_trans hsz (by simp)) (fun k' e => (hrow.lt k' e).1))
          | fail)
      all_goals
        clear hO0 hB0 bx rx0 ry0
        go_wp2
        go_roundg (gk - 1)
        case measure => omega
        case rel => exact ⟨j + 1, _, c4, _, by omega, by go_num, rfl, by rw [HR.out]; exact hpush, hB4⟩
    · obtain rfl : j = os.length := by omega
      clear hrd
      have hfl : Hid ((partsO os.length (os.take os.length)).flatten = batB os) := by show _ = _; rw [List.take_length]; rfl
      have hfn : Hid ((partsO os.length (os.take os.length)).flatten.length ≤ 1099511627776) := by show _ ≤ _; rw [List.take_length]; have := parts_len os.length os; omega
      go_wp2_with fail
      refine (join_any _ _ _ hO.rd hfn.out).mono ?_
      rintro e w5 ⟨x, rfl, ox, hb5⟩
      rw [hfl.out] at ox
      go_wp2
      go_ret2
      exact ⟨_, rfl, ox.mono hB.size, hB.trans (hb5.mono hB.size)⟩

end Go.Proofs.YtmgofohaoppajaaDoor
