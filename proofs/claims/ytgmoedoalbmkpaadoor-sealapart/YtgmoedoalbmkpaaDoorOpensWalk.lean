/- SealOpens answers true: all bytes are a seal, or aren't. -/
import Derived.Test.YtgmoedoalbmkpaaDoorAwake
import Derived.Test.YtgmoedoalbmkpaaDoorOpen
import Derived.Test.YtgmoedoalbmkpaaDoorRefOpen
namespace Go.Proofs.YtgmoedoalbmkpaaDoor
open Go.RowKit

/-- what an opening answers -/
def OP (l : List UInt8) (B : Nat) (w : World) (x : Value) (y : Int) : Prop :=
  (l.length < 4 ∧ x = .slice none 0 0 ∧ y = 2) ∨ ∃ t a b c d, l = t ++ [a, b, c, d] ∧ OpenPost (!(sealB t == l)) t B w x (.int .i64 y)

theorem last4 (l : List UInt8) (h : 4 ≤ l.length) : ∃ t a b c d, l = t ++ [a, b, c, d] := by
  obtain ⟨n, hn⟩ : ∃ n, l.length = n + 4 := ⟨l.length - 4, by omega⟩
  have hd : (l.drop n).length = 4 := by simp; omega
  match h' : l.drop n, hd with
  | [a, b, c, d], _ => exact ⟨l.take n, a, b, c, d, by rw [← h', List.take_append_drop]⟩

theorem seal_bad (t : List UInt8) (a b c d : UInt8) : (((Crc.low [a, b, c, d] : Nat) : Int) != ((Crc.mask (Crc.sum t) : Nat) : Int)) = !(sealB t == t ++ [a, b, c, d]) := by
  by_cases h : sealB t = t ++ [a, b, c, d]
  · have h' := h
    unfold sealB at h
    have := List.append_cancel_left h
    rw [← this, Crc.low_four _ (Crc.mask_lt _), this, h']
    simp
  · have hne : ¬ Crc.low [a, b, c, d] = Crc.mask (Crc.sum t) := fun e => h (by unfold sealB; rw [← e, Crc.four_low])
    have e1 : (sealB t == t ++ [a, b, c, d]) = false := beq_eq_false_iff_ne.2 h
    rw [e1]
    simp only [Bool.not_false, bne_iff_ne, ne_eq]
    omega

theorem open_post (bad : Bool) (t : List UInt8) (B : Nat) (w : World) (x y : Value) (h : OpenPost bad t B w x y) : ∃ z, y = .int .i64 z ∧ OpenPost bad t B w x (.int .i64 z) := by
  cases bad
  · obtain ⟨h1, rfl⟩ := h; exact ⟨0, rfl, h1, rfl⟩
  · obtain ⟨h1, rfl⟩ := h; exact ⟨5, rfl, h1, rfl⟩

theorem open_any (w : World) (v : Value) (l : List UInt8) (hv : Rd w v l) (hl : l.length ≤ 1000000) (ht : Tab w) :
    Calls Tryd.prog 19 #[v] w fun e w' => ∃ x y, e = .returned (.tuple #[x, .int .i64 y]) ∧ OP l w.heap.size w' x y ∧ Below w.heap.size w w' := by
  by_cases h4 : l.length < 4
  · refine (open_short w v l hv h4).mono ?_
    rintro e w' ⟨rfl, rfl⟩
    exact ⟨_, _, rfl, .inl ⟨h4, rfl, rfl⟩, Below.refl _ _⟩
  · obtain ⟨t, a, b, c, d, rfl⟩ := last4 l (by omega)
    refine (open_long w v t a b c d hv (by simp at hl; omega) ht _ (seal_bad t a b c d)).mono ?_
    rintro e w' ⟨x, y, rfl, h, hb⟩
    obtain ⟨z, rfl, hz⟩ := open_post _ _ _ _ _ _ h
    exact ⟨x, z, rfl, .inr ⟨t, a, b, c, d, rfl, hz⟩, hb⟩

theorem refopen_any (w : World) (v : Value) (l : List UInt8) (hv : Rd w v l) (hl : l.length ≤ 1000000) :
    Calls Tryd.prog 22 #[v] w fun e w' => ∃ x y, e = .returned (.tuple #[x, .int .i64 y]) ∧ OP l w.heap.size w' x y ∧ Below w.heap.size w w' := by
  by_cases h4 : l.length < 4
  · refine (refopen_short w v l hv h4).mono ?_
    rintro e w' ⟨rfl, rfl⟩
    exact ⟨_, _, rfl, .inl ⟨h4, rfl, rfl⟩, Below.refl _ _⟩
  · obtain ⟨t, a, b, c, d, rfl⟩ := last4 l (by omega)
    refine (refopen_long w v t a b c d hv (by simp at hl; omega) (!(sealB t == t ++ [a, b, c, d])) (by rw [Bool.not_not])).mono ?_
    rintro e w' ⟨x, y, rfl, h, hb⟩
    obtain ⟨z, rfl, hz⟩ := open_post _ _ _ _ _ _ h
    exact ⟨x, z, rfl, .inr ⟨t, a, b, c, d, rfl, hz⟩, hb⟩

theorem op_one {l : List UInt8} {B C : Nat} {w w' : World} {x x' : Value} {y y' : Int} (h : OP l B w x y) (h' : OP l C w' x' y') : y = y' ∧ ∃ u, Rd w x u ∧ Rd w' x' u := by
  rcases h with ⟨h1, rfl, rfl⟩ | ⟨t, a, b, c, d, e, hp⟩
  · rcases h' with ⟨_, rfl, rfl⟩ | ⟨t', a', b', c', d', e', _⟩
    · exact ⟨rfl, [], .inl ⟨rfl, rfl⟩, .inl ⟨rfl, rfl⟩⟩
    · rw [e'] at h1; simp at h1; omega
  · rcases h' with ⟨h1, _⟩ | ⟨t', a', b', c', d', e', hp'⟩
    · rw [e] at h1; simp at h1; omega
    · have ht : t = t' := by
        have : t ++ [a, b, c, d] = t' ++ [a', b', c', d'] := by rw [← e, e']
        exact (List.append_inj' this rfl).1
      subst ht
      generalize (!(sealB t == l)) = bad at hp hp'
      cases bad
      · obtain ⟨h1, h2⟩ := hp
        obtain ⟨h3, h4⟩ := hp'
        cases h2; cases h4
        exact ⟨rfl, t, h1.rd, h3.rd⟩
      · obtain ⟨rfl, h2⟩ := hp
        obtain ⟨rfl, h4⟩ := hp'
        cases h2; cases h4
        exact ⟨rfl, [], .inl ⟨rfl, rfl⟩, .inl ⟨rfl, rfl⟩⟩
theorem op_rd {l : List UInt8} {B : Nat} {w : World} {x : Value} {y : Int} (h : OP l B w x y) : (∃ u, Rd w x u) ∧ 0 ≤ y ∧ y ≤ 5 := by
  refine ⟨(op_one h h).2.imp fun _ h => h.1, ?_⟩
  rcases h with ⟨h1, rfl, rfl⟩ | ⟨t, a, b, c, d, e, hp⟩
  · omega
  · generalize (!(sealB t == l)) = bad at hp
    cases bad <;> obtain ⟨_, h2⟩ := hp <;> cases h2 <;> omega

set_option maxHeartbeats 4000000 in
set_option maxRecDepth 20000 in
theorem opens_walk (w : World) (vx : Value) (x cx : List UInt8) (CX : Hid (x.take 600 = cx)) (hcx : cx.length ≤ 600) (hx : Arg w vx x) (ht : Tab w) :
    Calls Tryd.prog 6 #[vx] w fun e w' => e = .returned (.bool true) ∧ Below w.heap.size w w' := by
  obtain ⟨i0, hi, hz0, hz1, hz2⟩ := info_parts info5
  have ht0 : Hid (Tab w) := ht
  go_enter Tryd.func6, Tryd.ntmps6
  go_wp2_with fail
  refine (awake_any _ ht).mono ?_
  rintro e w1 ⟨rfl, hb1⟩
  have hx1 := hx.below hb1 (Nat.le_refl _)
  clear hx ht
  go_wp2_with fail
  refine (cut_any _ _ x 600 hx1 (by omega)).mono ?_
  rintro e w2 ⟨vp, rfl, op, hb2⟩
  rw [CX.out] at op
  have hB2 := hb1.trans (hb2.mono hb1.size)
  obtain ⟨gp, kp, hvp⟩ := op.shape
  subst hvp
  have hgp := op.lt.2
  clear hb1 hb2 hx1
  go_wp2_with fail
  refine (copy_any _ _ cx op.rd.arg (by omega)).mono ?_
  rintro e w3 ⟨vq, rfl, oq, hb3⟩
  have hB3 := hB2.trans (hb3.mono hB2.size)
  have op3 := op.below hb3 (Nat.le_refl _)
  obtain ⟨gq, kq, hvq⟩ := oq.shape
  subst hvq
  have hgq := oq.lt
  clear hb3 op
  have hlit := lit_row w3 w3.heap.size (Nat.le_refl _) 165
  have hb165 : ((165 : UInt8).toNat : Int) = 165 := by decide
  rw [hb165] at hlit
  have hqa := oq.row.alloc (.cells #[.int .u8 165] 5)
  have hba := (Below.refl w3.heap.size w3).alloc (Nat.le_refl _) (.cells #[.int .u8 165] 5)
  have rp3 := op3.rd.below hba (Nat.le_refl _)
  have hB3a := hB3.alloc hB3.size (.cells #[.int .u8 165] 5)
  have hs2 := hB2.size
  have hs3 : w2.heap.size ≤ w3.heap.size := by omega
  clear op3 oq hB2 hB3 hb165 hba
  go_wp2_with (first | (at_builtin; refine wpList_append_own _ rfl (.tmp 13) (.tmp 14) 24 rfl w2.heap.size 5 i0 (.int .u8 0) 1 1 Tryd.underlying24 hi hz0 hz1 hz2 rfl (by decide) (.slice (some ⟨gq, 0, none⟩) cx.length kq) cx.length (bv cx) rfl hqa ⟨w3.heap.size, 0, none⟩ 1 1 (bv [165]) rfl rfl (hlit.cells rfl) (bv_one _) (by simp only [maxLen]; omega) (by omega) (by simp; omega) ?_; intro v' w4 ho' hgr' hn'; obtain ⟨gv, kv, hvv, hk1, hk2, ov⟩ := app_shape ho' rfl rfl (fun e => by have := (hn'.1 e).1; cases this); subst hvv) | fail)
  have hB4 : Below w.heap.size w w4 := hB3a.grown hgr' hB3a.size (fun k' e => by have := (hqa.lt k' e).1; omega)
  have rp4 := rp3.grown hgr' (fun e => by have := (hqa.lt gp e.symm).1; omega)
  have rf4 := ov.rd
  have hcq : ∀ j u, (bv (cx ++ [165]))[j]? = some u → w4.cell? ⟨gv, 0 + j, none⟩ = some u := fun j u hu => by
    have := (rd_cells (by simpa using rf4)).2 j u hu
    rwa [Addr.add_lit] at this
  have rq4 : Rd w4 (.slice (some ⟨gv, 0, none⟩) cx.length kv) cx := by
    have := rd_sub hcq 0 cx.length kv (by omega) (by simp only [maxLen]; omega) (by simp)
    simpa using this
  have hc4 : w4.cell? ⟨gv, cx.length, none⟩ = some (.int .u8 165) := by
    have := hcq cx.length (.int .u8 165) (by simp [bv])
    simpa using this
  have hgv := ov.lt.2
  have ht4 : Tab w4 := Tab.below (w := w) ht0.out hB4 (Nat.le_refl _)
  clear ho' hgr' hn' hqa rp3 hB3a ov rf4 hcq hlit
  refine (open_any _ _ cx rq4 (by omega) ht4).mono ?_
  rintro e w5 ⟨x1, y1, rfl, o1, hb5⟩
  have rp5 := rp4.below hb5 (Nat.le_refl _)
  have rq5 := rq4.below hb5 (Nat.le_refl _)
  have hc5 : w5.cell? ⟨gv, cx.length, none⟩ = some (.int .u8 165) := by rw [hb5.cell (p := ⟨gv, cx.length, none⟩) hgv]; exact hc4
  have hB5 := hB4.trans (hb5.mono hB4.size)
  have hgv5 := Nat.lt_of_lt_of_le hgv hb5.size
  clear hb5 rp4 rq4 hc4 hB4 hgv ht4
  go_wp2_with fail
  refine (refopen_any _ _ cx rp5 (by omega)).mono ?_
  rintro e w6 ⟨x2, y2, rfl, o2, hb6⟩
  have rp6 := rp5.below hb6 (Nat.le_refl _)
  have rq6 := rq5.below hb6 (Nat.le_refl _)
  obtain ⟨hy, u, r1, r2⟩ := op_one o1 o2
  obtain ⟨_, hy0, hy5⟩ := op_rd o1
  have r16 := r1.below hb6 (Nat.le_refl _)
  subst hy
  have hc6 : w6.cell? ⟨gv, cx.length, none⟩ = some (.int .u8 165) := by rw [hb6.cell (p := ⟨gv, cx.length, none⟩) hgv5]; exact hc5
  have hB6 := hB5.trans (hb6.mono hB5.size)
  clear hb6 rp5 rq5 hc5 hB5 hgv5 o1 o2 r1
  go_wp2_with fail
  refine (same_b _ _ _ _ _ true r16 r2 (by simp)).mono ?_
  rintro e w9 ⟨rfl, hw⟩
  subst hw
  go_wp2_with fail
  refine (same_b _ _ _ _ _ true rq6 rp6 (by simp)).mono ?_
  rintro e w9 ⟨rfl, hw⟩
  subst hw
  go_wp2
  go_ret
  exact ⟨rfl, hB6⟩

theorem sealOpens_walk (a0 : Option Addr) (len0 cap0 : Nat) (z0 : List Int) (w : World) (w0 : IsRow .u8 w a0 len0 cap0 z0) (ht : Tab w) :
    Calls Tryd.prog 6 #[.slice a0 len0 cap0] w fun e w' => e = .returned (.bool true) ∧ Below w.heap.size w w' :=
  opens_walk w _ _ _ rfl (List.length_take_le _ _) (arg_of w0) ht

end Go.Proofs.YtgmoedoalbmkpaaDoor
