/- (*tomb.Set).Cover. -/
import Derived.Test.YthcoblmfmbmdkaaTbApart
import Derived.Deep.LoopGhost
namespace Go.Proofs.Ythcoblmfmbmdkaa
set_option maxRecDepth 20000
open Go.RowKit
set_option linter.unusedVariables false
set_option linter.unusedSimpArgs false

/-- the greatest number, up to seq, of a span over the key -/
def covS (k : List UInt8) (seq : Int) (m : Nat) (s : SpB) : Nat := if (s.2.2 : Int) ≤ seq ∧ covB s.1 s.2.1 k = true then max m s.2.2 else m
def covN (ss : List SpB) (k : List UInt8) (seq : Int) : Nat := ss.foldl (covS k seq) 0

theorem covN_next (ss : List SpB) (k : List UInt8) (seq : Int) (j : Nat) (h : j < ss.length) : covN (ss.take (j + 1)) k seq = covS k seq (covN (ss.take j) k seq) ss[j] := by
  unfold covN
  rw [List.take_add_one, List.foldl_append, List.getElem?_eq_getElem h]
  rfl

/-- a set in memory -/
def SetAt (w : World) (t : Nat) (ss : List SpB) : Prop := ∃ v, w.cell? ⟨t, 0, none⟩ = some v ∧ RdS w v ss

set_option maxHeartbeats 4000000 in
theorem tcover_any (w : World) (t : Nat) (ss : List SpB) (kv : Value) (k : List UInt8) (seq : Int) (ht : SetAt w t ss) (hk : Rd w kv k) :
    Calls Try.prog 45 #[.pointer (some ⟨t, 0, none⟩), kv, .int .u64 seq] w fun e w' => e = .returned (.int .u64 (covN ss k seq : Int)) ∧ Below w.heap.size w w' := by
  obtain ⟨v, hc, hv⟩ := ht
  obtain ⟨ka, kc, rfl⟩ := hk.len
  obtain ⟨kl, hkl⟩ : ∃ z, k.length = z := ⟨_, rfl⟩
  rw [hkl] at hk ⊢
  have HK : Hid (Rd w (.slice ka kl kc) k) := hk
  have HV : Hid (RdS w v ss) := hv
  obtain ⟨ao, cap, rfl, h1, h2, _⟩ := hv
  unfold maxLen at h2
  obtain ⟨N, hN⟩ : ∃ N, ss.length = N := ⟨_, rfl⟩
  rw [hN] at h1 HV hc
  have HN : Hid (ss.length = N) := hN
  clear hN hk hkl
  have he : ∀ w : World, (binOp .eql 81 (.pointer (some ⟨t, 0, none⟩)) (.pointer none)).run Try.prog w = .ok (.bool false) w := fun _ => rfl
  go_enter Try.func45, Try.ntmps45
  go_wp2_with fail
  go_loopg [17, 7] N (fun gk iv mv wr => ∃ j m : Nat, gk + j = N ∧ iv = .int .i64 (j : Int) ∧ mv = .int .u64 (m : Int) ∧ Hid (m = covN (ss.take j) k seq) ∧ Hid (Below w.heap.size w wr))
  case atStart => exact ⟨0, 0, by omega, rfl, rfl, rfl, Below.refl _ _⟩
  case round =>
    obtain ⟨j, m, hj, rfl, rfl, HS, HB⟩ := hrel
    by_cases hlt : j < N
    · have hlt2 : j < ss.length := by rw [HN.out]; exact hlt
      obtain ⟨_, _, e, _, _, h3⟩ := rdS_below HV.out HB.out (Nat.le_refl _)
      rw [HN.out] at e
      cases e
      obtain ⟨b, off, rfl, xv, yv, c0, c1, c2, rx, ry⟩ := h3 j hlt2
      obtain ⟨x1, x2, ex⟩ := rx.len
      obtain ⟨y1, y2, ey⟩ := ry.len
      subst ex ey
      obtain ⟨⟨sl, sm, sq⟩, ho⟩ : ∃ o, ss[j] = o := ⟨_, rfl⟩
      rw [ho] at c0 c1 c2 rx ry
      obtain ⟨q1, q2⟩ := gk_nxt hj hlt
      simp only at c0 c1 c2 rx ry
      obtain ⟨nl, hnl⟩ : ∃ nl, sl.length = nl := ⟨_, rfl⟩
      obtain ⟨ml, hml⟩ : ∃ ml, sm.length = ml := ⟨_, rfl⟩
      rw [hnl] at c0 rx
      rw [hml] at c1 ry
      have hb0 := below_box wr #[.slice x1 nl x2, .slice y1 ml y2, .int .u64 (sq : Int)] 46
      have HB0 : Hid (Below w.heap.size w (wr.alloc (.cells #[.slice x1 nl x2, .slice y1 ml y2, .int .u64 (sq : Int)] 46))) := bsplit HB.out hb0
      have BX := box_new wr (.slice x1 nl x2) (.slice y1 ml y2) (.int .u64 (sq : Int)) 46
      obtain ⟨r, hr⟩ : ∃ r, covB sl sm k = r := ⟨_, rfl⟩
      have hcv := covers_any (wr.alloc (.cells #[.slice x1 nl x2, .slice y1 ml y2, .int .u64 (sq : Int)] 46)) (.slice x1 nl x2) (.slice y1 ml y2) (.slice ka kl kc) sl sm k (sq : Int) r (rx.below hb0 (Nat.le_refl _)) (ry.below hb0 (Nat.le_refl _)) ((HK.out.below HB.out (Nat.le_refl _)).below hb0 (Nat.le_refl _)) hr
      have HX : Hid (covN (ss.take (j + 1)) k seq = if (sq : Int) ≤ seq ∧ r = true then max m sq else m) := by
        show _ = _
        rw [covN_next ss k seq j hlt2, ho, ← HS.out, ← hr]
        rfl
      have BX' := BX
      obtain ⟨z0, z1, z2, _, _, _⟩ := BX'
      clear ho hb0 h3 rx ry hnl hml hr
      by_cases hle : (sq : Int) ≤ seq
      · go_wp2_with fail
        refine hcv.mono ?_
        rintro e w2 ⟨rfl, hb2⟩
        have HB2 : Hid (Below w.heap.size w w2) := bsplit HB0.out hb2
        clear z0 z1 z2
        obtain ⟨z0, z1, z2, _, _, _⟩ := BX.below hb2 (Nat.le_refl _)
        clear hcv hb2 BX
        cases r
        · go_wp2_with fail
          go_roundg (gk - 1)
          case measure => exact q1
          case rel => exact ⟨j + 1, m, q2, by go_num, rfl, by show _ = _; rw [HX.out, if_neg (by simp)], HB2⟩
        · go_wp2_with fail
          go_roundg (gk - 1)
          case measure => exact q1
          case rel => exact ⟨j + 1, max m sq, q2, by go_num, (by simp; omega), by show _ = _; rw [HX.out, if_pos (by simp [hle])], HB2⟩
      · go_wp2_with fail
        go_roundg (gk - 1)
        case measure => exact q1
        case rel => exact ⟨j + 1, m, q2, by go_num, rfl, by show _ = _; rw [HX.out, if_neg (fun h => by have := h.1; omega)], HB0⟩
    · have hjN : j = N := by omega
      subst hjN
      go_wp2_with fail
      go_wp2
      go_ret
      exact ⟨ret_int (by rw [HS.out, ← HN.out, List.take_length]), HB.out⟩

end Go.Proofs.Ythcoblmfmbmdkaa
