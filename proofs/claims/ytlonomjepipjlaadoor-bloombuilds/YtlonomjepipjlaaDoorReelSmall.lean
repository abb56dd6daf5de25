/- reel.noughts; bartizanref06.Same. -/
import Derived.Test.YtlonomjepipjlaaDoorReelRdPure
import Derived.BigQuiet
import Derived.Deep.LoopGhost
namespace Go.Proofs.YtlonomjepipjlaaDoor
open Go.RowKit
set_option linter.unusedVariables false

theorem Rd.places {w : World} {v : Value} {l : List UInt8} (h : Rd w v l) : ∃ ao cap, v = .slice ao l.length cap ∧ l.length ≤ cap ∧ cap ≤ 9223372036854775807 ∧ ∀ j (h : j < l.length), ∃ b off, ao = some ⟨b, off, none⟩ ∧ w.cell? ⟨b, off + j, none⟩ = some (.int .u8 ((l[j]).toNat : Int)) := by
  rcases h with ⟨rfl, rfl⟩ | ⟨b, off, cap, rfl, h1, h2, h3⟩
  · exact ⟨none, 0, rfl, Nat.le_refl _, by omega, fun j h => absurd h (Nat.not_lt_zero _)⟩
  · exact ⟨_, cap, rfl, h1, by unfold maxLen at h2; omega, fun j h => ⟨b, off, rfl, h3 j _ (bv_get l j h)⟩⟩

theorem RdL.places {w : World} {v : Value} {ls : List (List UInt8)} (h : RdL w v ls) : ∃ ao cap, v = .slice ao ls.length cap ∧ ls.length ≤ cap ∧ cap ≤ 9223372036854775807 ∧ ∀ j (h : j < ls.length), ∃ b off, ao = some ⟨b, off, none⟩ ∧ ∃ u, w.cell? ⟨b, off + j, none⟩ = some u ∧ Rd w u ls[j] := by
  rcases h with ⟨rfl, rfl⟩ | ⟨b, off, cap, rfl, h1, h2, h3⟩
  · exact ⟨none, 0, rfl, Nat.le_refl _, by omega, fun j h => absurd h (Nat.not_lt_zero _)⟩
  · exact ⟨_, cap, rfl, h1, by unfold maxLen at h2; omega, fun j h => ⟨b, off, rfl, h3 j h⟩⟩

theorem retB {a b : Bool} (h : a = b) : Ending.returned (.bool a) = .returned (.bool b) := by rw [h]

theorem all0_drop {l : List UInt8} {j : Nat} (h : j < l.length) : (l.drop j).all (· == 0) = ((l[j] == 0) && (l.drop (j + 1)).all (· == 0)) := by
  rw [List.drop_eq_getElem_cons h, List.all_cons]

theorem sameQ (w : World) (a b : Value) (l l' : List UInt8) (x : Bool) (ha : Rd w a l) (hb : Rd w b l') (hx : (l == l') = x) :
    Calls Tryd.prog 9 #[a, b] w fun e w' => e = .returned (.bool x) ∧ ∃ n, w' = w.drewN n :=
  (same_b w a b l l' x ha hb hx).mono fun _ _ ⟨h1, h2⟩ => ⟨h1, 0, h2⟩

theorem below_drewN' {B : Nat} {a w : World} (h : Below B a w) (n : Nat) : Below B a (w.drewN n) := ⟨h.os, h.tape, h.output, h.size, h.block⟩

set_option maxHeartbeats 4000000 in
set_option maxRecDepth 20000 in
theorem sameT_any (w : World) (va vb : Value) (os ps : List (List UInt8)) (r : Bool) (ha : RdL w va os) (hb : RdL w vb ps) (hr : decide (os = ps) = r) :
    Calls Tryd.prog 14 #[va, vb] w fun e w' => e = .returned (.bool r) ∧ ∃ n, w' = w.drewN n := by
  obtain ⟨ao, ac, rfl, h1, h2, h3⟩ := ha.places
  obtain ⟨bo, bc, rfl, g1, g2, g3⟩ := hb.places
  have H3 : Hid _ := h3
  have G3 : Hid _ := g3
  have HR : Hid _ := hr
  clear h3 g3 hr ha hb
  by_cases hl : os.length = ps.length
  · have HL : Hid _ := hl
    obtain ⟨n, hn⟩ : ∃ n, os.length = n := ⟨_, rfl⟩
    rw [hn] at hl h1 ⊢
    rw [← hl] at g1 ⊢
    have HN : Hid _ := hn
    clear hn hl
    go_enter Tryd.func14, Tryd.ntmps14
    go_wp2_with fail
    go_loopg [13] n (fun gk iv wr => ∃ j m : Nat, gk + j = n ∧ iv = .int .i64 (j : Int) ∧ wr = w.drewN m ∧ os.take j = ps.take j)
    case atStart => exact ⟨0, 0, rfl, rfl, rfl, by simp⟩
    case round =>
      obtain ⟨j, m, hj, rfl, hwr, ht⟩ := hrel
      have HW : Hid (∀ n, wr.drewN n = w.drewN (m + n)) := by intro n; rw [hwr]; exact World.drewN_drewN _ _ _
      have HW0 : Hid _ := hwr
      have HT : Hid _ := ht
      clear ht
      by_cases hlt : j < n
      · have hlo : j < os.length := by rw [HN.out]; exact hlt
        have hlp : j < ps.length := by rw [← HL.out, HN.out]; exact hlt
        obtain ⟨b, off, rfl, xv, c0, rx⟩ := H3.out j hlo
        obtain ⟨b', off', rfl, xv', d0, rx'⟩ := G3.out j hlp
        obtain ⟨ol, ho⟩ : ∃ o, os[j] = o := ⟨_, rfl⟩
        obtain ⟨pl, hp⟩ : ∃ o, ps[j] = o := ⟨_, rfl⟩
        rw [ho] at rx
        rw [hp] at rx'
        have e0 : ∀ p, w.cell? p = wr.cell? p := by intro p; rw [hwr]; rfl
        have e1 : ∀ v l, Rd w v l → Rd wr v l := by rw [hwr]; exact fun _ _ h => h
        rw [e0] at c0 d0
        replace rx := e1 _ _ rx
        replace rx' := e1 _ _ rx'
        clear e0 e1
        clear hwr
        have HO : Hid _ := ho
        have HP : Hid _ := hp
        clear ho hp
        obtain ⟨q, hq⟩ : ∃ q, (ol == pl) = q := ⟨_, rfl⟩
        have HQ : Hid _ := hq
        clear hq
        cases q
        · have hno : Hid (r = false) := by
            show _ = _
            rw [← HR.out]
            apply decide_eq_false
            rintro rfl
            have e := HO.out.symm.trans HP.out
            have := HQ.out
            rw [e] at this
            simp at this
          go_wp2_with fail
          go_quiet (first
            | (go_at_call_of 9 xv; refine Calls.quiet_of (sameQ _ _ _ ol pl false (by exact rx) (by exact rx') HQ.out)))
          go_wp2
          go_ret
          exact ⟨retB (by rw [hno.out]), _, HW.out _⟩
        · have hyes : Hid (os.take (j + 1) = ps.take (j + 1)) := by
            show _ = _
            rw [List.take_succ_eq_append_getElem hlo, List.take_succ_eq_append_getElem hlp, HT.out, HO.out, HP.out, eq_of_beq HQ.out]
          go_wp2_with fail
          go_quiet (first
            | (go_at_call_of 9 xv; refine Calls.quiet_of (sameQ _ _ _ ol pl true (by exact rx) (by exact rx') HQ.out)))
          go_wp2
          go_roundg (gk - 1)
          case measure => omega
          case rel => exact ⟨j + 1, _, by omega, by go_num, HW.out _, hyes.out⟩
      · obtain rfl : j = n := by omega
        have hyes : Hid (r = true) := by
          show _ = _
          rw [← HR.out]
          apply decide_eq_true
          have e := HT.out
          rw [List.take_of_length_le (by rw [HN.out]; omega), List.take_of_length_le (by rw [← HL.out, HN.out]; omega)] at e
          exact e
        clear hwr
        go_wp2
        go_ret
        exact ⟨retB (by rw [hyes.out]), _, HW0.out⟩
  · have hno : Hid (r = false) := by
      show _ = _
      rw [← HR.out]
      apply decide_eq_false
      rintro rfl
      exact hl rfl
    obtain ⟨n, hn⟩ : ∃ n, os.length = n := ⟨_, rfl⟩
    obtain ⟨m, hm⟩ : ∃ n, ps.length = n := ⟨_, rfl⟩
    rw [hn, hm] at hl ⊢
    have hI : ¬ (n : Int) = (m : Int) := by omega
    have hbq : ((n : Int) == (m : Int)) = false := by simpa using hI
    clear hn hm hl h1 h2 g1 g2
    go_enter Tryd.func14, Tryd.ntmps14
    go_wp2
    go_ret
    exact ⟨retB (by rw [hno.out]), 0, rfl⟩

end Go.Proofs.YtlonomjepipjlaaDoor
