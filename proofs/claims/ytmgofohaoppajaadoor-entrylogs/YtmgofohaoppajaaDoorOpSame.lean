/- bartizanref04's Same. -/
import Derived.Test.YtmgofohaoppajaaDoorSmall
import Derived.Test.YtmgofohaoppajaaDoorOps
import Derived.Test.YtmgofohaoppajaaDoorKeyCmp
import Derived.BigQuiet
import Derived.Deep.LoopGhost
namespace Go.Proofs.YtmgofohaoppajaaDoor
open Go.RowKit

theorem same_q (w : World) (a b : Value) (l l' : List UInt8) (x : Bool) (ha : Rd w a l) (hb : Rd w b l') (hx : (l == l') = x) :
    Calls Tryd.prog 11 #[a, b] w fun e w' => e = .returned (.bool x) ∧ ∃ n, w' = w.drewN n :=
  (same_b w a b l l' x ha hb hx).mono fun _ _ ⟨h1, h2⟩ => ⟨h1, 0, h2⟩

theorem opb_ext {a b : OpB} (h1 : a.1 = b.1) (h2 : a.2.1 = b.2.1) (h3 : a.2.2 = b.2.2) : a = b := by
  obtain ⟨a1, a2, a3⟩ := a
  obtain ⟨b1, b2, b3⟩ := b
  simp at h1 h2 h3
  subst h1 h2 h3
  rfl

set_option maxHeartbeats 4000000 in
set_option maxRecDepth 20000 in
theorem sameops_any (w : World) (va vb : Value) (os ps : List OpB) (r : Bool) (ha : RdO w va os) (hb : RdO w vb ps) (hr : decide (os = ps) = r) :
    Calls Tryd.prog 31 #[va, vb] w fun e w' => e = .returned (.bool r) ∧ ∃ n, w' = w.drewN n := by
  obtain ⟨ao, ac, rfl, h1, h2, h3⟩ := ha
  obtain ⟨bo, bc, rfl, g1, g2, g3⟩ := hb
  unfold maxLen at h2 g2
  have H3 : Hid _ := h3
  have G3 : Hid _ := g3
  have HR : Hid _ := hr
  clear h3 g3 hr
  by_cases hl : os.length = ps.length
  · have HL : Hid _ := hl
    obtain ⟨n, hn⟩ : ∃ n, os.length = n := ⟨_, rfl⟩
    rw [hn] at hl h1 ⊢
    rw [← hl] at g1 ⊢
    have HN : Hid _ := hn
    clear hn hl
    go_enter Tryd.func31, Tryd.ntmps31
    go_wp2_with fail
    go_loopg [13] n (fun gk iv wr => ∃ j m : Nat, gk + j = n ∧ iv = .int .i64 (j : Int) ∧ wr = w.drewN m ∧ os.take j = ps.take j)
    case atStart => exact ⟨0, 0, rfl, rfl, rfl, by simp⟩
    case round =>
      obtain ⟨j, m, hj, rfl, hwr, ht⟩ := hrel
      have HW : Hid (∀ n, wr.drewN n = w.drewN (m + n)) := by intro n; rw [hwr]; exact World.drewN_drewN _ _ _
      have HW0 : Hid _ := hwr
      have HT : Hid _ := ht
      clear ht
      by_cases hlt : j < n
      · have hlo : j < os.length := by rw [HN.out]; exact hlt
        have hlp : j < ps.length := by rw [← HL.out, HN.out]; exact hlt
        obtain ⟨b, off, rfl, xv, yv, c0, c1, c2, rx, ry⟩ := H3.out j hlo
        obtain ⟨b', off', rfl, xv', yv', d0, d1, d2, rx', ry'⟩ := G3.out j hlp
        obtain ⟨⟨ok, ol, om⟩, ho⟩ : ∃ o, os[j] = o := ⟨_, rfl⟩
        obtain ⟨⟨pk, pl, pm⟩, hp⟩ : ∃ o, ps[j] = o := ⟨_, rfl⟩
        rw [ho] at c0 rx ry
        rw [hp] at d0 rx' ry'
        have e0 : ∀ p, w.cell? p = wr.cell? p := by intro p; rw [hwr]; rfl
        have e1 : ∀ v l, Rd w v l → Rd wr v l := by rw [hwr]; exact fun _ _ h => h
        rw [e0] at c0 c1 c2 d0 d1 d2
        replace rx := e1 _ _ rx
        replace ry := e1 _ _ ry
        replace rx' := e1 _ _ rx'
        replace ry' := e1 _ _ ry'
        clear e0 e1
        clear hwr
        have HO : Hid _ := ho
        have HP : Hid _ := hp
        clear ho hp
        by_cases hk : ok = pk
        · subst hk
          obtain ⟨q, hq⟩ : ∃ q, (ol == pl) = q := ⟨_, rfl⟩
          have HQ : Hid _ := hq
          clear hq
          cases q
          · have hno : Hid (r = false) := by
              show _ = _
              rw [← HR.out]
              apply decide_eq_false
              rintro rfl
              have e := HO.out.symm.trans HP.out
              simp only [Prod.mk.injEq, true_and] at e
              have := HQ.out
              rw [e.1] at this
              simp at this
            go_wp2_with fail
            go_quiet (first
              | (go_at_call_of 11 xv; refine Calls.quiet_of (same_q _ _ _ ol pl false (by exact rx) (by exact rx') HQ.out)))
            go_wp2
            go_ret
            exact ⟨ret_bool (by rw [hno.out]), _, HW.out _⟩
          · obtain ⟨q2, hq2⟩ : ∃ q, (om == pm) = q := ⟨_, rfl⟩
            have HQ2 : Hid _ := hq2
            clear hq2
            cases q2
            · have hno : Hid (r = false) := by
                show _ = _
                rw [← HR.out]
                apply decide_eq_false
                rintro rfl
                have e := HO.out.symm.trans HP.out
                simp only [Prod.mk.injEq, true_and] at e
                have := HQ2.out
                rw [e.2] at this
                simp at this
              go_wp2_with fail
              go_quiet (first
                | (go_at_call_of 11 xv; refine Calls.quiet_of (same_q _ _ _ ol pl true (by exact rx) (by exact rx') HQ.out))
                | (go_at_call_of 11 yv; refine Calls.quiet_of (same_q _ _ _ om pm false (by exact ry) (by exact ry') HQ2.out)))
              go_wp2
              go_ret
              exact ⟨ret_bool (by rw [hno.out]), _, HW.out _⟩
            · have hyes : Hid (os.take (j + 1) = ps.take (j + 1)) := by
                show _ = _
                rw [List.take_succ_eq_append_getElem hlo, List.take_succ_eq_append_getElem hlp, HT.out, HO.out, HP.out, eq_of_beq HQ.out, eq_of_beq HQ2.out]
              go_wp2_with fail
              go_quiet (first
                | (go_at_call_of 11 xv; refine Calls.quiet_of (same_q _ _ _ ol pl true (by exact rx) (by exact rx') HQ.out))
                | (go_at_call_of 11 yv; refine Calls.quiet_of (same_q _ _ _ om pm true (by exact ry) (by exact ry') HQ2.out)))
              go_wp2
              go_roundg (gk - 1)
              case measure => omega
              case rel => exact ⟨j + 1, _, by omega, by go_num, HW.out _, hyes.out⟩
        · have hno : Hid (r = false) := by
            show _ = _
            rw [← HR.out]
            apply decide_eq_false
            rintro rfl
            have e := HO.out.symm.trans HP.out
            simp only [Prod.mk.injEq] at e
            exact hk e.1
          have hkk : ¬ (ok.toNat : Int) = (pk.toNat : Int) := fun e => hk (UInt8.toNat_inj.1 (by omega))
          have hk1 : decide ((ok.toNat : Int) = (pk.toNat : Int)) = false := decide_eq_false hkk
          have hk2 : ((ok.toNat : Int) != (pk.toNat : Int)) = true := by simp [hkk]
          clear hk
          go_wp2_with fail
          go_quiet (fail)
          go_wp2
          go_ret
          exact ⟨ret_bool (by rw [hno.out]), _, HW.out _⟩
      · obtain rfl : j = n := by omega
        have hyes : Hid (r = true) := by
          show _ = _
          rw [← HR.out]
          apply decide_eq_true
          have e := HT.out
          rw [List.take_of_length_le (by rw [HN.out]; omega), List.take_of_length_le (by rw [← HL.out, HN.out]; omega)] at e
          exact e
        clear hwr
        go_wp2
        go_ret
        exact ⟨ret_bool (by rw [hyes.out]), _, HW0.out⟩
  · have hno : Hid (r = false) := by
      show _ = _
      rw [← HR.out]
      apply decide_eq_false
      rintro rfl
      exact hl rfl
    go_enter Tryd.func31, Tryd.ntmps31
    go_wp2
    go_ret
    exact ⟨ret_bool (by rw [hno.out]), 0, rfl⟩

end Go.Proofs.YtmgofohaoppajaaDoor
