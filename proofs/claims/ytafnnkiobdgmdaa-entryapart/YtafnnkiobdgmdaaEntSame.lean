/- bartizanref07.Same. -/
import Derived.Test.YtafnnkiobdgmdaaEntFew2
import Derived.BigQuiet
namespace Go.Proofs.Ytafnnkiobdgmdaa
open Go.RowKit
set_option linter.unusedVariables false

theorem k_ne {a b : UInt8} (h : a ≠ b) : ¬ (a.toNat : Int) = (b.toNat : Int) := fun e => h (UInt8.toNat_inj.1 (by omega))

set_option maxHeartbeats 16000000 in
set_option maxRecDepth 20000 in
theorem sament_any (w : World) (va vb : Value) (os ps : List NtB) (r : Bool) (ha : RdN w va os) (hb : RdN w vb ps) (hr : os = ps ↔ r = true) :
    Calls Try.prog 11 #[va, vb] w fun e w' => e = .returned (.bool r) ∧ ∃ n, w' = w.drewN n := by
  obtain ⟨ao, ac, rfl, h1, h2, h3⟩ := ha
  obtain ⟨bo, bc, rfl, g1, g2, g3⟩ := hb
  unfold maxLen at h2 g2
  have H3 : Hid _ := h3
  have G3 : Hid _ := g3
  have HR : Hid _ := hr
  clear h3 g3 hr
  by_cases hl : os.length = ps.length
  · have HL : Hid _ := hl
    obtain ⟨n, hn⟩ : ∃ n, os.length = n := ⟨_, rfl⟩
    rw [hn] at hl h1 ⊢
    rw [← hl] at g1 ⊢
    have HN : Hid _ := hn
    clear hn hl
    go_enter Try.func11, Try.ntmps11
    go_wp2_with fail
    go_loopg [13] n (fun gk iv wr => ∃ j m : Nat, gk + j = n ∧ iv = .int .i64 (j : Int) ∧ wr = w.drewN m ∧ os.take j = ps.take j)
    case atStart => exact ⟨0, 0, rfl, rfl, rfl, by simp⟩
    case round =>
      obtain ⟨j, m, hj, rfl, hwr, ht⟩ := hrel
      have HW : Hid (∀ n, wr.drewN n = w.drewN (m + n)) := by intro n; rw [hwr]; exact World.drewN_drewN _ _ _
      have HW0 : Hid _ := hwr
      have HT : Hid _ := ht
      clear ht
      by_cases hlt : j < n
      · have hlo : j < os.length := by rw [HN.out]; exact hlt
        have hlp : j < ps.length := by rw [← HL.out, HN.out]; exact hlt
        obtain ⟨b, off, rfl, xv, yv, c0, c1, c2, c3, rx, ry⟩ := H3.out j hlo
        obtain ⟨b', off', rfl, xv', yv', d0, d1, d2, d3, rx', ry'⟩ := G3.out j hlp
        obtain ⟨⟨ok, osq, ol, oo⟩, ho⟩ : ∃ o, os[j] = o := ⟨_, rfl⟩
        obtain ⟨⟨pk, psq, pl, po⟩, hp⟩ : ∃ o, ps[j] = o := ⟨_, rfl⟩
        rw [ho] at c0 c1 rx ry
        rw [hp] at d0 d1 rx' ry'
        simp only at c0 c1 rx ry d0 d1 rx' ry'
        have e0 : ∀ p, w.cell? p = wr.cell? p := by intro p; rw [hwr]; rfl
        have e1 : ∀ v l, Rd w v l → Rd wr v l := by rw [hwr]; exact fun _ _ h => h
        have e2 : ∀ v l, RdO w v l → RdO wr v l := by rw [hwr]; exact fun _ _ h => h
        rw [e0] at c0 c1 c2 c3 d0 d1 d2 d3
        replace rx := e1 _ _ rx
        replace rx' := e1 _ _ rx'
        replace ry := e2 _ _ ry
        replace ry' := e2 _ _ ry'
        clear e0 e1 e2
        clear hwr
        have HO : Hid (os[j] = (ok, osq, ol, oo)) := ho
        have HP : Hid (ps[j] = (pk, psq, pl, po)) := hp
        clear ho hp
        obtain ⟨q, hq⟩ : ∃ q, (ol == pl) = q := ⟨_, rfl⟩
        have HQ : Hid _ := hq
        obtain ⟨q2, hq2⟩ : ∃ q2, decide (oo = po) = q2 := ⟨_, rfl⟩
        have HQ2 : Hid _ := hq2
        clear hq hq2
        by_cases hk : ok = pk
        · subst hk
          by_cases hs : osq = psq
          · subst hs
            cases q
            · skip
              have hno : Hid (r = false) := by
                show _ = _
                rw [← Bool.not_eq_true]
                intro hrt
                have heq := HR.out.2 hrt
                subst heq
                have e := HO.out.symm.trans HP.out
                simp only [Prod.mk.injEq] at e
                have := HQ.out
                rw [e.2.2.1] at this
                simp at this
              go_wp2_with fail
              go_quiet (first
                | (go_at_call 10; refine Calls.quiet_of (same_q _ _ _ ol pl false (by exact rx) (by exact rx') HQ.out)))
              go_wp2
              go_ret
              exact ⟨retBo (by rw [hno.out]), _, HW.out _⟩
            · cases q2
              · skip
                have hno : Hid (r = false) := by
                  show _ = _
                  rw [← Bool.not_eq_true]
                  intro hrt
                  have heq := HR.out.2 hrt
                  subst heq
                  have e := HO.out.symm.trans HP.out
                  simp only [Prod.mk.injEq] at e
                  have := HQ2.out
                  rw [e.2.2.2] at this
                  simp at this
                go_wp2_with fail
                go_quiet (first
                  | (go_at_call 10; refine Calls.quiet_of (same_q _ _ _ ol pl true (by exact rx) (by exact rx') HQ.out))
                  | (go_at_call 26; refine Calls.quiet_of (sameops_any _ _ _ oo po false (by exact ry) (by exact ry') HQ2.out)))
                go_wp2
                go_ret
                exact ⟨retBo (by rw [hno.out]), _, HW.out _⟩
              · have hyes : Hid (os.take (j + 1) = ps.take (j + 1)) := by
                  show _ = _
                  rw [List.take_succ_eq_append_getElem hlo, List.take_succ_eq_append_getElem hlp, HT.out, HO.out, HP.out, eq_of_beq HQ.out, of_decide_eq_true HQ2.out]
                go_wp2_with fail
                go_quiet (first
                  | (go_at_call 10; refine Calls.quiet_of (same_q _ _ _ ol pl true (by exact rx) (by exact rx') HQ.out))
                  | (go_at_call 26; refine Calls.quiet_of (sameops_any _ _ _ oo po true (by exact ry) (by exact ry') HQ2.out)))
                go_wp2
                go_roundg (gk - 1)
                case measure => omega
                case rel => exact ⟨j + 1, _, by omega, by go_num, HW.out _, hyes.out⟩
          · have hsI : ¬ (osq : Int) = (psq : Int) := by omega
            have hsq : decide ((osq : Int) = (psq : Int)) = false := decide_eq_false hsI
            have hsq2 : ((osq : Int) != (psq : Int)) = true := by simp [hsI]
            clear HQ HQ2 rx rx' ry ry'
            have hno : Hid (r = false) := by
              show _ = _
              rw [← Bool.not_eq_true]
              intro hrt
              have heq := HR.out.2 hrt
              subst heq
              have e := HO.out.symm.trans HP.out
              simp only [Prod.mk.injEq] at e
              exact hs e.2.1
            go_wp2_with fail
            go_quiet (fail)
            go_wp2
            go_ret
            exact ⟨retBo (by rw [hno.out]), _, HW.out _⟩
        · have hkI := k_ne hk
          have hkq : decide ((ok.toNat : Int) = (pk.toNat : Int)) = false := decide_eq_false hkI
          have hkq2 : ((ok.toNat : Int) != (pk.toNat : Int)) = true := by simp [hkI]
          clear HQ HQ2 rx rx' ry ry'
          have hno : Hid (r = false) := by
            show _ = _
            rw [← Bool.not_eq_true]
            intro hrt
            have heq := HR.out.2 hrt
            subst heq
            have e := HO.out.symm.trans HP.out
            simp only [Prod.mk.injEq] at e
            exact hk e.1
          go_wp2_with fail
          go_quiet (fail)
          go_wp2
          go_ret
          exact ⟨retBo (by rw [hno.out]), _, HW.out _⟩
      · obtain rfl : j = n := by omega
        have hyes : Hid (r = true) := by
          show _ = _
          apply HR.out.1
          have e := HT.out
          rw [List.take_of_length_le (by rw [HN.out]; omega), List.take_of_length_le (by rw [← HL.out, HN.out]; omega)] at e
          exact e
        clear hwr
        go_wp2
        go_ret
        exact ⟨retBo (by rw [hyes.out]), _, HW0.out⟩
  · have hno : Hid (r = false) := by
      show _ = _
      rw [← Bool.not_eq_true]
      intro hrt
      exact hl (by rw [HR.out.2 hrt])
    obtain ⟨n, hn⟩ : ∃ n, os.length = n := ⟨_, rfl⟩
    obtain ⟨m, hm⟩ : ∃ n, ps.length = n := ⟨_, rfl⟩
    rw [hn, hm] at hl ⊢
    have hI : ¬ (n : Int) = (m : Int) := by omega
    have hbq : ((n : Int) == (m : Int)) = false := by simpa using hI
    clear hn hm hl h1 h2 g1 g2
    go_enter Try.func11, Try.ntmps11
    go_wp2
    go_ret
    exact ⟨retBo (by rw [hno.out]), 0, rfl⟩

end Go.Proofs.Ytafnnkiobdgmdaa
