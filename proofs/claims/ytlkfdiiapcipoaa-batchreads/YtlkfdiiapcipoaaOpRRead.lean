/- bartizanref04's Read. -/
import Derived.Test.YtlkfdiiapcipoaaOpRead
namespace Go.Proofs.Ytlkfdiiapcipoaa
open Go.RowKit

theorem refN_step {g : Nat} {r r' : List UInt8} {o : OpB} {os : List OpB} (h : takeR r = some (o, r')) : (refN (g + 1) r).map (fun q => (os ++ q.1, q.2)) = (refN g r').map (fun q => ((os ++ [o]) ++ q.1, q.2)) := by
  rw [refN, h]
  simp only
  cases refN g r' with
  | none => rfl
  | some q => simp

theorem refN_stop {g : Nat} {r : List UInt8} (h : takeR r = none) : refN (g + 1) r = none := by
  rw [refN, h]

theorem textS_rest {l u r : List UInt8} {m : Int} {e : Nat} (h : textS l m = (u, r, e)) : r.length ≤ l.length := by
  by_cases he : e = 0
  · subst he
    have := congrArg List.length (text_inv h).1
    rw [List.length_append] at this
    omega
  · have : r = [] := by
      unfold textS at h
      split at h
      · split at h
        · simp at h; exact h.2.1
        · split at h
          · simp at h; exact h.2.1
          · simp at h; exact absurd h.2.2.symm he
      · simp at h; exact h.2.1
    rw [this]; simp

theorem behind_len (l : List UInt8) : (behindS l).length ≤ l.length := by
  unfold behindS
  split
  · rw [List.length_drop]; omega
  · simp

theorem sizeO_bound2 (os : List OpB) (h : ∀ o ∈ os, o.2.1.length ≤ 512 ∧ o.2.2.length ≤ 512) : sizeO os ≤ 1024 * os.length := by
  induction os with
  | nil => simp [sizeO]
  | cons o os ih =>
    have h1 := h o (by simp)
    have h2 := ih (fun p hp => h p (by simp [hp]))
    have e : sizeO (o :: os) = o.2.1.length + o.2.2.length + sizeO os := by simp [sizeO]
    rw [e, List.length_cons]
    omega

theorem from_take {l : List UInt8} {B : Nat} {w : World} {x : Value} (h : TakePost l B w x) : From B x := by
  unfold TakePost at h
  split at h
  · exact h.from
  · subst h; exact from_nil _

set_option maxHeartbeats 4000000 in
set_option maxRecDepth 20000 in
theorem rread_any (w : World) (v : Value) (l : List UInt8) (q : List OpB × Nat) (hv : Rd w v l) (hlen : l.length ≤ 1000000) (hq : refS l = q) :
    Calls Try.prog 24 #[v] w fun e w' => ∃ x, e = .returned (.tuple #[x, .int .i64 (q.2 : Int)]) ∧ RdO w' x q.1 ∧ Below w.heap.size w w' := by
  obtain ⟨i0, hi, hz0, hz1, hz2⟩ := info_parts infoOp
  obtain ⟨⟨n, s, e⟩, hf⟩ : ∃ y, frontS l = y := ⟨_, rfl⟩
  have HV : Hid (∀ x, takeV l x = .tuple #[.int .u64 (n : Int), x, .int .i64 (e : Int)]) := by intro x; unfold takeV; rw [hf]
  by_cases he : e = 0 ∧ n ≤ 64
  · obtain ⟨rfl, hn⟩ := he
    have HP : Hid (∀ B w x, TakePost l B w x → Own B w x (l.drop s)) := by intro B w x h; unfold TakePost at h; rw [hf] at h; exact h
    have HQ : Hid (q = match refN n (l.drop s) with | some (os, _) => if chkL os = 0 ∧ batB os = l then (os, 0) else ([], 4) | none => ([], 4)) := by
      show _ = _
      rw [← hq]
      unfold refS
      rw [hf]
      simp only
      rw [if_pos ⟨trivial, hn⟩]
      rfl
    obtain ⟨p, hp⟩ : ∃ p, l.drop s = p := ⟨_, rfl⟩
    have hpl : p.length ≤ 1000000 := by rw [← hp, List.length_drop]; omega
    rw [hp] at HP HQ
    have hni : (n : Int) ≤ 64 := by omega
    have HRV : Hid _ := hv
    clear hf hq hp
    go_enter Try.func24, Try.ntmps24
    go_wp2_with fail
    refine (reftake_any _ _ l hv (by omega)).mono ?_
    rintro r w1 ⟨xr, rfl, hpost, hb⟩
    rw [HV.out]
    have hrow := (HP.out _ _ _ hpost).rd
    have hneb : NeB xr p (.slice none 0 0) := by
      rcases hrow with h | ⟨b, off, cap, e, _⟩
      · exact .inl h.2
      · exact .inr ⟨b, off, _, cap, e, by simp [Value.ownBlock]⟩
    clear hpost HP HV hv
    go_wp2_with fail
    go_loopg [5, 7, 32] n (fun gk rv pv iv wr => ∃ (j : Nat) (os : List OpB) (r : List UInt8) (a' : Option Addr) (c' : Nat), gk + j = n ∧ iv = .int .u64 (j : Int) ∧ os.length = j ∧ pv = .slice a' j c' ∧ Rd wr rv r ∧ r.length ≤ 1000000 ∧ OwnR w.heap.size wr pv os ∧ NeB rv r pv ∧ refN n p = (refN gk r).map (fun q => (os ++ q.1, q.2)) ∧ (∀ o ∈ os, o.2.1.length ≤ 512 ∧ o.2.2.length ≤ 512) ∧ Below w.heap.size w wr)
    case atStart => exact ⟨0, [], p, none, 0, rfl, rfl, rfl, rfl, hrow, hpl, OwnR.nil _ _, hneb, by cases refN n p <;> simp, by simp, hb⟩
    case round =>
      clear hrow hneb hb
      obtain ⟨j, os, r, a', c', hj, rfl, hol, rfl, hr, hrl, hO, hneb, hN, hbd, hB⟩ := hrel
      have HN : Hid _ := hN
      have HBD : Hid _ := hbd
      clear hN hbd
      by_cases hlt : j < n
      · obtain ⟨g, rfl⟩ : ∃ g, gk = g + 1 := ⟨gk - 1, by omega⟩
        obtain ⟨⟨m, s1, e1⟩, hf1⟩ : ∃ y, frontS r = y := ⟨_, rfl⟩
        have HV1 : Hid (∀ x, takeV r x = .tuple #[.int .u64 (m : Int), x, .int .i64 (e1 : Int)]) := by intro x; unfold takeV; rw [hf1]
        obtain ⟨b1, hb1⟩ : ∃ b, behindS r = b := ⟨_, rfl⟩
        obtain ⟨⟨u, p2, e2⟩, hu⟩ : ∃ y, textS b1 512 = y := ⟨_, rfl⟩
        obtain ⟨⟨x, p3, e3⟩, hx⟩ : ∃ y, textS p2 512 = y := ⟨_, rfl⟩
        have HT : Hid (takeR r = if e1 = 0 ∧ e2 = 0 ∧ e3 = 0 ∧ m ≤ 255 then some ((UInt8.ofNat m, u, x), p3) else none) := by
          show _ = _
          unfold takeR
          rw [hf1, hb1, hu]
          simp only
          rw [hx]
        have HB1 : Hid _ := hb1
        have HU : Hid _ := hu
        have HX : Hid _ := hx
        have hb1l : b1.length ≤ 1000000 := by rw [← hb1]; exact Nat.le_trans (behind_len r) hrl
        have hp2l : p2.length ≤ 1000000 := Nat.le_trans (textS_rest hu) hb1l
        have hp3l : p3.length ≤ 1000000 := Nat.le_trans (textS_rest hx) hp2l
        have hji : (j : Int) < (n : Int) := by omega
        clear hf1 hb1 hu hx
        have hlow : ∀ k, (Value.slice a' j c').ownBlock = some k → k < wr.heap.size := fun k hk => by obtain ⟨cs, hrow, _⟩ := hO; exact (hrow.lt k hk).2
        go_wp2_with fail
        refine (reftake_any _ _ r hr (by omega)).mono ?_
        rintro e w2 ⟨xa, rfl, hpost, hb2⟩
        rw [HV1.out]
        have ra := hpost.rd
        rw [HB1.out] at ra
        have hB2 := hB.trans (hb2.mono hB.size)
        have hO2 := hO.below hb2 (Nat.le_refl _)
        have hs2 := hb2.size
        clear hpost hr hO hB hb2 hneb
        go_wp2_with fail
        refine (reftext_any _ _ b1 512 (by omega) ra (by omega)).mono ?_
        rintro e w3 ⟨xk, xb, rfl, rk, rb, fk, fb, hb3⟩
        rw [HU.out] at rk rb ⊢
        have hB3 := hB2.trans (hb3.mono hB2.size)
        have hO3 := hO2.below hb3 (Nat.le_refl _)
        have hs3 := Nat.le_trans hs2 hb3.size
        clear ra hB2 hO2 hb3
        go_wp2_with fail
        refine (reftext_any _ _ p2 512 (by omega) rb (by omega)).mono ?_
        rintro e w4 ⟨xv, xc, rfl, rv, rc, fv, fc, hb4⟩
        rw [HX.out] at rv rc ⊢
        have hB4 := hB3.trans (hb4.mono hB3.size)
        have hO4 := hO3.below hb4 (Nat.le_refl _)
        have rk4 := rk.below hb4 (Nat.le_refl _)
        have hs4 := Nat.le_trans hs3 hb4.size
        clear rb hB3 hO3 hb4 rk
        by_cases hall : e1 = 0 ∧ e2 = 0 ∧ e3 = 0 ∧ m ≤ 255
        · obtain ⟨rfl, rfl, rfl, hm⟩ := hall
          have HT2 : Hid (takeR r = some ((UInt8.ofNat m, u, x), p3)) := by have := HT.out; rw [if_pos ⟨rfl, rfl, rfl, hm⟩] at this; exact this
          have hmi : ¬ (255 : Int) < (m : Int) := by omega
          have hwn : IntKind.u8.wrap (m : Int) = (m : Int) := by rw [IntKind.wrap_u8]; omega
          have hnn : ((UInt8.ofNat m).toNat : Int) = (m : Int) := by simp; omega
          have hul : u.length ≤ 512 := by have := (text_inv HU.out).2; omega
          have hxl : x.length ≤ 512 := by have := (text_inv HX.out).2; omega
          obtain ⟨k1, k2, hk⟩ := rk4.len
          subst hk
          obtain ⟨v1, v2, hvv⟩ := rv.len
          subst hvv
          have hba := below_box w4 #[.int .u8 (m : Int), .slice k1 u.length k2, .slice v1 x.length v2] 27
          have hOe := hO4.below hba (Nat.le_refl _)
          have rke := rk4.below hba (Nat.le_refl _)
          have rve := rv.below hba (Nat.le_refl _)
          have rce := rc.below hba (Nat.le_refl _)
          have hBe := hB4.trans (hba.mono hB4.size)
          have nk := neb_of (fk.mono hs2) hlow rk4
          have nv := neb_of (fv.mono hs3) hlow rv
          have nc := neb_of (fc.mono hs3) hlow rc
          have hlit := laid3 w4 (.int .u8 (m : Int)) (.slice k1 u.length k2) (.slice v1 x.length v2) 27
          have hwz : w.heap.size ≤ w4.heap.size := hB4.size
          obtain ⟨cs, hrow, hel⟩ := hOe
          subst hol
          have HNN : Hid _ := hnn
          clear hba hO4 rk4 rv rc hB4 HT hnn
          go_wp2_with (at_builtin; refine wpList_append_lies _ rfl (.tmp 66) (.tmp 72) 22 rfl w.heap.size 27 i0 (.agg #[.int .u8 0, .slice none 0 0, .slice none 0 0]) 3 56 Try.underlying22 hi hz0 hz1 hz2 rfl (by decide) (.slice a' os.length c') os.length cs rfl hrow ⟨w4.heap.size, 0, none⟩ 1 1 [.int .u8 (m : Int), .slice k1 u.length k2, .slice v1 x.length v2] rfl rfl hlit (one3 _ _ _ _ _ _ _) (by decide) (by simp only [maxLen]; omega) (by omega) (by simp; omega) _ rfl ?_; intro g4 c4 w5 hown hgrow hat hlt4)
          rw [← HNN.out] at hown
          have hpush := own_pushR (UInt8.ofNat m, u, x) hrow hel rke rve nk nv hown hgrow hat
          have hB5 := hBe.grown hgrow hBe.size (fun k' e => (hrow.lt k' e).1)
          have rc5 := rd_grown rce hgrow nc
          have nc5 : NeB xc p3 (.slice (some ⟨g4, 0, none⟩) (os.length + 1) c4) := neb_step nc rce hat
          clear hlit
          go_wp2
          go_roundg g
          case measure => omega
          case rel => exact ⟨os.length + 1, os ++ [(UInt8.ofNat m, u, x)], p3, _, c4, by omega, by go_num, by simp, rfl, rc5, hp3l, hpush, nc5, by rw [HN.out]; exact refN_step HT2.out, by intro o ho; rcases List.mem_append.1 ho with h | h; exact HBD.out o h; simp at h; subst h; exact ⟨hul, hxl⟩, hB5⟩
        · have HT2 : Hid (takeR r = none) := by have := HT.out; rw [if_neg hall] at this; exact this
          have hfin : Hid (q = ([], 4)) := by
            show _ = _
            rw [HQ.out, HN.out, refN_stop HT2.out]
            rfl
          clear HT hO4 rk4 rv rc
          by_cases h1 : e1 = 0
          · subst h1
            by_cases h2 : e2 = 0
            · subst h2
              by_cases h3 : e3 = 0
              · subst h3
                have hmi : (255 : Int) < (m : Int) := by omega
                clear hall
                go_wp2
                go_ret2
                exact ⟨_, by rw [hfin.out]; rfl, by rw [hfin.out]; exact LsO.nil _, hB4⟩
              · have h1b : ((e3 : Int) != 0) = true := by simp; omega
                have h1c : ((e3 : Int) == 0) = false := by simp; omega
                clear hall
                go_wp2
                go_ret2
                exact ⟨_, by rw [hfin.out]; rfl, by rw [hfin.out]; exact LsO.nil _, hB4⟩
            · have h1b : ((e2 : Int) != 0) = true := by simp; omega
              have h1c : ((e2 : Int) == 0) = false := by simp; omega
              clear hall
              go_wp2
              go_ret2
              exact ⟨_, by rw [hfin.out]; rfl, by rw [hfin.out]; exact LsO.nil _, hB4⟩
          · have h1b : ((e1 : Int) != 0) = true := by simp; omega
            have h1c : ((e1 : Int) == 0) = false := by simp; omega
            clear hall
            go_wp2
            go_ret2
            exact ⟨_, by rw [hfin.out]; rfl, by rw [hfin.out]; exact LsO.nil _, hB4⟩
      · obtain rfl : j = n := by omega
        obtain rfl : gk = 0 := by omega
        have hji : ¬ (j : Int) < (j : Int) := by omega
        have HN2 : Hid (refN j p = some (os, r)) := by show _ = _; rw [HN.out]; simp [refN]
        have HQ2 : Hid (q = if chkL os = 0 ∧ batB os = l then (os, 0) else ([], 4)) := by show _ = _; rw [HQ.out, HN2.out]
        have hsz : sizeO os ≤ 1000000 := by have := sizeO_bound2 os HBD.out; omega
        obtain ⟨c, hc⟩ : ∃ c, chkL os = c := ⟨_, rfl⟩
        have HC : Hid _ := hc
        rw [hc] at HQ2
        clear hr hneb HQ hc
        by_cases hc0 : c = 0
        · subst hc0
          obtain ⟨bb, hbb⟩ : ∃ bb, batB os = bb := ⟨_, rfl⟩
          have HBB : Hid _ := hbb
          rw [hbb] at HQ2
          clear hbb
          go_wp2_with fail
          refine (rbytes_ok _ _ os hO.rd HC.out (by omega) hsz).mono ?_
          rintro e w5 ⟨xq, rfl, oq, hb5⟩
          rw [HBB.out] at oq
          obtain ⟨gq, kq, hgq⟩ := oq.shape
          subst hgq
          have hO5 := hO.below hb5 (Nat.le_refl _)
          have hB5 := hB.trans (hb5.mono hB.size)
          have rv5 : Rd w5 v l := Rd.below (show Rd w v l from HRV.out) hB5 (Nat.le_refl _)
          obtain ⟨d, hd⟩ : ∃ d, (bb == l) = d := ⟨_, rfl⟩
          have HD : Hid _ := hd
          clear hO hB hb5 hd
          go_wp2_with fail
          refine (same_b _ _ _ bb l d oq.rd rv5 HD.out).mono ?_
          rintro e w6 ⟨rfl, hw⟩
          subst hw
          cases d
          · have hfin : Hid (q = ([], 4)) := by
              show _ = _
              rw [HQ2.out, if_neg]
              rintro ⟨_, h⟩
              have := HD.out
              rw [h] at this
              simp at this
            go_wp2
            go_ret2
            exact ⟨_, by rw [hfin.out]; rfl, by rw [hfin.out]; exact LsO.nil _, hB5⟩
          · have hfin : Hid (q = (os, 0)) := by
              show _ = _
              rw [HQ2.out, if_pos]
              exact ⟨by simp, eq_of_beq HD.out⟩
            go_wp2
            go_ret2
            exact ⟨_, by rw [hfin.out]; rfl, by rw [hfin.out]; exact hO5.rd, hB5⟩
        · have h1b : (c != 0) = true := by simp [hc0]
          have h1c : (c == 0) = false := by simp [hc0]
          have hfin : Hid (q = ([], 4)) := by
            show _ = _
            rw [HQ2.out, if_neg]
            rintro ⟨h, _⟩
            exact hc0 h
          go_wp2_with fail
          refine (rbytes_err _ _ os c hO.rd HC.out hc0).mono ?_
          rintro e w5 ⟨rfl, hb5⟩
          have hB5 := hB.trans (hb5.mono hB.size)
          clear hO hB hb5
          go_wp2
          go_ret2
          exact ⟨_, by rw [hfin.out]; rfl, by rw [hfin.out]; exact LsO.nil _, hB5⟩
  · have hfin : Hid (q = ([], 4)) := by
      show _ = _
      rw [← hq]
      unfold refS
      rw [hf]
      simp only
      rw [if_neg he]
    clear hf hq
    go_enter Try.func24, Try.ntmps24
    go_wp2_with fail
    refine (reftake_any _ _ l hv (by omega)).mono ?_
    rintro r w1 ⟨xr, rfl, hpost, hb⟩
    rw [HV.out]
    clear hpost HV hv
    by_cases he0 : e = 0
    · subst he0
      have hn : (64 : Int) < (n : Int) := by omega
      clear he
      go_wp2
      go_ret2
      exact ⟨_, by rw [hfin.out]; rfl, by rw [hfin.out]; exact LsO.nil _, hb⟩
    · have h1b : ((e : Int) != 0) = true := by simp; omega
      have h1c : ((e : Int) == 0) = false := by simp; omega
      clear he
      go_wp2
      go_ret2
      exact ⟨_, by rw [hfin.out]; rfl, by rw [hfin.out]; exact LsO.nil _, hb⟩

end Go.Proofs.Ytlkfdiiapcipoaa
