/- batch.Read. -/
import Derived.Test.YtlkfdiiapcipoaaOpRow
import Derived.Deep.LoopGhost
namespace Go.Proofs.Ytlkfdiiapcipoaa
open Go.RowKit

theorem readN_step {g : Nat} {r r' : List UInt8} {o : OpB} {os : List OpB} (h : takeS r = (o, r', true)) : (readN (g + 1) r).map (fun q => (os ++ q.1, q.2)) = (readN g r').map (fun q => ((os ++ [o]) ++ q.1, q.2)) := by
  rw [readN, h]
  simp only [if_true]
  cases readN g r' with
  | none => rfl
  | some q => simp

theorem readN_stop {g : Nat} {r r' : List UInt8} {o : OpB} (h : takeS r = (o, r', false)) : readN (g + 1) r = none := by
  rw [readN, h]
  simp

theorem takeS_len {l r : List UInt8} {o : OpB} (h : takeS l = (o, r, true)) : r.length ≤ l.length := by
  have := congrArg List.length (take_inv h).1
  rw [List.length_append] at this
  omega

set_option maxHeartbeats 4000000 in
theorem bread_any (w : World) (v : Value) (l : List UInt8) (q : List OpB × Nat) (hv : Rd w v l) (hlen : l.length ≤ 1000000) (hq : batS l = q) :
    Calls Try.prog 21 #[v] w fun e w' => ∃ x, e = .returned (.tuple #[x, .int .i64 (q.2 : Int)]) ∧ RdO w' x q.1 ∧ Below w.heap.size w w' := by
  obtain ⟨i0, hi, hz0, hz1, hz2⟩ := info_parts infoOp
  obtain ⟨⟨n, s, e⟩, hf⟩ : ∃ y, frontS l = y := ⟨_, rfl⟩
  have HV : Hid (∀ x, takeV l x = .tuple #[.int .u64 (n : Int), x, .int .i64 (e : Int)]) := by intro x; unfold takeV; rw [hf]
  by_cases he : e = 0 ∧ n ≤ 64
  · obtain ⟨rfl, hn⟩ := he
    have HP : Hid (∀ B w x, TakePost l B w x → Own B w x (l.drop s)) := by intro B w x h; unfold TakePost at h; rw [hf] at h; exact h
    have HQ : Hid (q = match readN n (l.drop s) with | some (os, []) => (os, 0) | _ => ([], 4)) := by
      show _ = _
      rw [← hq]
      unfold batS
      rw [hf]
      simp only
      rw [if_pos ⟨trivial, hn⟩]
      rfl
    obtain ⟨p, hp⟩ : ∃ p, l.drop s = p := ⟨_, rfl⟩
    have hpl : p.length ≤ 1000000 := by rw [← hp, List.length_drop]; omega
    rw [hp] at HP HQ
    have hni : (n : Int) ≤ 64 := by omega
    clear hf hq hp
    go_enter Try.func21, Try.ntmps21
    go_wp2_with fail
    refine (take_any _ _ l hv (by omega)).mono ?_
    rintro r w1 ⟨xr, rfl, hpost, hb⟩
    rw [HV.out]
    have hrow := (HP.out _ _ _ hpost).rd
    have hneb : NeB xr p (.slice none 0 0) := by
      rcases hrow with h | ⟨b, off, cap, e, _⟩
      · exact .inl h.2
      · exact .inr ⟨b, off, _, cap, e, by simp [Value.ownBlock]⟩
    clear hpost HP HV hv
    go_wp2_with fail
    go_loopg [5, 7, 24] n (fun gk rv pv iv wr => ∃ (j : Nat) (os : List OpB) (r : List UInt8) (a' : Option Addr) (c' : Nat), gk + j = n ∧ iv = .int .u64 (j : Int) ∧ os.length = j ∧ pv = .slice a' j c' ∧ Rd wr rv r ∧ r.length ≤ 1000000 ∧ OwnR w.heap.size wr pv os ∧ NeB rv r pv ∧ readN n p = (readN gk r).map (fun q => (os ++ q.1, q.2)) ∧ Below w.heap.size w wr)
    case atStart => exact ⟨0, [], p, none, 0, rfl, rfl, rfl, rfl, hrow, hpl, OwnR.nil _ _, hneb, by cases readN n p <;> simp, hb⟩
    case round =>
      clear hrow hneb hb
      obtain ⟨j, os, r, a', c', hj, rfl, hol, rfl, hr, hrl, hO, hneb, hN, hB⟩ := hrel
      have HN : Hid _ := hN
      clear hN
      by_cases hlt : j < n
      · obtain ⟨g, rfl⟩ : ∃ g, gk = g + 1 := ⟨gk - 1, by omega⟩
        obtain ⟨⟨⟨ok, ol, om⟩, r', b⟩, ht⟩ : ∃ y, takeS r = y := ⟨_, rfl⟩
        have HT : Hid _ := ht
        clear ht
        have hji : (j : Int) < (n : Int) := by omega
        go_wp2_with fail
        refine (takeop_any _ _ r hr hrl).mono ?_
        intro e w2 hpost
        obtain ⟨x, y, z, rfl, rx, ry, rz, fx, fy, fz, hb2⟩ : ∃ x y z, e = .returned (.tuple #[.agg #[.int .u8 (ok.toNat : Int), x, y], z, .bool b]) ∧ Rd w2 x ol ∧ Rd w2 y om ∧ Rd w2 z r' ∧ From wr.heap.size x ∧ From wr.heap.size y ∧ From wr.heap.size z ∧ Below wr.heap.size wr w2 := by
          unfold TakeOpPost at hpost
          rw [HT.out] at hpost
          exact hpost
        obtain ⟨x1, x2, hx⟩ := rx.len
        subst hx
        obtain ⟨y1, y2, hy⟩ := ry.len
        subst hy
        have hlow : ∀ k, (Value.slice a' j c').ownBlock = some k → k < wr.heap.size := fun k hk => by obtain ⟨cs, hrow, _⟩ := hO; exact (hrow.lt k hk).2
        have hB2 := hB.trans (hb2.mono hB.size)
        have hO2 := hO.below hb2 (Nat.le_refl _)
        clear hpost hr hO hB hb2 hneb
        cases b
        · have hfin : Hid (q = ([], 4)) := by
            show _ = _
            rw [HQ.out, HN.out, readN_stop HT.out]
            rfl
          clear rx ry rz hO2
          go_wp2
          go_ret2
          exact ⟨_, by rw [hfin.out]; rfl, by rw [hfin.out]; exact LsO.nil _, hB2.alloc hB2.size _⟩
        · have hba := below_box w2 #[.int .u8 (ok.toNat : Int), .slice x1 ol.length x2, .slice y1 om.length y2] 27
          have hbb := below_box (w2.alloc (.cells #[.int .u8 (ok.toNat : Int), .slice x1 ol.length x2, .slice y1 om.length y2] 27)) #[.int .u8 (ok.toNat : Int), .slice x1 ol.length x2, .slice y1 om.length y2] 27
          have hOe := (hO2.below hba (Nat.le_refl _)).below hbb (Nat.le_refl _)
          have rxe := (rx.below hba (Nat.le_refl _)).below hbb (Nat.le_refl _)
          have rye := (ry.below hba (Nat.le_refl _)).below hbb (Nat.le_refl _)
          have rze := (rz.below hba (Nat.le_refl _)).below hbb (Nat.le_refl _)
          have hBe := (hB2.trans (hba.mono hB2.size)).trans (hbb.mono (Nat.le_trans hB2.size hba.size))
          have nx := neb_of fx hlow rx
          have ny := neb_of fy hlow ry
          have nz := neb_of fz hlow rz
          have hlit := laid3 (w2.alloc (.cells #[.int .u8 (ok.toNat : Int), .slice x1 ol.length x2, .slice y1 om.length y2] 27)) (.int .u8 (ok.toNat : Int)) (.slice x1 ol.length x2) (.slice y1 om.length y2) 27
          rw [show (w2.alloc (.cells #[.int .u8 (ok.toNat : Int), .slice x1 ol.length x2, .slice y1 om.length y2] 27)).heap.size = w2.heap.size + 1 by simp] at hlit
          have hwz : w.heap.size ≤ w2.heap.size := hB2.size
          have hrl' : r'.length ≤ 1000000 := Nat.le_trans (takeS_len HT.out) hrl
          obtain ⟨cs, hrow, hel⟩ := hOe
          subst hol
          clear hba hbb hO2 rx ry rz hB2
          go_wp2_with (at_builtin; refine wpList_append_lies _ rfl (.tmp 34) (.tmp 36) 22 rfl w.heap.size 27 i0 (.agg #[.int .u8 0, .slice none 0 0, .slice none 0 0]) 3 56 Try.underlying22 hi hz0 hz1 hz2 rfl (by decide) (.slice a' os.length c') os.length cs rfl hrow ⟨w2.heap.size + 1, 0, none⟩ 1 1 [.int .u8 (ok.toNat : Int), .slice x1 ol.length x2, .slice y1 om.length y2] rfl rfl hlit (one3 _ _ _ _ _ _ _) (by decide) (by simp only [maxLen]; omega) (by omega) (by simp; omega) _ rfl ?_; intro g4 c4 w4 hown hgrow hat hlt4)
          have hpush := own_pushR (ok, ol, om) hrow hel rxe rye nx ny hown hgrow hat
          have hB4 := hBe.grown hgrow hBe.size (fun k' e => (hrow.lt k' e).1)
          have rz4 := rd_grown rze hgrow nz
          have nz4 : NeB z r' (.slice (some ⟨g4, 0, none⟩) (os.length + 1) c4) := neb_step nz rze hat
          clear hlit
          go_wp2
          go_roundg g
          case measure => omega
          case rel => exact ⟨os.length + 1, os ++ [(ok, ol, om)], r', _, c4, by omega, by go_num, by simp, rfl, rz4, hrl', hpush, nz4, by rw [HN.out]; exact readN_step HT.out, hB4⟩
      · obtain rfl : j = n := by omega
        obtain rfl : gk = 0 := by omega
        have hji : ¬ (j : Int) < (j : Int) := by omega
        obtain ⟨ra, rc, hrv⟩ := hr.len
        subst hrv
        have HN2 : Hid (readN j p = some (os, r)) := by show _ = _; rw [HN.out]; simp [readN]
        by_cases hr0 : r.length = 0
        · have hrn : r = [] := List.eq_nil_of_length_eq_zero hr0
          have hfin : Hid (q = (os, 0)) := by
            show _ = _
            rw [HQ.out, HN2.out, hrn]
          have hri : ¬ (0 : Int) < (r.length : Int) := by omega
          clear hr hneb hr0 hrn
          go_wp2
          go_ret2
          exact ⟨_, by rw [hfin.out]; rfl, by rw [hfin.out]; exact hO.rd, hB⟩
        · have hfin : Hid (q = ([], 4)) := by
            show _ = _
            rw [HQ.out, HN2.out]
            cases r with
            | nil => simp at hr0
            | cons _ _ => rfl
          have hri : (0 : Int) < (r.length : Int) := by omega
          clear hr hneb hO
          go_wp2
          go_ret2
          exact ⟨_, by rw [hfin.out]; rfl, by rw [hfin.out]; exact LsO.nil _, hB⟩
  · have hfin : Hid (q = ([], 4)) := by
      show _ = _
      rw [← hq]
      unfold batS
      rw [hf]
      simp only
      rw [if_neg he]
    clear hf hq
    go_enter Try.func21, Try.ntmps21
    go_wp2_with fail
    refine (take_any _ _ l hv (by omega)).mono ?_
    rintro r w1 ⟨xr, rfl, hpost, hb⟩
    rw [HV.out]
    clear hpost HV hv
    by_cases he0 : e = 0
    · subst he0
      have hn : (64 : Int) < (n : Int) := by omega
      clear he
      go_wp2
      go_ret2
      exact ⟨_, by rw [hfin.out]; rfl, by rw [hfin.out]; exact LsO.nil _, hb⟩
    · have h1b : ((e : Int) != 0) = true := by simp; omega
      have h1c : ((e : Int) == 0) = false := by simp; omega
      clear he
      go_wp2
      go_ret2
      exact ⟨_, by rw [hfin.out]; rfl, by rw [hfin.out]; exact LsO.nil _, hb⟩

end Go.Proofs.Ytlkfdiiapcipoaa
