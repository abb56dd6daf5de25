/- bartizanref06.Frame, of any record. -/
import Derived.Test.YtppoimmoohfbnaaDoorRefFrame
namespace Go.Proofs.YtppoimmoohfbnaaDoor
open Go.RowKit
set_option linter.unusedVariables false

/-- the masked sum of a piece -/
def sumK (k : UInt8) (t : List UInt8) : Nat := Crc.mask (Crc.sum (k :: t))

theorem mask_facts (k : UInt8) (t : List UInt8) : ∃ s m, Crc.sum (k :: t) = s ∧ Crc.mask s = m ∧ s < 4294967296 ∧ m < 4294967296 := ⟨_, _, rfl, rfl, Crc.sum_lt _, Crc.mask_lt _⟩

theorem rf_nums {x y n rl : Nat} (hy : y ≤ 57) (hn : n = min rl (57 - y)) (hr : rl ≤ 65600) : (y : Int) ≤ 57 ∧ (0 : Int) ≤ (y : Int) ∧ (n : Int) ≤ 57 ∧ (0 : Int) ≤ (n : Int) ∧ (n : Int) ≤ (rl : Int) ∧ min (rl : Int) (57 - (y : Int)) = (n : Int) ∧ (if 57 - (y : Int) < (rl : Int) then 57 - (y : Int) else (rl : Int)) = (n : Int) ∧ (rl : Int) ≤ 65600 ∧ (y : Int) + 7 + (n : Int) ≤ 64 ∧ n ≤ rl := by
  refine ⟨by omega, by omega, by omega, by omega, by omega, by omega, ?_, by omega, by omega, by omega⟩
  split <;> omega

theorem seven_lit (w : World) (m n : Nat) (mI kz : Int) (k : UInt8) (hm : m < 4294967296 ∧ (m : Int) = mI) (hn : n ≤ 57) (hk : (k.toNat : Int) = kz) :
    ∀ j u, (bv (headB k n m))[j]? = some u → (w.alloc (.cells #[.int .u8 (mI % 256), .int .u8 (mI / 256 % 256), .int .u8 (mI / 65536 % 256), .int .u8 (mI / 16777216), .int .u8 (n : Int), .int .u8 ((n : Int) / 256), .int .u8 kz] 5)).cell? ((⟨w.heap.size, 0, none⟩ : Addr).add j) = some u := by
  obtain ⟨hm, rfl⟩ := hm
  subst hk
  obtain ⟨p0, p1, p2, p3⟩ := bytes4 m hm
  have p4 : Value.int .u8 (n : Int) = .int .u8 ((UInt8.ofNat (n % 256)).toNat : Int) := by congr 1; simp; omega
  have p5 : Value.int .u8 ((n : Int) / 256) = .int .u8 ((UInt8.ofNat (n / 256 % 256)).toNat : Int) := by congr 1; simp; omega
  rw [p0, p1, p2, p3, p4, p5]
  exact (lit_row7 w w.heap.size (Nat.le_refl _) _ _ _ _ _ _ k).cells rfl

theorem seven_lit57 (w : World) (m : Nat) (mI kz : Int) (k : UInt8) (hm : m < 4294967296 ∧ (m : Int) = mI) (hk : (k.toNat : Int) = kz) :
    ∀ j u, (bv (headB k 57 m))[j]? = some u → (w.alloc (.cells #[.int .u8 (mI % 256), .int .u8 (mI / 256 % 256), .int .u8 (mI / 65536 % 256), .int .u8 (mI / 16777216), .int .u8 57, .int .u8 0, .int .u8 kz] 5)).cell? ((⟨w.heap.size, 0, none⟩ : Addr).add j) = some u :=
  seven_lit w m 57 mI kz k hm (Nat.le_refl _) hk

theorem ownN_some {B : Nat} {w : World} {a : Option Addr} {n c : Nat} {l : List UInt8} (h : OwnN B w (.slice a n c) l) (hl : 0 < l.length) : ∃ g, a = some ⟨g, 0, none⟩ ∧ Own B w (.slice (some ⟨g, 0, none⟩) n c) l := by
  rcases h with ⟨_, rfl⟩ | h
  · simp at hl
  · obtain ⟨g, k, e⟩ := h.shape
    cases e
    exact ⟨g, rfl, h⟩

theorem head_len (k : UInt8) (n m : Nat) : (headB k n m).length = 7 := rfl

/-- append(nil, make([]byte, n)...) -/
theorem zeros_run (w : World) (B n : Nat) (hB : B ≤ w.heap.size) (h0 : 0 < n) (hn : n ≤ 6) : ∃ cz wz, (∀ ty, (Builtin.append_ #[22, 3] ty #[.slice none 0 0, .int .i64 (n : Int)]).run Tryd.prog w = .ok (.slice (some ⟨w.heap.size, 0, none⟩) n cz) wz) ∧ Own B wz (.slice (some ⟨w.heap.size, 0, none⟩) n cz) (List.replicate n 0) ∧ Below B w wz := by
  obtain ⟨i0, hi, hz0, hz1, hz2⟩ := info_parts info5
  have hm : n ≤ maxLen := by unfold maxLen; omega
  refine ⟨grownCap w n 0 5, _, fun ty => Lib.run_append_nil_zeros (P := Tryd.prog) w 22 3 ty 5 i0 (.int .u8 0) .i64 .i64 Tryd.underlying22 Tryd.underlying3 hi hz0 n h0 (by rw [hz1]; decide) (by omega) (by rw [hz2]; omega), ?_, ?_⟩
  · have := zeros_own (w := w.drew) (B := B) (n := n) (cap := grownCap w n 0 5) hB h0 (grownCap_ge w n 0 5) (grownCap_le_maxLen w n 0 5 hm)
    rw [List.length_replicate] at this
    exact this
  · exact ((Below.refl B w).drew).alloc hB _

/-- what is known of a round behind the noughts -/
structure RfG (x : Nat) (W : List UInt8) (bg : Bool) (F R : List UInt8) (y : Nat) : Prop where
  fr : FrI x W bg F R
  lf : leftN (x + F.length) = 64 - y
  le : y ≤ 57

theorem RfG.n {x : Nat} {W : List UInt8} {bg : Bool} {F R : List UInt8} {y : Nat} (h : RfG x W bg F R y) : frN x F R = min R.length (57 - y) := by
  have := h.lf
  have := h.le
  unfold frN
  omega

theorem RfG.len {x : Nat} {W : List UInt8} {bg : Bool} {F R : List UInt8} {y : Nat} (h : RfG x W bg F R y) : R.length ≤ 65600 ∧ F.length ≤ 200000 := by
  have h2 := h.fr.bd
  have h3 := h.fr.zr
  cases bg
  · simp at h2
    omega
  · simp at h2
    omega

set_option maxRecDepth 100000 in
set_option maxHeartbeats 8000000 in
theorem rframe_some (w : World) (a b off c : Nat) (l : List UInt8) (hcs : ∀ j u, (bv l)[j]? = some u → w.cell? ⟨b, off + j, none⟩ = some u) (hb : b < w.heap.size) (hc : l.length ≤ c) (hM : c ≤ maxLen) (hl : l.length ≤ 65536) :
    Calls Tryd.prog 14 #[.int .i64 (a : Int), .slice (some ⟨b, off, none⟩) l.length c] w fun e w' => ∃ g c, e = .returned (.tuple #[.slice (some ⟨g, 0, none⟩) (frameB a l).length c, .int .i64 0]) ∧ Own w.heap.size w' (.slice (some ⟨g, 0, none⟩) (frameB a l).length c) (frameB a l) ∧ Below w.heap.size w w' := by
  obtain ⟨i0, hi, hz0, hz1, hz2⟩ := info_parts info5
  obtain ⟨x, hx⟩ : ∃ x, a % 64 = x := ⟨_, rfl⟩
  have hx64 : x < 64 := by omega
  have hm := mod_64 a
  rw [hx] at hm
  have HW : Hid (frameB x l = frameB a l) := by show _ = _; rw [← hx]; exact frameB_mod a l
  obtain ⟨W, hW⟩ : ∃ W, frameB a l = W := ⟨_, rfl⟩
  rw [hW] at HW ⊢
  have HF : Hid (RfI x W false [] l x) := ⟨rfl, rfl, HW.out.symm, hl⟩
  have HR : Hid (Rd w (.slice (some ⟨b, off, none⟩) l.length c) l) := .inr ⟨b, off, c, rfl, hc, hM, hcs⟩
  have HRB : Hid (∀ b', (Value.slice (some ⟨b, off, none⟩) l.length c).ownBlock = some b' → b' < w.heap.size) := fun b' e => by cases e; exact hb
  have HX : Hid (x < 64) := hx64
  have hl' : ¬ (65536 : Int) < (l.length : Int) := by omega
  have ha0 : ¬ (a : Int) < 0 := by omega
  clear hx hW hcs hb hc hM hl hx64
  go_enter Tryd.func14, Tryd.ntmps14
  go_wp2_with fail
  go_loopg [0, 1, 6, 7] (l.length + 2) (fun gk yv pv fv kv wr => ∃ (bg : Bool) (F R : List UInt8) (fa : Option Addr) (fc y : Nat) (kz : Int), yv = .int .i64 (y : Int) ∧ fv = .slice fa F.length fc ∧ kv = .int .u8 kz ∧ Hid (gk = R.length + (if bg then 1 else 2)) ∧ Hid (RfI x W bg F R y) ∧ Hid (if bg then kz = 2 ∨ kz = 3 else kz = 1) ∧ Hid (bg = false → fa = none ∧ fc = 0) ∧ Hid (OwnN w.heap.size wr fv F) ∧ Hid (Rd w pv R ∧ (∀ b, pv.ownBlock = some b → b < w.heap.size) ∧ ∃ q n c, pv = .slice (some q) n c) ∧ Hid (Below w.heap.size w wr))
  case atStart => exact ⟨false, [], l, none, 0, x, 1, rfl, rfl, rfl, rfl, HF, rfl, (fun _ => ⟨rfl, rfl⟩), .inl ⟨rfl, rfl⟩, ⟨HR.out, HRB.out, _, _, _, rfl⟩, Below.refl _ _⟩
  case round =>
    obtain ⟨bg, F, R, fa, fc, y, kz, rfl, rfl, rfl, HK, HI, HKZ, HNN, HO, HP, HBr⟩ := hrel
    obtain ⟨q0, n0, c', hpv⟩ := HP.out.2.2
    rcases rd_shape HP.out.1 HP.out.2.1 with ⟨hpv2, _⟩ | ⟨b', off', c', hpv2, hc1, hc2, hbB, hcs⟩
    · rw [hpv2] at hpv; cases hpv
    subst hpv2
    clear hpv
    obtain ⟨rl, hrl⟩ : ∃ rl, R.length = rl := ⟨_, rfl⟩
    rw [hrl] at hc1 ⊢
    have HRL : Hid (R.length = rl) := hrl
    have HCS : Hid (∀ j u, (bv R)[j]? = some u → w.cell? ⟨b', off' + j, none⟩ = some u) := hcs
    have HBB : Hid (b' < w.heap.size ∧ rl ≤ c' ∧ c' ≤ 9223372036854775807) := ⟨hbB, hc1, hc2⟩
    clear hcs hbB hrl
    have hcI : (rl : Int) ≤ (c' : Int) := by omega
    have hstate : ∃ (w1 : World) (F1 : List UInt8) (f1a : Option Addr) (f1l f1c y1 : Nat) (kzU : UInt8),
        Hid (RfG x W bg F1 R y1) ∧ Hid (OwnN w.heap.size w1 (.slice f1a f1l f1c) F1) ∧ Hid (F1.length = f1l) ∧ Hid (Below w.heap.size w w1) ∧ (kzU.toNat : Int) = kz ∧ Hid (if bg then kz = 2 ∨ kz = 3 else kz = 1) ∧
        ((bg = false ∧ (y : Int) ≤ 63 ∧ y1 = 0 ∧ fa = none ∧ fc = 0 ∧ F = [] ∧ ∃ lf : Nat, 64 - (y : Int) = (lf : Int) ∧ (lf : Int) < 7 ∧ (0 : Int) ≤ (lf : Int) ∧ f1l = lf ∧ ∀ ty, (Builtin.append_ #[22, 3] ty #[.slice none 0 0, .int .i64 (lf : Int)]).run Tryd.prog wr = .ok (.slice f1a f1l f1c) w1) ∨
         (¬ 64 - (y : Int) < 7 ∧ y1 = y ∧ w1 = wr ∧ F1 = F ∧ f1a = fa ∧ f1c = fc)) := by
      by_cases hgap : 64 - y < 7
      · obtain ⟨hbg, hF0, hyx, hfr, hlf⟩ := rf_gap HI.out HX.out hgap
        subst hbg hF0
        obtain ⟨lf, hlfq⟩ : ∃ lf, 64 - y = lf := ⟨_, rfl⟩
        have hx64 := HX.out
        have hlf0 : 0 < lf := by omega
        obtain ⟨cz, wz, hrz, hoz, hbz⟩ := zeros_run wr w.heap.size lf HBr.out.size hlf0 (by omega)
        rw [hlfq] at hfr hlf
        have hOFA : fa = none ∧ fc = 0 := by
          rcases HO.out with ⟨e, _⟩ | h
          · cases e; exact ⟨rfl, rfl⟩
          · exact HNN.out rfl
        exact ⟨wz, List.replicate lf 0, _, lf, cz, 0, 1, ⟨hfr, hlf, by omega⟩, .inr hoz, (by show _ = _; simp), HBr.out.trans hbz, by have := HKZ.out; simp at this; rw [this]; rfl, HKZ, .inl ⟨rfl, by omega, rfl, hOFA.1, hOFA.2, rfl, lf, by omega, by omega, by omega, rfl, hrz⟩⟩
      · obtain ⟨h1, h2, h3⟩ := rf_none HI.out HX.out hgap
        refine ⟨wr, F, fa, F.length, fc, y, UInt8.ofNat kz.toNat, ⟨h1, h2, by omega⟩, HO, rfl, HBr, ?_, HKZ, .inr ⟨by omega, rfl, rfl, rfl, rfl, rfl⟩⟩
        have := HKZ.out
        cases bg
        · simp at this; rw [this]; rfl
        · simp at this; rcases this with rfl | rfl <;> rfl
    obtain ⟨w1, F1, f1a, f1l, f1c, y1, kzU, HG, HO1, HL1, HB1, hkzU, HKZ1, hgapc⟩ := hstate
    obtain ⟨n, hnq⟩ : ∃ n, frN x F1 R = n := ⟨_, rfl⟩
    have hn2 := HG.out.n
    rw [hnq, HRL.out] at hn2
    obtain ⟨k1, k2, k3, k4, k5, k6, k7, k8, k9, k10⟩ := rf_nums (x := 0) HG.out.le hn2 (by have := HG.out.len.1; rw [HRL.out] at this; exact this)
    have HN : Hid (frN x F1 R = n) := hnq
    have hncI : (n : Int) ≤ (c' : Int) := by omega
    have HTN : Hid ((R.take n).length = n) := by show _ = _; rw [List.length_take, HRL.out]; omega
    have HF1L : Hid (f1l ≤ 200000 ∧ n ≤ 57 ∧ rl ≤ 65600) := ⟨by rw [← HL1.out]; exact HG.out.len.2, by omega, by omega⟩
    have hrdn : Hid (Rd w (.slice (some ⟨b', off', none⟩) n c') (R.take n)) := by
      have := rd_sub HCS.out 0 n c' (by omega) (by unfold maxLen; omega) (by rw [HRL.out]; omega)
      rw [List.drop_zero] at this
      exact this
    clear hnq hn2 hc1 hc2
    have HWL : Hid (0 < W.length) := by show _ < _; rw [← HW.out]; exact Nat.lt_of_le_of_lt (Nat.zero_le _) (frameB_long x l)
    have HWL : Hid (0 < W.length) := by show _ < _; rw [← HW.out]; exact Nat.lt_of_le_of_lt (Nat.zero_le _) (frameB_long x l)
    have HWL : Hid (0 < W.length) := by show _ < _; rw [← HW.out]; exact Nat.lt_of_le_of_lt (Nat.zero_le _) (frameB_long x l)
    have HWL : Hid (0 < W.length) := by show _ < _; rw [← HW.out]; exact Nat.lt_of_le_of_lt (Nat.zero_le _) (frameB_long x l)
    have HWL : Hid (0 < W.length) := by show _ < _; rw [← HW.out]; exact Nat.lt_of_le_of_lt (Nat.zero_le _) (frameB_long x l)
    by_cases hend : n = rl
    · have HE : Hid (F1 ++ pcB (kindB bg true) (R.take n) = W) := by
        show _ = _
        rw [List.take_of_length_le (by rw [HRL.out, hend]; exact Nat.le_refl _)]
        exact HG.out.fr.last (by rw [HN.out, HRL.out]; exact hend)
      have heI : ¬ (n : Int) < (rl : Int) := by omega
      subst hend
      rcases hgapc with ⟨rfl, hy63, hy1, rfl, rfl, rfl, lf, g1, g2, g3, rfl, hrz⟩ | ⟨hng, rfl, rfl, rfl, rfl, rfl⟩
      · subst hy1
        have hkz : kz = 1 := HKZ.out
        subst hkz
        have HT : Hid (F1 ++ (headB (1 : UInt8) n (sumK (1 : UInt8) (R.take n)) ++ R.take n) = W) := by
          have h9 := HE.out
          rw [show kindB false true = (1 : UInt8) from rfl, pcB_head, HTN.out] at h9
          exact h9
        have hlit := lit_row w1 w1.heap.size (Nat.le_refl _) (1 : UInt8)
        rw [show (((1 : UInt8).toNat : Nat) : Int) = 1 from rfl] at hlit
        have hbl : Below w.heap.size w (w1.alloc (.cells #[.int .u8 1] 5)) := HB1.out.alloc HB1.out.size _
        have hcn := (rd_cells (hrdn.out.below hbl (Nat.le_refl _))).2
        go_wp2_with (first | (at_builtin; refine Lib.wpList_append_run _ rfl (.tmp 22) (.tmp 23) 22 3 rfl (.slice none 0 0) (.int .i64 (f1l : Int)) rfl rfl _ _ (hrz _) ?_) | (at_builtin; skip; refine wpList_append_own _ rfl (.tmp 45) (.tmp 48) 22 rfl w1.heap.size 5 i0 (.int .u8 0) 1 1 Tryd.underlying22 hi hz0 hz1 hz2 rfl (by decide) (.slice (some ⟨w1.heap.size, 0, none⟩) 1 1) 1 (bv [(1 : UInt8)]) rfl hlit ⟨b', off', none⟩ n c' (bv (R.take n)) rfl (by rw [bv_length, HTN.out, Nat.mul_one]) hcn (bv_one _) (by have := HF1L.out; unfold maxLen; omega) (by have := HF1L.out; omega) (by simp) ?_; intro v2 w2 ho2 hgr2 hn2; obtain ⟨g2, c2, hv2, hk1, hk2, o2⟩ := app_shape (n := 1) (l := [(1 : UInt8)]) ho2 rfl HTN.out (fun e => by have := (hn2.1 e).1; cases this); subst hv2; clear ho2 hn2) | fail)
        obtain ⟨s, m, hs, hmm, hsl, hml⟩ := mask_facts (1 : UInt8) (R.take n)
        have o2' : Own w1.heap.size w2 (.slice (some ⟨g2, 0, none⟩) (1 + n) c2) ((1 : UInt8) :: R.take n) := o2
        have hrs := refsum_any w2 _ _ o2'.rd (by have := HF1L.out; rw [List.length_cons, HTN.out]; omega)
        rw [hs] at hrs
        have b12 : Below w1.heap.size w1 w2 := ((Below.refl _ _).alloc (Nat.le_refl _) _).grown hgr2 (by simp) (fun k' e => (hlit.lt k' e).1)
        have HSM : Hid (sumK (1 : UInt8) (R.take n) = m) := by show _ = _; unfold sumK; rw [hs]; exact hmm
        rw [HSM.out] at HT
        clear hlit hbl hcn o2 o2' hgr2 hk1 hk2 hs
        refine hrs.mono ?_
        rintro e w3 ⟨rfl, hb3⟩
        have hrm := refmask_any s hsl w3
        rw [hmm] at hrm
        have b13 : Below w1.heap.size w1 w3 := b12.trans (hb3.mono b12.size)
        have HO3 : Hid (OwnN w.heap.size w3 (.slice f1a f1l f1c) F1) := HO1.out.below b13 (Nat.le_refl _)
        have HB3 : Hid (Below w.heap.size w w3) := HB1.out.trans (b13.mono HB1.out.size)
        clear hrs b12 b13 hb3 hmm
        go_wp2_with fail
        refine hrm.mono ?_
        rintro e w4 ⟨rfl, rfl⟩
        obtain ⟨mI, hmI⟩ : ∃ mI : Int, (m : Int) = mI := ⟨_, rfl⟩
        have hmI0 : 0 ≤ mI := by omega
        have hmI1 : mI < 4294967296 := by omega
        rw [hmI]
        have HML : Hid (m < 4294967296 ∧ (m : Int) = mI) := ⟨hml, hmI⟩
        clear hrm hsl hml hmI
        have hsev := seven_lit w4 m n mI 1 (1 : UInt8) HML.out (by have := HF1L.out; omega) rfl
        have hrw5 : (w4.alloc (.cells #[.int .u8 (mI % 256), .int .u8 (mI / 256 % 256), .int .u8 (mI / 65536 % 256), .int .u8 (mI / 16777216), .int .u8 (n : Int), .int .u8 ((n : Int) / 256), .int .u8 1] 5)).ownsRow w.heap.size 5 1 (.slice f1a f1l f1c) f1l (bv F1) := by
          have h9 := (ownN_row HO3.out).alloc (.cells #[.int .u8 (mI % 256), .int .u8 (mI / 256 % 256), .int .u8 (mI / 65536 % 256), .int .u8 (mI / 16777216), .int .u8 (n : Int), .int .u8 ((n : Int) / 256), .int .u8 1] 5)
          rw [HL1.out] at h9
          exact h9
        have HB4 : Hid (Below w.heap.size w (w4.alloc (.cells #[.int .u8 (mI % 256), .int .u8 (mI / 256 % 256), .int .u8 (mI / 65536 % 256), .int .u8 (mI / 16777216), .int .u8 (n : Int), .int .u8 ((n : Int) / 256), .int .u8 1] 5))) := HB3.out.alloc HB3.out.size _
        obtain ⟨F2, HF2⟩ : ∃ F2, Hid (F1 ++ headB (1 : UInt8) n m = F2) := ⟨_, rfl⟩
        obtain ⟨f2l, HL2⟩ : ∃ f2l, Hid (F2.length = f2l) := ⟨_, rfl⟩
        have HL2b : Hid (f2l = f1l + 7) := by show _ = _; rw [← HL2.out, ← HF2.out, List.length_append, HL1.out, head_len]
        have HT2 : Hid (F2 ++ R.take n = W) := by show _ = _; rw [← HF2.out, List.append_assoc]; exact HT.out
        clear HT HSM
        go_wp2_with (first
          | (at_builtin; refine wpList_append_own _ rfl (.tmp 52) (.tmp 70) 22 rfl w.heap.size 5 i0 (.int .u8 0) 1 1 Tryd.underlying22 hi hz0 hz1 hz2 rfl (by decide) (.slice f1a f1l f1c) f1l (bv F1) rfl hrw5 ⟨w4.heap.size, 0, none⟩ 7 7 (bv (headB (1 : UInt8) n m)) rfl (by rw [bv_length, head_len]) hsev (bv_one _) (by have := HF1L.out; unfold maxLen; omega) (by have := HF1L.out; omega) HB4.out.size ?_; intro v5 w5 ho5 hgr5 hn5; have h9 : OwnN w.heap.size w5 v5 (F1 ++ headB (1 : UInt8) n m) := ownN_of_rowT (by rw [HL1.out]; exact ho5); rw [HF2.out] at h9; obtain ⟨v5a, v5c, hv5⟩ := h9.rd.len; rw [HL2.out] at hv5; subst hv5; have HO5 : Hid (OwnN w.heap.size w5 (.slice v5a f2l v5c) F2) := h9; have HB5 : Hid (Below w.heap.size w w5) := HB4.out.grown hgr5 HB4.out.size (fun k' e => (hrw5.lt k' e).1); clear ho5 hgr5 hn5 h9)
          | (at_builtin; refine wpList_append_own _ rfl (.tmp 72) (.tmp 75) 22 rfl w.heap.size 5 i0 (.int .u8 0) 1 1 Tryd.underlying22 hi hz0 hz1 hz2 rfl (by decide) (.slice v5a f2l v5c) f2l (bv F2) rfl (by have h9 := ownN_row HO5.out; rw [HL2.out] at h9; exact h9) ⟨b', off', none⟩ n c' (bv (R.take n)) rfl (by rw [bv_length, HTN.out, Nat.mul_one]) (rd_cells (hrdn.out.below HB5.out (Nat.le_refl _))).2 (bv_one _) (by have := HF1L.out; have := HL2b.out; unfold maxLen; omega) (by have := HF1L.out; have := HL2b.out; omega) HB5.out.size ?_; intro v6 w6 ho6 hgr6 hn6; have h9 : OwnN w.heap.size w6 v6 (F2 ++ R.take n) := ownN_of_rowT (by rw [HL2.out, HTN.out]; exact ho6); rw [HT2.out] at h9; obtain ⟨v6a, v6c, hv6⟩ := h9.rd.len; subst hv6; obtain ⟨g6, hg6, h10⟩ := ownN_some h9 HWL.out; subst hg6; have HO6 : Hid (Own w.heap.size w6 (.slice (some ⟨g6, 0, none⟩) W.length v6c) W) := h10; have HB6 : Hid (Below w.heap.size w w6) := HB5.out.grown hgr6 HB5.out.size (fun k' e => ((ownN_row HO5.out).lt k' e).1); clear ho6 hgr6 hn6 h9 h10)
          | fail)
        all_goals
          go_ret2
          exact ⟨g6, v6c, rfl, HO6.out, HB6.out⟩
      · rw [HL1.out]
        cases bg
        · have hkz : kz = 1 := HKZ.out
          subst hkz
          have HT : Hid (F1 ++ (headB (1 : UInt8) n (sumK (1 : UInt8) (R.take n)) ++ R.take n) = W) := by
            have h9 := HE.out
            rw [show kindB false true = (1 : UInt8) from rfl, pcB_head, HTN.out] at h9
            exact h9
          have hlit := lit_row w1 w1.heap.size (Nat.le_refl _) (1 : UInt8)
          rw [show (((1 : UInt8).toNat : Nat) : Int) = 1 from rfl] at hlit
          have hbl : Below w.heap.size w (w1.alloc (.cells #[.int .u8 1] 5)) := HB1.out.alloc HB1.out.size _
          have hcn := (rd_cells (hrdn.out.below hbl (Nat.le_refl _))).2
          go_wp2_with (first | (at_builtin; skip; refine wpList_append_own _ rfl (.tmp 45) (.tmp 48) 22 rfl w1.heap.size 5 i0 (.int .u8 0) 1 1 Tryd.underlying22 hi hz0 hz1 hz2 rfl (by decide) (.slice (some ⟨w1.heap.size, 0, none⟩) 1 1) 1 (bv [(1 : UInt8)]) rfl hlit ⟨b', off', none⟩ n c' (bv (R.take n)) rfl (by rw [bv_length, HTN.out, Nat.mul_one]) hcn (bv_one _) (by have := HF1L.out; unfold maxLen; omega) (by have := HF1L.out; omega) (by simp) ?_; intro v2 w2 ho2 hgr2 hn2; obtain ⟨g2, c2, hv2, hk1, hk2, o2⟩ := app_shape (n := 1) (l := [(1 : UInt8)]) ho2 rfl HTN.out (fun e => by have := (hn2.1 e).1; cases this); subst hv2; clear ho2 hn2) | fail)
          obtain ⟨s, m, hs, hmm, hsl, hml⟩ := mask_facts (1 : UInt8) (R.take n)
          have o2' : Own w1.heap.size w2 (.slice (some ⟨g2, 0, none⟩) (1 + n) c2) ((1 : UInt8) :: R.take n) := o2
          have hrs := refsum_any w2 _ _ o2'.rd (by have := HF1L.out; rw [List.length_cons, HTN.out]; omega)
          rw [hs] at hrs
          have b12 : Below w1.heap.size w1 w2 := ((Below.refl _ _).alloc (Nat.le_refl _) _).grown hgr2 (by simp) (fun k' e => (hlit.lt k' e).1)
          have HSM : Hid (sumK (1 : UInt8) (R.take n) = m) := by show _ = _; unfold sumK; rw [hs]; exact hmm
          rw [HSM.out] at HT
          clear hlit hbl hcn o2 o2' hgr2 hk1 hk2 hs
          refine hrs.mono ?_
          rintro e w3 ⟨rfl, hb3⟩
          have hrm := refmask_any s hsl w3
          rw [hmm] at hrm
          have b13 : Below w1.heap.size w1 w3 := b12.trans (hb3.mono b12.size)
          have HO3 : Hid (OwnN w.heap.size w3 (.slice f1a f1l f1c) F1) := HO1.out.below b13 (Nat.le_refl _)
          have HB3 : Hid (Below w.heap.size w w3) := HB1.out.trans (b13.mono HB1.out.size)
          clear hrs b12 b13 hb3 hmm
          go_wp2_with fail
          refine hrm.mono ?_
          rintro e w4 ⟨rfl, rfl⟩
          obtain ⟨mI, hmI⟩ : ∃ mI : Int, (m : Int) = mI := ⟨_, rfl⟩
          have hmI0 : 0 ≤ mI := by omega
          have hmI1 : mI < 4294967296 := by omega
          rw [hmI]
          have HML : Hid (m < 4294967296 ∧ (m : Int) = mI) := ⟨hml, hmI⟩
          clear hrm hsl hml hmI
          have hsev := seven_lit w4 m n mI 1 (1 : UInt8) HML.out (by have := HF1L.out; omega) rfl
          have hrw5 : (w4.alloc (.cells #[.int .u8 (mI % 256), .int .u8 (mI / 256 % 256), .int .u8 (mI / 65536 % 256), .int .u8 (mI / 16777216), .int .u8 (n : Int), .int .u8 ((n : Int) / 256), .int .u8 1] 5)).ownsRow w.heap.size 5 1 (.slice f1a f1l f1c) f1l (bv F1) := by
            have h9 := (ownN_row HO3.out).alloc (.cells #[.int .u8 (mI % 256), .int .u8 (mI / 256 % 256), .int .u8 (mI / 65536 % 256), .int .u8 (mI / 16777216), .int .u8 (n : Int), .int .u8 ((n : Int) / 256), .int .u8 1] 5)
            rw [HL1.out] at h9
            exact h9
          have HB4 : Hid (Below w.heap.size w (w4.alloc (.cells #[.int .u8 (mI % 256), .int .u8 (mI / 256 % 256), .int .u8 (mI / 65536 % 256), .int .u8 (mI / 16777216), .int .u8 (n : Int), .int .u8 ((n : Int) / 256), .int .u8 1] 5))) := HB3.out.alloc HB3.out.size _
          obtain ⟨F2, HF2⟩ : ∃ F2, Hid (F1 ++ headB (1 : UInt8) n m = F2) := ⟨_, rfl⟩
          obtain ⟨f2l, HL2⟩ : ∃ f2l, Hid (F2.length = f2l) := ⟨_, rfl⟩
          have HL2b : Hid (f2l = f1l + 7) := by show _ = _; rw [← HL2.out, ← HF2.out, List.length_append, HL1.out, head_len]
          have HT2 : Hid (F2 ++ R.take n = W) := by show _ = _; rw [← HF2.out, List.append_assoc]; exact HT.out
          clear HT HSM
          go_wp2_with (first
            | (at_builtin; refine wpList_append_own _ rfl (.tmp 52) (.tmp 70) 22 rfl w.heap.size 5 i0 (.int .u8 0) 1 1 Tryd.underlying22 hi hz0 hz1 hz2 rfl (by decide) (.slice f1a f1l f1c) f1l (bv F1) rfl hrw5 ⟨w4.heap.size, 0, none⟩ 7 7 (bv (headB (1 : UInt8) n m)) rfl (by rw [bv_length, head_len]) hsev (bv_one _) (by have := HF1L.out; unfold maxLen; omega) (by have := HF1L.out; omega) HB4.out.size ?_; intro v5 w5 ho5 hgr5 hn5; have h9 : OwnN w.heap.size w5 v5 (F1 ++ headB (1 : UInt8) n m) := ownN_of_rowT (by rw [HL1.out]; exact ho5); rw [HF2.out] at h9; obtain ⟨v5a, v5c, hv5⟩ := h9.rd.len; rw [HL2.out] at hv5; subst hv5; have HO5 : Hid (OwnN w.heap.size w5 (.slice v5a f2l v5c) F2) := h9; have HB5 : Hid (Below w.heap.size w w5) := HB4.out.grown hgr5 HB4.out.size (fun k' e => (hrw5.lt k' e).1); clear ho5 hgr5 hn5 h9)
            | (at_builtin; refine wpList_append_own _ rfl (.tmp 72) (.tmp 75) 22 rfl w.heap.size 5 i0 (.int .u8 0) 1 1 Tryd.underlying22 hi hz0 hz1 hz2 rfl (by decide) (.slice v5a f2l v5c) f2l (bv F2) rfl (by have h9 := ownN_row HO5.out; rw [HL2.out] at h9; exact h9) ⟨b', off', none⟩ n c' (bv (R.take n)) rfl (by rw [bv_length, HTN.out, Nat.mul_one]) (rd_cells (hrdn.out.below HB5.out (Nat.le_refl _))).2 (bv_one _) (by have := HF1L.out; have := HL2b.out; unfold maxLen; omega) (by have := HF1L.out; have := HL2b.out; omega) HB5.out.size ?_; intro v6 w6 ho6 hgr6 hn6; have h9 : OwnN w.heap.size w6 v6 (F2 ++ R.take n) := ownN_of_rowT (by rw [HL2.out, HTN.out]; exact ho6); rw [HT2.out] at h9; obtain ⟨v6a, v6c, hv6⟩ := h9.rd.len; subst hv6; obtain ⟨g6, hg6, h10⟩ := ownN_some h9 HWL.out; subst hg6; have HO6 : Hid (Own w.heap.size w6 (.slice (some ⟨g6, 0, none⟩) W.length v6c) W) := h10; have HB6 : Hid (Below w.heap.size w w6) := HB5.out.grown hgr6 HB5.out.size (fun k' e => ((ownN_row HO5.out).lt k' e).1); clear ho6 hgr6 hn6 h9 h10)
            | fail)
          all_goals
            go_ret2
            exact ⟨g6, v6c, rfl, HO6.out, HB6.out⟩
        · rcases HKZ.out with hkz | hkz
          all_goals
            subst hkz
            have HT : Hid (F1 ++ (headB (4 : UInt8) n (sumK (4 : UInt8) (R.take n)) ++ R.take n) = W) := by
              have h9 := HE.out
              rw [show kindB true true = (4 : UInt8) from rfl, pcB_head, HTN.out] at h9
              exact h9
            have hlit := lit_row w1 w1.heap.size (Nat.le_refl _) (4 : UInt8)
            rw [show (((4 : UInt8).toNat : Nat) : Int) = 4 from rfl] at hlit
            have hbl : Below w.heap.size w (w1.alloc (.cells #[.int .u8 4] 5)) := HB1.out.alloc HB1.out.size _
            have hcn := (rd_cells (hrdn.out.below hbl (Nat.le_refl _))).2
            go_wp2_with (first | (at_builtin; skip; refine wpList_append_own _ rfl (.tmp 45) (.tmp 48) 22 rfl w1.heap.size 5 i0 (.int .u8 0) 1 1 Tryd.underlying22 hi hz0 hz1 hz2 rfl (by decide) (.slice (some ⟨w1.heap.size, 0, none⟩) 1 1) 1 (bv [(4 : UInt8)]) rfl hlit ⟨b', off', none⟩ n c' (bv (R.take n)) rfl (by rw [bv_length, HTN.out, Nat.mul_one]) hcn (bv_one _) (by have := HF1L.out; unfold maxLen; omega) (by have := HF1L.out; omega) (by simp) ?_; intro v2 w2 ho2 hgr2 hn2; obtain ⟨g2, c2, hv2, hk1, hk2, o2⟩ := app_shape (n := 1) (l := [(4 : UInt8)]) ho2 rfl HTN.out (fun e => by have := (hn2.1 e).1; cases this); subst hv2; clear ho2 hn2) | fail)
            obtain ⟨s, m, hs, hmm, hsl, hml⟩ := mask_facts (4 : UInt8) (R.take n)
            have o2' : Own w1.heap.size w2 (.slice (some ⟨g2, 0, none⟩) (1 + n) c2) ((4 : UInt8) :: R.take n) := o2
            have hrs := refsum_any w2 _ _ o2'.rd (by have := HF1L.out; rw [List.length_cons, HTN.out]; omega)
            rw [hs] at hrs
            have b12 : Below w1.heap.size w1 w2 := ((Below.refl _ _).alloc (Nat.le_refl _) _).grown hgr2 (by simp) (fun k' e => (hlit.lt k' e).1)
            have HSM : Hid (sumK (4 : UInt8) (R.take n) = m) := by show _ = _; unfold sumK; rw [hs]; exact hmm
            rw [HSM.out] at HT
            clear hlit hbl hcn o2 o2' hgr2 hk1 hk2 hs
            refine hrs.mono ?_
            rintro e w3 ⟨rfl, hb3⟩
            have hrm := refmask_any s hsl w3
            rw [hmm] at hrm
            have b13 : Below w1.heap.size w1 w3 := b12.trans (hb3.mono b12.size)
            have HO3 : Hid (OwnN w.heap.size w3 (.slice f1a f1l f1c) F1) := HO1.out.below b13 (Nat.le_refl _)
            have HB3 : Hid (Below w.heap.size w w3) := HB1.out.trans (b13.mono HB1.out.size)
            clear hrs b12 b13 hb3 hmm
            go_wp2_with fail
            refine hrm.mono ?_
            rintro e w4 ⟨rfl, rfl⟩
            obtain ⟨mI, hmI⟩ : ∃ mI : Int, (m : Int) = mI := ⟨_, rfl⟩
            have hmI0 : 0 ≤ mI := by omega
            have hmI1 : mI < 4294967296 := by omega
            rw [hmI]
            have HML : Hid (m < 4294967296 ∧ (m : Int) = mI) := ⟨hml, hmI⟩
            clear hrm hsl hml hmI
            have hsev := seven_lit w4 m n mI 4 (4 : UInt8) HML.out (by have := HF1L.out; omega) rfl
            have hrw5 : (w4.alloc (.cells #[.int .u8 (mI % 256), .int .u8 (mI / 256 % 256), .int .u8 (mI / 65536 % 256), .int .u8 (mI / 16777216), .int .u8 (n : Int), .int .u8 ((n : Int) / 256), .int .u8 4] 5)).ownsRow w.heap.size 5 1 (.slice f1a f1l f1c) f1l (bv F1) := by
              have h9 := (ownN_row HO3.out).alloc (.cells #[.int .u8 (mI % 256), .int .u8 (mI / 256 % 256), .int .u8 (mI / 65536 % 256), .int .u8 (mI / 16777216), .int .u8 (n : Int), .int .u8 ((n : Int) / 256), .int .u8 4] 5)
              rw [HL1.out] at h9
              exact h9
            have HB4 : Hid (Below w.heap.size w (w4.alloc (.cells #[.int .u8 (mI % 256), .int .u8 (mI / 256 % 256), .int .u8 (mI / 65536 % 256), .int .u8 (mI / 16777216), .int .u8 (n : Int), .int .u8 ((n : Int) / 256), .int .u8 4] 5))) := HB3.out.alloc HB3.out.size _
            obtain ⟨F2, HF2⟩ : ∃ F2, Hid (F1 ++ headB (4 : UInt8) n m = F2) := ⟨_, rfl⟩
            obtain ⟨f2l, HL2⟩ : ∃ f2l, Hid (F2.length = f2l) := ⟨_, rfl⟩
            have HL2b : Hid (f2l = f1l + 7) := by show _ = _; rw [← HL2.out, ← HF2.out, List.length_append, HL1.out, head_len]
            have HT2 : Hid (F2 ++ R.take n = W) := by show _ = _; rw [← HF2.out, List.append_assoc]; exact HT.out
            clear HT HSM
            go_wp2_with (first
              | (at_builtin; refine wpList_append_own _ rfl (.tmp 52) (.tmp 70) 22 rfl w.heap.size 5 i0 (.int .u8 0) 1 1 Tryd.underlying22 hi hz0 hz1 hz2 rfl (by decide) (.slice f1a f1l f1c) f1l (bv F1) rfl hrw5 ⟨w4.heap.size, 0, none⟩ 7 7 (bv (headB (4 : UInt8) n m)) rfl (by rw [bv_length, head_len]) hsev (bv_one _) (by have := HF1L.out; unfold maxLen; omega) (by have := HF1L.out; omega) HB4.out.size ?_; intro v5 w5 ho5 hgr5 hn5; have h9 : OwnN w.heap.size w5 v5 (F1 ++ headB (4 : UInt8) n m) := ownN_of_rowT (by rw [HL1.out]; exact ho5); rw [HF2.out] at h9; obtain ⟨v5a, v5c, hv5⟩ := h9.rd.len; rw [HL2.out] at hv5; subst hv5; have HO5 : Hid (OwnN w.heap.size w5 (.slice v5a f2l v5c) F2) := h9; have HB5 : Hid (Below w.heap.size w w5) := HB4.out.grown hgr5 HB4.out.size (fun k' e => (hrw5.lt k' e).1); clear ho5 hgr5 hn5 h9)
              | (at_builtin; refine wpList_append_own _ rfl (.tmp 72) (.tmp 75) 22 rfl w.heap.size 5 i0 (.int .u8 0) 1 1 Tryd.underlying22 hi hz0 hz1 hz2 rfl (by decide) (.slice v5a f2l v5c) f2l (bv F2) rfl (by have h9 := ownN_row HO5.out; rw [HL2.out] at h9; exact h9) ⟨b', off', none⟩ n c' (bv (R.take n)) rfl (by rw [bv_length, HTN.out, Nat.mul_one]) (rd_cells (hrdn.out.below HB5.out (Nat.le_refl _))).2 (bv_one _) (by have := HF1L.out; have := HL2b.out; unfold maxLen; omega) (by have := HF1L.out; have := HL2b.out; omega) HB5.out.size ?_; intro v6 w6 ho6 hgr6 hn6; have h9 : OwnN w.heap.size w6 v6 (F2 ++ R.take n) := ownN_of_rowT (by rw [HL2.out, HTN.out]; exact ho6); rw [HT2.out] at h9; obtain ⟨v6a, v6c, hv6⟩ := h9.rd.len; subst hv6; obtain ⟨g6, hg6, h10⟩ := ownN_some h9 HWL.out; subst hg6; have HO6 : Hid (Own w.heap.size w6 (.slice (some ⟨g6, 0, none⟩) W.length v6c) W) := h10; have HB6 : Hid (Below w.heap.size w w6) := HB5.out.grown hgr6 HB5.out.size (fun k' e => ((ownN_row HO5.out).lt k' e).1); clear ho6 hgr6 hn6 h9 h10)
              | fail)
            all_goals
              go_ret2
              exact ⟨g6, v6c, rfl, HO6.out, HB6.out⟩
    · have hltI : (n : Int) < (rl : Int) := by omega
      obtain ⟨hnx, hnlt⟩ := HG.out.fr.next (by rw [HN.out, HRL.out]; exact hend)
      rw [HN.out] at hnx
      have HN57 : Hid (n = 57 - y1) := by have h1 := HG.out.n; rw [HN.out, HRL.out] at h1; show _ = _; omega
      obtain ⟨F', hF'⟩ : ∃ F', F1 ++ pcB (kindB bg false) (R.take n) = F' := ⟨_, rfl⟩
      rw [hF'] at hnx
      have HE : Hid _ := hF'
      have HNX : Hid (FrI x W true F' (R.drop n)) := hnx
      have HFL : Hid (0 < F'.length) := by show _ < _; rw [← hF', List.length_append, pcB_length]; omega
      have hcn0 : ¬ c' = n := by have := HBB.out; omega
      have hrd2 : Hid (Rd w (.slice (some ⟨b', off' + n, none⟩) (rl - n) (c' - n)) (R.drop n)) := by
        obtain ⟨off2, e1, _, r, _⟩ := rd_drop HCS.out (by rw [HRL.out]; exact HBB.out.2.1) (by have := HBB.out; unfold maxLen; omega) n (by rw [HRL.out]; omega)
        rw [e1 hcn0, HRL.out] at r
        exact r
      have hvb2 : Hid (∀ bb, (Value.slice (some ⟨b', off' + n, none⟩) (rl - n) (c' - n)).ownBlock = some bb → bb < w.heap.size) := fun bb e => by cases e; exact HBB.out.1
      have HMS : Hid ((R.drop n).length + 1 < gk ∧ True) := by
        have hk := HK.out
        show _ ∧ _
        rw [List.length_drop]
        rw [HRL.out] at hk ⊢
        refine ⟨?_, trivial⟩
        cases bg
        · simp at hk
          omega
        · simp at hk
          have hz := HG.out.fr.zr rfl
          have hlf9 := HG.out.lf
          have := HN57.out
          omega
      clear hnx hnlt hF'
      rcases hgapc with ⟨rfl, hy63, hy1, rfl, rfl, rfl, lf, g1, g2, g3, rfl, hrz⟩ | ⟨hng, rfl, rfl, rfl, rfl, rfl⟩
      · subst hy1
        have hkz : kz = 1 := HKZ.out
        subst hkz
        have hrem : (7 + (n : Int)).tmod 64 = 0 := by rw [HN57.out]; rfl
        obtain rfl : n = 57 := HN57.out
        rw [show ((57 : Nat) : Int) = 57 from rfl] at k3 k4 k5 k6 k7 k9 hncI hltI hrem
        have HT : Hid (F1 ++ (headB (2 : UInt8) 57 (sumK (2 : UInt8) (R.take 57)) ++ R.take 57) = F') := by
          have h9 := HE.out
          rw [show kindB false false = (2 : UInt8) from rfl, pcB_head, HTN.out] at h9
          exact h9
        have hlit := lit_row w1 w1.heap.size (Nat.le_refl _) (2 : UInt8)
        rw [show (((2 : UInt8).toNat : Nat) : Int) = 2 from rfl] at hlit
        have hbl : Below w.heap.size w (w1.alloc (.cells #[.int .u8 2] 5)) := HB1.out.alloc HB1.out.size _
        have hcn := (rd_cells (hrdn.out.below hbl (Nat.le_refl _))).2
        go_wp2_with (first | (at_builtin; refine Lib.wpList_append_run _ rfl (.tmp 22) (.tmp 23) 22 3 rfl (.slice none 0 0) (.int .i64 (f1l : Int)) rfl rfl _ _ (hrz _) ?_) | (at_builtin; skip; refine wpList_append_own _ rfl (.tmp 45) (.tmp 48) 22 rfl w1.heap.size 5 i0 (.int .u8 0) 1 1 Tryd.underlying22 hi hz0 hz1 hz2 rfl (by decide) (.slice (some ⟨w1.heap.size, 0, none⟩) 1 1) 1 (bv [(2 : UInt8)]) rfl hlit ⟨b', off', none⟩ 57 c' (bv (R.take 57)) rfl (by rw [bv_length, HTN.out, Nat.mul_one]) hcn (bv_one _) (by have := HF1L.out; unfold maxLen; omega) (by have := HF1L.out; omega) (by simp) ?_; intro v2 w2 ho2 hgr2 hn2; obtain ⟨g2, c2, hv2, hk1, hk2, o2⟩ := app_shape (n := 1) (l := [(2 : UInt8)]) ho2 rfl HTN.out (fun e => by have := (hn2.1 e).1; cases this); subst hv2; clear ho2 hn2) | fail)
        obtain ⟨s, m, hs, hmm, hsl, hml⟩ := mask_facts (2 : UInt8) (R.take 57)
        have o2' : Own w1.heap.size w2 (.slice (some ⟨g2, 0, none⟩) (1 + 57) c2) ((2 : UInt8) :: R.take 57) := o2
        have hrs := refsum_any w2 _ _ o2'.rd (by have := HF1L.out; rw [List.length_cons, HTN.out]; omega)
        rw [hs] at hrs
        have b12 : Below w1.heap.size w1 w2 := ((Below.refl _ _).alloc (Nat.le_refl _) _).grown hgr2 (by simp) (fun k' e => (hlit.lt k' e).1)
        have HSM : Hid (sumK (2 : UInt8) (R.take 57) = m) := by show _ = _; unfold sumK; rw [hs]; exact hmm
        rw [HSM.out] at HT
        clear hlit hbl hcn o2 o2' hgr2 hk1 hk2 hs
        refine hrs.mono ?_
        rintro e w3 ⟨rfl, hb3⟩
        have hrm := refmask_any s hsl w3
        rw [hmm] at hrm
        have b13 : Below w1.heap.size w1 w3 := b12.trans (hb3.mono b12.size)
        have HO3 : Hid (OwnN w.heap.size w3 (.slice f1a f1l f1c) F1) := HO1.out.below b13 (Nat.le_refl _)
        have HB3 : Hid (Below w.heap.size w w3) := HB1.out.trans (b13.mono HB1.out.size)
        clear hrs b12 b13 hb3 hmm
        go_wp2_with fail
        refine hrm.mono ?_
        rintro e w4 ⟨rfl, rfl⟩
        obtain ⟨mI, hmI⟩ : ∃ mI : Int, (m : Int) = mI := ⟨_, rfl⟩
        have hmI0 : 0 ≤ mI := by omega
        have hmI1 : mI < 4294967296 := by omega
        rw [hmI]
        have HML : Hid (m < 4294967296 ∧ (m : Int) = mI) := ⟨hml, hmI⟩
        clear hrm hsl hml hmI
        have hsev := seven_lit57 w4 m mI 2 (2 : UInt8) HML.out rfl
        have hrw5 : (w4.alloc (.cells #[.int .u8 (mI % 256), .int .u8 (mI / 256 % 256), .int .u8 (mI / 65536 % 256), .int .u8 (mI / 16777216), .int .u8 57, .int .u8 0, .int .u8 2] 5)).ownsRow w.heap.size 5 1 (.slice f1a f1l f1c) f1l (bv F1) := by
          have h9 := (ownN_row HO3.out).alloc (.cells #[.int .u8 (mI % 256), .int .u8 (mI / 256 % 256), .int .u8 (mI / 65536 % 256), .int .u8 (mI / 16777216), .int .u8 57, .int .u8 0, .int .u8 2] 5)
          rw [HL1.out] at h9
          exact h9
        have HB4 : Hid (Below w.heap.size w (w4.alloc (.cells #[.int .u8 (mI % 256), .int .u8 (mI / 256 % 256), .int .u8 (mI / 65536 % 256), .int .u8 (mI / 16777216), .int .u8 57, .int .u8 0, .int .u8 2] 5))) := HB3.out.alloc HB3.out.size _
        obtain ⟨F2, HF2⟩ : ∃ F2, Hid (F1 ++ headB (2 : UInt8) 57 m = F2) := ⟨_, rfl⟩
        obtain ⟨f2l, HL2⟩ : ∃ f2l, Hid (F2.length = f2l) := ⟨_, rfl⟩
        have HL2b : Hid (f2l = f1l + 7) := by show _ = _; rw [← HL2.out, ← HF2.out, List.length_append, HL1.out, head_len]
        have HT2 : Hid (F2 ++ R.take 57 = F') := by show _ = _; rw [← HF2.out, List.append_assoc]; exact HT.out
        clear HT HSM
        go_wp2_with (first
          | (at_builtin; refine wpList_append_own _ rfl (.tmp 52) (.tmp 70) 22 rfl w.heap.size 5 i0 (.int .u8 0) 1 1 Tryd.underlying22 hi hz0 hz1 hz2 rfl (by decide) (.slice f1a f1l f1c) f1l (bv F1) rfl hrw5 ⟨w4.heap.size, 0, none⟩ 7 7 (bv (headB (2 : UInt8) 57 m)) rfl (by rw [bv_length, head_len]) hsev (bv_one _) (by have := HF1L.out; unfold maxLen; omega) (by have := HF1L.out; omega) HB4.out.size ?_; intro v5 w5 ho5 hgr5 hn5; have h9 : OwnN w.heap.size w5 v5 (F1 ++ headB (2 : UInt8) 57 m) := ownN_of_rowT (by rw [HL1.out]; exact ho5); rw [HF2.out] at h9; obtain ⟨v5a, v5c, hv5⟩ := h9.rd.len; rw [HL2.out] at hv5; subst hv5; have HO5 : Hid (OwnN w.heap.size w5 (.slice v5a f2l v5c) F2) := h9; have HB5 : Hid (Below w.heap.size w w5) := HB4.out.grown hgr5 HB4.out.size (fun k' e => (hrw5.lt k' e).1); clear ho5 hgr5 hn5 h9)
          | (at_builtin; refine wpList_append_own _ rfl (.tmp 72) (.tmp 75) 22 rfl w.heap.size 5 i0 (.int .u8 0) 1 1 Tryd.underlying22 hi hz0 hz1 hz2 rfl (by decide) (.slice v5a f2l v5c) f2l (bv F2) rfl (by have h9 := ownN_row HO5.out; rw [HL2.out] at h9; exact h9) ⟨b', off', none⟩ 57 c' (bv (R.take 57)) rfl (by rw [bv_length, HTN.out, Nat.mul_one]) (rd_cells (hrdn.out.below HB5.out (Nat.le_refl _))).2 (bv_one _) (by have := HF1L.out; have := HL2b.out; unfold maxLen; omega) (by have := HF1L.out; have := HL2b.out; omega) HB5.out.size ?_; intro v6 w6 ho6 hgr6 hn6; have h9 : OwnN w.heap.size w6 v6 (F2 ++ R.take 57) := ownN_of_rowT (by rw [HL2.out, HTN.out]; exact ho6); rw [HT2.out] at h9; obtain ⟨v6a, v6c, hv6⟩ := h9.rd.len; subst hv6; obtain ⟨g6, hg6, h10⟩ := ownN_some h9 HFL.out; subst hg6; have HO6 : Hid (Own w.heap.size w6 (.slice (some ⟨g6, 0, none⟩) F'.length v6c) F') := h10; have HB6 : Hid (Below w.heap.size w w6) := HB5.out.grown hgr6 HB5.out.size (fun k' e => ((ownN_row HO5.out).lt k' e).1); clear ho6 hgr6 hn6 h9 h10)
          | fail)
        go_roundg ((R.drop 57).length + 1)
        case measure => exact HMS.out.1
        case rel => exact ⟨true, F', R.drop 57, _, v6c, 0, 2, rfl, rfl, rfl, rfl, ⟨HNX.out, rfl⟩, .inl rfl, (fun h => by cases h), .inr HO6.out, ⟨hrd2.out, hvb2.out, _, _, _, rfl⟩, HB6⟩
      · rw [HL1.out]
        cases bg
        · have hkz : kz = 1 := HKZ.out
          subst hkz
          have hmn : 57 - (y1 : Int) = (n : Int) := by have := HN57.out; omega
          have hrem : ((y1 : Int) + 7 + (n : Int)).tmod 64 = 0 := by
            have h9 : (y1 : Int) + 7 + (n : Int) = 64 := by omega
            rw [h9]
            rfl
          have HT : Hid (F1 ++ (headB (2 : UInt8) n (sumK (2 : UInt8) (R.take n)) ++ R.take n) = F') := by
            have h9 := HE.out
            rw [show kindB false false = (2 : UInt8) from rfl, pcB_head, HTN.out] at h9
            exact h9
          have hlit := lit_row w1 w1.heap.size (Nat.le_refl _) (2 : UInt8)
          rw [show (((2 : UInt8).toNat : Nat) : Int) = 2 from rfl] at hlit
          have hbl : Below w.heap.size w (w1.alloc (.cells #[.int .u8 2] 5)) := HB1.out.alloc HB1.out.size _
          have hcn := (rd_cells (hrdn.out.below hbl (Nat.le_refl _))).2
          go_wp2_with (first | (at_builtin; skip; refine wpList_append_own _ rfl (.tmp 45) (.tmp 48) 22 rfl w1.heap.size 5 i0 (.int .u8 0) 1 1 Tryd.underlying22 hi hz0 hz1 hz2 rfl (by decide) (.slice (some ⟨w1.heap.size, 0, none⟩) 1 1) 1 (bv [(2 : UInt8)]) rfl hlit ⟨b', off', none⟩ n c' (bv (R.take n)) rfl (by rw [bv_length, HTN.out, Nat.mul_one]) hcn (bv_one _) (by have := HF1L.out; unfold maxLen; omega) (by have := HF1L.out; omega) (by simp) ?_; intro v2 w2 ho2 hgr2 hn2; obtain ⟨g2, c2, hv2, hk1, hk2, o2⟩ := app_shape (n := 1) (l := [(2 : UInt8)]) ho2 rfl HTN.out (fun e => by have := (hn2.1 e).1; cases this); subst hv2; clear ho2 hn2) | fail)
          obtain ⟨s, m, hs, hmm, hsl, hml⟩ := mask_facts (2 : UInt8) (R.take n)
          have o2' : Own w1.heap.size w2 (.slice (some ⟨g2, 0, none⟩) (1 + n) c2) ((2 : UInt8) :: R.take n) := o2
          have hrs := refsum_any w2 _ _ o2'.rd (by have := HF1L.out; rw [List.length_cons, HTN.out]; omega)
          rw [hs] at hrs
          have b12 : Below w1.heap.size w1 w2 := ((Below.refl _ _).alloc (Nat.le_refl _) _).grown hgr2 (by simp) (fun k' e => (hlit.lt k' e).1)
          have HSM : Hid (sumK (2 : UInt8) (R.take n) = m) := by show _ = _; unfold sumK; rw [hs]; exact hmm
          rw [HSM.out] at HT
          clear hlit hbl hcn o2 o2' hgr2 hk1 hk2 hs
          refine hrs.mono ?_
          rintro e w3 ⟨rfl, hb3⟩
          have hrm := refmask_any s hsl w3
          rw [hmm] at hrm
          have b13 : Below w1.heap.size w1 w3 := b12.trans (hb3.mono b12.size)
          have HO3 : Hid (OwnN w.heap.size w3 (.slice f1a f1l f1c) F1) := HO1.out.below b13 (Nat.le_refl _)
          have HB3 : Hid (Below w.heap.size w w3) := HB1.out.trans (b13.mono HB1.out.size)
          clear hrs b12 b13 hb3 hmm
          go_wp2_with fail
          refine hrm.mono ?_
          rintro e w4 ⟨rfl, rfl⟩
          obtain ⟨mI, hmI⟩ : ∃ mI : Int, (m : Int) = mI := ⟨_, rfl⟩
          have hmI0 : 0 ≤ mI := by omega
          have hmI1 : mI < 4294967296 := by omega
          rw [hmI]
          have HML : Hid (m < 4294967296 ∧ (m : Int) = mI) := ⟨hml, hmI⟩
          clear hrm hsl hml hmI
          have hsev := seven_lit w4 m n mI 2 (2 : UInt8) HML.out (by have := HF1L.out; omega) rfl
          have hrw5 : (w4.alloc (.cells #[.int .u8 (mI % 256), .int .u8 (mI / 256 % 256), .int .u8 (mI / 65536 % 256), .int .u8 (mI / 16777216), .int .u8 (n : Int), .int .u8 ((n : Int) / 256), .int .u8 2] 5)).ownsRow w.heap.size 5 1 (.slice f1a f1l f1c) f1l (bv F1) := by
            have h9 := (ownN_row HO3.out).alloc (.cells #[.int .u8 (mI % 256), .int .u8 (mI / 256 % 256), .int .u8 (mI / 65536 % 256), .int .u8 (mI / 16777216), .int .u8 (n : Int), .int .u8 ((n : Int) / 256), .int .u8 2] 5)
            rw [HL1.out] at h9
            exact h9
          have HB4 : Hid (Below w.heap.size w (w4.alloc (.cells #[.int .u8 (mI % 256), .int .u8 (mI / 256 % 256), .int .u8 (mI / 65536 % 256), .int .u8 (mI / 16777216), .int .u8 (n : Int), .int .u8 ((n : Int) / 256), .int .u8 2] 5))) := HB3.out.alloc HB3.out.size _
          obtain ⟨F2, HF2⟩ : ∃ F2, Hid (F1 ++ headB (2 : UInt8) n m = F2) := ⟨_, rfl⟩
          obtain ⟨f2l, HL2⟩ : ∃ f2l, Hid (F2.length = f2l) := ⟨_, rfl⟩
          have HL2b : Hid (f2l = f1l + 7) := by show _ = _; rw [← HL2.out, ← HF2.out, List.length_append, HL1.out, head_len]
          have HT2 : Hid (F2 ++ R.take n = F') := by show _ = _; rw [← HF2.out, List.append_assoc]; exact HT.out
          clear HT HSM
          go_wp2_with (first
            | (at_builtin; refine wpList_append_own _ rfl (.tmp 52) (.tmp 70) 22 rfl w.heap.size 5 i0 (.int .u8 0) 1 1 Tryd.underlying22 hi hz0 hz1 hz2 rfl (by decide) (.slice f1a f1l f1c) f1l (bv F1) rfl hrw5 ⟨w4.heap.size, 0, none⟩ 7 7 (bv (headB (2 : UInt8) n m)) rfl (by rw [bv_length, head_len]) hsev (bv_one _) (by have := HF1L.out; unfold maxLen; omega) (by have := HF1L.out; omega) HB4.out.size ?_; intro v5 w5 ho5 hgr5 hn5; have h9 : OwnN w.heap.size w5 v5 (F1 ++ headB (2 : UInt8) n m) := ownN_of_rowT (by rw [HL1.out]; exact ho5); rw [HF2.out] at h9; obtain ⟨v5a, v5c, hv5⟩ := h9.rd.len; rw [HL2.out] at hv5; subst hv5; have HO5 : Hid (OwnN w.heap.size w5 (.slice v5a f2l v5c) F2) := h9; have HB5 : Hid (Below w.heap.size w w5) := HB4.out.grown hgr5 HB4.out.size (fun k' e => (hrw5.lt k' e).1); clear ho5 hgr5 hn5 h9)
            | (at_builtin; refine wpList_append_own _ rfl (.tmp 72) (.tmp 75) 22 rfl w.heap.size 5 i0 (.int .u8 0) 1 1 Tryd.underlying22 hi hz0 hz1 hz2 rfl (by decide) (.slice v5a f2l v5c) f2l (bv F2) rfl (by have h9 := ownN_row HO5.out; rw [HL2.out] at h9; exact h9) ⟨b', off', none⟩ n c' (bv (R.take n)) rfl (by rw [bv_length, HTN.out, Nat.mul_one]) (rd_cells (hrdn.out.below HB5.out (Nat.le_refl _))).2 (bv_one _) (by have := HF1L.out; have := HL2b.out; unfold maxLen; omega) (by have := HF1L.out; have := HL2b.out; omega) HB5.out.size ?_; intro v6 w6 ho6 hgr6 hn6; have h9 : OwnN w.heap.size w6 v6 (F2 ++ R.take n) := ownN_of_rowT (by rw [HL2.out, HTN.out]; exact ho6); rw [HT2.out] at h9; obtain ⟨v6a, v6c, hv6⟩ := h9.rd.len; subst hv6; obtain ⟨g6, hg6, h10⟩ := ownN_some h9 HFL.out; subst hg6; have HO6 : Hid (Own w.heap.size w6 (.slice (some ⟨g6, 0, none⟩) F'.length v6c) F') := h10; have HB6 : Hid (Below w.heap.size w w6) := HB5.out.grown hgr6 HB5.out.size (fun k' e => ((ownN_row HO5.out).lt k' e).1); clear ho6 hgr6 hn6 h9 h10)
            | fail)
          go_roundg ((R.drop n).length + 1)
          case measure => exact HMS.out.1
          case rel => exact ⟨true, F', R.drop n, _, v6c, 0, 2, rfl, rfl, rfl, rfl, ⟨HNX.out, rfl⟩, .inl rfl, (fun h => by cases h), .inr HO6.out, ⟨hrd2.out, hvb2.out, _, _, _, rfl⟩, HB6⟩
        · rcases HKZ.out with hkz | hkz
          all_goals
            subst hkz
            have hmn : 57 - (y1 : Int) = (n : Int) := by have := HN57.out; omega
            have hrem : ((y1 : Int) + 7 + (n : Int)).tmod 64 = 0 := by
              have h9 : (y1 : Int) + 7 + (n : Int) = 64 := by omega
              rw [h9]
              rfl
            have HT : Hid (F1 ++ (headB (3 : UInt8) n (sumK (3 : UInt8) (R.take n)) ++ R.take n) = F') := by
              have h9 := HE.out
              rw [show kindB true false = (3 : UInt8) from rfl, pcB_head, HTN.out] at h9
              exact h9
            have hlit := lit_row w1 w1.heap.size (Nat.le_refl _) (3 : UInt8)
            rw [show (((3 : UInt8).toNat : Nat) : Int) = 3 from rfl] at hlit
            have hbl : Below w.heap.size w (w1.alloc (.cells #[.int .u8 3] 5)) := HB1.out.alloc HB1.out.size _
            have hcn := (rd_cells (hrdn.out.below hbl (Nat.le_refl _))).2
            go_wp2_with (first | (at_builtin; skip; refine wpList_append_own _ rfl (.tmp 45) (.tmp 48) 22 rfl w1.heap.size 5 i0 (.int .u8 0) 1 1 Tryd.underlying22 hi hz0 hz1 hz2 rfl (by decide) (.slice (some ⟨w1.heap.size, 0, none⟩) 1 1) 1 (bv [(3 : UInt8)]) rfl hlit ⟨b', off', none⟩ n c' (bv (R.take n)) rfl (by rw [bv_length, HTN.out, Nat.mul_one]) hcn (bv_one _) (by have := HF1L.out; unfold maxLen; omega) (by have := HF1L.out; omega) (by simp) ?_; intro v2 w2 ho2 hgr2 hn2; obtain ⟨g2, c2, hv2, hk1, hk2, o2⟩ := app_shape (n := 1) (l := [(3 : UInt8)]) ho2 rfl HTN.out (fun e => by have := (hn2.1 e).1; cases this); subst hv2; clear ho2 hn2) | fail)
            obtain ⟨s, m, hs, hmm, hsl, hml⟩ := mask_facts (3 : UInt8) (R.take n)
            have o2' : Own w1.heap.size w2 (.slice (some ⟨g2, 0, none⟩) (1 + n) c2) ((3 : UInt8) :: R.take n) := o2
            have hrs := refsum_any w2 _ _ o2'.rd (by have := HF1L.out; rw [List.length_cons, HTN.out]; omega)
            rw [hs] at hrs
            have b12 : Below w1.heap.size w1 w2 := ((Below.refl _ _).alloc (Nat.le_refl _) _).grown hgr2 (by simp) (fun k' e => (hlit.lt k' e).1)
            have HSM : Hid (sumK (3 : UInt8) (R.take n) = m) := by show _ = _; unfold sumK; rw [hs]; exact hmm
            rw [HSM.out] at HT
            clear hlit hbl hcn o2 o2' hgr2 hk1 hk2 hs
            refine hrs.mono ?_
            rintro e w3 ⟨rfl, hb3⟩
            have hrm := refmask_any s hsl w3
            rw [hmm] at hrm
            have b13 : Below w1.heap.size w1 w3 := b12.trans (hb3.mono b12.size)
            have HO3 : Hid (OwnN w.heap.size w3 (.slice f1a f1l f1c) F1) := HO1.out.below b13 (Nat.le_refl _)
            have HB3 : Hid (Below w.heap.size w w3) := HB1.out.trans (b13.mono HB1.out.size)
            clear hrs b12 b13 hb3 hmm
            go_wp2_with fail
            refine hrm.mono ?_
            rintro e w4 ⟨rfl, rfl⟩
            obtain ⟨mI, hmI⟩ : ∃ mI : Int, (m : Int) = mI := ⟨_, rfl⟩
            have hmI0 : 0 ≤ mI := by omega
            have hmI1 : mI < 4294967296 := by omega
            rw [hmI]
            have HML : Hid (m < 4294967296 ∧ (m : Int) = mI) := ⟨hml, hmI⟩
            clear hrm hsl hml hmI
            have hsev := seven_lit w4 m n mI 3 (3 : UInt8) HML.out (by have := HF1L.out; omega) rfl
            have hrw5 : (w4.alloc (.cells #[.int .u8 (mI % 256), .int .u8 (mI / 256 % 256), .int .u8 (mI / 65536 % 256), .int .u8 (mI / 16777216), .int .u8 (n : Int), .int .u8 ((n : Int) / 256), .int .u8 3] 5)).ownsRow w.heap.size 5 1 (.slice f1a f1l f1c) f1l (bv F1) := by
              have h9 := (ownN_row HO3.out).alloc (.cells #[.int .u8 (mI % 256), .int .u8 (mI / 256 % 256), .int .u8 (mI / 65536 % 256), .int .u8 (mI / 16777216), .int .u8 (n : Int), .int .u8 ((n : Int) / 256), .int .u8 3] 5)
              rw [HL1.out] at h9
              exact h9
            have HB4 : Hid (Below w.heap.size w (w4.alloc (.cells #[.int .u8 (mI % 256), .int .u8 (mI / 256 % 256), .int .u8 (mI / 65536 % 256), .int .u8 (mI / 16777216), .int .u8 (n : Int), .int .u8 ((n : Int) / 256), .int .u8 3] 5))) := HB3.out.alloc HB3.out.size _
            obtain ⟨F2, HF2⟩ : ∃ F2, Hid (F1 ++ headB (3 : UInt8) n m = F2) := ⟨_, rfl⟩
            obtain ⟨f2l, HL2⟩ : ∃ f2l, Hid (F2.length = f2l) := ⟨_, rfl⟩
            have HL2b : Hid (f2l = f1l + 7) := by show _ = _; rw [← HL2.out, ← HF2.out, List.length_append, HL1.out, head_len]
            have HT2 : Hid (F2 ++ R.take n = F') := by show _ = _; rw [← HF2.out, List.append_assoc]; exact HT.out
            clear HT HSM
            go_wp2_with (first
              | (at_builtin; refine wpList_append_own _ rfl (.tmp 52) (.tmp 70) 22 rfl w.heap.size 5 i0 (.int .u8 0) 1 1 Tryd.underlying22 hi hz0 hz1 hz2 rfl (by decide) (.slice f1a f1l f1c) f1l (bv F1) rfl hrw5 ⟨w4.heap.size, 0, none⟩ 7 7 (bv (headB (3 : UInt8) n m)) rfl (by rw [bv_length, head_len]) hsev (bv_one _) (by have := HF1L.out; unfold maxLen; omega) (by have := HF1L.out; omega) HB4.out.size ?_; intro v5 w5 ho5 hgr5 hn5; have h9 : OwnN w.heap.size w5 v5 (F1 ++ headB (3 : UInt8) n m) := ownN_of_rowT (by rw [HL1.out]; exact ho5); rw [HF2.out] at h9; obtain ⟨v5a, v5c, hv5⟩ := h9.rd.len; rw [HL2.out] at hv5; subst hv5; have HO5 : Hid (OwnN w.heap.size w5 (.slice v5a f2l v5c) F2) := h9; have HB5 : Hid (Below w.heap.size w w5) := HB4.out.grown hgr5 HB4.out.size (fun k' e => (hrw5.lt k' e).1); clear ho5 hgr5 hn5 h9)
              | (at_builtin; refine wpList_append_own _ rfl (.tmp 72) (.tmp 75) 22 rfl w.heap.size 5 i0 (.int .u8 0) 1 1 Tryd.underlying22 hi hz0 hz1 hz2 rfl (by decide) (.slice v5a f2l v5c) f2l (bv F2) rfl (by have h9 := ownN_row HO5.out; rw [HL2.out] at h9; exact h9) ⟨b', off', none⟩ n c' (bv (R.take n)) rfl (by rw [bv_length, HTN.out, Nat.mul_one]) (rd_cells (hrdn.out.below HB5.out (Nat.le_refl _))).2 (bv_one _) (by have := HF1L.out; have := HL2b.out; unfold maxLen; omega) (by have := HF1L.out; have := HL2b.out; omega) HB5.out.size ?_; intro v6 w6 ho6 hgr6 hn6; have h9 : OwnN w.heap.size w6 v6 (F2 ++ R.take n) := ownN_of_rowT (by rw [HL2.out, HTN.out]; exact ho6); rw [HT2.out] at h9; obtain ⟨v6a, v6c, hv6⟩ := h9.rd.len; subst hv6; obtain ⟨g6, hg6, h10⟩ := ownN_some h9 HFL.out; subst hg6; have HO6 : Hid (Own w.heap.size w6 (.slice (some ⟨g6, 0, none⟩) F'.length v6c) F') := h10; have HB6 : Hid (Below w.heap.size w w6) := HB5.out.grown hgr6 HB5.out.size (fun k' e => ((ownN_row HO5.out).lt k' e).1); clear ho6 hgr6 hn6 h9 h10)
              | fail)
            go_roundg ((R.drop n).length + 1)
            case measure => exact HMS.out.1
            case rel => exact ⟨true, F', R.drop n, _, v6c, 0, 3, rfl, rfl, rfl, rfl, ⟨HNX.out, rfl⟩, .inr rfl, (fun h => by cases h), .inr HO6.out, ⟨hrd2.out, hvb2.out, _, _, _, rfl⟩, HB6⟩

end Go.Proofs.YtppoimmoohfbnaaDoor
