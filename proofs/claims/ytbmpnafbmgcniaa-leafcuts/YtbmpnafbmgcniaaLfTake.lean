/- leaf.takeNum, leaf.version, leaf.body. -/
import Derived.Test.YtbmpnafbmgcniaaLfRdPure
import Derived.Test.YtbmpnafbmgcniaaLfTools
import Derived.Test.YtbmpnafbmgcniaaTake2
import Derived.BigQuiet
namespace Go.Proofs.Ytbmpnafbmgcniaa
set_option maxRecDepth 20000
open Go.RowKit
set_option linter.unusedVariables false

theorem frontS_nine (l : List UInt8) : frontS (l.take 9) = frontS l := by
  cases l with
  | nil => rfl
  | cons f t =>
    have hb := sizeN_bd f.toNat f.toNat_lt
    rw [List.take_succ_cons]
    unfold frontS
    simp only
    have h1 : (f :: t.take 8) = (f :: t).take 9 := rfl
    rw [h1]
    have h2 : ((f :: t).take 9).length < sizeN f.toNat ↔ (f :: t).length < sizeN f.toNat := by rw [List.length_take]; omega
    have h3 : ((f :: t).take 9).take (sizeN f.toNat) = (f :: t).take (sizeN f.toNat) := by rw [List.take_take, Nat.min_eq_left (by omega)]
    rw [h3]
    by_cases hc : (f :: t).length < sizeN f.toNat
    · rw [if_pos (h2.2 hc), if_pos hc]
    · rw [if_neg (fun h => hc (h2.1 h)), if_neg hc]

theorem rd_take {w : World} {l : List UInt8} {b off cap k : Nat} (hc : ∀ j u, (bv l)[j]? = some u → w.cell? ⟨b, off + j, none⟩ = some u) (h1 : l.length ≤ cap) (h2 : cap ≤ 9223372036854775807) (hk : k ≤ l.length) : Rd w (.slice (some ⟨b, off, none⟩) k cap) (l.take k) := by
  have := rd_sub hc 0 k cap (by omega) (by unfold maxLen; omega) (by omega)
  rwa [List.drop_zero, Nat.add_zero] at this

theorem take_nine {l : List UInt8} {k : Nat} (hk : (l.take 9).length = k) : l.take 9 = l.take k := by
  rw [List.length_take] at hk
  rcases Nat.le_total l.length 9 with h | h
  · rw [List.take_of_length_le h, List.take_of_length_le (by omega)]
  · rw [← hk, Nat.min_eq_left h]

theorem i64_or (a b : Nat) (ha : a < 256) (hb : b < 256) : bits .or .i64 (a : Int) ((b : Int) * 256) = ((a + b * 256 : Nat) : Int) := by
  have e : ((b : Int) * 256) = ((b * 256 : Nat) : Int) := by simp
  rw [e]
  show IntKind.i64.wrap ((BitVec.ofInt 64 (a : Int) ||| BitVec.ofInt 64 ((b * 256 : Nat) : Int)).toNat : Int) = _
  rw [BitVec.toNat_or, BitVec.toNat_ofInt, BitVec.toNat_ofInt]
  have h1 : ((a : Int) % (2 ^ 64 : Nat)).toNat = a := by omega
  have h2 : (((b * 256 : Nat) : Int) % (2 ^ 64 : Nat)).toNat = b * 256 := by omega
  rw [h1, h2, nat_join8' _ _ (by omega) ha, IntKind.wrap_i64]
  omega

theorem ltn_err (w : World) (b off cap : Nat) (l : List UInt8) (n s e : Nat) (hc : ∀ j u, (bv l)[j]? = some u → w.cell? ⟨b, off + j, none⟩ = some u) (h1 : l.length ≤ cap) (h2 : cap ≤ 9223372036854775807) (hf : frontS l = (n, s, e)) (he : ¬ e = 0) :
    Calls Try.prog 59 #[.slice (some ⟨b, off, none⟩) l.length cap] w fun o w' => o = .returned (.tuple #[.int .u64 0, .slice none 0 0, .bool false]) ∧ Below w.heap.size w w' := by
  obtain ⟨k, hk⟩ : ∃ k, (l.take 9).length = k := ⟨_, rfl⟩
  have hk2 : k = min l.length 9 := by rw [← hk, List.length_take, Nat.min_comm]
  have hrd : Rd w (.slice (some ⟨b, off, none⟩) k cap) (l.take 9) := by
    rw [take_nine hk]
    exact rd_take hc h1 h2 (by omega)
  obtain ⟨hn0, hs0, he2⟩ := frontS_err hf he
  subst hn0 hs0
  have htk := take_err w _ (l.take 9) e hrd (by rw [frontS_nine]; exact hf) he2
  obtain ⟨L, hL⟩ : ∃ L, l.length = L := ⟨_, rfl⟩
  rw [hL] at hk2 h1 ⊢
  have hmin : min (L : Int) 9 = (k : Int) := by omega
  have hmin2 : (if 9 < L then (9 : Int) else (L : Int)) = (k : Int) := by split <;> omega
  have hkI : (k : Int) ≤ (cap : Int) := by omega
  have hkI2 : (0 : Int) ≤ (k : Int) := by omega
  have he0 : ¬ (e : Int) = 0 := by omega
  have heb : ((e : Int) == 0) = false := by simpa using he0
  clear hk hk2 hrd hc hL
  go_enter Try.func59, Try.ntmps59
  go_wp2_with fail
  refine htk.mono ?_
  rintro o w1 ⟨rfl, hb⟩
  clear htk
  go_wp2
  go_ret3
  exact ⟨rfl, hb⟩

theorem ltn_ok (w : World) (b off cap : Nat) (l : List UInt8) (n s : Nat) (hc : ∀ j u, (bv l)[j]? = some u → w.cell? ⟨b, off + j, none⟩ = some u) (h1 : l.length ≤ cap) (h2 : cap ≤ 9223372036854775807) (hf : frontS l = (n, s, 0)) :
    Calls Try.prog 59 #[.slice (some ⟨b, off, none⟩) l.length cap] w fun o w' => ∃ off', o = .returned (.tuple #[.int .u64 (n : Int), .slice (some ⟨b, off', none⟩) (l.length - s) (cap - s), .bool true]) ∧ (∀ j u, (bv (l.drop s))[j]? = some u → w.cell? ⟨b, off' + j, none⟩ = some u) ∧ Below w.heap.size w w' := by
  obtain ⟨k, hk⟩ : ∃ k, (l.take 9).length = k := ⟨_, rfl⟩
  have hk2 : k = min l.length 9 := by rw [← hk, List.length_take, Nat.min_comm]
  have hrd : Rd w (.slice (some ⟨b, off, none⟩) k cap) (l.take 9) := by
    rw [take_nine hk]
    exact rd_take hc h1 h2 (by omega)
  obtain ⟨hs1, hs2, hs9, hnb⟩ := frontS_ok hf
  have htk := take_ok w _ (l.take 9) n s hrd (by rw [frontS_nine]; exact hf) (by omega)
  obtain ⟨off', ho1, ho2, _, ho4⟩ := rd_drop hc h1 (by unfold maxLen; omega) s hs2
  have HO : Hid (∀ j u, (bv (l.drop s))[j]? = some u → w.cell? ⟨b, off' + j, none⟩ = some u) := ho4
  obtain ⟨L, hL⟩ : ∃ L, l.length = L := ⟨_, rfl⟩
  rw [hL] at hk2 h1 hs2 ⊢
  obtain ⟨R, hR⟩ : ∃ R, ((l.take 9).drop s).length = R := ⟨_, rfl⟩
  have HR : Hid (((l.take 9).drop s).length = R) := hR
  have hR2 : R = k - s := by rw [← hR, List.length_drop, hk]
  have hmin : min (L : Int) 9 = (k : Int) := by omega
  have hmin2 : (if 9 < L then (9 : Int) else (L : Int)) = (k : Int) := by split <;> omega
  have hkI : (k : Int) ≤ (cap : Int) := by omega
  have hkI2 : (0 : Int) ≤ (k : Int) := by omega
  have hsub : (k : Int) - (R : Int) = (s : Int) := by omega
  have hk9 : (k : Int) ≤ 9 := by omega
  have hR9 : (R : Int) ≤ 9 := by omega
  have hR0 : (0 : Int) ≤ (R : Int) := by omega
  have hsI : (s : Int) ≤ (L : Int) := by omega
  have hsI0 : (0 : Int) ≤ (s : Int) := by omega
  have hLc : (L : Int) ≤ (cap : Int) := by omega
  have hcI : (cap : Int) ≤ 9223372036854775807 := by omega
  have HH : Hid (L ≤ cap) := h1
  clear hk hk2 hrd hc hL hf hR hR2 ho4
  go_enter Try.func59, Try.ntmps59
  go_wp2_with fail
  refine htk.mono ?_
  rintro o w1 ⟨x, rfl, ox, hb⟩
  obtain ⟨gx, cx, hx⟩ := ox.shape
  rw [HR.out] at hx
  subst hx
  have HB : Hid (Below w.heap.size w w1) := hb
  clear htk hb ox
  by_cases hcs : cap = s
  · have hof : off' = off := ho2 hcs
    have hcsI : (cap : Int) = (s : Int) := by omega
    subst hof hcs
    have hLs : L = cap := by have := HH.out; omega
    subst hLs
    clear ho1 ho2 hcsI hLc
    go_wp2_with fail
    go_quiet (fail)
    go_wp2
    go_ret3
    exact ⟨off', by simp, HO.out, below_drewN HB.out _⟩
  · have hof : off' = off + s := ho1 hcs
    have hcsI : ¬ (cap : Int) = (s : Int) := by omega
    subst hof
    clear ho1 ho2
    go_wp2_with fail
    go_quiet (fail)
    go_wp2
    go_ret3
    exact ⟨off + s, rfl, HO.out, below_drewN HB.out _⟩

/-- a version's cells -/
abbrev keyV (x : Value) (s k : Int) : Value := .agg #[x, .int .u64 s, .int .u8 k]

/-- what leaf.version answers -/
def VerPost (F : List UInt8) (w w' : World) (o : Ending) : Prop :=
  Below w.heap.size w w' ∧ match verS F with
    | none => ∃ a n c s k, o = .returned (.tuple #[keyV (.slice a n c) s k, .bool false])
    | some q => ∃ x, o = .returned (.tuple #[keyV x (q.2.1 : Int) (q.2.2 : Int), .bool true]) ∧ Rd w' x q.1 ∧ From w.heap.size x

set_option maxHeartbeats 2000000 in
theorem lver_any (w : World) (v : Value) (F : List UInt8) (hv : Rd w v F) (hl : F.length ≤ 100000) :
    Calls Try.prog 60 #[v] w fun o w' => VerPost F w w' o := by
  obtain ⟨ao, cap, rfl⟩ := hv.len
  have hb0 := below_box w #[.slice none 0 0, .int .u64 0, .int .u8 0] 37
  have br := box_new w (.slice none 0 0) (.int .u64 0) (.int .u8 0) 37
  obtain ⟨L, hL⟩ : ∃ L, F.length = L := ⟨_, rfl⟩
  have HL : Hid (F.length = L) := hL
  rw [hL] at hv hl ⊢
  have HV : Hid (Rd w (.slice ao L cap) F) := hv
  have hLI : (L : Int) ≤ 100000 := by omega
  have hLI0 : (0 : Int) ≤ (L : Int) := by omega
  clear hv hL
  by_cases h8 : L < 8
  · have h8I : (L : Int) - 8 < 0 := by omega
    have HE : Hid (verS F = none) := by show _ = _; unfold verS; rw [HL.out, if_pos h8]
    obtain ⟨c0, c1, c2, f0, f1, f2⟩ := br
    go_enter Try.func60, Try.ntmps60
    go_wp2
    refine bodyPost_ret (v := .tuple #[keyV (.slice none 0 0) 0 0, .bool false]) (by simp [results, Try.results60, go_sem, c0, c1, c2]) rfl ?_
    refine ⟨hb0, ?_⟩
    rw [HE.out]
    exact ⟨_, _, _, _, _, rfl⟩
  · have h8I : ¬ (L : Int) - 8 < 0 := by omega
    have h8b : decide ((L : Int) - 8 < 0) = false := decide_eq_false h8I
    obtain ⟨M, hM⟩ : ∃ M, L - 8 = M := ⟨_, rfl⟩
    have hMI : (L : Int) - 8 = (M : Int) := by omega
    have hM0 : ¬ (M : Int) < 0 := by omega
    have hln := lnum_any (w.alloc (.cells #[.slice none 0 0, .int .u64 0, .int .u8 0] 37)) M (by omega)
    have HM : Hid (F.length - 8 = M) := by show _ = _; rw [HL.out]; exact hM
    have HML : Hid (M ≤ 100000) := by show M ≤ _; omega
    have HVS : Hid (verS F = if (keyS (Mth.numB M ++ F)).2.2.2.2 = 0 then some ((keyS (Mth.numB M ++ F)).1, (keyS (Mth.numB M ++ F)).2.1, (keyS (Mth.numB M ++ F)).2.2.1) else none) := by
      show _ = _
      unfold verS
      rw [HL.out, if_neg h8, hM]
    clear hM h8I h8b
    go_enter Try.func60, Try.ntmps60
    go_wp2_with fail
    refine hln.mono ?_
    rintro e w1 ⟨v1, rfl, o1, hb1⟩
    obtain ⟨g1, c1, rfl⟩ := o1.shape
    have HB1 : Hid (Below w.heap.size w w1) := bsplit hb0 hb1
    have br1 := br.below hb1 (Nat.le_refl _)
    have hrl := rdl_two w1 _ _ (Mth.numB M) F o1.rd (HV.out.below HB1.out (Nat.le_refl _))
    have hba := below_box4 w1 (.cells #[.slice (some ⟨g1, 0, none⟩) (Mth.numB M).length c1, .slice ao L cap] 26)
    have hj := join_any _ _ _ hrl (by
      have := Mth.numL_bd M
      simp only [List.flatten_cons, List.flatten_nil, List.append_nil, List.length_append, Mth.numB_length, HL.out]
      omega)
    rw [show [Mth.numB M, F].flatten = Mth.numB M ++ F by simp] at hj
    obtain ⟨K, hK⟩ : ∃ K, Mth.numB M ++ F = K := ⟨_, rfl⟩
    have hKl : K.length ≤ 1000000 := by rw [← hK, List.length_append, Mth.numB_length, HL.out]; have := Mth.numL_bd M; omega
    rw [hK] at hj HVS
    have br2 := br1.below hba (Nat.le_refl _)
    have HB2 : Hid (Below w.heap.size w (w1.alloc (.cells #[.slice (some ⟨g1, 0, none⟩) (Mth.numB M).length c1, .slice ao L cap] 26))) := bsplit HB1.out hba
    clear hln hb1 o1 hrl hba hK br br1
    go_wp2_with fail
    refine hj.mono ?_
    rintro e w2 ⟨v2, rfl, o2, hb2⟩
    obtain ⟨g2, c2, rfl⟩ := o2.shape
    have HB3 : Hid (Below w.heap.size w w2) := bsplit HB2.out hb2
    have br3 := br2.below hb2 (Nat.le_refl _)
    have hrd := read_any w2 _ K o2.rd hKl
    clear hj hb2 o2 br2
    go_wp2_with fail
    refine hrd.mono ?_
    rintro o w3 ⟨x, y, rfl, rx, ry, fx, fy, hb3⟩
    have HB4 : Hid (Below w.heap.size w w3) := bsplit HB3.out hb3
    have br4 := br3.below hb3 (Nat.le_refl _)
    obtain ⟨⟨ku, ks, kk, kr, ke⟩, hks⟩ : ∃ q, keyS K = q := ⟨_, rfl⟩
    rw [hks] at rx ry HVS ⊢
    obtain ⟨xa, xc, rfl⟩ := rx.len
    obtain ⟨ya, yc, rfl⟩ := ry.len
    simp only at rx ry HVS ⊢
    have HSZ : Hid (w.heap.size + 1 ≤ w2.heap.size) := by show _ ≤ _; have := br3.lt; omega
    obtain ⟨XL, hXL⟩ : ∃ n, ku.length = n := ⟨_, rfl⟩
    rw [hXL] at rx fx ⊢
    have hbk := below_box w3 #[.slice xa XL xc, .int .u64 (ks : Int), .int .u8 (kk : Int)] 37
    have bk := box_new w3 (.slice xa XL xc) (.int .u64 (ks : Int)) (.int .u8 (kk : Int)) 37
    have br5 := br4.below hbk (Nat.le_refl _)
    have HB5 : Hid (Below w.heap.size w (w3.alloc (.cells #[.slice xa XL xc, .int .u64 (ks : Int), .int .u8 (kk : Int)] 37))) := bsplit HB4.out hbk
    have HX : Hid (Rd (w3.alloc (.cells #[.slice xa XL xc, .int .u64 (ks : Int), .int .u8 (kk : Int)] 37)) (.slice xa XL xc) ku ∧ From (w.heap.size + 1) (.slice xa XL xc)) := ⟨rx.below hbk (Nat.le_refl _), fun a n c e => by have := fx a n c e; have := HSZ.out; omega⟩
    obtain ⟨d0, d1, d2, _⟩ := bk
    obtain ⟨c0, c1', c2', f0, f1, f2⟩ := br5
    clear hrd rx ry fx fy hb3 br3 br4 hbk hks hXL
    by_cases hke : ke = 0
    · subst hke
      have HE : Hid (verS F = some (ku, ks, kk)) := by show _ = _; rw [HVS.out, if_pos rfl]
      go_wp2
      refine bodyPost_ret (v := .tuple #[keyV (.slice xa XL xc) (ks : Int) (kk : Int), .bool true]) (by simp [results, Try.results60, go_sem, c0, c1', c2']) rfl ?_
      refine ⟨below_store3 HB5.out (Nat.le_refl _) _ _ _, ?_⟩
      rw [HE.out]
      exact ⟨_, rfl, HX.out.1.stored3 HX.out.2 _ _ _, fun a n c e => by have := HX.out.2 a n c e; omega⟩
    · have hkeI : ¬ (ke : Int) = 0 := by omega
      have hkeb : ((ke : Int) == 0) = false := by simpa using hkeI
      have HE : Hid (verS F = none) := by show _ = _; rw [HVS.out, if_neg hke]
      go_wp2
      refine bodyPost_ret (v := .tuple #[keyV (.slice xa XL xc) (ks : Int) (kk : Int), .bool false]) (by simp [results, Try.results60, go_sem, c0, c1', c2']) rfl ?_
      refine ⟨below_store3 HB5.out (Nat.le_refl _) _ _ _, ?_⟩
      rw [HE.out]
      exact ⟨_, _, _, _, _, rfl⟩

theorem body_wraps {M1 x y : Nat} (h1 : M1 ≤ 1000000) (hx : x < 256) (hy : y < 256) : (IntKind.i64.wrap (M1 : Int) = (M1 : Int) ∧ wrap64 (M1 : Int) = (M1 : Int)) ∧ IntKind.i64.wrap ((y : Int) * 256) = (y : Int) * 256 ∧ wrap64 ((y : Int) * 256) = (y : Int) * 256 ∧ IntKind.i64.wrap (x : Int) = (x : Int) ∧ IntKind.i64.wrap (y : Int) = (y : Int) := by
  refine ⟨⟨?_, ?_⟩, ?_, ?_, ?_, ?_⟩
  · rw [IntKind.wrap_i64]; omega
  · unfold wrap64; omega
  · rw [IntKind.wrap_i64]; omega
  · unfold wrap64; omega
  · rw [IntKind.wrap_i64]; omega
  · rw [IntKind.wrap_i64]; omega

/-- what leaf.body answers -/
def BodPost (p : List UInt8) (b off cap : Nat) (w w' : World) (o : Ending) : Prop :=
  Below w.heap.size w w' ∧ match bodyS p with
    | none => o = .returned (.tuple #[.slice none 0 0, .bool false])
    | some q => o = .returned (.tuple #[.slice (some ⟨b, off, none⟩) q.length cap, .bool true])

set_option maxHeartbeats 2000000 in
theorem lbody_any (w : World) (b off cap : Nat) (p : List UInt8) (hc : ∀ j u, (bv p)[j]? = some u → w.cell? ⟨b, off + j, none⟩ = some u) (h1 : p.length ≤ cap) (h2 : cap ≤ 9223372036854775807) (hp : p.length ≤ 1000000) :
    Calls Try.prog 49 #[.slice (some ⟨b, off, none⟩) p.length cap] w fun o w' => BodPost p b off cap w w' o := by
  obtain ⟨L, hL⟩ : ∃ L, p.length = L := ⟨_, rfl⟩
  have HL : Hid (p.length = L) := hL
  rw [hL] at h1 hp ⊢
  have hLI : (L : Int) ≤ 1000000 := by omega
  have hLI0 : (0 : Int) ≤ (L : Int) := by omega
  by_cases hl2 : L < 2
  · have h8I : (L : Int) - 2 < 0 := by omega
    have HE : Hid (bodyS p = none) := by show _ = _; unfold bodyS; rw [HL.out, if_pos hl2]
    clear hc hL
    go_enter Try.func49, Try.ntmps49
    go_wp2
    go_ret2
    refine ⟨Below.refl _ _, ?_⟩
    rw [HE.out]
    rfl
  · obtain ⟨M, hM⟩ : ∃ M, L - 2 = M := ⟨_, rfl⟩
    obtain ⟨M1, hM1⟩ : ∃ M1, L - 1 = M1 := ⟨_, rfl⟩
    have g0 := hc M _ (bv_get p M (by omega))
    have g1 := hc M1 _ (bv_get p M1 (by omega))
    obtain ⟨x, hx⟩ : ∃ x, (p[M]'(by omega)).toNat = x := ⟨_, rfl⟩
    obtain ⟨y, hy⟩ : ∃ y, (p[M1]'(by omega)).toNat = y := ⟨_, rfl⟩
    have hxb := (p[M]'(by omega)).toNat_lt
    have hyb := (p[M1]'(by omega)).toNat_lt
    rw [hx] at g0 hxb
    rw [hy] at g1 hyb
    have hor := i64_or x y hxb hyb
    obtain ⟨C, hC⟩ : ∃ C, x + y * 256 = C := ⟨_, rfl⟩
    rw [hC] at hor
    have hcn : cntS p = C := by
      unfold cntS
      rw [HL.out, hM, hM1, List.getD_eq_getElem?_getD, List.getD_eq_getElem?_getD, List.getElem?_eq_getElem (by omega), List.getElem?_eq_getElem (by omega)]
      simp only [Option.getD_some]
      rw [hx, hy, hC]
    have hBS : bodyS p = if M < C * 2 then none else some (p.take (M - C * 2)) := by
      unfold bodyS
      rw [HL.out, if_neg hl2, hcn, hM]
    have HBS : Hid _ := hBS
    have hMI : (L : Int) - 2 = (M : Int) := by omega
    have hM0 : ¬ (M : Int) < 0 := by omega
    have hM0' : (0 : Int) ≤ (M : Int) := by omega
    have hMb : decide ((M : Int) < 0) = false := decide_eq_false hM0
    have hML : (M : Int) < (L : Int) := by omega
    have hM1L : (M1 : Int) < (L : Int) := by omega
    have hM10 : (0 : Int) ≤ (M1 : Int) := by omega
    have hM1I : (M : Int) + 1 = (M1 : Int) := by omega
    have hCI : (C : Int) ≤ 65536 := by omega
    have hCI0 : (0 : Int) ≤ (C : Int) := by omega
    have HIN : Hid (∀ k, k = M - C * 2 → (p.take k).length = k) := fun k hk => by rw [List.length_take, HL.out]; omega
    have HW : Hid (M1 ≤ 1000000 ∧ x < 256 ∧ y < 256) := ⟨by omega, hxb, hyb⟩
    have hlc : (L : Int) ≤ (cap : Int) := by omega
    clear hM hM1 hx hy hC hcn hc hL hBS
    go_enter Try.func49, Try.ntmps49
    by_cases hmc : M < C * 2
    · have hmI : (M : Int) - (C : Int) * 2 < 0 := by omega
      have HE : Hid (bodyS p = none) := by show _ = _; rw [HBS.out, if_pos hmc]
      go_wp2_with fail
      obtain ⟨⟨k1, k2⟩, k3, k4, k5, k6⟩ := body_wraps HW.out.1 HW.out.2.1 HW.out.2.2
      go_quiet (fail)
      clear k1 k2 k3 k4 k5 k6
      go_wp2
      go_ret2
      refine ⟨below_drewN (Below.refl _ _) _, ?_⟩
      rw [HE.out]
      rfl
    · obtain ⟨k, hk⟩ : ∃ k, M - C * 2 = k := ⟨_, rfl⟩
      have hmI : (M : Int) - (C : Int) * 2 = (k : Int) := by omega
      have hk0 : ¬ (k : Int) < 0 := by omega
      have hk0' : (0 : Int) ≤ (k : Int) := by omega
      have hkc : (k : Int) ≤ (cap : Int) := by omega
      have HE : Hid (bodyS p = some (p.take k)) := by show _ = _; rw [HBS.out, if_neg hmc, hk]
      have HKL : Hid ((p.take k).length = k) := HIN.out k hk.symm
      clear hk
      go_wp2_with fail
      obtain ⟨⟨k1, k2⟩, k3, k4, k5, k6⟩ := body_wraps HW.out.1 HW.out.2.1 HW.out.2.2
      go_quiet (fail)
      clear k1 k2 k3 k4 k5 k6
      go_wp2
      go_ret2
      refine ⟨below_drewN (Below.refl _ _) _, ?_⟩
      rw [HE.out]
      simp only
      rw [HKL.out]
      rfl

end Go.Proofs.Ytbmpnafbmgcniaa
