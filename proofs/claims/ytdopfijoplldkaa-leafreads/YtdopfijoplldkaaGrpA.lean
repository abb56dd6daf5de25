/- Several texts in one. -/
import Derived.Test.YtdopfijoplldkaaLfRdPure
import Derived.Test.YtdopfijoplldkaaGrpD
import Derived.Test.YtdopfijoplldkaaTake2
import Derived.BigQuiet
import Derived.Test.YtdopfijoplldkaaClone
import Derived.Test.YtdopfijoplldkaaSame
import Derived.Test.YtdopfijoplldkaaSrtPure
import Derived.Test.YtdopfijoplldkaaConvStr

/- leaf.takeNum, leaf.version, leaf.body. -/
namespace Go.Proofs.Ytdopfijoplldkaa
set_option maxRecDepth 20000
open Go.RowKit
set_option linter.unusedVariables false

theorem frontS_nine (l : List UInt8) : frontS (l.take 9) = frontS l := by
  cases l with
  | nil => rfl
  | cons f t =>
    have hb := sizeN_bd f.toNat f.toNat_lt
    rw [List.take_succ_cons]
    unfold frontS
    simp only
    have h1 : (f :: t.take 8) = (f :: t).take 9 := rfl
    rw [h1]
    have h2 : ((f :: t).take 9).length < sizeN f.toNat ↔ (f :: t).length < sizeN f.toNat := by rw [List.length_take]; omega
    have h3 : ((f :: t).take 9).take (sizeN f.toNat) = (f :: t).take (sizeN f.toNat) := by rw [List.take_take, Nat.min_eq_left (by omega)]
    rw [h3]
    by_cases hc : (f :: t).length < sizeN f.toNat
    · rw [if_pos (h2.2 hc), if_pos hc]
    · rw [if_neg (fun h => hc (h2.1 h)), if_neg hc]

theorem rd_take {w : World} {l : List UInt8} {b off cap k : Nat} (hc : ∀ j u, (bv l)[j]? = some u → w.cell? ⟨b, off + j, none⟩ = some u) (h1 : l.length ≤ cap) (h2 : cap ≤ 9223372036854775807) (hk : k ≤ l.length) : Rd w (.slice (some ⟨b, off, none⟩) k cap) (l.take k) := by
  have := rd_sub hc 0 k cap (by omega) (by unfold maxLen; omega) (by omega)
  rwa [List.drop_zero, Nat.add_zero] at this

theorem take_nine {l : List UInt8} {k : Nat} (hk : (l.take 9).length = k) : l.take 9 = l.take k := by
  rw [List.length_take] at hk
  rcases Nat.le_total l.length 9 with h | h
  · rw [List.take_of_length_le h, List.take_of_length_le (by omega)]
  · rw [← hk, Nat.min_eq_left h]

theorem i64_or (a b : Nat) (ha : a < 256) (hb : b < 256) : bits .or .i64 (a : Int) ((b : Int) * 256) = ((a + b * 256 : Nat) : Int) := by
  have e : ((b : Int) * 256) = ((b * 256 : Nat) : Int) := by simp
  rw [e]
  show IntKind.i64.wrap ((BitVec.ofInt 64 (a : Int) ||| BitVec.ofInt 64 ((b * 256 : Nat) : Int)).toNat : Int) = _
  rw [BitVec.toNat_or, BitVec.toNat_ofInt, BitVec.toNat_ofInt]
  have h1 : ((a : Int) % (2 ^ 64 : Nat)).toNat = a := by omega
  have h2 : (((b * 256 : Nat) : Int) % (2 ^ 64 : Nat)).toNat = b * 256 := by omega
  rw [h1, h2, nat_join8' _ _ (by omega) ha, IntKind.wrap_i64]
  omega

theorem ltn_err (w : World) (b off cap : Nat) (l : List UInt8) (n s e : Nat) (hc : ∀ j u, (bv l)[j]? = some u → w.cell? ⟨b, off + j, none⟩ = some u) (h1 : l.length ≤ cap) (h2 : cap ≤ 9223372036854775807) (hf : frontS l = (n, s, e)) (he : ¬ e = 0) :
    Calls Try.prog 59 #[.slice (some ⟨b, off, none⟩) l.length cap] w fun o w' => o = .returned (.tuple #[.int .u64 0, .slice none 0 0, .bool false]) ∧ Below w.heap.size w w' := by
  obtain ⟨k, hk⟩ : ∃ k, (l.take 9).length = k := ⟨_, rfl⟩
  have hk2 : k = min l.length 9 := by rw [← hk, List.length_take, Nat.min_comm]
  have hrd : Rd w (.slice (some ⟨b, off, none⟩) k cap) (l.take 9) := by
    rw [take_nine hk]
    exact rd_take hc h1 h2 (by omega)
  obtain ⟨hn0, hs0, he2⟩ := frontS_err hf he
  subst hn0 hs0
  have htk := take_err w _ (l.take 9) e hrd (by rw [frontS_nine]; exact hf) he2
  obtain ⟨L, hL⟩ : ∃ L, l.length = L := ⟨_, rfl⟩
  rw [hL] at hk2 h1 ⊢
  have hmin : min (L : Int) 9 = (k : Int) := by omega
  have hmin2 : (if 9 < L then (9 : Int) else (L : Int)) = (k : Int) := by split <;> omega
  have hkI : (k : Int) ≤ (cap : Int) := by omega
  have hkI2 : (0 : Int) ≤ (k : Int) := by omega
  have he0 : ¬ (e : Int) = 0 := by omega
  have heb : ((e : Int) == 0) = false := by simpa using he0
  clear hk hk2 hrd hc hL
  go_enter Try.func59, Try.ntmps59
  go_wp2_with fail
  refine htk.mono ?_
  rintro o w1 ⟨rfl, hb⟩
  clear htk
  go_wp2
  go_ret3
  exact ⟨rfl, hb⟩

theorem ltn_ok (w : World) (b off cap : Nat) (l : List UInt8) (n s : Nat) (hc : ∀ j u, (bv l)[j]? = some u → w.cell? ⟨b, off + j, none⟩ = some u) (h1 : l.length ≤ cap) (h2 : cap ≤ 9223372036854775807) (hf : frontS l = (n, s, 0)) :
    Calls Try.prog 59 #[.slice (some ⟨b, off, none⟩) l.length cap] w fun o w' => ∃ off', o = .returned (.tuple #[.int .u64 (n : Int), .slice (some ⟨b, off', none⟩) (l.length - s) (cap - s), .bool true]) ∧ (∀ j u, (bv (l.drop s))[j]? = some u → w.cell? ⟨b, off' + j, none⟩ = some u) ∧ Below w.heap.size w w' := by
  obtain ⟨k, hk⟩ : ∃ k, (l.take 9).length = k := ⟨_, rfl⟩
  have hk2 : k = min l.length 9 := by rw [← hk, List.length_take, Nat.min_comm]
  have hrd : Rd w (.slice (some ⟨b, off, none⟩) k cap) (l.take 9) := by
    rw [take_nine hk]
    exact rd_take hc h1 h2 (by omega)
  obtain ⟨hs1, hs2, hs9, hnb⟩ := frontS_ok hf
  have htk := take_ok w _ (l.take 9) n s hrd (by rw [frontS_nine]; exact hf) (by omega)
  obtain ⟨off', ho1, ho2, _, ho4⟩ := rd_drop hc h1 (by unfold maxLen; omega) s hs2
  have HO : Hid (∀ j u, (bv (l.drop s))[j]? = some u → w.cell? ⟨b, off' + j, none⟩ = some u) := ho4
  obtain ⟨L, hL⟩ : ∃ L, l.length = L := ⟨_, rfl⟩
  rw [hL] at hk2 h1 hs2 ⊢
  obtain ⟨R, hR⟩ : ∃ R, ((l.take 9).drop s).length = R := ⟨_, rfl⟩
  have HR : Hid (((l.take 9).drop s).length = R) := hR
  have hR2 : R = k - s := by rw [← hR, List.length_drop, hk]
  have hmin : min (L : Int) 9 = (k : Int) := by omega
  have hmin2 : (if 9 < L then (9 : Int) else (L : Int)) = (k : Int) := by split <;> omega
  have hkI : (k : Int) ≤ (cap : Int) := by omega
  have hkI2 : (0 : Int) ≤ (k : Int) := by omega
  have hsub : (k : Int) - (R : Int) = (s : Int) := by omega
  have hk9 : (k : Int) ≤ 9 := by omega
  have hR9 : (R : Int) ≤ 9 := by omega
  have hR0 : (0 : Int) ≤ (R : Int) := by omega
  have hsI : (s : Int) ≤ (L : Int) := by omega
  have hsI0 : (0 : Int) ≤ (s : Int) := by omega
  have hLc : (L : Int) ≤ (cap : Int) := by omega
  have hcI : (cap : Int) ≤ 9223372036854775807 := by omega
  have HH : Hid (L ≤ cap) := h1
  clear hk hk2 hrd hc hL hf hR hR2 ho4
  go_enter Try.func59, Try.ntmps59
  go_wp2_with fail
  refine htk.mono ?_
  rintro o w1 ⟨x, rfl, ox, hb⟩
  obtain ⟨gx, cx, hx⟩ := ox.shape
  rw [HR.out] at hx
  subst hx
  have HB : Hid (Below w.heap.size w w1) := hb
  clear htk hb ox
  by_cases hcs : cap = s
  · have hof : off' = off := ho2 hcs
    have hcsI : (cap : Int) = (s : Int) := by omega
    subst hof hcs
    have hLs : L = cap := by have := HH.out; omega
    subst hLs
    clear ho1 ho2 hcsI hLc
    go_wp2_with fail
    go_quiet (fail)
    go_wp2
    go_ret3
    exact ⟨off', by simp, HO.out, below_drewN HB.out _⟩
  · have hof : off' = off + s := ho1 hcs
    have hcsI : ¬ (cap : Int) = (s : Int) := by omega
    subst hof
    clear ho1 ho2
    go_wp2_with fail
    go_quiet (fail)
    go_wp2
    go_ret3
    exact ⟨off + s, rfl, HO.out, below_drewN HB.out _⟩

/-- a version's cells -/
abbrev keyV (x : Value) (s k : Int) : Value := .agg #[x, .int .u64 s, .int .u8 k]

/-- what leaf.version answers -/
def VerPost (F : List UInt8) (w w' : World) (o : Ending) : Prop :=
  Below w.heap.size w w' ∧ match verS F with
    | none => ∃ a n c s k, o = .returned (.tuple #[keyV (.slice a n c) s k, .bool false])
    | some q => ∃ x, o = .returned (.tuple #[keyV x (q.2.1 : Int) (q.2.2 : Int), .bool true]) ∧ Rd w' x q.1 ∧ From w.heap.size x

set_option maxHeartbeats 2000000 in
theorem lver_any (w : World) (v : Value) (F : List UInt8) (hv : Rd w v F) (hl : F.length ≤ 100000) :
    Calls Try.prog 60 #[v] w fun o w' => VerPost F w w' o := by
  obtain ⟨ao, cap, rfl⟩ := hv.len
  have hb0 := below_box w #[.slice none 0 0, .int .u64 0, .int .u8 0] 37
  have br := box_new w (.slice none 0 0) (.int .u64 0) (.int .u8 0) 37
  obtain ⟨L, hL⟩ : ∃ L, F.length = L := ⟨_, rfl⟩
  have HL : Hid (F.length = L) := hL
  rw [hL] at hv hl ⊢
  have HV : Hid (Rd w (.slice ao L cap) F) := hv
  have hLI : (L : Int) ≤ 100000 := by omega
  have hLI0 : (0 : Int) ≤ (L : Int) := by omega
  clear hv hL
  by_cases h8 : L < 8
  · have h8I : (L : Int) - 8 < 0 := by omega
    have HE : Hid (verS F = none) := by show _ = _; unfold verS; rw [HL.out, if_pos h8]
    obtain ⟨c0, c1, c2, f0, f1, f2⟩ := br
    go_enter Try.func60, Try.ntmps60
    go_wp2
    refine bodyPost_ret (v := .tuple #[keyV (.slice none 0 0) 0 0, .bool false]) (by simp [results, Try.results60, go_sem, c0, c1, c2]) rfl ?_
    refine ⟨hb0, ?_⟩
    rw [HE.out]
    exact ⟨_, _, _, _, _, rfl⟩
  · have h8I : ¬ (L : Int) - 8 < 0 := by omega
    have h8b : decide ((L : Int) - 8 < 0) = false := decide_eq_false h8I
    obtain ⟨M, hM⟩ : ∃ M, L - 8 = M := ⟨_, rfl⟩
    have hMI : (L : Int) - 8 = (M : Int) := by omega
    have hM0 : ¬ (M : Int) < 0 := by omega
    have hln := lnum_any (w.alloc (.cells #[.slice none 0 0, .int .u64 0, .int .u8 0] 37)) M (by omega)
    have HM : Hid (F.length - 8 = M) := by show _ = _; rw [HL.out]; exact hM
    have HML : Hid (M ≤ 100000) := by show M ≤ _; omega
    have HVS : Hid (verS F = if (keyS (Mth.numB M ++ F)).2.2.2.2 = 0 then some ((keyS (Mth.numB M ++ F)).1, (keyS (Mth.numB M ++ F)).2.1, (keyS (Mth.numB M ++ F)).2.2.1) else none) := by
      show _ = _
      unfold verS
      rw [HL.out, if_neg h8, hM]
    clear hM h8I h8b
    go_enter Try.func60, Try.ntmps60
    go_wp2_with fail
    refine hln.mono ?_
    rintro e w1 ⟨v1, rfl, o1, hb1⟩
    obtain ⟨g1, c1, rfl⟩ := o1.shape
    have HB1 : Hid (Below w.heap.size w w1) := bsplit hb0 hb1
    have br1 := br.below hb1 (Nat.le_refl _)
    have hrl := rdl_two w1 _ _ (Mth.numB M) F o1.rd (HV.out.below HB1.out (Nat.le_refl _))
    have hba := below_box4 w1 (.cells #[.slice (some ⟨g1, 0, none⟩) (Mth.numB M).length c1, .slice ao L cap] 26)
    have hj := join_any _ _ _ hrl (by
      have := Mth.numL_bd M
      simp only [List.flatten_cons, List.flatten_nil, List.append_nil, List.length_append, Mth.numB_length, HL.out]
      omega)
    rw [show [Mth.numB M, F].flatten = Mth.numB M ++ F by simp] at hj
    obtain ⟨K, hK⟩ : ∃ K, Mth.numB M ++ F = K := ⟨_, rfl⟩
    have hKl : K.length ≤ 1000000 := by rw [← hK, List.length_append, Mth.numB_length, HL.out]; have := Mth.numL_bd M; omega
    rw [hK] at hj HVS
    have br2 := br1.below hba (Nat.le_refl _)
    have HB2 : Hid (Below w.heap.size w (w1.alloc (.cells #[.slice (some ⟨g1, 0, none⟩) (Mth.numB M).length c1, .slice ao L cap] 26))) := bsplit HB1.out hba
    clear hln hb1 o1 hrl hba hK br br1
    go_wp2_with fail
    refine hj.mono ?_
    rintro e w2 ⟨v2, rfl, o2, hb2⟩
    obtain ⟨g2, c2, rfl⟩ := o2.shape
    have HB3 : Hid (Below w.heap.size w w2) := bsplit HB2.out hb2
    have br3 := br2.below hb2 (Nat.le_refl _)
    have hrd := read_any w2 _ K o2.rd hKl
    clear hj hb2 o2 br2
    go_wp2_with fail
    refine hrd.mono ?_
    rintro o w3 ⟨x, y, rfl, rx, ry, fx, fy, hb3⟩
    have HB4 : Hid (Below w.heap.size w w3) := bsplit HB3.out hb3
    have br4 := br3.below hb3 (Nat.le_refl _)
    obtain ⟨⟨ku, ks, kk, kr, ke⟩, hks⟩ : ∃ q, keyS K = q := ⟨_, rfl⟩
    rw [hks] at rx ry HVS ⊢
    obtain ⟨xa, xc, rfl⟩ := rx.len
    obtain ⟨ya, yc, rfl⟩ := ry.len
    simp only at rx ry HVS ⊢
    have HSZ : Hid (w.heap.size + 1 ≤ w2.heap.size) := by show _ ≤ _; have := br3.lt; omega
    obtain ⟨XL, hXL⟩ : ∃ n, ku.length = n := ⟨_, rfl⟩
    rw [hXL] at rx fx ⊢
    have hbk := below_box w3 #[.slice xa XL xc, .int .u64 (ks : Int), .int .u8 (kk : Int)] 37
    have bk := box_new w3 (.slice xa XL xc) (.int .u64 (ks : Int)) (.int .u8 (kk : Int)) 37
    have br5 := br4.below hbk (Nat.le_refl _)
    have HB5 : Hid (Below w.heap.size w (w3.alloc (.cells #[.slice xa XL xc, .int .u64 (ks : Int), .int .u8 (kk : Int)] 37))) := bsplit HB4.out hbk
    have HX : Hid (Rd (w3.alloc (.cells #[.slice xa XL xc, .int .u64 (ks : Int), .int .u8 (kk : Int)] 37)) (.slice xa XL xc) ku ∧ From (w.heap.size + 1) (.slice xa XL xc)) := ⟨rx.below hbk (Nat.le_refl _), fun a n c e => by have := fx a n c e; have := HSZ.out; omega⟩
    obtain ⟨d0, d1, d2, _⟩ := bk
    obtain ⟨c0, c1', c2', f0, f1, f2⟩ := br5
    clear hrd rx ry fx fy hb3 br3 br4 hbk hks hXL
    by_cases hke : ke = 0
    · subst hke
      have HE : Hid (verS F = some (ku, ks, kk)) := by show _ = _; rw [HVS.out, if_pos rfl]
      go_wp2
      refine bodyPost_ret (v := .tuple #[keyV (.slice xa XL xc) (ks : Int) (kk : Int), .bool true]) (by simp [results, Try.results60, go_sem, c0, c1', c2']) rfl ?_
      refine ⟨below_store3 HB5.out (Nat.le_refl _) _ _ _, ?_⟩
      rw [HE.out]
      exact ⟨_, rfl, HX.out.1.stored3 HX.out.2 _ _ _, fun a n c e => by have := HX.out.2 a n c e; omega⟩
    · have hkeI : ¬ (ke : Int) = 0 := by omega
      have hkeb : ((ke : Int) == 0) = false := by simpa using hkeI
      have HE : Hid (verS F = none) := by show _ = _; rw [HVS.out, if_neg hke]
      go_wp2
      refine bodyPost_ret (v := .tuple #[keyV (.slice xa XL xc) (ks : Int) (kk : Int), .bool false]) (by simp [results, Try.results60, go_sem, c0, c1', c2']) rfl ?_
      refine ⟨below_store3 HB5.out (Nat.le_refl _) _ _ _, ?_⟩
      rw [HE.out]
      exact ⟨_, _, _, _, _, rfl⟩

theorem body_wraps {M1 x y : Nat} (h1 : M1 ≤ 1000000) (hx : x < 256) (hy : y < 256) : (IntKind.i64.wrap (M1 : Int) = (M1 : Int) ∧ wrap64 (M1 : Int) = (M1 : Int)) ∧ IntKind.i64.wrap ((y : Int) * 256) = (y : Int) * 256 ∧ wrap64 ((y : Int) * 256) = (y : Int) * 256 ∧ IntKind.i64.wrap (x : Int) = (x : Int) ∧ IntKind.i64.wrap (y : Int) = (y : Int) := by
  refine ⟨⟨?_, ?_⟩, ?_, ?_, ?_, ?_⟩
  · rw [IntKind.wrap_i64]; omega
  · unfold wrap64; omega
  · rw [IntKind.wrap_i64]; omega
  · unfold wrap64; omega
  · rw [IntKind.wrap_i64]; omega
  · rw [IntKind.wrap_i64]; omega

/-- what leaf.body answers -/
def BodPost (p : List UInt8) (b off cap : Nat) (w w' : World) (o : Ending) : Prop :=
  Below w.heap.size w w' ∧ match bodyS p with
    | none => o = .returned (.tuple #[.slice none 0 0, .bool false])
    | some q => o = .returned (.tuple #[.slice (some ⟨b, off, none⟩) q.length cap, .bool true])

set_option maxHeartbeats 2000000 in
theorem lbody_any (w : World) (b off cap : Nat) (p : List UInt8) (hc : ∀ j u, (bv p)[j]? = some u → w.cell? ⟨b, off + j, none⟩ = some u) (h1 : p.length ≤ cap) (h2 : cap ≤ 9223372036854775807) (hp : p.length ≤ 1000000) :
    Calls Try.prog 49 #[.slice (some ⟨b, off, none⟩) p.length cap] w fun o w' => BodPost p b off cap w w' o := by
  obtain ⟨L, hL⟩ : ∃ L, p.length = L := ⟨_, rfl⟩
  have HL : Hid (p.length = L) := hL
  rw [hL] at h1 hp ⊢
  have hLI : (L : Int) ≤ 1000000 := by omega
  have hLI0 : (0 : Int) ≤ (L : Int) := by omega
  by_cases hl2 : L < 2
  · have h8I : (L : Int) - 2 < 0 := by omega
    have HE : Hid (bodyS p = none) := by show _ = _; unfold bodyS; rw [HL.out, if_pos hl2]
    clear hc hL
    go_enter Try.func49, Try.ntmps49
    go_wp2
    go_ret2
    refine ⟨Below.refl _ _, ?_⟩
    rw [HE.out]
    rfl
  · obtain ⟨M, hM⟩ : ∃ M, L - 2 = M := ⟨_, rfl⟩
    obtain ⟨M1, hM1⟩ : ∃ M1, L - 1 = M1 := ⟨_, rfl⟩
    have g0 := hc M _ (bv_get p M (by omega))
    have g1 := hc M1 _ (bv_get p M1 (by omega))
    obtain ⟨x, hx⟩ : ∃ x, (p[M]'(by omega)).toNat = x := ⟨_, rfl⟩
    obtain ⟨y, hy⟩ : ∃ y, (p[M1]'(by omega)).toNat = y := ⟨_, rfl⟩
    have hxb := (p[M]'(by omega)).toNat_lt
    have hyb := (p[M1]'(by omega)).toNat_lt
    rw [hx] at g0 hxb
    rw [hy] at g1 hyb
    have hor := i64_or x y hxb hyb
    obtain ⟨C, hC⟩ : ∃ C, x + y * 256 = C := ⟨_, rfl⟩
    rw [hC] at hor
    have hcn : cntS p = C := by
      unfold cntS
      rw [HL.out, hM, hM1, List.getD_eq_getElem?_getD, List.getD_eq_getElem?_getD, List.getElem?_eq_getElem (by omega), List.getElem?_eq_getElem (by omega)]
      simp only [Option.getD_some]
      rw [hx, hy, hC]
    have hBS : bodyS p = if M < C * 2 then none else some (p.take (M - C * 2)) := by
      unfold bodyS
      rw [HL.out, if_neg hl2, hcn, hM]
    have HBS : Hid _ := hBS
    have hMI : (L : Int) - 2 = (M : Int) := by omega
    have hM0 : ¬ (M : Int) < 0 := by omega
    have hM0' : (0 : Int) ≤ (M : Int) := by omega
    have hMb : decide ((M : Int) < 0) = false := decide_eq_false hM0
    have hML : (M : Int) < (L : Int) := by omega
    have hM1L : (M1 : Int) < (L : Int) := by omega
    have hM10 : (0 : Int) ≤ (M1 : Int) := by omega
    have hM1I : (M : Int) + 1 = (M1 : Int) := by omega
    have hCI : (C : Int) ≤ 65536 := by omega
    have hCI0 : (0 : Int) ≤ (C : Int) := by omega
    have HIN : Hid (∀ k, k = M - C * 2 → (p.take k).length = k) := fun k hk => by rw [List.length_take, HL.out]; omega
    have HW : Hid (M1 ≤ 1000000 ∧ x < 256 ∧ y < 256) := ⟨by omega, hxb, hyb⟩
    have hlc : (L : Int) ≤ (cap : Int) := by omega
    clear hM hM1 hx hy hC hcn hc hL hBS
    go_enter Try.func49, Try.ntmps49
    by_cases hmc : M < C * 2
    · have hmI : (M : Int) - (C : Int) * 2 < 0 := by omega
      have HE : Hid (bodyS p = none) := by show _ = _; rw [HBS.out, if_pos hmc]
      go_wp2_with fail
      obtain ⟨⟨k1, k2⟩, k3, k4, k5, k6⟩ := body_wraps HW.out.1 HW.out.2.1 HW.out.2.2
      go_quiet (fail)
      clear k1 k2 k3 k4 k5 k6
      go_wp2
      go_ret2
      refine ⟨below_drewN (Below.refl _ _) _, ?_⟩
      rw [HE.out]
      rfl
    · obtain ⟨k, hk⟩ : ∃ k, M - C * 2 = k := ⟨_, rfl⟩
      have hmI : (M : Int) - (C : Int) * 2 = (k : Int) := by omega
      have hk0 : ¬ (k : Int) < 0 := by omega
      have hk0' : (0 : Int) ≤ (k : Int) := by omega
      have hkc : (k : Int) ≤ (cap : Int) := by omega
      have HE : Hid (bodyS p = some (p.take k)) := by show _ = _; rw [HBS.out, if_neg hmc, hk]
      have HKL : Hid ((p.take k).length = k) := HIN.out k hk.symm
      clear hk
      go_wp2_with fail
      obtain ⟨⟨k1, k2⟩, k3, k4, k5, k6⟩ := body_wraps HW.out.1 HW.out.2.1 HW.out.2.2
      go_quiet (fail)
      clear k1 k2 k3 k4 k5 k6
      go_wp2
      go_ret2
      refine ⟨below_drewN (Below.refl _ _) _, ?_⟩
      rw [HE.out]
      simp only
      rw [HKL.out]
      rfl

end Go.Proofs.Ytdopfijoplldkaa

/- leaf.take. -/
namespace Go.Proofs.Ytdopfijoplldkaa
set_option maxRecDepth 20000
open Go.RowKit
set_option linter.unusedVariables false

/-- the bytes l lie in block b, from off on -/
def Cel (w : World) (b off : Nat) (l : List UInt8) : Prop := ∀ j u, (bv l)[j]? = some u → w.cell? ⟨b, off + j, none⟩ = some u

theorem Cel.below {w w' : World} {b off : Nat} {l : List UInt8} (h : Cel w b off l) (hb : Below w.heap.size w w') : Cel w' b off l := fun j u hu => by
  have h1 := h j u hu
  exact (hb.cell (p := ⟨b, off + j, none⟩) (World.block_lt_of_cell? w _ h1)).trans h1

theorem Cel.drop {w : World} {b off : Nat} {l : List UInt8} (h : Cel w b off l) (s : Nat) : Cel w b (off + s) (l.drop s) := fun j u hu => by
  rw [Nat.add_assoc]
  refine h (s + j) u ?_
  rw [← hu]
  simp [bv]

theorem Cel.rd {w : World} {b off cap k : Nat} {l : List UInt8} (h : Cel w b off l) (h1 : l.length ≤ cap) (h2 : cap ≤ 9223372036854775807) (hk : k ≤ l.length) : Rd w (.slice (some ⟨b, off, none⟩) k cap) (l.take k) := rd_take h h1 h2 hk

abbrev enZ : Value := .agg #[.slice none 0 0, .int .u64 0, .int .u8 0, .slice none 0 0]

/-- what leaf.take answers -/
def TakPost (A p : List UInt8) (b : Nat) (w w' : World) (o : Ending) : Prop :=
  Below w.heap.size w w' ∧ match takS A p with
    | none => o = .returned (.tuple #[enZ, .slice none 0 0, .slice none 0 0, .bool false])
    | some q => ∃ x y f off' cap', o = .returned (.tuple #[enV x (q.1.2.1 : Int) (q.1.2.2.1.toNat : Int) y, f, .slice (some ⟨b, off', none⟩) q.2.2.length cap', .bool true]) ∧ (Rd w' x q.1.1 ∧ From w.heap.size x) ∧ (Rd w' y q.1.2.2.2 ∧ From w.heap.size y) ∧ (Rd w' f q.2.1 ∧ From w.heap.size f) ∧ Cel w b off' q.2.2 ∧ q.2.2.length < cap' ∧ cap' ≤ 9223372036854775807

theorem u64_len (n : Nat) (h : n ≤ 1000000) : IntKind.u64.wrap (n : Int) = (n : Int) := by rw [IntKind.wrap_u64]; omega

theorem keyS_kind (l : List UInt8) : (keyS l).2.2.1 < 256 := by
  unfold keyS
  split
  · split
    · split
      · rename_i a0 _ _ _ _ _ _ _ _ _ _; exact a0.toNat_lt
      · exact Nat.zero_lt_succ _
    · exact Nat.zero_lt_succ _
  · exact Nat.zero_lt_succ _

theorem verS_kind {F : List UInt8} {q : List UInt8 × Nat × Nat} (h : verS F = some q) : q.2.2 < 256 := by
  unfold verS at h
  split at h
  · cases h
  · split at h
    · cases h; exact keyS_kind _
    · cases h

theorem takS_bad {A p : List UInt8} {n s e : Nat} (hf : frontS p = (n, s, e)) (h : ¬ e = 0 ∨ A.length < n) : takS A p = none := by
  unfold takS; rw [hf, if_neg]; simp only; omega
theorem takS_good {A p : List UInt8} {n s : Nat} (hf : frontS p = (n, s, 0)) (h : n ≤ A.length) : takS A p = tak1 A (p.drop s) n := by
  unfold takS; rw [hf, if_pos]; exact ⟨rfl, h⟩
theorem tak1_bad {A p : List UInt8} {n1 n s e : Nat} (hf : frontS p = (n, s, e)) (h : ¬ e = 0) : tak1 A p n1 = none := by
  unfold tak1; rw [hf, if_neg]; exact h
theorem tak1_good {A p : List UInt8} {n1 n s : Nat} (hf : frontS p = (n, s, 0)) : tak1 A p n1 = tak2 A (p.drop s) n1 n := by
  unfold tak1; rw [hf, if_pos rfl]
theorem tak2_bad {A p : List UInt8} {n1 n2 n s e : Nat} (hf : frontS p = (n, s, e)) (h : ¬ e = 0) : tak2 A p n1 n2 = none := by
  unfold tak2; rw [hf, if_neg]; exact h
theorem tak2_good {A p : List UInt8} {n1 n2 n s : Nat} (hf : frontS p = (n, s, 0)) : tak2 A p n1 n2 = tak3 A (p.drop s) n1 n2 n := by
  unfold tak2; rw [hf, if_pos rfl]
theorem tak3_bad {A p : List UInt8} {n1 n2 n3 : Nat} (h : p.length < n2 ∨ p.length - n2 < n3) : tak3 A p n1 n2 n3 = none := by
  unfold tak3; rw [if_neg]; omega
theorem tak3_none {A p : List UInt8} {n1 n2 n3 : Nat} (h2 : n2 ≤ p.length) (h3 : n3 ≤ p.length - n2) (hv : verS (A.take n1 ++ p.take n2) = none) : tak3 A p n1 n2 n3 = none := by
  unfold tak3; rw [if_pos ⟨h2, h3⟩, hv]
theorem tak3_some {A p F : List UInt8} {n1 n2 n3 : Nat} {q : List UInt8 × Nat × Nat} (h2 : n2 ≤ p.length) (h3 : n3 ≤ p.length - n2) (hF : A.take n1 ++ p.take n2 = F) (hv : verS F = some q) : tak3 A p n1 n2 n3 = some ((q.1, q.2.1, UInt8.ofNat q.2.2, (p.drop n2).take n3), F, (p.drop n2).drop n3) := by
  unfold tak3; rw [if_pos ⟨h2, h3⟩, hF, hv]

theorem rd_front {w : World} {a : Option Addr} {n c k : Nat} {l : List UInt8} (h : Rd w (.slice a n c) l) (hk : k ≤ l.length) : Rd w (.slice a k c) (l.take k) := by
  rcases h with ⟨e, rfl⟩ | ⟨b, off, cap, e, h1, h2, h3⟩
  · cases e
    obtain rfl : k = 0 := by simpa using hk
    exact .inl ⟨rfl, rfl⟩
  · cases e
    have := rd_sub h3 0 k c (by omega) h2 (by omega)
    rwa [List.drop_zero, Nat.add_zero] at this

/-- three cells, four stored elsewhere -/
theorem Box.stored4 {w : World} {b : Nat} {v0 v1 v2 : Value} (h : Box w b v0 v1 v2) (b' : Nat) (hne : b ≠ b') (u0 u1 u2 u3 : Value) : Box ((((w.setCell ⟨b', 0, none⟩ u0).setCell ⟨b', 1, none⟩ u1).setCell ⟨b', 2, none⟩ u2).setCell ⟨b', 3, none⟩ u3) b v0 v1 v2 :=
  (((h.other ⟨b', 0, none⟩ hne u0).other ⟨b', 1, none⟩ hne u1).other ⟨b', 2, none⟩ hne u2).other ⟨b', 3, none⟩ hne u3

theorem Cel.back {w w' : World} {b off : Nat} {l : List UInt8} (h : Cel w' b off l) (hb : Below w.heap.size w w') (hbl : b < w.heap.size) : Cel w b off l := fun j u hu => (hb.cell (p := ⟨b, off + j, none⟩) hbl).symm.trans (h j u hu)

set_option maxHeartbeats 8000000 in
theorem ltake_any (w : World) (av : Value) (A p : List UInt8) (b off cap : Nat) (ha : Rd w av A) (hAl : A.length ≤ 1000) (hc : Cel w b off p) (h1 : p.length < cap) (h2 : cap ≤ 9223372036854775807) (hp : p.length ≤ 90000) (hbw : b < w.heap.size) :
    Calls Try.prog 50 #[av, .slice (some ⟨b, off, none⟩) p.length cap] w fun o w' => TakPost A p b w w' o := by
  obtain ⟨aa, ac, rfl, ha1, ha2, ha3⟩ := Rd.spots ha
  clear ha3
  obtain ⟨AL, hAL⟩ : ∃ n, A.length = n := ⟨_, rfl⟩
  have HAL : Hid (A.length = AL) := hAL
  rw [hAL] at hAl ha1 ha ⊢
  have HA : Hid (Rd w (.slice aa AL ac) A) := ha
  have hb0 := below_box4 w (.cells #[.slice none 0 0, .int .u64 0, .int .u8 0, .slice none 0 0] 45)
  have BR0 := box4f_new w (.slice none 0 0) (.int .u64 0) (.int .u8 0) (.slice none 0 0) 45
  have HB0 : Hid (Below w.heap.size w (w.alloc (.cells #[.slice none 0 0, .int .u64 0, .int .u8 0, .slice none 0 0] 45))) := hb0
  have HC : Hid (Cel w b off p) := hc
  have HBW : Hid (b < w.heap.size) := hbw
  have HL1 : Hid (p.length < cap ∧ cap ≤ 9223372036854775807 ∧ p.length ≤ 90000) := ⟨h1, h2, hp⟩
  obtain ⟨⟨n1, s1, e1⟩, hf1⟩ : ∃ y, frontS p = y := ⟨_, rfl⟩
  have HF1 : Hid (frontS p = (n1, s1, e1)) := hf1
  have hAI : (AL : Int) ≤ 100000 := by omega
  have hacI : (AL : Int) ≤ (ac : Int) := by omega
  have HWA : Hid (AL ≤ 1000000) := by show AL ≤ _; omega
  clear hAL ha hb0 hf1 hbw
  go_enter Try.func50, Try.ntmps50
  by_cases he1 : e1 = 0
  · have HF1' : Hid (frontS p = (n1, s1, 0)) := by show _ = _; rw [HF1.out, he1]
    have htk := ltn_ok (w.alloc (.cells #[.slice none 0 0, .int .u64 0, .int .u8 0, .slice none 0 0] 45)) b off cap p n1 s1 (hc.below HB0.out) (by omega) h2 HF1'.out
    obtain ⟨hs1, hs2, hs9, hnb⟩ := frontS_ok HF1'.out
    clear hc h1 h2 hp he1
    go_wp2_with fail
    refine htk.mono ?_
    rintro o w1 ⟨off1, rfl, hc1, hb1⟩
    rw [← List.length_drop]
    have HB1 : Hid (Below w.heap.size w w1) := bsplit HB0.out hb1
    have BR1 := BR0.below hb1 (Nat.le_refl _)
    obtain ⟨p1, hp1⟩ : ∃ l, p.drop s1 = l := ⟨_, rfl⟩
    have hp1l : p1.length = p.length - s1 := by rw [← hp1, List.length_drop]
    rw [hp1] at hc1 ⊢
    have HP1 : Hid (p.drop s1 = p1) := hp1
    have HC1 : Hid (Cel w1 b off1 p1) := Cel.below hc1 hb1
    obtain ⟨cap1, hcap1⟩ : ∃ c, cap - s1 = c := ⟨_, rfl⟩
    rw [hcap1]
    have HL2 : Hid (p1.length < cap1 ∧ cap1 ≤ 9223372036854775807 ∧ p1.length ≤ 90000) := by have := HL1.out; exact ⟨by omega, by omega, by omega⟩
    clear htk hb1 hc1 BR0 hp1 hp1l hcap1 hs2
    have hwA := u64_len AL HWA.out
    by_cases hnA : n1 ≤ AL
    · have hnI : ¬ (AL : Int) < (n1 : Int) := by omega
      have hnb2 : decide ((AL : Int) < (n1 : Int)) = false := decide_eq_false hnI
      have hn1I : (n1 : Int) ≤ (AL : Int) := by omega
      have HU2 : Hid (takS A p = tak1 A p1 n1) := by show _ = _; rw [takS_good HF1'.out (by rw [HAL.out]; exact hnA), HP1.out]
      obtain ⟨⟨n2, s2, e2⟩, hf2⟩ : ∃ y, frontS p1 = y := ⟨_, rfl⟩
      have HF2 : Hid (frontS p1 = (n2, s2, e2)) := hf2
      clear hf2
      by_cases he2 : e2 = 0
      · have HF2' : Hid (frontS p1 = (n2, s2, 0)) := by show _ = _; rw [HF2.out, he2]
        have htk := ltn_ok w1 b off1 cap1 p1 n2 s2 HC1.out (by have := HL2.out; omega) HL2.out.2.1 HF2'.out
        obtain ⟨hs3, hs4, hs10, hnb3⟩ := frontS_ok HF2'.out
        clear he2
        go_wp2_with fail
        refine htk.mono ?_
        rintro o w2 ⟨off2, rfl, hc2, hb2⟩
        rw [← List.length_drop]
        have HB2 : Hid (Below w.heap.size w w2) := bsplit HB1.out hb2
        have BR2 := BR1.below hb2 (Nat.le_refl _)
        obtain ⟨p2, hp2⟩ : ∃ l, p1.drop s2 = l := ⟨_, rfl⟩
        have hp2l : p2.length = p1.length - s2 := by rw [← hp2, List.length_drop]
        rw [hp2] at hc2 ⊢
        have HU3 : Hid (takS A p = tak2 A p2 n1 n2) := by show _ = _; rw [HU2.out, tak1_good HF2'.out, hp2]
        have HC2 : Hid (Cel w2 b off2 p2) := Cel.below hc2 hb2
        obtain ⟨cap2, hcap2⟩ : ∃ c, cap1 - s2 = c := ⟨_, rfl⟩
        rw [hcap2]
        have HL3 : Hid (p2.length < cap2 ∧ cap2 ≤ 9223372036854775807 ∧ p2.length ≤ 90000) := by have := HL2.out; exact ⟨by omega, by omega, by omega⟩
        clear htk hb2 hc2 BR1 hp2 hp2l hcap2 hs4
        obtain ⟨⟨n3, s3, e3⟩, hf3⟩ : ∃ y, frontS p2 = y := ⟨_, rfl⟩
        have HF3 : Hid (frontS p2 = (n3, s3, e3)) := hf3
        clear hf3
        by_cases he3 : e3 = 0
        · have HF3' : Hid (frontS p2 = (n3, s3, 0)) := by show _ = _; rw [HF3.out, he3]
          have htk := ltn_ok w2 b off2 cap2 p2 n3 s3 HC2.out (by have := HL3.out; omega) HL3.out.2.1 HF3'.out
          obtain ⟨hs5, hs6, hs11, hnb5⟩ := frontS_ok HF3'.out
          clear he3
          go_wp2_with fail
          refine htk.mono ?_
          rintro o w3 ⟨off3, rfl, hc3, hb3⟩
          rw [← List.length_drop]
          have HB3 : Hid (Below w.heap.size w w3) := bsplit HB2.out hb3
          have BR3 := BR2.below hb3 (Nat.le_refl _)
          obtain ⟨p3, hp3⟩ : ∃ l, p2.drop s3 = l := ⟨_, rfl⟩
          have hp3l : p3.length = p2.length - s3 := by rw [← hp3, List.length_drop]
          rw [hp3] at hc3 ⊢
          have HU4 : Hid (takS A p = tak3 A p3 n1 n2 n3) := by show _ = _; rw [HU3.out, tak2_good HF3'.out, hp3]
          have HC3 : Hid (Cel w3 b off3 p3) := Cel.below hc3 hb3
          obtain ⟨cap3, hcap3⟩ : ∃ c, cap2 - s3 = c := ⟨_, rfl⟩
          obtain ⟨L3, hL3⟩ : ∃ n, p3.length = n := ⟨_, rfl⟩
          rw [hcap3, hL3]
          have HP3 : Hid (p3.length = L3) := hL3
          have hl3 : L3 < cap3 ∧ cap3 ≤ 9223372036854775807 ∧ L3 ≤ 90000 := by have := HL3.out; exact ⟨by omega, by omega, by omega⟩
          have HL4 : Hid (L3 < cap3 ∧ cap3 ≤ 9223372036854775807 ∧ L3 ≤ 90000) := hl3
          have hL3I : (L3 : Int) ≤ 100000 := by omega
          have hwL := u64_len L3 (by omega)
          clear htk hb3 hc3 BR2 hp3 hp3l hcap3 hs6 hL3 hl3
          by_cases hn2 : n2 ≤ L3
          · have hn2I : ¬ (L3 : Int) < (n2 : Int) := by omega
            have hn2b : decide ((L3 : Int) < (n2 : Int)) = false := decide_eq_false hn2I
            obtain ⟨D, hD⟩ : ∃ D, L3 - n2 = D := ⟨_, rfl⟩
            have hDI : (L3 : Int) - (n2 : Int) = (D : Int) := by omega
            have hwD := u64_len D (by have := HL4.out; omega)
            by_cases hn3 : n3 ≤ D
            · have hn3I : ¬ (D : Int) < (n3 : Int) := by omega
              have hn3b : decide ((D : Int) < (n3 : Int)) = false := decide_eq_false hn3I
              obtain ⟨F, hF⟩ : ∃ F, A.take n1 ++ p3.take n2 = F := ⟨_, rfl⟩
              have hFl : F.length ≤ 100000 := by rw [← hF, List.length_append, List.length_take, List.length_take, HAL.out, HP3.out]; have := HL4.out; omega
              have HF : Hid (A.take n1 ++ p3.take n2 = F) := hF
              have hrl := rdl_two w3 (.slice aa n1 ac) (.slice (some ⟨b, off3, none⟩) n2 cap3) (A.take n1) (p3.take n2) (rd_front (HA.out.below HB3.out (Nat.le_refl _)) (by rw [HAL.out]; exact hnA)) (Cel.rd HC3.out (by rw [HP3.out]; have := HL4.out; omega) HL4.out.2.1 (by rw [HP3.out]; exact hn2))
              have hj := join_any _ _ _ hrl.drew (by
                simp only [List.flatten_cons, List.flatten_nil, List.append_nil]
                rw [HF.out]
                omega)
              rw [show [A.take n1, p3.take n2].flatten = F by simp [← hF]] at hj
              have hba := below_box4 w3 (.cells #[.slice aa n1 ac, .slice (some ⟨b, off3, none⟩) n2 cap3] 26)
              have HB4 : Hid (Below w.heap.size w (w3.alloc (.cells #[.slice aa n1 ac, .slice (some ⟨b, off3, none⟩) n2 cap3] 26)).drew) := (bsplit HB3.out hba).drew
              have BR4 := BR3.below (hba.drew) (Nat.le_refl _)
              have HSZ4 : Hid (w.heap.size + 1 ≤ (w3.alloc (.cells #[.slice aa n1 ac, .slice (some ⟨b, off3, none⟩) n2 cap3] 26)).drew.heap.size) := by show _ ≤ _; have := BR4.bx.lt; omega
              have k0 : (0 : Int) ≤ (n1 : Int) := by omega
              have k1 : (n1 : Int) ≤ (ac : Int) := by omega
              have k2 : (0 : Int) ≤ (n2 : Int) := by omega
              have k3 : (n2 : Int) ≤ (cap3 : Int) := by have := HL4.out; omega
              clear hrl hba hF BR3
              go_wp2_with fail
              go_region_held3 (fun _ => True) (exact trivial)
                (first
                  | (go_at_call 36; refine hj.mono ?_; rintro e w4 ⟨vf, rfl, of, hb4⟩
                     obtain ⟨gf, cf, hvf⟩ := of.shape
                     subst hvf
                     have HB5 : Hid (Below w.heap.size w w4) := bsplit HB4.out hb4
                     have BR5 := BR4.below hb4 (Nat.le_refl _)
                     have HOF : Hid (Rd w4 (.slice (some ⟨gf, 0, none⟩) F.length cf) F ∧ w.heap.size + 1 ≤ gf) := ⟨of.rd, Nat.le_trans HSZ4.out of.lt.1⟩
                     have HSZ5 : Hid (w.heap.size + 1 ≤ w4.heap.size) := Nat.le_trans HSZ4.out hb4.size
                     have hvr := lver_any w4 _ F of.rd hFl
                     clear hb4 of)
                  | fail)
              clear hj BR4 k0 k1
              go_wp2_with fail
              refine hvr.mono ?_
              rintro o w5 ⟨hb5, hq⟩
              have HB6 : Hid (Below w.heap.size w w5) := bsplit HB5.out hb5
              have BR6 := BR5.below hb5 (Nat.le_refl _)
              have HOF5 : Hid (Rd w5 (.slice (some ⟨gf, 0, none⟩) F.length cf) F) := HOF.out.1.below hb5 (Nat.le_refl _)
              have HSZ6 : Hid (w.heap.size + 1 ≤ w5.heap.size) := Nat.le_trans HSZ5.out hb5.size
              clear hvr hb5 BR5
              cases hvs : verS F with
              | none =>
                rw [hvs] at hq
                obtain ⟨kxa, kxn, kxc, ks, kk, rfl⟩ := hq
                have HN : Hid (takS A p = none) := by show _ = _; rw [HU4.out]; exact tak3_none (by rw [HP3.out]; exact hn2) (by rw [HP3.out, hD]; exact hn3) (by rw [HF.out]; exact hvs)
                have hbk := below_box w5 #[.slice kxa kxn kxc, .int .u64 ks, .int .u8 kk] 37
                have HB7 : Hid (Below w.heap.size w (w5.alloc (.cells #[.slice kxa kxn kxc, .int .u64 ks, .int .u8 kk] 37))) := bsplit HB6.out hbk
                have BR7 := BR6.below hbk (Nat.le_refl _)
                clear hvs hbk BR6
                obtain ⟨⟨c0, c1, c2, c3⟩, f0, f1, f2, f3⟩ := BR7
                go_wp2
                refine bodyPost_ret (v := .tuple #[enZ, .slice none 0 0, .slice none 0 0, .bool false]) (by simp [results, Try.results50, go_sem, c0, c1, c2, c3]) rfl ?_
                refine ⟨below_store4 HB7.out (Nat.le_refl _) _ _ _ _, ?_⟩
                rw [HN.out]
              | some q =>
                rw [hvs] at hq
                obtain ⟨kx, rfl, rkx, fkx⟩ := hq
                have hkd := verS_kind hvs
                have HN : Hid (takS A p = some ((q.1, q.2.1, UInt8.ofNat q.2.2, (p3.drop n2).take n3), F, (p3.drop n2).drop n3)) := by show _ = _; rw [HU4.out]; exact tak3_some (by rw [HP3.out]; exact hn2) (by rw [HP3.out, hD]; exact hn3) HF.out hvs
                obtain ⟨ku, ks, kk⟩ := q
                simp only at rkx hkd HN ⊢
                have HKD : Hid ((UInt8.ofNat kk).toNat = kk) := by show _ = _; simp; omega
                obtain ⟨kxa, kxc, rfl⟩ := rkx.len
                obtain ⟨KL, hKL⟩ : ∃ n, ku.length = n := ⟨_, rfl⟩
                rw [hKL] at rkx fkx ⊢
                have hbk := below_box w5 #[.slice kxa KL kxc, .int .u64 (ks : Int), .int .u8 (kk : Int)] 37
                have HB7 : Hid (Below w.heap.size w (w5.alloc (.cells #[.slice kxa KL kxc, .int .u64 (ks : Int), .int .u8 (kk : Int)] 37)).drew) := (bsplit HB6.out hbk).drew
                have BR7 := BR6.below hbk.drew (Nat.le_refl _)
                have BK := (box_new w5 (.slice kxa KL kxc) (.int .u64 (ks : Int)) (.int .u8 (kk : Int)) 37).drew
                have HKX : Hid (Rd (w5.alloc (.cells #[.slice kxa KL kxc, .int .u64 (ks : Int), .int .u8 (kk : Int)] 37)).drew (.slice kxa KL kxc) ku ∧ From (w.heap.size + 1) (.slice kxa KL kxc)) := ⟨(rkx.below hbk (Nat.le_refl _)).drew, fun a n c e => Nat.le_trans HSZ5.out (fkx a n c e)⟩
                have HOF6 : Hid (Rd (w5.alloc (.cells #[.slice kxa KL kxc, .int .u64 (ks : Int), .int .u8 (kk : Int)] 37)).drew (.slice (some ⟨gf, 0, none⟩) F.length cf) F) := (HOF5.out.below hbk (Nat.le_refl _)).drew
                obtain ⟨c4, hc4⟩ : ∃ c, cap3 - n2 = c := ⟨_, rfl⟩
                have hl4 : D < c4 ∧ c4 ≤ 9223372036854775807 := by have := HL4.out; omega
                have HL5 : Hid (D < c4 ∧ c4 ≤ 9223372036854775807 ∧ D ≤ 90000 ∧ L3 - n2 = D) := ⟨hl4.1, hl4.2, by have := HL4.out; omega, hD⟩
                have HC6 : Hid (Cel w b (off3 + n2) (p3.drop n2)) := (Cel.back HC3.out HB3.out HBW.out).drop n2
                have HC7 : Hid (Cel (w5.alloc (.cells #[.slice kxa KL kxc, .int .u64 (ks : Int), .int .u8 (kk : Int)] 37)).drew b (off3 + n2) (p3.drop n2)) := HC6.out.below HB7.out
                have HPD : Hid ((p3.drop n2).length = D) := by show _ = _; rw [List.length_drop, HP3.out, hD]
                have hcl := clone_any (w5.alloc (.cells #[.slice kxa KL kxc, .int .u64 (ks : Int), .int .u8 (kk : Int)] 37)).drew (.slice (some ⟨b, off3 + n2, none⟩) n3 c4) ((p3.drop n2).take n3) (Cel.rd HC7.out (by rw [HPD.out]; omega) hl4.2 (by rw [HPD.out]; exact hn3)).arg (by rw [List.length_take, HPD.out]; have := HL5.out; omega)
                obtain ⟨VL, hVL⟩ : ∃ l, (p3.drop n2).take n3 = l := ⟨_, rfl⟩
                have hVl : VL.length = n3 := by rw [← hVL, List.length_take, HPD.out]; omega
                have HVL : Hid ((p3.drop n2).take n3 = VL ∧ VL.length = n3) := ⟨hVL, hVl⟩
                rw [hVL] at hcl HN
                have k4 : ¬ cap3 = n2 := by omega
                have k5 : ¬ (cap3 : Int) = (n2 : Int) := by omega
                have k6 : (L3 : Int) ≤ (cap3 : Int) := by have := HL4.out; omega
                have k7 : (n2 : Int) ≤ (L3 : Int) := by omega
                have k8 : (n3 : Int) ≤ (D : Int) := by omega
                have k9 : (D : Int) ≤ (c4 : Int) := by omega
                have k10 : (n3 : Int) ≤ (c4 : Int) := by omega
                have k11 : ¬ c4 = n3 := by omega
                have k12 : ¬ (c4 : Int) = (n3 : Int) := by omega
                have k13 : (0 : Int) ≤ (n3 : Int) := by omega
                have HSZ7 : Hid (w.heap.size + 1 ≤ (w5.alloc (.cells #[.slice kxa KL kxc, .int .u64 (ks : Int), .int .u8 (kk : Int)] 37)).drew.heap.size) := by show _ ≤ _; have := HSZ6.out; simp; omega
                have HNE : Hid (w5.heap.size ≠ w.heap.size) := by show _ ≠ _; have := HSZ6.out; omega
                have BK' := BK
                obtain ⟨d0, d1, d2, _⟩ := box_new w5 (.slice kxa KL kxc) (.int .u64 (ks : Int)) (.int .u8 (kk : Int)) 37
                clear hvs hbk BR6 rkx fkx hKL hkd hl4 HF1 HF2 HF3 hVL hVl
                go_wp2_with fail
                go_region_held3 (fun w' => w'.cell? ⟨w5.heap.size, 0, none⟩ = some (.slice kxa KL kxc) ∧ w'.cell? ⟨w5.heap.size, 1, none⟩ = some (.int .u64 (ks : Int)) ∧ w'.cell? ⟨w5.heap.size, 2, none⟩ = some (.int .u8 (kk : Int)))
                  (first | with_reducible exact ⟨b7.c0, b7.c1, b7.c2⟩ | with_reducible exact ⟨b6.c0, b6.c1, b6.c2⟩ | exact ⟨BK.c0, BK.c1, BK.c2⟩)
                  (first
                    | (go_at_call 61; refine hcl.mono ?_; rintro e w6 ⟨y, rfl, oy, hb6⟩
                       obtain ⟨ya, yc, hy⟩ := oy.rd.len
                       rw [HVL.out.2] at hy
                       subst hy
                       have HB8 : Hid (Below w.heap.size w w6) := bsplit HB7.out hb6
                       obtain ⟨⟨c0, c1, c2, c3⟩, f0, f1, f2, f3⟩ := BR7.below hb6 (Nat.le_refl _)
                       have b6 := BK.below hb6 (Nat.le_refl _)
                       have b7 := b6.stored4 w.heap.size HNE.out (.slice kxa KL kxc) (.int .u64 (ks : Int)) (.int .u8 (kk : Int)) (.slice ya n3 yc)
                       have HKX8 : Hid (Rd w6 (.slice kxa KL kxc) ku) := HKX.out.1.below hb6 (Nat.le_refl _)
                       have HOF8 : Hid (Rd w6 (.slice (some ⟨gf, 0, none⟩) F.length cf) F) := HOF6.out.below hb6 (Nat.le_refl _)
                       have HOY : Hid (Rd w6 (.slice ya n3 yc) VL ∧ From (w.heap.size + 1) (.slice ya n3 yc)) := ⟨oy.rd, fun a n c e => by
                         rcases oy with ⟨h, _⟩ | h
                         · rw [h] at e; cases e
                         · exact Nat.le_trans HSZ7.out (h.from a n c e)⟩
                       clear hb6 oy)
                    | fail)
                have HRL : Hid (((p3.drop n2).drop n3).length = D - n3) := by show _ = _; rw [List.length_drop, HPD.out]
                clear k4 k5 k6 k7 k8 k9 k10 k11 k12 k13 BK BK' b6 b7 d0 d1 d2
                go_wp2
                refine bodyPost_ret (v := .tuple #[enV (.slice kxa KL kxc) (ks : Int) (kk : Int) (.slice ya n3 yc), .slice (some ⟨gf, 0, none⟩) F.length cf, .slice (some ⟨b, off3 + n2 + n3, none⟩) (D - n3) (c4 - n3), .bool true]) (by simp [results, Try.results50, go_sem, c0, c1, c2, c3]) rfl ?_
                refine ⟨below_store4 HB8.out (Nat.le_refl _) _ _ _ _, ?_⟩
                rw [HN.out]
                simp only
                have hfar : ∀ {v : Value}, From (w.heap.size + 1) v → ∀ g, v.ownBlock = some g → g ≠ w.heap.size := fun {v} hf g hg => by
                  cases v with
                  | slice a n c =>
                    cases a with
                    | none => simp [Value.ownBlock] at hg
                    | some a =>
                      have h9 := hf a n c rfl
                      simp only [Value.ownBlock, Option.some.injEq] at hg
                      omega
                  | _ => simp [Value.ownBlock] at hg
                refine ⟨.slice kxa KL kxc, .slice ya n3 yc, .slice (some ⟨gf, 0, none⟩) F.length cf, off3 + n2 + n3, c4 - n3, by rw [HKD.out, HRL.out], ⟨rd_store4 HKX8.out (hfar HKX.out.2) _ _ _ _, fun a n c e => by have := HKX.out.2 a n c e; omega⟩, ⟨rd_store4 HOY.out.1 (hfar HOY.out.2) _ _ _ _, fun a n c e => by have := HOY.out.2 a n c e; omega⟩, ⟨rd_store4 HOF8.out (fun g hg => by have := HOF.out.2; simp only [Value.ownBlock, Option.some.injEq] at hg; omega) _ _ _ _, from_at (by have := HOF.out.2; omega)⟩, HC6.out.drop n3, by rw [HRL.out]; have := HL5.out; omega, by have := HL5.out; omega⟩
            · have hn3I : (D : Int) < (n3 : Int) := by omega
              have hn3b : decide ((D : Int) < (n3 : Int)) = true := decide_eq_true hn3I
              have HN : Hid (takS A p = none) := by show _ = _; rw [HU4.out]; exact tak3_bad (.inr (by rw [HP3.out, hD]; omega))
              clear hD
              obtain ⟨⟨c0, c1, c2, c3⟩, f0, f1, f2, f3⟩ := BR3
              go_wp2
              refine bodyPost_ret (v := .tuple #[enZ, .slice none 0 0, .slice none 0 0, .bool false]) (by simp [results, Try.results50, go_sem, c0, c1, c2, c3]) rfl ?_
              refine ⟨below_store4 HB3.out (Nat.le_refl _) _ _ _ _, ?_⟩
              rw [HN.out]
          · have hn2I : (L3 : Int) < (n2 : Int) := by omega
            have hn2b : decide ((L3 : Int) < (n2 : Int)) = true := decide_eq_true hn2I
            have HN : Hid (takS A p = none) := by show _ = _; rw [HU4.out]; exact tak3_bad (.inl (by rw [HP3.out]; omega))
            obtain ⟨⟨c0, c1, c2, c3⟩, f0, f1, f2, f3⟩ := BR3
            go_wp2
            refine bodyPost_ret (v := .tuple #[enZ, .slice none 0 0, .slice none 0 0, .bool false]) (by simp [results, Try.results50, go_sem, c0, c1, c2, c3]) rfl ?_
            refine ⟨below_store4 HB3.out (Nat.le_refl _) _ _ _ _, ?_⟩
            rw [HN.out]
        · have HN : Hid (takS A p = none) := by show _ = _; rw [HU3.out]; exact tak2_bad HF3.out he3
          have htk := ltn_err w2 b off2 cap2 p2 n3 s3 e3 HC2.out (by have := HL3.out; omega) HL3.out.2.1 HF3.out he3
          go_wp2_with fail
          refine htk.mono ?_
          rintro o w3 ⟨rfl, hb3⟩
          have HB3 : Hid (Below w.heap.size w w3) := bsplit HB2.out hb3
          have BR3 := BR2.below hb3 (Nat.le_refl _)
          clear htk hb3
          obtain ⟨⟨c0, c1, c2, c3⟩, f0, f1, f2, f3⟩ := BR3
          go_wp2
          refine bodyPost_ret (v := .tuple #[enZ, .slice none 0 0, .slice none 0 0, .bool false]) (by simp [results, Try.results50, go_sem, c0, c1, c2, c3]) rfl ?_
          refine ⟨below_store4 HB3.out (Nat.le_refl _) _ _ _ _, ?_⟩
          rw [HN.out]
      · have HN : Hid (takS A p = none) := by show _ = _; rw [HU2.out]; exact tak1_bad HF2.out he2
        have htk := ltn_err w1 b off1 cap1 p1 n2 s2 e2 HC1.out (by have := HL2.out; omega) HL2.out.2.1 HF2.out he2
        go_wp2_with fail
        refine htk.mono ?_
        rintro o w2 ⟨rfl, hb2⟩
        have HB3 : Hid (Below w.heap.size w w2) := bsplit HB1.out hb2
        have BR3 := BR1.below hb2 (Nat.le_refl _)
        clear htk hb2
        obtain ⟨⟨c0, c1, c2, c3⟩, f0, f1, f2, f3⟩ := BR3
        go_wp2
        refine bodyPost_ret (v := .tuple #[enZ, .slice none 0 0, .slice none 0 0, .bool false]) (by simp [results, Try.results50, go_sem, c0, c1, c2, c3]) rfl ?_
        refine ⟨below_store4 HB3.out (Nat.le_refl _) _ _ _ _, ?_⟩
        rw [HN.out]
    · have hnI : (AL : Int) < (n1 : Int) := by omega
      have hnb2 : decide ((AL : Int) < (n1 : Int)) = true := decide_eq_true hnI
      have HN : Hid (takS A p = none) := takS_bad HF1'.out (.inr (by rw [HAL.out]; omega))
      have HB3 : Hid (Below w.heap.size w w1) := HB1
      have BR3 := BR1
      obtain ⟨⟨c0, c1, c2, c3⟩, f0, f1, f2, f3⟩ := BR3
      go_wp2
      refine bodyPost_ret (v := .tuple #[enZ, .slice none 0 0, .slice none 0 0, .bool false]) (by simp [results, Try.results50, go_sem, c0, c1, c2, c3]) rfl ?_
      refine ⟨below_store4 HB3.out (Nat.le_refl _) _ _ _ _, ?_⟩
      rw [HN.out]
  · have HN : Hid (takS A p = none) := takS_bad HF1.out (.inl he1)
    have htk := ltn_err (w.alloc (.cells #[.slice none 0 0, .int .u64 0, .int .u8 0, .slice none 0 0] 45)) b off cap p n1 s1 e1 (hc.below HB0.out) (by omega) h2 HF1.out he1
    clear hc
    go_wp2_with fail
    refine htk.mono ?_
    rintro o w1 ⟨rfl, hb1⟩
    have HB3 : Hid (Below w.heap.size w w1) := bsplit HB0.out hb1
    have BR3 := BR0.below hb1 (Nat.le_refl _)
    clear htk hb1
    obtain ⟨⟨c0, c1, c2, c3⟩, f0, f1, f2, f3⟩ := BR3
    go_wp2
    refine bodyPost_ret (v := .tuple #[enZ, .slice none 0 0, .slice none 0 0, .bool false]) (by simp [results, Try.results50, go_sem, c0, c1, c2, c3]) rfl ?_
    refine ⟨below_store4 HB3.out (Nat.le_refl _) _ _ _ _, ?_⟩
    rw [HN.out]

end Go.Proofs.Ytdopfijoplldkaa

/- leaf.entries, leaf.Read. -/
namespace Go.Proofs.Ytdopfijoplldkaa
set_option maxRecDepth 20000
open Go.RowKit
set_option linter.unusedVariables false
set_option linter.unusedSimpArgs false

theorem verS_len {F : List UInt8} {q : List UInt8 × Nat × Nat} (hF : F.length ≤ 100000) (h : verS F = some q) : F.length ≤ 72 := by
  unfold verS at h
  split at h
  · cases h
  · rename_i h8
    split at h
    · rename_i hk
      have hf := front_numB (F.length - 8) (by omega) F
      have ht : (textS (Mth.numB (F.length - 8) ++ F) 64).2.2 = 0 := by
        rcases Nat.eq_zero_or_pos (textS (Mth.numB (F.length - 8) ++ F) 64).2.2 with h0 | h0
        · exact h0
        · exfalso
          unfold keyS at hk
          rw [if_neg (by omega)] at hk
          simp only at hk
          omega
      unfold textS at ht
      rw [hf] at ht
      simp only [if_true] at ht
      split at ht
      · cases ht
      · rename_i hm
        omega
    · cases h

theorem tak3_facts {A p : List UInt8} {n1 n2 n3 : Nat} {q : EnB × List UInt8 × List UInt8} (hA : A.length ≤ 1000) (hp : p.length ≤ 90000) (h : tak3 A p n1 n2 n3 = some q) : q.2.1.length ≤ 72 ∧ q.2.2.length ≤ p.length := by
  unfold tak3 at h
  split at h
  · split at h
    · rename_i r hr
      cases h
      refine ⟨verS_len ?_ hr, ?_⟩
      · rw [List.length_append, List.length_take, List.length_take]; omega
      · simp only [List.length_drop]; omega
    · cases h
  · cases h

theorem takS_facts {A p : List UInt8} {q : EnB × List UInt8 × List UInt8} (hA : A.length ≤ 1000) (hp : p.length ≤ 90000) (h : takS A p = some q) : q.2.1.length ≤ 72 ∧ q.2.2.length ≤ p.length := by
  unfold takS at h
  split at h
  · unfold tak1 at h
    split at h
    · unfold tak2 at h
      split at h
      · have := tak3_facts hA (by simp only [List.length_drop]; omega) h
        refine ⟨this.1, Nat.le_trans this.2 ?_⟩
        simp only [List.length_drop]; omega
      · cases h
    · cases h
  · cases h

/-- what the rest yields, behind what was read -/
def behind (es : List EnB) : Option (List EnB) → Option (List EnB)
  | none => none
  | some t => some (es ++ t)

theorem ents_done {B : List UInt8} {es : List EnB} {m : Nat} {F R : List UInt8} (h : entsS 64 [] B = behind es (entsS m F R)) (hR : R = []) : entsS 64 [] B = some es := by
  rw [h, hR, entsS]; simp [behind]

theorem ents_full {B : List UInt8} {es : List EnB} {F R : List UInt8} (h : entsS 64 [] B = behind es (entsS 0 F R)) (hR : ¬ R = []) : entsS 64 [] B = none := by
  cases R with
  | nil => exact absurd rfl hR
  | cons b r => rw [h, entsS]; rfl

theorem ents_stop {B : List UInt8} {es : List EnB} {m : Nat} {F R : List UInt8} (h : entsS 64 [] B = behind es (entsS (m + 1) F R)) (hR : ¬ R = []) (ht : takS F R = none) : entsS 64 [] B = none := by
  cases R with
  | nil => exact absurd rfl hR
  | cons b r => rw [h, entsS, ht]; rfl

theorem ents_step {B : List UInt8} {es : List EnB} {m : Nat} {F R : List UInt8} {q : EnB × List UInt8 × List UInt8} (h : entsS 64 [] B = behind es (entsS (m + 1) F R)) (hR : ¬ R = []) (ht : takS F R = some q) : entsS 64 [] B = behind (es ++ [q.1]) (entsS m q.2.1 q.2.2) := by
  cases R with
  | nil => exact absurd rfl hR
  | cons b r =>
    rw [h, entsS, ht]
    simp only
    cases entsS m q.2.1 q.2.2 with
    | none => rfl
    | some t => simp [behind]

/-- what the entries of a row hold was made from block B on -/
def FrE (B : Nat) (w : World) (v : Value) (n : Nat) : Prop := ∃ cs, w.ownsRow B 45 4 v n cs ∧ ∀ j, j < n → ∃ x y, cs[j * 4]? = some x ∧ From B x ∧ cs[j * 4 + 3]? = some y ∧ From B y

theorem FrE.nil (B : Nat) (w : World) : FrE B w (.slice none 0 0) 0 := ⟨[], World.ownsRow_nil _ _ _ _, fun _ h => absurd h (Nat.not_lt_zero _)⟩

theorem FrE.below {B : Nat} {w w' : World} {v : Value} {n : Nat} (h : FrE B w v n) (hb : Below w.heap.size w w') : FrE B w' v n := by
  obtain ⟨cs, hr, hj⟩ := h
  exact ⟨cs, row_below hr hb, hj⟩

theorem row_uniq {B B' : Nat} {w : World} {v : Value} {n s : Nat} {e : TypeId} {cs ds : List Value} (h : w.ownsRow B e s v n cs) (h' : w.ownsRow B' e s v n ds) : cs = ds := by
  rcases h.2 with ⟨e1, e2⟩ | ⟨g, cap, cur, e1, _, hg, _, _, _, h4⟩
  · have l1 := h.1
    have l2 := h'.1
    rw [e2, Nat.zero_mul] at l1 l2
    rw [List.eq_nil_of_length_eq_zero l1, List.eq_nil_of_length_eq_zero l2]
  · rcases h'.2 with ⟨e2, _⟩ | ⟨g', cap', cur', e2, _, hg', _, _, _, h4'⟩
    · rw [e1] at e2; cases e2
    · rw [e1] at e2
      cases e2
      rw [hg] at hg'
      cases hg'
      rw [← h4, ← h4']

theorem FrE.at {B : Nat} {w : World} {b off n c : Nat} (h : FrE B w (.slice (some ⟨b, off, none⟩) n c) n) {C : Nat} (hC : C < n) {x y : Value} (hx : w.cell? ⟨b, off + C * 4, none⟩ = some x) (hy : w.cell? ⟨b, off + C * 4 + 3, none⟩ = some y) : From B x ∧ From B y := by
  obtain ⟨cs, hr, hj⟩ := h
  obtain ⟨x', y', c0, f0, c3, f3⟩ := hj C hC
  have hr2 := hr
  rcases hr.2 with ⟨e, _⟩ | ⟨g, cap, cur, e, _⟩
  · cases e
  · cases e
    have hc := hr2.cells (g := b) rfl
    have k0 := hc _ _ c0
    have k3 := hc _ _ c3
    rw [Addr.add_lit] at k0 k3
    rw [k0] at hx
    rw [show 0 + C * 4 + 3 = 0 + (C * 4 + 3) by omega, k3] at hy
    cases hx
    cases hy
    exact ⟨f0, f3⟩

theorem FrE.push {B g c n : Nat} {w w' : World} {v x y : Value} {s k : Value} {cs : List Value} (h : FrE B w v n) (hrow : w.ownsRow B 45 4 v n cs) (hn : w'.ownsRow B 45 4 (.slice (some ⟨g, 0, none⟩) (n + 1) c) (n + 1) (cs ++ [x, s, k, y])) (hx : From B x) (hy : From B y) : FrE B w' (.slice (some ⟨g, 0, none⟩) (n + 1) c) (n + 1) := by
  obtain ⟨ds, hr, hj⟩ := h
  have e := row_uniq hr hrow
  subst e
  have hcl : ds.length = n * 4 := hrow.1
  refine ⟨_, hn, fun j hj' => ?_⟩
  by_cases hlt : j < n
  · obtain ⟨x', y', c0, f0, c3, f3⟩ := hj j hlt
    exact ⟨x', y', by rw [List.getElem?_append_left (by omega)]; exact c0, f0, by rw [List.getElem?_append_left (by omega)]; exact c3, f3⟩
  · have : j = n := by omega
    subst this
    refine ⟨x, y, ?_, hx, ?_, hy⟩
    · rw [List.getElem?_append_right (by omega), show j * 4 - ds.length = 0 by omega]; rfl
    · rw [List.getElem?_append_right (by omega), show j * 4 + 3 - ds.length = 3 by omega]; rfl

/-- where the loop has come to -/
structure EntI (w wr : World) (B : List UInt8) (lv fv : Value) (b off : Nat) (es : List EnB) (F R : List UInt8) (j : Nat) : Prop where
  ow : OwnE w.heap.size wr lv es
  fo : Rd wr fv F
  nf : NeB fv F lv
  ce : Cel w b off R
  eq : entsS 64 [] B = behind es (entsS (64 - j) F R)
  nl : es.length = j
  fl : F.length ≤ 1000
  rl : R.length ≤ 90000
  be : Below w.heap.size w wr
  fr : FrE w.heap.size wr lv j

/-- the entries that stand in p -/
def entsP (p : List UInt8) : Option (List EnB) := match bodyS p with
  | none => none
  | some b => entsS 64 [] b

theorem entsP_none {p : List UInt8} (h : bodyS p = none) : entsP p = none := by unfold entsP; rw [h]
theorem entsP_some {p b : List UInt8} (h : bodyS p = some b) : entsP p = entsS 64 [] b := by unfold entsP; rw [h]

/-- what leaf.entries answers -/
def EntPost (p : List UInt8) (w w' : World) (o : Ending) : Prop :=
  Below w.heap.size w w' ∧ match entsP p with
    | none => o = .returned (.tuple #[.slice none 0 0, .bool false])
    | some es => ∃ x, o = .returned (.tuple #[x, .bool true]) ∧ RdE w' x es ∧ FrE w.heap.size w' x es.length

set_option maxHeartbeats 8000000 in
theorem lents_any (w : World) (b off cap : Nat) (p : List UInt8) (hc : Cel w b off p) (h1 : p.length ≤ cap) (h2 : cap ≤ 9223372036854775807) (hp : p.length ≤ 90000) (hbw : b < w.heap.size) :
    Calls Try.prog 40 #[.slice (some ⟨b, off, none⟩) p.length cap] w fun o w' => EntPost p w w' o := by
  obtain ⟨i0, hi, hz0, hz1, hz2⟩ := info_parts infoEn
  have hbo := lbody_any w b off cap p hc h1 h2 (by omega)
  have HC : Hid (Cel w b off p) := hc
  have HBW : Hid (b < w.heap.size) := hbw
  have HL : Hid (p.length ≤ cap ∧ cap ≤ 9223372036854775807 ∧ p.length ≤ 90000) := ⟨h1, h2, hp⟩
  clear hc h1 h2 hp hbw
  go_enter Try.func40, Try.ntmps40
  go_wp2_with fail
  refine hbo.mono ?_
  rintro o w1 ⟨hb1, hq⟩
  have HB1 : Hid (Below w.heap.size w w1) := hb1
  cases hbs : bodyS p with
  | none =>
    rw [hbs] at hq
    simp only at hq
    subst hq
    have HE : Hid (bodyS p = none) := hbs
    clear hbo hb1 hbs
    go_wp2
    go_ret2
    refine ⟨HB1.out, ?_⟩
    rw [entsP_none HE.out]
    rfl
  | some B =>
    rw [hbs] at hq
    simp only at hq
    subst hq
    have HE : Hid (bodyS p = some B) := hbs
    have hBp : B = p.take B.length ∧ B.length + 2 ≤ p.length := by
      unfold bodyS at hbs
      split at hbs
      · cases hbs
      · split at hbs
        · cases hbs
        · cases hbs
          refine ⟨?_, ?_⟩
          · rw [List.length_take]; rw [Nat.min_eq_left (by omega)]
          · rw [List.length_take]; omega
    have HCB : Hid (Cel w b off B) := by
      intro j u hu
      refine HC.out j u ?_
      rw [hBp.1] at hu
      rw [← hu]
      have hj : j < B.length := by
        have := (List.getElem?_eq_some_iff.1 hu).1
        rw [bv_length, List.length_take] at this
        omega
      unfold bv
      rw [List.getElem?_map, List.getElem?_map, List.getElem?_take_of_lt hj]
    have HLB : Hid (B.length < cap ∧ cap ≤ 9223372036854775807 ∧ B.length ≤ 90000) := by have := HL.out; exact ⟨by omega, by omega, by omega⟩
    clear hbo hb1 hbs hBp
    go_wp2_with fail
    go_loopg [4, 5, 6, 7] 65 (fun gk rv ov lv fv wr => ∃ (j off' cap' c1 n2 c2 : Nat) (a1 a2 : Option Addr) (es : List EnB) (F R : List UInt8), gk + j = 65 ∧ j ≤ 64 ∧ rv = .slice (some ⟨b, off', none⟩) R.length cap' ∧ ov = .bool true ∧ lv = .slice a1 j c1 ∧ fv = .slice a2 n2 c2 ∧ Hid (R.length < cap' ∧ cap' ≤ 9223372036854775807) ∧ Hid (EntI w wr B lv fv b off' es F R j))
    case atStart => exact ⟨0, off, cap, 0, 0, 0, none, none, [], [], B, by omega, by omega, rfl, rfl, rfl, rfl, ⟨HLB.out.1, HLB.out.2.1⟩, ⟨OwnE.nil _ _, .inl ⟨rfl, rfl⟩, .inl rfl, HCB.out, by cases entsS 64 [] B <;> simp [behind], rfl, by simp, HLB.out.2.2, HB1.out, FrE.nil _ _⟩⟩
    case round =>
      obtain ⟨j, off', cap', c1, n2, c2, a1, a2, es, F, R, hj, hj64, rfl, rfl, rfl, rfl, HCP, HI⟩ := hrel
      obtain ⟨RL, hRL⟩ : ∃ n, R.length = n := ⟨_, rfl⟩
      have HRL : Hid (R.length = RL) := hRL
      rw [hRL]
      clear hRL
      by_cases hR : R = []
      · have HR0 : Hid (entsS 64 [] B = some es) := ents_done HI.out.eq hR
        have hR0 : RL = 0 := by rw [← HRL.out, hR]; rfl
        subst hR0
        go_wp2
        go_ret2
        refine ⟨HI.out.be, ?_⟩
        rw [entsP_some HE.out, HR0.out]
        exact ⟨_, rfl, HI.out.ow.rd, by rw [HI.out.nl]; exact HI.out.fr⟩
      · have hRp : 0 < RL := by rw [← HRL.out]; exact List.length_pos_iff.2 hR
        have hRI : (0 : Int) < (RL : Int) := by omega
        by_cases hj4 : j = 64
        · subst hj4
          have HN : Hid (entsS 64 [] B = none) := ents_full (F := F) (R := R) HI.out.eq hR
          go_wp2
          go_ret2
          refine ⟨HI.out.be, ?_⟩
          rw [entsP_some HE.out, HN.out]
          rfl
        · have hj4I : ¬ (j : Int) = 64 := by omega
          have hj4b : ((j : Int) == 64) = false := by simpa using hj4I
          have hb0 := below_box4 wr (.cells #[.slice none 0 0, .int .u64 0, .int .u8 0, .slice none 0 0] 45)
          have BX := box4f_new wr (.slice none 0 0) (.int .u64 0) (.int .u8 0) (.slice none 0 0) 45
          have htk := ltake_any (wr.alloc (.cells #[.slice none 0 0, .int .u64 0, .int .u8 0, .slice none 0 0] 45)) (.slice a2 n2 c2) F R b off' cap' (HI.out.fo.below hb0 (Nat.le_refl _)) HI.out.fl (HI.out.ce.below (bsplit HI.out.be hb0)) HCP.out.1 HCP.out.2 HI.out.rl (by have := HBW.out; have := HI.out.be.size; simp; omega)
          rw [HRL.out] at htk
          have HB0 : Hid (Below wr.heap.size wr (wr.alloc (.cells #[.slice none 0 0, .int .u64 0, .int .u8 0, .slice none 0 0] 45))) := hb0
          have HEQ : Hid (entsS 64 [] B = behind es (entsS (63 - j + 1) F R)) := by show _ = _; rw [show 63 - j + 1 = 64 - j by omega]; exact HI.out.eq
          clear hb0
          go_wp2_with fail
          refine htk.mono ?_
          rintro o w2 ⟨hb2, hq⟩
          have HB2 : Hid (Below wr.heap.size wr w2) := HB0.out.trans (hb2.mono HB0.out.size)
          obtain ⟨⟨x0, x1, x2, x3⟩, f0, f1, f2, f3⟩ := BX.below hb2 (Nat.le_refl _)
          cases hts : takS F R with
          | none =>
            rw [hts] at hq
            simp only at hq
            subst hq
            have HN : Hid (entsS 64 [] B = none) := ents_stop HEQ.out hR hts
            have HB3 : Hid (Below w.heap.size w w2) := bsplit HI.out.be HB2.out
            clear htk hb2 BX hts
            go_wp2
            go_ret2
            refine ⟨below_store4 HB3.out HI.out.be.size _ _ _ _, ?_⟩
            rw [entsP_some HE.out, HN.out]
            rfl
          | some q =>
            rw [hts] at hq
            simp only at hq
            obtain ⟨x, y, f, off2, cap2, ho, rx, ry, rf, hce, hcp1, hcp2⟩ := hq
            subst ho
            have HEQ2 : Hid (entsS 64 [] B = behind (es ++ [q.1]) (entsS (63 - j) q.2.1 q.2.2)) := ents_step HEQ.out hR hts
            have htf := takS_facts HI.out.fl HI.out.rl hts
            have HTF : Hid (q.2.1.length ≤ 1000 ∧ q.2.2.length ≤ 90000) := ⟨by omega, by have := HI.out.rl; omega⟩
            obtain ⟨⟨ol, osq, ok, oo⟩, F2, R2⟩ := q
            simp only at rx ry rf hce hcp1 HEQ2 HTF ⊢
            obtain ⟨xa, xc, rfl⟩ := rx.1.len
            obtain ⟨ya, yc, rfl⟩ := ry.1.len
            obtain ⟨fa, fc, rfl⟩ := rf.1.len
            obtain ⟨l1, hl1⟩ : ∃ n, ol.length = n := ⟨_, rfl⟩
            obtain ⟨l2, hl2⟩ : ∃ n, oo.length = n := ⟨_, rfl⟩
            obtain ⟨l3, hl3⟩ : ∃ n, F2.length = n := ⟨_, rfl⟩
            obtain ⟨kk, hkk⟩ : ∃ n, ok.toNat = n := ⟨_, rfl⟩
            rw [hl1] at rx
            rw [hl2] at ry
            rw [hl3] at rf
            rw [hl1, hl2, hl3, hkk]
            have HKK : Hid (ok.toNat = kk) := hkk
            have HCP2 : Hid (R2.length < cap2 ∧ cap2 ≤ 9223372036854775807) := ⟨hcp1, hcp2⟩
            have HCE : Hid (Cel w b off2 R2) := Cel.back hce (bsplit HI.out.be HB0.out) HBW.out
            have hszb : (wr.alloc (.cells #[.slice none 0 0, .int .u64 0, .int .u8 0, .slice none 0 0] 45)).heap.size = wr.heap.size + 1 := by simp
            rw [hszb] at rx ry rf
            have hfar : ∀ {v : Value}, From (wr.heap.size + 1) v → ∀ g, v.ownBlock = some g → g ≠ wr.heap.size := fun {v} hf g hg => by
              cases v with
              | slice a n c =>
                cases a with
                | none => simp [Value.ownBlock] at hg
                | some a =>
                  have h9 := hf a n c rfl
                  simp only [Value.ownBlock, Option.some.injEq] at hg
                  omega
              | _ => simp [Value.ownBlock] at hg
            have hlow : ∀ q, (Value.slice a1 j c1).ownBlock = some q → q < wr.heap.size + 1 := fun q hq => Nat.lt_succ_of_lt (HI.out.ow.lt q hq).2
            obtain ⟨W2, hW2⟩ : ∃ W, ((((w2.setCell ⟨wr.heap.size, 0, none⟩ (.slice xa l1 xc)).setCell ⟨wr.heap.size, 1, none⟩ (.int .u64 (osq : Int))).setCell ⟨wr.heap.size, 2, none⟩ (.int .u8 (kk : Int))).setCell ⟨wr.heap.size, 3, none⟩ (.slice ya l2 yc)) = W := ⟨_, rfl⟩
            have rx2 : Rd W2 (.slice xa l1 xc) ol := by rw [← hW2]; exact rd_store4 rx.1 (hfar rx.2) _ _ _ _
            have ry2 : Rd W2 (.slice ya l2 yc) oo := by rw [← hW2]; exact rd_store4 ry.1 (hfar ry.2) _ _ _ _
            have rf2 : Rd W2 (.slice fa l3 fc) F2 := by rw [← hW2]; exact rd_store4 rf.1 (hfar rf.2) _ _ _ _
            have hbW : Below wr.heap.size wr W2 := by rw [← hW2]; exact below_store4 HB2.out (Nat.le_refl _) _ _ _ _
            have c0 : W2.cell? ⟨wr.heap.size, 0, none⟩ = some (.slice xa l1 xc) := by rw [← hW2]; simp [go_sem, x0, x1, x2, x3]
            have c1' : W2.cell? ⟨wr.heap.size, 1, none⟩ = some (.int .u64 (osq : Int)) := by rw [← hW2]; simp [go_sem, x0, x1, x2, x3]
            have c2' : W2.cell? ⟨wr.heap.size, 2, none⟩ = some (.int .u8 (kk : Int)) := by rw [← hW2]; simp [go_sem, x0, x1, x2, x3]
            have c3' : W2.cell? ⟨wr.heap.size, 3, none⟩ = some (.slice ya l2 yc) := by rw [← hW2]; simp [go_sem, x0, x1, x2, x3]
            have hbe := below_box4 W2 (.cells #[.slice xa l1 xc, .int .u64 (osq : Int), .int .u8 (kk : Int), .slice ya l2 yc] 45)
            have hlit := laid4 W2 (.slice xa l1 xc) (.int .u64 (osq : Int)) (.int .u8 (kk : Int)) (.slice ya l2 yc) 45
            have HXE : Hid (Rd (W2.alloc (.cells #[.slice xa l1 xc, .int .u64 (osq : Int), .int .u8 (kk : Int), .slice ya l2 yc] 45)) (.slice xa l1 xc) ol ∧ NeB (.slice xa l1 xc) ol (.slice a1 j c1)) := ⟨rx2.below hbe (Nat.le_refl _), neb_of rx.2 hlow rx.1⟩
            have HYE : Hid (Rd (W2.alloc (.cells #[.slice xa l1 xc, .int .u64 (osq : Int), .int .u8 (kk : Int), .slice ya l2 yc] 45)) (.slice ya l2 yc) oo ∧ NeB (.slice ya l2 yc) oo (.slice a1 j c1)) := ⟨ry2.below hbe (Nat.le_refl _), neb_of ry.2 hlow ry.1⟩
            have HFE : Hid (Rd (W2.alloc (.cells #[.slice xa l1 xc, .int .u64 (osq : Int), .int .u8 (kk : Int), .slice ya l2 yc] 45)) (.slice fa l3 fc) F2 ∧ NeB (.slice fa l3 fc) F2 (.slice a1 j c1)) := ⟨rf2.below hbe (Nat.le_refl _), neb_of rf.2 hlow rf.1⟩
            have hbWe : Below wr.heap.size wr (W2.alloc (.cells #[.slice xa l1 xc, .int .u64 (osq : Int), .int .u8 (kk : Int), .slice ya l2 yc] 45)) := hbW.trans (hbe.mono hbW.size)
            have HBE : Hid (Below w.heap.size w (W2.alloc (.cells #[.slice xa l1 xc, .int .u64 (osq : Int), .int .u8 (kk : Int), .slice ya l2 yc] 45))) := bsplit HI.out.be hbWe
            have hse := HBE.out.size
            obtain ⟨cs, hrow, hel⟩ := HI.out.ow.below hbWe (Nat.le_refl _)
            rw [HI.out.nl] at hrow
            have HEL : Hid _ := hel
            have HRW : Hid _ := hrow
            have HFR : Hid (FrE w.heap.size (W2.alloc (.cells #[.slice xa l1 xc, .int .u64 (osq : Int), .int .u8 (kk : Int), .slice ya l2 yc] 45)) (.slice a1 j c1) j ∧ From w.heap.size (.slice xa l1 xc) ∧ From w.heap.size (.slice ya l2 yc)) := ⟨HI.out.fr.below hbWe, fun a n c e => by have := rx.2 a n c e; have := HI.out.be.size; omega, fun a n c e => by have := ry.2 a n c e; have := HI.out.be.size; omega⟩
            have HJ : Hid (j < 64) := by show j < 64; omega
            have q1 : gk - 1 < gk := by omega
            have q2 : gk - 1 + (j + 1) = 65 := by omega
            have q3 : j + 1 ≤ 64 := by omega
            have HW2 : Hid _ := hW2
            clear htk hb2 BX hts htf rx ry rf rx2 ry2 rf2 hl1 hl2 hl3 hkk hce hcp1 hcp2 hfar hlow hbW hbe hbWe hel hszb HEQ
            go_wp2_with (first | (at_builtin; refine wpList_append_lies _ rfl (.tmp 32) (.tmp 34) 22 rfl w.heap.size 45 i0 (.agg #[.slice none 0 0, .int .u64 0, .int .u8 0, .slice none 0 0]) 4 64 Try.underlying22 hi hz0 hz1 hz2 rfl (by decide) (.slice a1 j c1) j cs rfl hrow ⟨W2.heap.size, 0, none⟩ 1 1 [.slice xa l1 xc, .int .u64 (osq : Int), .int .u8 (kk : Int), .slice ya l2 yc] rfl rfl hlit (oneE _ _ _ _ _ _ _ _) (by decide) (by have := HJ.out; simp only [maxLen]; omega) (by have := HJ.out; omega) hse _ rfl ?_; intro g4 c4 w4 hown hgrow hat hlt4; rw [← HKK.out] at hown; have HI4 : Hid (EntI w w4 B (.slice (some ⟨g4, 0, none⟩) (j + 1) c4) (.slice fa l3 fc) b off2 (es ++ [(ol, osq, ok, oo)]) F2 R2 (j + 1)) := ⟨own_pushE (ol, osq, ok, oo) HI.out.nl HRW.out HEL.out HXE.out HYE.out hown hgrow hat, rd_grown HFE.out.1 hgrow HFE.out.2, neb_step HFE.out.2 HFE.out.1 hat, HCE.out, (by rw [HEQ2.out, show 64 - (j + 1) = 63 - j by omega]), (by rw [List.length_append, HI.out.nl]; rfl), HTF.out.1, HTF.out.2, HBE.out.grown hgrow HBE.out.size (fun k' e => (hrow.lt k' e).1), HFR.out.1.push HRW.out hown HFR.out.2.1 HFR.out.2.2⟩; clear hown hgrow hat hlt4) | fail)
            clear hrow hlit hse c0 c1' c2' c3'
            go_roundg (gk - 1)
            case measure => exact q1
            case rel => exact ⟨j + 1, off2, cap2, c4, _, _, _, _, _, F2, R2, q2, q3, rfl, rfl, rfl, rfl, HCP2, HI4⟩

end Go.Proofs.Ytdopfijoplldkaa

/- leaf.Read. -/
namespace Go.Proofs.Ytdopfijoplldkaa
set_option maxRecDepth 20000
open Go.RowKit
set_option linter.unusedVariables false

/-- what leaf.Read answers -/
def RdLPost (p : List UInt8) (w w' : World) (o : Ending) : Prop :=
  Below w.heap.size w w' ∧ match readL p with
    | none => o = .returned (.tuple #[.slice none 0 0, .int .i64 4])
    | some es => ∃ x, o = .returned (.tuple #[x, .int .i64 0]) ∧ RdE w' x es ∧ FrE w.heap.size w' x es.length

theorem readL_none {p : List UInt8} (h : entsP p = none) : readL p = none := by
  unfold readL
  cases hb : bodyS p with
  | none => rfl
  | some b => rw [entsP_some hb] at h; simp only; rw [h]

theorem readL_some {p : List UInt8} {es : List EnB} (h : entsP p = some es) : readL p = if chkLf es = 0 ∧ leafB es = p then some es else none := by
  unfold readL
  cases hb : bodyS p with
  | none => rw [entsP_none hb] at h; cases h
  | some b => rw [entsP_some hb] at h; simp only; rw [h]

set_option maxHeartbeats 2000000 in
theorem lread_any (w : World) (b off cap : Nat) (p : List UInt8) (hc : Cel w b off p) (h1 : p.length ≤ cap) (h2 : cap ≤ 9223372036854775807) (hp : p.length ≤ 90000) (hbw : b < w.heap.size) :
    Calls Try.prog 19 #[.slice (some ⟨b, off, none⟩) p.length cap] w fun o w' => RdLPost p w w' o := by
  have hen := lents_any w b off cap p hc h1 h2 hp hbw
  have HP : Hid (Rd w (.slice (some ⟨b, off, none⟩) p.length cap) p) := .inr ⟨b, off, cap, rfl, h1, by unfold maxLen; omega, hc⟩
  obtain ⟨L, hL⟩ : ∃ L, p.length = L := ⟨_, rfl⟩
  rw [hL] at hen HP ⊢
  clear hc h1 h2 hp hbw hL
  go_enter Try.func19, Try.ntmps19
  go_wp2_with fail
  refine hen.mono ?_
  rintro o w1 ⟨hb1, hq⟩
  have HB1 : Hid (Below w.heap.size w w1) := hb1
  have HP1 : Hid (Rd w1 (.slice (some ⟨b, off, none⟩) L cap) p) := HP.out.below hb1 (Nat.le_refl _)
  clear hen hb1
  cases hm : entsP p with
  | none =>
    rw [hm] at hq
    simp only at hq
    subst hq
    have HN : Hid (readL p = none) := readL_none hm
    clear hm
    go_wp2
    go_ret2
    refine ⟨HB1.out, ?_⟩
    rw [HN.out]
    rfl
  | some es =>
    rw [hm] at hq
    simp only at hq
    obtain ⟨x, rfl, rx, fx⟩ := hq
    have HS : Hid (readL p = if chkLf es = 0 ∧ leafB es = p then some es else none) := readL_some hm
    have HX : Hid (RdE w1 x es) := rx
    have HFX : Hid (FrE w.heap.size w1 x es.length) := fx
    clear fx
    obtain ⟨xa, xc, rfl⟩ := rx.shape
    obtain ⟨N, hN⟩ : ∃ n, es.length = n := ⟨_, rfl⟩
    rw [hN] at HX rx HFX ⊢
    have HNE : Hid (es.length = N) := hN
    clear hm hN
    by_cases hck : chkLf es = 0
    · have hbu := lbuild_ok w1 _ es rx hck
      clear rx
      go_wp2_with fail
      refine hbu.mono ?_
      rintro o w2 ⟨q, rfl, oq, hb2⟩
      have HB2 : Hid (Below w.heap.size w w2) := bsplit HB1.out hb2
      obtain ⟨gq, cq, rfl⟩ := oq.shape
      obtain ⟨r, hr⟩ : ∃ r, (leafB es == p) = r := ⟨_, rfl⟩
      have heq := equal_any w2 _ _ (leafB es) p oq.rd (HP1.out.below hb2 (Nat.le_refl _))
      rw [hr] at heq
      have HX2 : Hid (RdE w2 (.slice xa N xc) es) := rdE_below HX.out hb2 (Nat.le_refl _)
      have HFX2 : Hid (FrE w.heap.size w2 (.slice xa N xc) N) := HFX.out.below hb2
      obtain ⟨QL, hQL⟩ : ∃ n, (leafB es).length = n := ⟨_, rfl⟩
      rw [hQL] at heq ⊢
      clear hbu hb2 oq hQL
      cases r with
      | true =>
        have HE : Hid (readL p = some es) := by show _ = _; rw [HS.out, if_pos ⟨hck, by simpa using hr⟩]
        go_wp2_with fail
        refine heq.mono ?_
        rintro o w3 ⟨rfl, rfl⟩
        clear heq
        go_wp2
        go_ret2
        refine ⟨HB2.out, ?_⟩
        rw [HE.out]
        exact ⟨_, rfl, HX2.out, by rw [HNE.out]; exact HFX2.out⟩
      | false =>
        have HE : Hid (readL p = none) := by show _ = _; rw [HS.out, if_neg]; rintro ⟨_, h⟩; rw [h] at hr; simp at hr
        go_wp2_with fail
        refine heq.mono ?_
        rintro o w3 ⟨rfl, rfl⟩
        clear heq
        go_wp2
        go_ret2
        refine ⟨HB2.out, ?_⟩
        rw [HE.out]
        rfl
    · obtain ⟨c, hcc⟩ : ∃ c, chkLf es = c := ⟨_, rfl⟩
      have hc0 : ¬ c = 0 := by rw [← hcc]; exact hck
      have hcb : (c == 0) = false := by simpa using hc0
      have hbu := lbuild_err w1 _ es c rx hcc hc0
      have HE : Hid (readL p = none) := by show _ = _; rw [HS.out, if_neg]; exact fun h => hck h.1
      clear rx hcc
      go_wp2_with fail
      refine hbu.mono ?_
      rintro o w2 ⟨rfl, hb2⟩
      have HB2 : Hid (Below w.heap.size w w2) := bsplit HB1.out hb2
      clear hbu hb2
      go_wp2
      go_ret2
      refine ⟨HB2.out, ?_⟩
      rw [HE.out]
      rfl

end Go.Proofs.Ytdopfijoplldkaa

/- leaf.place: the place where a version stands. -/
namespace Go.Proofs.Ytdopfijoplldkaa
set_option maxRecDepth 20000
open Go.RowKit
set_option linter.unusedVariables false

theorem cmpE_le_trans {a b c : EnB} (h1 : cmpE a b ≤ 0) (h2 : cmpE b c ≤ 0) : cmpE a c ≤ 0 := by unfold cmpE at h1 h2 ⊢; exact Mth.cmpK_trans h1 h2

theorem cmpE_neg (a b : EnB) : cmpE b a = - cmpE a b := Mth.cmpK_neg _ _ _ _ _ _

/-- in a rising list what stands ahead of a version stands in front -/
theorem rise_lt {es : List EnB} (h : riseB es = true) : ∀ i j (hj : j < es.length) (hij : i < j), cmpE (es[i]'(by omega)) es[j] < 0 := by
  intro i j hj hij
  induction j with
  | zero => omega
  | succ j ih =>
    have h1 := (riseB_iff es).1 h j hj
    by_cases e : i = j
    · subst e; exact h1
    · exact cmpE_trans (ih (by omega) (by omega)) h1

theorem ahead_lt {es : List EnB} (h : riseB es = true) {K : EnB} {i j : Nat} (hj : j < es.length) (hij : i ≤ j) (hk : ltE es[j] K = true) : ltE (es[i]'(by omega)) K = true := by
  by_cases e : i = j
  · subst e; exact hk
  · exact decide_eq_true (cmpE_trans (rise_lt h i j hj (by omega)) (of_decide_eq_true hk))

theorem behind_ge {es : List EnB} (h : riseB es = true) {K : EnB} {i j : Nat} (hj : j < es.length) (hij : i ≤ j) (hk : ltE (es[i]'(by omega)) K = false) : ltE es[j] K = false := by
  cases hb : ltE es[j] K with
  | false => rfl
  | true => rw [ahead_lt h hj hij hb] at hk; cases hk

theorem cnt_split {es : List EnB} {K : EnB} {i : Nat} (hi : i ≤ es.length) (h1 : ∀ x (h : x < es.length), x < i → ltE es[x] K = true) (h2 : ∀ x (h : x < es.length), i ≤ x → ltE es[x] K = false) : cntE es K = i := by
  unfold cntE
  rw [← List.take_append_drop i es, List.countP_append]
  have e1 : (es.take i).countP (fun x => ltE x K) = (es.take i).length := by
    rw [List.countP_eq_length]
    intro x hx
    obtain ⟨j, hj, rfl⟩ := List.getElem_of_mem hx
    rw [List.length_take] at hj
    rw [List.getElem_take]
    exact h1 j (by omega) (by omega)
  have e2 : (es.drop i).countP (fun x => ltE x K) = 0 := by
    rw [List.countP_eq_zero]
    intro x hx
    obtain ⟨j, hj, rfl⟩ := List.getElem_of_mem hx
    rw [List.length_drop] at hj
    rw [List.getElem_drop, h2 (i + j) (by omega) (by omega)]
    simp
  rw [e1, e2, List.length_take]
  omega

theorem placecmp_any (w : World) (xa : Value) (s k : Int) (ya : Option Addr) (yn yc : Nat) (kv : Value) (t j : Int) (l m : List UInt8) (r : Int) (hx : Rd w xa l) (hk : Rd w kv m) (hr : Mth.cmpK l s k m t j = r) :
    Calls Try.prog 52 #[.agg #[xa, .int .u64 s, .int .u8 k, .slice ya yn yc], .agg #[kv, .int .u64 t, .int .u8 j]] w fun e w' => e = .returned (.int .i64 r) ∧ Below w.heap.size w w' := by
  obtain ⟨a1, c1, rfl⟩ := hx.len
  obtain ⟨a2, c2, rfl⟩ := hk.len
  obtain ⟨n1, h1⟩ : ∃ n, l.length = n := ⟨_, rfl⟩
  obtain ⟨n2, h2⟩ : ∃ n, m.length = n := ⟨_, rfl⟩
  rw [h1] at hx ⊢
  rw [h2] at hk ⊢
  have hb0 := below_box4 w (.cells #[.slice a1 n1 c1, .int .u64 s, .int .u8 k, .slice ya yn yc] 45)
  have hb1 := below_box4 (w.alloc (.cells #[.slice a1 n1 c1, .int .u64 s, .int .u8 k, .slice ya yn yc] 45)) (.cells #[.slice a2 n2 c2, .int .u64 t, .int .u8 j] 37)
  obtain ⟨z0, z1, z2, z3⟩ := (box4_new w (.slice a1 n1 c1) (.int .u64 s) (.int .u8 k) (.slice ya yn yc) 45).below hb1 (Nat.le_refl _)
  obtain ⟨d0, d1, d2, _⟩ := box_new (w.alloc (.cells #[.slice a1 n1 c1, .int .u64 s, .int .u8 k, .slice ya yn yc] 45)) (.slice a2 n2 c2) (.int .u64 t) (.int .u8 j) 37
  rw [show (w.alloc (.cells #[.slice a1 n1 c1, .int .u64 s, .int .u8 k, .slice ya yn yc] 45)).heap.size = w.heap.size + 1 by simp] at d0 d1 d2
  have hB1 := bsplit hb0 hb1
  have hcm := compare_any _ _ _ l m s k t j r (hx.below hB1 (Nat.le_refl _)) (hk.below hB1 (Nat.le_refl _)) hr
  have HB1 : Hid (Below w.heap.size w ((w.alloc (.cells #[.slice a1 n1 c1, .int .u64 s, .int .u8 k, .slice ya yn yc] 45)).alloc (.cells #[.slice a2 n2 c2, .int .u64 t, .int .u8 j] 37))) := hB1
  clear hx hk hr h1 h2 hb0 hb1 hB1
  go_enter Try.func52, Try.ntmps52
  go_wp2_with fail
  refine hcm.mono ?_
  rintro e w1 ⟨rfl, hb⟩
  have HB2 : Hid (Below w.heap.size w w1) := bsplit HB1.out hb
  clear hcm hb
  go_wp2
  go_ret
  exact ⟨rfl, HB2.out⟩

/-- the cells of an entry and a version -/
structure EnK (w : World) (p o h bk : Nat) (x1 : Option Addr) (m1 x2 : Nat) (s1 k1 : Int) (y1 : Option Addr) (m2 y2 : Nat) (x3 : Option Addr) (m3 x4 : Nat) (s2 k2 : Int) : Prop where
  a0 : w.cell? ⟨p, o + h * 4, none⟩ = some (.slice x1 m1 x2)
  a1 : w.cell? ⟨p, o + h * 4 + 1, none⟩ = some (.int .u64 s1)
  a2 : w.cell? ⟨p, o + h * 4 + 2, none⟩ = some (.int .u8 k1)
  a3 : w.cell? ⟨p, o + h * 4 + 3, none⟩ = some (.slice y1 m2 y2)
  b0 : w.cell? ⟨bk, 0, none⟩ = some (.slice x3 m3 x4)
  b1 : w.cell? ⟨bk, 1, none⟩ = some (.int .u64 s2)
  b2 : w.cell? ⟨bk, 2, none⟩ = some (.int .u8 k2)

theorem EnK.below {w w' : World} {p o h bk : Nat} {x1 : Option Addr} {m1 x2 : Nat} {s1 k1 : Int} {y1 : Option Addr} {m2 y2 : Nat} {x3 : Option Addr} {m3 x4 : Nat} {s2 k2 : Int} (e : EnK w p o h bk x1 m1 x2 s1 k1 y1 m2 y2 x3 m3 x4 s2 k2) (hb : Below w.heap.size w w') : EnK w' p o h bk x1 m1 x2 s1 k1 y1 m2 y2 x3 m3 x4 s2 k2 := by
  have l1 := World.block_lt_of_cell? w _ e.a0
  have l2 := World.block_lt_of_cell? w _ e.b0
  exact ⟨(hb.cell (p := ⟨p, o + h * 4, none⟩) l1).trans e.a0, (hb.cell (p := ⟨p, o + h * 4 + 1, none⟩) l1).trans e.a1, (hb.cell (p := ⟨p, o + h * 4 + 2, none⟩) l1).trans e.a2, (hb.cell (p := ⟨p, o + h * 4 + 3, none⟩) l1).trans e.a3, (hb.cell (p := ⟨bk, 0, none⟩) l2).trans e.b0, (hb.cell (p := ⟨bk, 1, none⟩) l2).trans e.b1, (hb.cell (p := ⟨bk, 2, none⟩) l2).trans e.b2⟩

set_option maxHeartbeats 8000000 in
theorem bsearch_any (w : World) (v kv : Value) (es : List EnB) (K : EnB) (hv : RdE w v es) (hk : Rd w kv K.1) (hr : riseB es = true) (hl : es.length ≤ 1000) :
    Calls Try.prog 51 #[v, .agg #[kv, .int .u64 (K.2.1 : Int), .int .u8 (K.2.2.1.toNat : Int)], .func (.func 52) #[] #[]] w fun e w' => ∃ b, e = .returned (.tuple #[.int .i64 (cntE es K : Int), .bool b]) ∧ Below w.heap.size w w' := by
  have HV : Hid (RdE w v es) := hv
  obtain ⟨ao, cap, rfl, h1, h2, h2x⟩ := hv
  clear h2x
  obtain ⟨ka, kc, rfl⟩ := hk.len
  unfold maxLen at h2
  obtain ⟨N, hN⟩ : ∃ N, es.length = N := ⟨_, rfl⟩
  obtain ⟨kn, hkn⟩ : ∃ N, K.1.length = N := ⟨_, rfl⟩
  rw [hN] at h1 HV hl ⊢
  rw [hkn] at hk ⊢
  have HN : Hid (es.length = N) := hN
  have HK : Hid (Rd w (.slice ka kn kc) K.1) := hk
  have HRI : Hid (riseB es = true) := hr
  obtain ⟨ks, hks⟩ : ∃ z : Int, (K.2.1 : Int) = z := ⟨_, rfl⟩
  obtain ⟨kk, hkk⟩ : ∃ z : Int, (K.2.2.1.toNat : Int) = z := ⟨_, rfl⟩
  have HKS : Hid ((K.2.1 : Int) = ks ∧ (K.2.2.1.toNat : Int) = kk) := ⟨hks, hkk⟩
  rw [hks, hkk]
  have hb0 := below_box w #[.slice ka kn kc, .int .u64 ks, .int .u8 kk] 37
  have BK := box_new w (.slice ka kn kc) (.int .u64 ks) (.int .u8 kk) 37
  have HB0 : Hid (Below w.heap.size w (w.alloc (.cells #[.slice ka kn kc, .int .u64 ks, .int .u8 kk] 37))) := hb0
  clear hN hkn hk hr hks hkk hb0
  go_enter Try.func51, Try.ntmps51
  go_wp2_with fail
  obtain ⟨w0, hw0⟩ : ∃ W, w.alloc (.cells #[.slice ka kn kc, .int .u64 ks, .int .u8 kk] 37) = W := ⟨_, rfl⟩
  rw [hw0] at BK HB0 ⊢
  clear hw0
  go_loopg [9, 10] N (fun gk iv jv wr => ∃ i j : Nat, gk = j - i ∧ i ≤ j ∧ j ≤ N ∧ iv = .int .i64 (i : Int) ∧ jv = .int .i64 (j : Int) ∧ Hid ((∀ x (h : x < es.length), x < i → ltE es[x] K = true) ∧ ∀ x (h : x < es.length), j ≤ x → ltE es[x] K = false) ∧ Hid (Below w0.heap.size w0 wr))
  case atStart => exact ⟨0, N, by omega, by omega, by omega, rfl, rfl, ⟨fun x h hx => absurd hx (Nat.not_lt_zero _), fun x h hx => by rw [HN.out] at h; omega⟩, Below.refl _ _⟩
  case round =>
    obtain ⟨i, j, hgk, hij, hjN, rfl, rfl, HS, HB⟩ := hrel
    by_cases hlt : i < j
    · obtain ⟨s, hs⟩ : ∃ s, i + j = s := ⟨_, rfl⟩
      obtain ⟨h, hh⟩ : ∃ h, s / 2 = h := ⟨_, rfl⟩
      have k1 : (i : Int) + (j : Int) = (s : Int) := by omega
      have k2 : (s : Int) / 2 = (h : Int) := by omega
      have k3 : (s : Int) ≤ 2000 := by omega
      have k4 : (i : Int) < (j : Int) := by omega
      have hhN : h < es.length := by rw [HN.out]; omega
      have BKr := BK.below HB.out (Nat.le_refl _)
      have HBW : Hid (Below w.heap.size w wr) := bsplit HB0.out HB.out
      obtain ⟨_, _, e, _, _, h3⟩ := rdE_below HV.out HBW.out (Nat.le_refl _)
      rw [HN.out] at e
      cases e
      obtain ⟨p, o, rfl, xv, yv, c0, c1, c2, c3, rx, ry⟩ := h3 h hhN
      obtain ⟨x1, x2, ex⟩ := rx.len
      obtain ⟨y1, y2, ey⟩ := ry.len
      subst ex ey
      obtain ⟨r, hr⟩ : ∃ r, cmpE es[h] K = r := ⟨_, rfl⟩
      obtain ⟨s1, hs1⟩ : ∃ z : Int, (es[h].2.1 : Int) = z := ⟨_, rfl⟩
      obtain ⟨t1, ht1⟩ : ∃ z : Int, (es[h].2.2.1.toNat : Int) = z := ⟨_, rfl⟩
      obtain ⟨m1, hm1⟩ : ∃ z, es[h].1.length = z := ⟨_, rfl⟩
      obtain ⟨m2, hm2⟩ : ∃ z, es[h].2.2.2.length = z := ⟨_, rfl⟩
      have hcm := placecmp_any wr.drew (.slice x1 es[h].1.length x2) (es[h].2.1 : Int) (es[h].2.2.1.toNat : Int) y1 es[h].2.2.2.length y2 (.slice ka kn kc) (K.2.1 : Int) (K.2.2.1.toNat : Int) es[h].1 K.1 r rx.drew ((HK.out.below HBW.out (Nat.le_refl _)).drew) hr
      rw [hs1, ht1, hm1, hm2, HKS.out.1, HKS.out.2] at hcm
      rw [hs1] at c1
      rw [ht1] at c2
      rw [hm1] at c0
      rw [hm2] at c3
      have T0 : EnK wr.drew p o h w.heap.size x1 m1 x2 s1 t1 y1 m2 y2 ka kn kc ks kk := ⟨c0, c1, c2, c3, BKr.c0, BKr.c1, BKr.c2⟩
      have HRR : Hid (cmpE es[h] K = r) := hr
      have k5 : (h : Int) < (N : Int) := by omega
      have k6 : (0 : Int) ≤ (h : Int) := by omega
      obtain ⟨d0, d1, d2, _⟩ := BKr
      clear h3 rx ry hr hs1 ht1 hm1 hm2 hs
      by_cases hrn : r < 0
      · have HS2 : Hid ((∀ x (hx : x < es.length), x < h + 1 → ltE es[x] K = true) ∧ ∀ x (hx : x < es.length), j ≤ x → ltE es[x] K = false) := ⟨fun x hx hxh => ahead_lt HRI.out hhN (by omega) (decide_eq_true (by rw [HRR.out]; exact hrn)), HS.out.2⟩
        have q1 : j - (h + 1) < gk := by omega
        have q2 : h + 1 ≤ j := by omega
        clear hh
        go_wp2_with fail
        go_region_held3 (fun w' => (w'.cell? ⟨p, o + h * 4, none⟩ = some (.slice x1 m1 x2) ∧ w'.cell? ⟨p, o + h * 4 + 1, none⟩ = some (.int .u64 s1) ∧ w'.cell? ⟨p, o + h * 4 + 2, none⟩ = some (.int .u8 t1) ∧ w'.cell? ⟨p, o + h * 4 + 3, none⟩ = some (.slice y1 m2 y2)) ∧ (w'.cell? ⟨w.heap.size, 0, none⟩ = some (.slice ka kn kc) ∧ w'.cell? ⟨w.heap.size, 1, none⟩ = some (.int .u64 ks) ∧ w'.cell? ⟨w.heap.size, 2, none⟩ = some (.int .u8 kk)))
          (first | with_reducible exact ⟨⟨T5.a0, T5.a1, T5.a2, T5.a3⟩, ⟨T5.b0, T5.b1, T5.b2⟩⟩ | exact ⟨⟨T0.a0, T0.a1, T0.a2, T0.a3⟩, ⟨T0.b0, T0.b1, T0.b2⟩⟩)
          (first
            | (go_at_call 52; refine hcm.mono ?_; rintro e w5 ⟨rfl, hb5⟩
               have HB5 : Hid (Below w0.heap.size w0 w5) := bsplit HB.out.drew hb5
               have T5 := T0.below hb5)
            | fail)
        clear T0 d0 d1 d2 c0 c1 c2 c3 k1 k2
        go_wp2_with fail
        go_roundg (j - (h + 1))
        case measure => exact q1
        case rel => exact ⟨h + 1, j, rfl, q2, hjN, by go_num, rfl, HS2, HB5⟩
      · have hrn2 : ¬ r < 0 := hrn
        have HS2 : Hid ((∀ x (hx : x < es.length), x < i → ltE es[x] K = true) ∧ ∀ x (hx : x < es.length), h ≤ x → ltE es[x] K = false) := ⟨HS.out.1, fun x hx hxh => behind_ge HRI.out hx hxh (decide_eq_false (by rw [HRR.out]; exact hrn))⟩
        have q1 : h - i < gk := by omega
        have q2 : i ≤ h := by omega
        have q3 : h ≤ N := by omega
        clear hh
        go_wp2_with fail
        go_region_held3 (fun w' => (w'.cell? ⟨p, o + h * 4, none⟩ = some (.slice x1 m1 x2) ∧ w'.cell? ⟨p, o + h * 4 + 1, none⟩ = some (.int .u64 s1) ∧ w'.cell? ⟨p, o + h * 4 + 2, none⟩ = some (.int .u8 t1) ∧ w'.cell? ⟨p, o + h * 4 + 3, none⟩ = some (.slice y1 m2 y2)) ∧ (w'.cell? ⟨w.heap.size, 0, none⟩ = some (.slice ka kn kc) ∧ w'.cell? ⟨w.heap.size, 1, none⟩ = some (.int .u64 ks) ∧ w'.cell? ⟨w.heap.size, 2, none⟩ = some (.int .u8 kk)))
          (first | with_reducible exact ⟨⟨T5.a0, T5.a1, T5.a2, T5.a3⟩, ⟨T5.b0, T5.b1, T5.b2⟩⟩ | exact ⟨⟨T0.a0, T0.a1, T0.a2, T0.a3⟩, ⟨T0.b0, T0.b1, T0.b2⟩⟩)
          (first
            | (go_at_call 52; refine hcm.mono ?_; rintro e w5 ⟨rfl, hb5⟩
               have HB5 : Hid (Below w0.heap.size w0 w5) := bsplit HB.out.drew hb5
               have T5 := T0.below hb5)
            | fail)
        clear T0 d0 d1 d2 c0 c1 c2 c3 k1 k2
        go_wp2_with fail
        go_roundg (h - i)
        case measure => exact q1
        case rel => exact ⟨i, h, rfl, q2, q3, rfl, rfl, HS2, HB5⟩
    · have hie : i = j := by omega
      subst hie
      have HC : Hid (cntE es K = i) := cnt_split (by rw [HN.out]; exact hjN) HS.out.1 HS.out.2
      have HBW : Hid (Below w.heap.size w wr) := bsplit HB0.out HB.out
      have hni : ¬ (i : Int) < (i : Int) := by omega
      by_cases hiN : i < N
      · have hhN : i < es.length := by rw [HN.out]; exact hiN
        have hiI : (i : Int) < (N : Int) := by omega
        have BKr := BK.below HB.out (Nat.le_refl _)
        obtain ⟨_, _, e, _, _, h3⟩ := rdE_below HV.out HBW.out (Nat.le_refl _)
        rw [HN.out] at e
        cases e
        obtain ⟨p, o, rfl, xv, yv, c0, c1, c2, c3, rx, ry⟩ := h3 i hhN
        obtain ⟨x1, x2, ex⟩ := rx.len
        obtain ⟨y1, y2, ey⟩ := ry.len
        subst ex ey
        obtain ⟨r, hr⟩ : ∃ r, cmpE es[i] K = r := ⟨_, rfl⟩
        obtain ⟨s1, hs1⟩ : ∃ z : Int, (es[i].2.1 : Int) = z := ⟨_, rfl⟩
        obtain ⟨t1, ht1⟩ : ∃ z : Int, (es[i].2.2.1.toNat : Int) = z := ⟨_, rfl⟩
        obtain ⟨m1, hm1⟩ : ∃ z, es[i].1.length = z := ⟨_, rfl⟩
        obtain ⟨m2, hm2⟩ : ∃ z, es[i].2.2.2.length = z := ⟨_, rfl⟩
        have hcm := placecmp_any wr.drew (.slice x1 es[i].1.length x2) (es[i].2.1 : Int) (es[i].2.2.1.toNat : Int) y1 es[i].2.2.2.length y2 (.slice ka kn kc) (K.2.1 : Int) (K.2.2.1.toNat : Int) es[i].1 K.1 r rx.drew ((HK.out.below HBW.out (Nat.le_refl _)).drew) hr
        rw [hs1, ht1, hm1, hm2, HKS.out.1, HKS.out.2] at hcm
        rw [hs1] at c1
        rw [ht1] at c2
        rw [hm1] at c0
        rw [hm2] at c3
        have T0 : EnK wr.drew p o i w.heap.size x1 m1 x2 s1 t1 y1 m2 y2 ka kn kc ks kk := ⟨c0, c1, c2, c3, BKr.c0, BKr.c1, BKr.c2⟩
        obtain ⟨d0, d1, d2, _⟩ := BKr
        have k6 : (0 : Int) ≤ (i : Int) := by omega
        clear h3 rx ry hr hs1 ht1 hm1 hm2
        go_wp2_with fail
        go_region_held3 (fun w' => (w'.cell? ⟨p, o + i * 4, none⟩ = some (.slice x1 m1 x2) ∧ w'.cell? ⟨p, o + i * 4 + 1, none⟩ = some (.int .u64 s1) ∧ w'.cell? ⟨p, o + i * 4 + 2, none⟩ = some (.int .u8 t1) ∧ w'.cell? ⟨p, o + i * 4 + 3, none⟩ = some (.slice y1 m2 y2)) ∧ (w'.cell? ⟨w.heap.size, 0, none⟩ = some (.slice ka kn kc) ∧ w'.cell? ⟨w.heap.size, 1, none⟩ = some (.int .u64 ks) ∧ w'.cell? ⟨w.heap.size, 2, none⟩ = some (.int .u8 kk)))
          (first | with_reducible exact ⟨⟨T5.a0, T5.a1, T5.a2, T5.a3⟩, ⟨T5.b0, T5.b1, T5.b2⟩⟩ | exact ⟨⟨T0.a0, T0.a1, T0.a2, T0.a3⟩, ⟨T0.b0, T0.b1, T0.b2⟩⟩)
          (first
            | (go_at_call 52; refine hcm.mono ?_; rintro e w5 ⟨rfl, hb5⟩
               have HB5 : Hid (Below w0.heap.size w0 w5) := bsplit HB.out.drew hb5
               have T5 := T0.below hb5)
            | fail)
        clear T0 d0 d1 d2 c0 c1 c2 c3
        go_wp2
        go_ret2
        refine ⟨r == 0, ?_, bsplit HB0.out HB5.out⟩
        rw [HC.out]
        rfl
      · have hiI : ¬ (i : Int) < (N : Int) := by omega
        have hib : decide ((i : Int) < (N : Int)) = false := decide_eq_false hiI
        go_wp2_with fail
        go_quiet (fail)
        go_wp2
        go_ret2
        refine ⟨false, ?_, below_drewN HBW.out _⟩
        rw [HC.out]
        rfl

theorem lplace_any (w : World) (v kv : Value) (es : List EnB) (K : EnB) (hv : RdE w v es) (hk : Rd w kv K.1) (hr : riseB es = true) (hl : es.length ≤ 1000) :
    Calls Try.prog 43 #[v, .agg #[kv, .int .u64 (K.2.1 : Int), .int .u8 (K.2.2.1.toNat : Int)]] w fun e w' => e = .returned (.int .i64 (cntE es K : Int)) ∧ Below w.heap.size w w' := by
  have hb0 := below_box w #[kv, .int .u64 (K.2.1 : Int), .int .u8 (K.2.2.1.toNat : Int)] 37
  have hbs := bsearch_any (w.alloc (.cells #[kv, .int .u64 (K.2.1 : Int), .int .u8 (K.2.2.1.toNat : Int)] 37)) v kv es K (rdE_below hv hb0 (Nat.le_refl _)) (hk.below hb0 (Nat.le_refl _)) hr hl
  obtain ⟨ao, cap, rfl⟩ := hv.shape
  obtain ⟨ka, kc, rfl⟩ := hk.len
  obtain ⟨kn, hkn⟩ : ∃ n, K.1.length = n := ⟨_, rfl⟩
  obtain ⟨N, hN⟩ : ∃ n, es.length = n := ⟨_, rfl⟩
  obtain ⟨ks, hks⟩ : ∃ z : Int, (K.2.1 : Int) = z := ⟨_, rfl⟩
  obtain ⟨kk, hkk⟩ : ∃ z : Int, (K.2.2.1.toNat : Int) = z := ⟨_, rfl⟩
  obtain ⟨C, hC⟩ : ∃ z, cntE es K = z := ⟨_, rfl⟩
  rw [hkn, hN, hks, hkk] at hbs ⊢
  rw [hC] at hbs ⊢
  rw [hkn, hks, hkk] at hb0
  obtain ⟨d0, d1, d2, _⟩ := box_new w (.slice ka kn kc) (.int .u64 ks) (.int .u8 kk) 37
  have HB0 : Hid (Below w.heap.size w (w.alloc (.cells #[.slice ka kn kc, .int .u64 ks, .int .u8 kk] 37))) := hb0
  clear hv hk hr hl hkn hN hks hkk hC hb0
  go_enter Try.func43, Try.ntmps43
  go_wp2_with fail
  refine hbs.mono ?_
  rintro e w1 ⟨b, rfl, hb⟩
  have HB1 : Hid (Below w.heap.size w w1) := bsplit HB0.out hb
  clear hbs hb
  go_wp2
  go_ret
  exact ⟨rfl, HB1.out⟩

/-- what leaf.From and leaf.Before answer: the entry at a place, or none -/
def FndPost (q : Option (Option EnB)) (w w' : World) (o : Ending) : Prop :=
  Below w.heap.size w w' ∧ match q with
    | none => o = .returned (.tuple #[enZ, .bool false, .int .i64 4])
    | some none => o = .returned (.tuple #[enZ, .bool false, .int .i64 0])
    | some (some e) => ∃ x y, o = .returned (.tuple #[enV x (e.2.1 : Int) (e.2.2.1.toNat : Int) y, .bool true, .int .i64 0]) ∧ Rd w' x e.1 ∧ Rd w' y e.2.2.2

/-- what leaf.From tells -/
def fromL (p : List UInt8) (K : EnB) : Option (Option EnB) := match readL p with
  | none => none
  | some es => some es[cntE es K]?

/-- what leaf.Before tells -/
def befL (p : List UInt8) (K : EnB) : Option (Option EnB) := match readL p with
  | none => none
  | some es => if cntE es K = 0 then some none else some es[cntE es K - 1]?

end Go.Proofs.Ytdopfijoplldkaa

/- leaf.From, leaf.Before. -/
namespace Go.Proofs.Ytdopfijoplldkaa
set_option maxRecDepth 20000
open Go.RowKit
set_option linter.unusedVariables false

theorem far_of {B : Nat} {v : Value} (hf : From (B + 2) v) : ∀ g, v.ownBlock = some g → g ≠ B + 1 := fun g hg => by
  cases v with
  | slice a n c =>
    cases a with
    | none => simp [Value.ownBlock] at hg
    | some a =>
      have h9 := hf a n c rfl
      simp only [Value.ownBlock, Option.some.injEq] at hg
      omega
  | _ => simp [Value.ownBlock] at hg

set_option maxHeartbeats 4000000 in
theorem lfrom_any (w : World) (b off cap : Nat) (p : List UInt8) (kv : Value) (K : EnB) (hc : Cel w b off p) (h1 : p.length ≤ cap) (h2 : cap ≤ 9223372036854775807) (hp : p.length ≤ 90000) (hbw : b < w.heap.size) (hk : Rd w kv K.1) :
    Calls Try.prog 21 #[.slice (some ⟨b, off, none⟩) p.length cap, .agg #[kv, .int .u64 (K.2.1 : Int), .int .u8 (K.2.2.1.toNat : Int)]] w fun o w' => FndPost (fromL p K) w w' o := by
  obtain ⟨ka, kc, rfl⟩ := hk.len
  obtain ⟨kn, hkn⟩ : ∃ n, K.1.length = n := ⟨_, rfl⟩
  obtain ⟨L, hL⟩ : ∃ n, p.length = n := ⟨_, rfl⟩
  obtain ⟨ks, hks⟩ : ∃ z : Int, (K.2.1 : Int) = z := ⟨_, rfl⟩
  obtain ⟨kk, hkk⟩ : ∃ z : Int, (K.2.2.1.toNat : Int) = z := ⟨_, rfl⟩
  have hb0 := below_box w #[.slice ka kn kc, .int .u64 ks, .int .u8 kk] 37
  have hb1 := below_box4 (w.alloc (.cells #[.slice ka kn kc, .int .u64 ks, .int .u8 kk] 37)) (.cells #[.slice none 0 0, .int .u64 0, .int .u8 0, .slice none 0 0] 45)
  have BK := (box_new w (.slice ka kn kc) (.int .u64 ks) (.int .u8 kk) 37).below hb1 (Nat.le_refl _)
  have BR := box4f_new (w.alloc (.cells #[.slice ka kn kc, .int .u64 ks, .int .u8 kk] 37)) (.slice none 0 0) (.int .u64 0) (.int .u8 0) (.slice none 0 0) 45
  rw [show (w.alloc (.cells #[.slice ka kn kc, .int .u64 ks, .int .u8 kk] 37)).heap.size = w.heap.size + 1 by simp] at BR
  have HB1 : Hid (Below w.heap.size w ((w.alloc (.cells #[.slice ka kn kc, .int .u64 ks, .int .u8 kk] 37)).alloc (.cells #[.slice none 0 0, .int .u64 0, .int .u8 0, .slice none 0 0] 45))) := bsplit hb0 hb1
  have hrd := lread_any ((w.alloc (.cells #[.slice ka kn kc, .int .u64 ks, .int .u8 kk] 37)).alloc (.cells #[.slice none 0 0, .int .u64 0, .int .u8 0, .slice none 0 0] 45)) b off cap p (hc.below HB1.out) h1 h2 hp (by simp; omega)
  rw [hL] at hrd h1 hp ⊢
  rw [hkn] at hk ⊢
  rw [hks, hkk]
  have HK : Hid (Rd w (.slice ka kn kc) K.1) := hk
  have HKS : Hid ((K.2.1 : Int) = ks ∧ (K.2.2.1.toNat : Int) = kk) := ⟨hks, hkk⟩
  clear hc h1 h2 hp hbw hk hkn hL hks hkk hb0 hb1
  go_enter Try.func21, Try.ntmps21
  go_wp2_with fail
  refine hrd.mono ?_
  rintro o w1 ⟨hb2, hq⟩
  have HB2 : Hid (Below w.heap.size w w1) := bsplit HB1.out hb2
  have BR1 := BR.below hb2 (Nat.le_refl _)
  have BK1 := BK.below hb2 (Nat.le_refl _)
  clear hrd hb2 BR BK
  cases hr : readL p with
  | none =>
    rw [hr] at hq
    simp only at hq
    subst hq
    have HE : Hid (fromL p K = none) := by show _ = _; unfold fromL; rw [hr]
    clear hr
    obtain ⟨⟨c0, c1, c2, c3⟩, f0, f1, f2, f3⟩ := BR1
    go_wp2
    refine bodyPost_ret (v := .tuple #[enZ, .bool false, .int .i64 4]) (by simp [results, Try.results21, go_sem, c0, c1, c2, c3]) rfl ?_
    refine ⟨below_store4 HB2.out (Nat.le_succ _) _ _ _ _, ?_⟩
    rw [HE.out]
  | some es =>
    rw [hr] at hq
    simp only at hq
    obtain ⟨x, rfl, rx, fx⟩ := hq
    rw [show ((w.alloc (.cells #[.slice ka kn kc, .int .u64 ks, .int .u8 kk] 37)).alloc (.cells #[.slice none 0 0, .int .u64 0, .int .u8 0, .slice none 0 0] 45)).heap.size = w.heap.size + 2 by simp] at fx
    obtain ⟨i1, i2⟩ := readL_is hr
    obtain ⟨j1, j2, j3⟩ := chkLf_ok.1 i1
    have hpl := lplace_any w1 x (.slice ka kn kc) es K rx (HK.out.below HB2.out (Nat.le_refl _)) j3 (by omega)
    rw [HKS.out.1, HKS.out.2] at hpl
    obtain ⟨C, hC⟩ : ∃ n, cntE es K = n := ⟨_, rfl⟩
    have hCl : C ≤ es.length := by rw [← hC]; exact cntE_le _ _
    rw [hC] at hpl
    have HE : Hid (fromL p K = some es[C]?) := by show _ = _; unfold fromL; rw [hr, ← hC]
    have HX : Hid (RdE w1 x es) := rx
    have HFX : Hid (FrE (w.heap.size + 2) w1 x es.length) := fx
    clear fx
    obtain ⟨xa, xc, hx, hc1, hc2, _⟩ := rx
    obtain ⟨N, hN⟩ : ∃ n, es.length = n := ⟨_, rfl⟩
    have HN : Hid (es.length = N) := hN
    subst hx
    rw [hN] at hpl HX HFX hCl hc1 ⊢
    have hN64 : N ≤ 64 := by omega
    have BK1' := BK1
    obtain ⟨d0, d1, d2, _⟩ := BK1'
    clear hr hC i1 i2 j1 j2 j3 hN hc2
    go_wp2_with fail
    refine hpl.mono ?_
    rintro o w2 ⟨rfl, hb3⟩
    have HB3 : Hid (Below w.heap.size w w2) := bsplit HB2.out hb3
    have HX2 : Hid (RdE w2 (.slice xa N xc) es) := rdE_below HX.out hb3 (Nat.le_refl _)
    have HFX2 : Hid (FrE (w.heap.size + 2) w2 (.slice xa N xc) N) := HFX.out.below hb3
    obtain ⟨⟨c0, c1, c2, c3⟩, f0, f1, f2, f3⟩ := BR1.below hb3 (Nat.le_refl _)
    clear hpl hb3 BR1 BK1 d0 d1 d2
    by_cases hCN : C = N
    · subst hCN
      have HE2 : Hid (fromL p K = some none) := by show _ = _; rw [HE.out, List.getElem?_eq_none (by rw [HN.out]; exact Nat.le_refl _)]
      go_wp2
      refine bodyPost_ret (v := .tuple #[enZ, .bool false, .int .i64 0]) (by simp [results, Try.results21, go_sem, c0, c1, c2, c3]) rfl ?_
      refine ⟨below_store4 HB3.out (Nat.le_succ _) _ _ _ _, ?_⟩
      rw [HE2.out]
    · have hCI : ¬ (C : Int) = (N : Int) := by omega
      have hCb : ((C : Int) == (N : Int)) = false := by simpa using hCI
      have hlt : C < es.length := by rw [HN.out]; omega
      obtain ⟨_, _, e, _, _, h3⟩ := HX2.out
      rw [HN.out] at e
      cases e
      obtain ⟨bb, oo, rfl, xv, yv, e0, e1, e2, e3, rx, ry⟩ := h3 C hlt
      obtain ⟨x1, x2, ex⟩ := rx.len
      obtain ⟨y1, y2, ey⟩ := ry.len
      subst ex ey
      have HE2 : Hid (fromL p K = some (some es[C])) := by show _ = _; rw [HE.out, List.getElem?_eq_getElem hlt]
      obtain ⟨E, hE⟩ : ∃ e, es[C] = e := ⟨_, rfl⟩
      rw [hE] at e0 e1 e2 e3 rx ry HE2
      obtain ⟨fx1, fx2⟩ := HFX2.out.at (by rw [← HN.out]; exact hlt) e0 e3
      obtain ⟨sq, hsq⟩ : ∃ z : Int, (E.2.1 : Int) = z := ⟨_, rfl⟩
      obtain ⟨k9, hk9⟩ : ∃ z : Int, (E.2.2.1.toNat : Int) = z := ⟨_, rfl⟩
      obtain ⟨m1, hm1⟩ : ∃ z, E.1.length = z := ⟨_, rfl⟩
      obtain ⟨m2, hm2⟩ : ∃ z, E.2.2.2.length = z := ⟨_, rfl⟩
      rw [hm1] at e0 rx fx1
      rw [hsq] at e1
      rw [hk9] at e2
      rw [hm2] at e3 ry fx2
      have HSK : Hid ((E.2.1 : Int) = sq ∧ (E.2.2.1.toNat : Int) = k9) := ⟨hsq, hk9⟩
      have HRX : Hid (Rd w2 (.slice x1 m1 x2) E.1 ∧ Rd w2 (.slice y1 m2 y2) E.2.2.2) := ⟨rx, ry⟩
      have HFF : Hid (From (w.heap.size + 2) (.slice x1 m1 x2) ∧ From (w.heap.size + 2) (.slice y1 m2 y2)) := ⟨fx1, fx2⟩
      have q1 : (C : Int) < (N : Int) := by have := HN.out; omega
      have q2 : (0 : Int) ≤ (C : Int) := by omega
      clear h3 rx ry fx1 fx2 hsq hk9 hm1 hm2 hE
      go_wp2
      refine bodyPost_ret (v := .tuple #[enV (.slice x1 m1 x2) sq k9 (.slice y1 m2 y2), .bool true, .int .i64 0]) (by simp [results, Try.results21, go_sem, c0, c1, c2, c3]) rfl ?_
      refine ⟨below_store4 HB3.out (Nat.le_succ _) _ _ _ _, ?_⟩
      rw [HE2.out]
      simp only
      refine ⟨_, _, by rw [HSK.out.1, HSK.out.2], rd_store4 HRX.out.1 (far_of HFF.out.1) _ _ _ _, rd_store4 HRX.out.2 (far_of HFF.out.2) _ _ _ _⟩

set_option maxHeartbeats 4000000 in
theorem lbefore_any (w : World) (b off cap : Nat) (p : List UInt8) (kv : Value) (K : EnB) (hc : Cel w b off p) (h1 : p.length ≤ cap) (h2 : cap ≤ 9223372036854775807) (hp : p.length ≤ 90000) (hbw : b < w.heap.size) (hk : Rd w kv K.1) :
    Calls Try.prog 23 #[.slice (some ⟨b, off, none⟩) p.length cap, .agg #[kv, .int .u64 (K.2.1 : Int), .int .u8 (K.2.2.1.toNat : Int)]] w fun o w' => FndPost (befL p K) w w' o := by
  obtain ⟨ka, kc, rfl⟩ := hk.len
  obtain ⟨kn, hkn⟩ : ∃ n, K.1.length = n := ⟨_, rfl⟩
  obtain ⟨L, hL⟩ : ∃ n, p.length = n := ⟨_, rfl⟩
  obtain ⟨ks, hks⟩ : ∃ z : Int, (K.2.1 : Int) = z := ⟨_, rfl⟩
  obtain ⟨kk, hkk⟩ : ∃ z : Int, (K.2.2.1.toNat : Int) = z := ⟨_, rfl⟩
  have hb0 := below_box w #[.slice ka kn kc, .int .u64 ks, .int .u8 kk] 37
  have hb1 := below_box4 (w.alloc (.cells #[.slice ka kn kc, .int .u64 ks, .int .u8 kk] 37)) (.cells #[.slice none 0 0, .int .u64 0, .int .u8 0, .slice none 0 0] 45)
  have BK := (box_new w (.slice ka kn kc) (.int .u64 ks) (.int .u8 kk) 37).below hb1 (Nat.le_refl _)
  have BR := box4f_new (w.alloc (.cells #[.slice ka kn kc, .int .u64 ks, .int .u8 kk] 37)) (.slice none 0 0) (.int .u64 0) (.int .u8 0) (.slice none 0 0) 45
  rw [show (w.alloc (.cells #[.slice ka kn kc, .int .u64 ks, .int .u8 kk] 37)).heap.size = w.heap.size + 1 by simp] at BR
  have HB1 : Hid (Below w.heap.size w ((w.alloc (.cells #[.slice ka kn kc, .int .u64 ks, .int .u8 kk] 37)).alloc (.cells #[.slice none 0 0, .int .u64 0, .int .u8 0, .slice none 0 0] 45))) := bsplit hb0 hb1
  have hrd := lread_any ((w.alloc (.cells #[.slice ka kn kc, .int .u64 ks, .int .u8 kk] 37)).alloc (.cells #[.slice none 0 0, .int .u64 0, .int .u8 0, .slice none 0 0] 45)) b off cap p (hc.below HB1.out) h1 h2 hp (by simp; omega)
  rw [hL] at hrd h1 hp ⊢
  rw [hkn] at hk ⊢
  rw [hks, hkk]
  have HK : Hid (Rd w (.slice ka kn kc) K.1) := hk
  have HKS : Hid ((K.2.1 : Int) = ks ∧ (K.2.2.1.toNat : Int) = kk) := ⟨hks, hkk⟩
  clear hc h1 h2 hp hbw hk hkn hL hks hkk hb0 hb1
  go_enter Try.func23, Try.ntmps23
  go_wp2_with fail
  refine hrd.mono ?_
  rintro o w1 ⟨hb2, hq⟩
  have HB2 : Hid (Below w.heap.size w w1) := bsplit HB1.out hb2
  have BR1 := BR.below hb2 (Nat.le_refl _)
  have BK1 := BK.below hb2 (Nat.le_refl _)
  clear hrd hb2 BR BK
  cases hr : readL p with
  | none =>
    rw [hr] at hq
    simp only at hq
    subst hq
    have HE : Hid (befL p K = none) := by show _ = _; unfold befL; rw [hr]
    clear hr
    obtain ⟨⟨c0, c1, c2, c3⟩, f0, f1, f2, f3⟩ := BR1
    go_wp2
    refine bodyPost_ret (v := .tuple #[enZ, .bool false, .int .i64 4]) (by simp [results, Try.results23, go_sem, c0, c1, c2, c3]) rfl ?_
    refine ⟨below_store4 HB2.out (Nat.le_succ _) _ _ _ _, ?_⟩
    rw [HE.out]
  | some es =>
    rw [hr] at hq
    simp only at hq
    obtain ⟨x, rfl, rx, fx⟩ := hq
    rw [show ((w.alloc (.cells #[.slice ka kn kc, .int .u64 ks, .int .u8 kk] 37)).alloc (.cells #[.slice none 0 0, .int .u64 0, .int .u8 0, .slice none 0 0] 45)).heap.size = w.heap.size + 2 by simp] at fx
    obtain ⟨i1, i2⟩ := readL_is hr
    obtain ⟨j1, j2, j3⟩ := chkLf_ok.1 i1
    have hpl := lplace_any w1 x (.slice ka kn kc) es K rx (HK.out.below HB2.out (Nat.le_refl _)) j3 (by omega)
    rw [HKS.out.1, HKS.out.2] at hpl
    obtain ⟨C, hC⟩ : ∃ n, cntE es K = n := ⟨_, rfl⟩
    have hCl : C ≤ es.length := by rw [← hC]; exact cntE_le _ _
    rw [hC] at hpl
    have HE : Hid (befL p K = if C = 0 then some none else some es[C - 1]?) := by show _ = _; unfold befL; rw [hr, ← hC]
    have HX : Hid (RdE w1 x es) := rx
    have HFX : Hid (FrE (w.heap.size + 2) w1 x es.length) := fx
    clear fx
    obtain ⟨xa, xc, hx, hc1, hc2, _⟩ := rx
    obtain ⟨N, hN⟩ : ∃ n, es.length = n := ⟨_, rfl⟩
    have HN : Hid (es.length = N) := hN
    subst hx
    rw [hN] at hpl HX HFX hCl hc1 ⊢
    have hN64 : N ≤ 64 := by omega
    have BK1' := BK1
    obtain ⟨d0, d1, d2, _⟩ := BK1'
    clear hr hC i1 i2 j1 j2 j3 hN hc2
    go_wp2_with fail
    refine hpl.mono ?_
    rintro o w2 ⟨rfl, hb3⟩
    have HB3 : Hid (Below w.heap.size w w2) := bsplit HB2.out hb3
    have HX2 : Hid (RdE w2 (.slice xa N xc) es) := rdE_below HX.out hb3 (Nat.le_refl _)
    have HFX2 : Hid (FrE (w.heap.size + 2) w2 (.slice xa N xc) N) := HFX.out.below hb3
    obtain ⟨⟨c0, c1, c2, c3⟩, f0, f1, f2, f3⟩ := BR1.below hb3 (Nat.le_refl _)
    clear hpl hb3 BR1 BK1 d0 d1 d2
    by_cases hCN : C = 0
    · subst hCN
      have HE2 : Hid (befL p K = some none) := by show _ = _; rw [HE.out, if_pos rfl]
      go_wp2
      refine bodyPost_ret (v := .tuple #[enZ, .bool false, .int .i64 0]) (by simp [results, Try.results23, go_sem, c0, c1, c2, c3]) rfl ?_
      refine ⟨below_store4 HB3.out (Nat.le_succ _) _ _ _ _, ?_⟩
      rw [HE2.out]
    · have hCI : ¬ (C : Int) = 0 := by omega
      have hCb : ((C : Int) == 0) = false := by simpa using hCI
      obtain ⟨D, hD⟩ : ∃ D, C - 1 = D := ⟨_, rfl⟩
      have hDI : (C : Int) - 1 = (D : Int) := by omega
      have hlt : D < es.length := by rw [HN.out]; omega
      obtain ⟨_, _, e, _, _, h3⟩ := HX2.out
      rw [HN.out] at e
      cases e
      obtain ⟨bb, oo, rfl, xv, yv, e0, e1, e2, e3, rx, ry⟩ := h3 D hlt
      obtain ⟨x1, x2, ex⟩ := rx.len
      obtain ⟨y1, y2, ey⟩ := ry.len
      subst ex ey
      have HE2 : Hid (befL p K = some (some es[D])) := by show _ = _; rw [HE.out, if_neg hCN, hD, List.getElem?_eq_getElem hlt]
      obtain ⟨E, hE⟩ : ∃ e, es[D] = e := ⟨_, rfl⟩
      rw [hE] at e0 e1 e2 e3 rx ry HE2
      obtain ⟨fx1, fx2⟩ := HFX2.out.at (by rw [← HN.out]; exact hlt) e0 e3
      obtain ⟨sq, hsq⟩ : ∃ z : Int, (E.2.1 : Int) = z := ⟨_, rfl⟩
      obtain ⟨k9, hk9⟩ : ∃ z : Int, (E.2.2.1.toNat : Int) = z := ⟨_, rfl⟩
      obtain ⟨m1, hm1⟩ : ∃ z, E.1.length = z := ⟨_, rfl⟩
      obtain ⟨m2, hm2⟩ : ∃ z, E.2.2.2.length = z := ⟨_, rfl⟩
      rw [hm1] at e0 rx fx1
      rw [hsq] at e1
      rw [hk9] at e2
      rw [hm2] at e3 ry fx2
      have HSK : Hid ((E.2.1 : Int) = sq ∧ (E.2.2.1.toNat : Int) = k9) := ⟨hsq, hk9⟩
      have HRX : Hid (Rd w2 (.slice x1 m1 x2) E.1 ∧ Rd w2 (.slice y1 m2 y2) E.2.2.2) := ⟨rx, ry⟩
      have HFF : Hid (From (w.heap.size + 2) (.slice x1 m1 x2) ∧ From (w.heap.size + 2) (.slice y1 m2 y2)) := ⟨fx1, fx2⟩
      have q1 : (D : Int) < (N : Int) := by have := HN.out; omega
      have q2 : (0 : Int) ≤ (D : Int) := by omega
      clear h3 rx ry fx1 fx2 hsq hk9 hm1 hm2 hE
      go_wp2
      refine bodyPost_ret (v := .tuple #[enV (.slice x1 m1 x2) sq k9 (.slice y1 m2 y2), .bool true, .int .i64 0]) (by simp [results, Try.results23, go_sem, c0, c1, c2, c3]) rfl ?_
      refine ⟨below_store4 HB3.out (Nat.le_succ _) _ _ _ _, ?_⟩
      rw [HE2.out]
      simp only
      refine ⟨_, _, by rw [HSK.out.1, HSK.out.2], rd_store4 HRX.out.1 (far_of HFF.out.1) _ _ _ _, rd_store4 HRX.out.2 (far_of HFF.out.2) _ _ _ _⟩

end Go.Proofs.Ytdopfijoplldkaa

/- bartizanlaw12.entry, awake: the document's example of layer 12. -/
namespace Go.Proofs.Ytdopfijoplldkaa
set_option maxRecDepth 20000
open Go.RowKit
set_option linter.unusedVariables false

set_option maxHeartbeats 1000000 in
theorem entry_any (w : World) (t u : ByteArray) (l m : List UInt8) (hl : t.data.toList = l) (hl2 : l.length ≤ 100) (hm : u.data.toList = m) (hm2 : m.length ≤ 100) :
    Calls Try.prog 26 #[.string t, .string u] w fun e w' => ∃ x y, e = .returned (.agg #[x, .int .u64 1, .int .u8 2, y]) ∧ Rd w' x l ∧ Rd w' y m ∧ Below w.heap.size w w' := by
  have hb0 := below_box4 w (.cells #[.slice none 0 0, .int .u64 0, .int .u8 0, .slice none 0 0] 45)
  have br := box4f_new w (.slice none 0 0) (.int .u64 0) (.int .u8 0) (.slice none 0 0) 45
  obtain ⟨cap, w1, hc, hr, hb, hs⟩ := conv_str (w.alloc (.cells #[.slice none 0 0, .int .u64 0, .int .u8 0, .slice none 0 0] 45)) t l hl hl2
  obtain ⟨cap2, w2, hc2, hr2, hb2, hs2⟩ := conv_str w1 u m hm hm2
  obtain ⟨⟨c0, c1, c2, c3⟩, f0, f1, f2, f3⟩ := (br.below hb (Nat.le_refl _)).below hb2 (Nat.le_refl _)
  have HB : Hid (Below w.heap.size w w2) := bsplit (bsplit hb0 hb) hb2
  rw [show (w.alloc (.cells #[.slice none 0 0, .int .u64 0, .int .u8 0, .slice none 0 0] 45)).heap.size = w.heap.size + 1 by simp] at hc hr hs
  rw [hs] at hc2 hr2
  have HR : Hid (Rd w2 (.slice (some ⟨w.heap.size + 1, 0, none⟩) l.length cap) l ∧ Rd w2 (.slice (some ⟨w.heap.size + 1 + 1, 0, none⟩) m.length cap2) m) := ⟨hr.below hb2 (Nat.le_refl _), hr2⟩
  clear hb0 br hb hb2 hr hr2 hs hs2 hl hm
  go_enter Try.func26, Try.ntmps26
  go_wp2
  refine bodyPost_ret (v := .agg #[.slice (some ⟨w.heap.size + 1, 0, none⟩) l.length cap, .int .u64 1, .int .u8 2, .slice (some ⟨w.heap.size + 1 + 1, 0, none⟩) m.length cap2]) (by simp [results, Try.results26, go_sem, c0, c1, c2, c3]) rfl ⟨_, _, rfl, rd_store4 HR.out.1 (fun g hg => ?_) _ _ _ _, rd_store4 HR.out.2 (fun g hg => ?_) _ _ _ _, below_store4 HB.out (Nat.le_refl _) _ _ _ _⟩
  · simp only [Value.ownBlock, Option.some.injEq] at hg; omega
  · simp only [Value.ownBlock, Option.some.injEq] at hg; omega

theorem lex1 : leafB [([97, 97], 1, 2, [120])] = [0, 10, 1, 97, 97, 2, 1, 0, 0, 0, 0, 0, 0, 120, 0, 0, 1, 0] := by decide +kernel
theorem lex2 : leafB [([97, 97], 1, 2, [120]), ([97, 98], 1, 2, [121])] = [0, 10, 1, 97, 97, 2, 1, 0, 0, 0, 0, 0, 0, 120, 1, 9, 1, 98, 2, 1, 0, 0, 0, 0, 0, 0, 121, 0, 0, 1, 0] := by decide +kernel
theorem lex3 : chkLf [([97, 97], 1, 2, [120])] = 0 := by decide +kernel
theorem lex4 : chkLf [([97, 97], 1, 2, [120]), ([97, 98], 1, 2, [121])] = 0 := by decide +kernel

theorem rdE_one (w : World) (x y : Value) (e : EnB) (hx : Rd w x e.1) (hy : Rd w y e.2.2.2) : RdE (w.alloc (.cells #[x, .int .u64 (e.2.1 : Int), .int .u8 (e.2.2.1.toNat : Int), y] 45)) (.slice (some ⟨w.heap.size, 0, none⟩) 1 1) [e] := by
  have hb := below_box4 w (.cells #[x, .int .u64 (e.2.1 : Int), .int .u8 (e.2.2.1.toNat : Int), y] 45)
  obtain ⟨c0, c1, c2, c3⟩ := box4_new w x (.int .u64 (e.2.1 : Int)) (.int .u8 (e.2.2.1.toNat : Int)) y 45
  refine ⟨_, 1, rfl, Nat.le_refl _, by decide, fun j hj => ?_⟩
  obtain rfl : j = 0 := by simp at hj; exact hj
  exact ⟨w.heap.size, 0, rfl, x, y, c0, c1, c2, c3, hx.below hb (Nat.le_refl _), hy.below hb (Nat.le_refl _)⟩

theorem rdE_two (w : World) (x y x' y' : Value) (e e' : EnB) (hx : Rd w x e.1) (hy : Rd w y e.2.2.2) (hx' : Rd w x' e'.1) (hy' : Rd w y' e'.2.2.2) : RdE (w.alloc (.cells #[x, .int .u64 (e.2.1 : Int), .int .u8 (e.2.2.1.toNat : Int), y, x', .int .u64 (e'.2.1 : Int), .int .u8 (e'.2.2.1.toNat : Int), y'] 45)) (.slice (some ⟨w.heap.size, 0, none⟩) 2 2) [e, e'] := by
  have hb := below_box4 w (.cells #[x, .int .u64 (e.2.1 : Int), .int .u8 (e.2.2.1.toNat : Int), y, x', .int .u64 (e'.2.1 : Int), .int .u8 (e'.2.2.1.toNat : Int), y'] 45)
  have h := heap_alloc_new w (.cells #[x, .int .u64 (e.2.1 : Int), .int .u8 (e.2.2.1.toNat : Int), y, x', .int .u64 (e'.2.1 : Int), .int .u8 (e'.2.2.1.toNat : Int), y'] 45)
  have c := fun i => cell_of_row _ w.heap.size i _ _ _ h
  refine ⟨_, 2, rfl, Nat.le_refl _, by decide, fun j hj => ?_⟩
  have : j = 0 ∨ j = 1 := by simp at hj; omega
  rcases this with rfl | rfl
  · exact ⟨w.heap.size, 0, rfl, x, y, by rw [c]; rfl, by rw [c]; rfl, by rw [c]; rfl, by rw [c]; rfl, hx.below hb (Nat.le_refl _), hy.below hb (Nat.le_refl _)⟩
  · exact ⟨w.heap.size, 0, rfl, x', y', by rw [c]; rfl, by rw [c]; rfl, by rw [c]; rfl, by rw [c]; rfl, hx'.below hb (Nat.le_refl _), hy'.below hb (Nat.le_refl _)⟩

set_option maxHeartbeats 2000000 in
theorem lawake_any (w : World) : Calls Try.prog 9 #[] w fun e w' => e = .returned (.bool true) ∧ Below w.heap.size w w' := by
  go_enter Try.func9, Try.ntmps9
  go_wp2_with fail
  refine (entry_any w _ _ [97, 97] [120] rfl (by simp) rfl (by simp)).mono ?_
  rintro e w1 ⟨x1, y1, rfl, rx1, ry1, hb1⟩
  have HB1 : Hid (Below w.heap.size w w1) := hb1
  have hbu1 := lbuild_ok _ _ _ (rdE_one w1 x1 y1 ([97, 97], 1, 2, [120]) rx1 ry1) lex3
  rw [lex1] at hbu1
  obtain ⟨xa1, xc1, rfl⟩ := rx1.len
  obtain ⟨ya1, yc1, rfl⟩ := ry1.len
  have HB1a : Hid _ := bsplit HB1.out (below_box4 w1 (.cells #[.slice xa1 2 xc1, .int .u64 1, .int .u8 2, .slice ya1 1 yc1] 45))
  clear hb1 rx1 ry1
  go_wp2_with fail
  refine hbu1.mono ?_
  rintro e w2 ⟨p, rfl, op, hb2⟩
  have HB2 : Hid (Below w.heap.size w w2) := bsplit HB1a.out hb2
  obtain ⟨gp, cp, hp⟩ := op.shape
  simp only [List.length_cons, List.length_nil] at hp
  subst hp
  have HP2 : Hid (Rd w2 (.slice (some ⟨gp, 0, none⟩) 18 cp) [0, 10, 1, 97, 97, 2, 1, 0, 0, 0, 0, 0, 0, 120, 0, 0, 1, 0]) := op.rd
  clear hbu1 hb2 op
  go_wp2_with fail
  refine (entry_any w2 _ _ [97, 97] [120] rfl (by simp) rfl (by simp)).mono ?_
  rintro e w3 ⟨x3, y3, rfl, rx3, ry3, hb3⟩
  have HB3 : Hid (Below w.heap.size w w3) := bsplit HB2.out hb3
  have HP3 : Hid (Rd w3 (.slice (some ⟨gp, 0, none⟩) 18 cp) [0, 10, 1, 97, 97, 2, 1, 0, 0, 0, 0, 0, 0, 120, 0, 0, 1, 0]) := Rd.below HP2.out hb3 (Nat.le_refl _)
  clear hb3
  go_wp2_with fail
  refine (entry_any w3 _ _ [97, 98] [121] rfl (by simp) rfl (by simp)).mono ?_
  rintro e w4 ⟨x4, y4, rfl, rx4, ry4, hb4⟩
  have HB4 : Hid (Below w.heap.size w w4) := bsplit HB3.out hb4
  have HP4 : Hid (Rd w4 (.slice (some ⟨gp, 0, none⟩) 18 cp) [0, 10, 1, 97, 97, 2, 1, 0, 0, 0, 0, 0, 0, 120, 0, 0, 1, 0]) := Rd.below HP3.out hb4 (Nat.le_refl _)
  have hbu2 := lbuild_ok _ _ _ (rdE_two w4 x3 y3 x4 y4 ([97, 97], 1, 2, [120]) ([97, 98], 1, 2, [121]) (rx3.below hb4 (Nat.le_refl _)) (ry3.below hb4 (Nat.le_refl _)) rx4 ry4) lex4
  rw [lex2] at hbu2
  obtain ⟨xa3, xc3, rfl⟩ := rx3.len
  obtain ⟨ya3, yc3, rfl⟩ := ry3.len
  obtain ⟨xa4, xc4, rfl⟩ := rx4.len
  obtain ⟨ya4, yc4, rfl⟩ := ry4.len
  have hba := below_box4 w4 (.cells #[.slice xa3 2 xc3, .int .u64 1, .int .u8 2, .slice ya3 1 yc3, .slice xa4 2 xc4, .int .u64 1, .int .u8 2, .slice ya4 1 yc4] 45)
  have HB4a : Hid _ := bsplit HB4.out hba
  have HP4a : Hid (Rd _ (.slice (some ⟨gp, 0, none⟩) 18 cp) [0, 10, 1, 97, 97, 2, 1, 0, 0, 0, 0, 0, 0, 120, 0, 0, 1, 0]) := Rd.below HP4.out hba (Nat.le_refl _)
  clear hb4 rx3 ry3 rx4 ry4 hba
  go_wp2_with fail
  refine hbu2.mono ?_
  rintro e w5 ⟨q, rfl, oq, hb5⟩
  have HB5 : Hid (Below w.heap.size w w5) := bsplit HB4a.out hb5
  obtain ⟨gq, cq, hq⟩ := oq.shape
  simp only [List.length_cons, List.length_nil] at hq
  subst hq
  have HP5 : Hid (Rd w5 (.slice (some ⟨gp, 0, none⟩) 18 cp) [0, 10, 1, 97, 97, 2, 1, 0, 0, 0, 0, 0, 0, 120, 0, 0, 1, 0]) := Rd.below HP4a.out hb5 (Nat.le_refl _)
  have hcq : 31 ≤ cq ∧ cq ≤ maxLen := by
    obtain ⟨g', k', c', e, _, _, h1, h2, _⟩ := oq
    simp only [Value.slice.injEq] at e
    obtain ⟨_, _, rfl⟩ := e
    exact ⟨h1, h2⟩
  have HQ5 : Hid (Rd w5 (.slice (some ⟨gq, 14, none⟩) 4 (cq - 14)) [1, 9, 1, 98]) := by
    have h9 := rd_sub (Own.spots oq) 14 4 (cq - 14) (by omega) (by omega) (by simp)
    exact h9
  have hcI : (18 : Int) ≤ (cq : Int) := by omega
  have hcN : ¬ cq = 14 := by omega
  have hcN2 : ¬ (cq : Int) = 14 := by omega
  have hb6 := below_box4 w5 (.cells #[.int .u8 0, .int .u8 10, .int .u8 1, .int .u8 97, .int .u8 97, .int .u8 2, .int .u8 1, .int .u8 0, .int .u8 0, .int .u8 0, .int .u8 0, .int .u8 0, .int .u8 0, .int .u8 120, .int .u8 0, .int .u8 0, .int .u8 1, .int .u8 0] 5)
  have hs1 := same_b _ _ _ [0, 10, 1, 97, 97, 2, 1, 0, 0, 0, 0, 0, 0, 120, 0, 0, 1, 0] [0, 10, 1, 97, 97, 2, 1, 0, 0, 0, 0, 0, 0, 120, 0, 0, 1, 0] true (Rd.below HP5.out hb6 (Nat.le_refl _)) (rd_lit w5 [0, 10, 1, 97, 97, 2, 1, 0, 0, 0, 0, 0, 0, 120, 0, 0, 1, 0] (by decide) _ rfl) (by simp)
  have HB6 : Hid _ := bsplit HB5.out hb6
  have HQ6 : Hid (Rd _ (.slice (some ⟨gq, 14, none⟩) 4 (cq - 14)) [1, 9, 1, 98]) := Rd.below HQ5.out hb6 (Nat.le_refl _)
  clear hbu2 hb5 oq hb6 hcq
  go_wp2_with fail
  refine hs1.mono ?_
  rintro e w6 ⟨rfl, hw6⟩
  rw [← hw6] at HB6 HQ6
  have hb7 := below_box4 w6 (.cells #[.int .u8 1, .int .u8 9, .int .u8 1, .int .u8 98] 5)
  have hs2 := same_b _ _ _ [1, 9, 1, 98] [1, 9, 1, 98] true (Rd.below HQ6.out hb7 (Nat.le_refl _)) (rd_lit w6 [1, 9, 1, 98] (by decide) _ rfl) (by simp)
  have HB7 : Hid _ := bsplit HB6.out hb7
  clear hs1 hw6 hb7
  go_wp2_with fail
  refine hs2.mono ?_
  rintro e w7 ⟨rfl, hw7⟩
  rw [← hw7] at HB7
  clear hs2 hw7
  go_wp2
  go_ret
  exact ⟨rfl, HB7.out⟩

end Go.Proofs.Ytdopfijoplldkaa
