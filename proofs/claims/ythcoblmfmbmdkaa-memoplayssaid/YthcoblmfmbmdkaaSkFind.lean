/- skip.New, (*skip.List).From, Before. -/
import Derived.Test.YthcoblmfmbmdkaaSkSmall
import Derived.LaidEqlPtr
namespace Go.Proofs.Ythcoblmfmbmdkaa
set_option maxRecDepth 20000
open Go.RowKit
set_option linter.unusedVariables false
set_option linter.unusedSimpArgs false

theorem sknew_any (w : World) :
    Calls Try.prog 33 #[] w fun e w' => e = .returned (.pointer (some ⟨w.heap.size, 0, none⟩)) ∧ SkAt w' w.heap.size [] ∧ Below w.heap.size w w' := by
  go_enter Try.func33, Try.ntmps33
  go_wp2
  go_ret
  refine ⟨rfl, ?_, below_box4 w _⟩
  refine ⟨fun a ha => ?_, fun t ht => by simp at ht, fun a b ha hb _ => by simp at ha hb; omega, fun t ht => by simp at ht, fun t ht => by simp at ht, rfl, by simp, fun t ht => by simp at ht⟩
  have ha0 : a = 0 := by simpa using ha
  subst ha0
  have h := heap_alloc_new w (.cells #[.slice none 0 0, .int .u64 0, .int .u8 0, .slice none 0 0, .pointer none, .pointer none, .pointer none, .pointer none, .pointer none, .pointer none, .pointer none, .pointer none] 112)
  refine ⟨fun r hr => ?_, fun r hr => frozen_of_row _ w.heap.size (4 + r) _ 112 h, ⟨_, _, h⟩⟩
  have c := cell_of_row _ w.heap.size (4 + r) _ 112 (0, 0) h
  have : r = 0 ∨ r = 1 ∨ r = 2 ∨ r = 3 ∨ r = 4 ∨ r = 5 ∨ r = 6 ∨ r = 7 := by omega
  rcases this with rfl | rfl | rfl | rfl | rfl | rfl | rfl | rfl <;> exact c.trans rfl

/-- what is found: an entry, or none -/
def FoundE (q : Option EnB) (w w' : World) (o : Ending) : Prop :=
  Below w.heap.size w w' ∧ match q with
    | none => o = .returned (.tuple #[enV (.slice none 0 0) 0 0 (.slice none 0 0), .bool false])
    | some e => ∃ x y, o = .returned (.tuple #[enV x (e.2.1 : Int) (e.2.2.1.toNat : Int) y, .bool true]) ∧ (Rd w' x e.1 ∧ From w.heap.size x) ∧ (Rd w' y e.2.2.2 ∧ From w.heap.size y)

theorem infoTow : (Try.prog.info? 110).map (fun i => (i.zero, i.size, i.bytes)) = some (some (.agg #[.slice none 0 0, .int .u64 0, .int .u8 0, .slice none 0 0, .pointer none, .pointer none, .pointer none, .pointer none, .pointer none, .pointer none, .pointer none, .pointer none]), 12, 128) := by kernel_rfl

/-- in the lowest row stand all -/
theorem fst_low {ts : List Tow} (hh : ∀ t ∈ ts, 1 ≤ t.h ∧ t.h ≤ 8) (c : Nat) : fstT (ts.drop c) 0 = (ts[c]?).map (·.b) := by
  rcases fst_drop ts c 0 with ⟨h1, h2⟩ | ⟨j, hj, h1, h2, h3, h4⟩
  · rw [h1]
    by_cases hc : c < ts.length
    · exact absurd (by have := (hh _ (List.getElem_mem hc)).1; omega) (h2 c hc (Nat.le_refl _))
    · rw [List.getElem?_eq_none (by omega)]; rfl
  · by_cases hcj : c = j
    · subst hcj; rw [h3, List.getElem?_eq_getElem hj]; rfl
    · exact absurd (by have := (hh _ (List.getElem_mem (show c < ts.length by omega))).1; omega) (h4 c (by omega) (Nat.le_refl _) (by omega))

set_option maxHeartbeats 4000000 in
theorem skfrom_any (w : World) (l : Nat) (ts : List Tow) (kv : Value) (K : EnB) (hS : SkAt w l ts) (hk : Rd w kv K.1) (hsm : ∀ t ∈ ts, t.e.1.length ≤ 1000000 ∧ t.e.2.2.2.length ≤ 1000000) :
    Calls Try.prog 63 #[.pointer (some ⟨l, 0, none⟩), .agg #[kv, .int .u64 (K.2.1 : Int), .int .u8 (K.2.2.1.toNat : Int)]] w fun o w' => FoundE ((esT ts)[cntE (esT ts) K]?) w w' o := by
  have HS : Hid (SkAt w l ts) := hS
  have HSM : Hid (∀ t ∈ ts, t.e.1.length ≤ 1000000 ∧ t.e.2.2.2.length ≤ 1000000) := hsm
  obtain ⟨ka, kc, rfl⟩ := hk.len
  obtain ⟨kn, hkn⟩ : ∃ n, K.1.length = n := ⟨_, rfl⟩
  obtain ⟨ks, hks⟩ : ∃ z : Int, (K.2.1 : Int) = z := ⟨_, rfl⟩
  obtain ⟨kk, hkk⟩ : ∃ z : Int, (K.2.2.1.toNat : Int) = z := ⟨_, rfl⟩
  have hb0 := below_box w #[.slice ka kn kc, .int .u64 ks, .int .u8 kk] 42
  have hb1 := below_box4 (w.alloc (.cells #[.slice ka kn kc, .int .u64 ks, .int .u8 kk] 42)) (.cells #[.slice none 0 0, .int .u64 0, .int .u8 0, .slice none 0 0] 44)
  have s1 : (w.alloc (.cells #[.slice ka kn kc, .int .u64 ks, .int .u8 kk] 42)).heap.size = w.heap.size + 1 := by simp
  have s2 : ((w.alloc (.cells #[.slice ka kn kc, .int .u64 ks, .int .u8 kk] 42)).alloc (.cells #[.slice none 0 0, .int .u64 0, .int .u8 0, .slice none 0 0] 44)).heap.size = w.heap.size + 2 := by simp
  have BK := (box_new w (.slice ka kn kc) (.int .u64 ks) (.int .u8 kk) 42).below hb1 (Nat.le_refl _)
  have BR := box4f_new (w.alloc (.cells #[.slice ka kn kc, .int .u64 ks, .int .u8 kk] 42)) (.slice none 0 0) (.int .u64 0) (.int .u8 0) (.slice none 0 0) 44
  rw [s1] at BR
  obtain ⟨W, hW⟩ : ∃ W, (w.alloc (.cells #[.slice ka kn kc, .int .u64 ks, .int .u8 kk] 42)).alloc (.cells #[.slice none 0 0, .int .u64 0, .int .u8 0, .slice none 0 0] 44) = W := ⟨_, rfl⟩
  have hBW := bsplit hb0 hb1
  rw [hW] at BK BR hBW s2
  have HBW : Hid (Below w.heap.size w W) := hBW
  have HSZ : Hid (W.heap.size = w.heap.size + 2) := s2
  have hah := ahead_any W l ts (.slice ka K.1.length kc) K (hS.below hBW) (hk.below hBW (Nat.le_refl _))
  rw [hkn, hks, hkk] at hah
  rw [hkn, hks, hkk]
  obtain ⟨Q, hQ⟩ : ∃ Q, ((esT ts)[cntE (esT ts) K]?) = Q := ⟨_, rfl⟩
  have HQ : Hid (((esT ts)[cntE (esT ts) K]?) = Q) := hQ
  rw [hQ]
  obtain ⟨d0, d1, d2, _⟩ := BK
  clear hS hk hkn hks hkk hb0 hb1 s1 s2 hBW hsm hQ
  go_enter Try.func63, Try.ntmps63
  go_wp2_with fail
  clear hW
  refine hah.mono ?_
  rintro o w1 ⟨A, rfl, hA, hb1⟩
  have HB1 : Hid (Below w.heap.size w w1) := bsplit HBW.out hb1
  have BR1 := BR.below hb1 (Nat.le_refl _)
  have h0 := hA 0 (by omega)
  have hcnt := h0.cnt HS.out.ht
  have hcl := h0.le
  obtain ⟨c, hc⟩ : ∃ c, A 0 = c := ⟨_, rfl⟩
  rw [hc] at hcnt hcl
  simp only [hc]
  have i0 : ∀ V : World, (Instr.index 108 (.agg #[ndP l ts c, ndP l ts (A 1), ndP l ts (A 2), ndP l ts (A 3), ndP l ts (A 4), ndP l ts (A 5), ndP l ts (A 6), ndP l ts (A 7)]) (.int .i64 0)).run Try.prog V = .ok (ndP l ts c) V := fun _ => by kernel_rfl
  have hS1 := HS.out.below HB1.out
  clear hah hA h0 BR d0 d1 d2
  have hcel := (hS1.nod c hcl).cel 0 (by omega)
  rw [fst_low HS.out.ht, if_pos (by have := HS.out.ht; unfold nh; split <;> first | omega | (split <;> first | (rename_i t ht; have := this t (List.mem_of_getElem? ht); omega) | (rename_i ht; have := List.getElem?_eq_none_iff.1 ht; omega))), Nat.add_zero] at hcel
  by_cases hlt : c < ts.length
  · obtain ⟨t, ht⟩ : ∃ t, ts[c] = t := ⟨_, rfl⟩
    have htm : t ∈ ts := by rw [← ht]; exact List.getElem_mem hlt
    rw [List.getElem?_eq_getElem hlt, ht] at hcel
    simp only [Option.map_some, ptrT] at hcel
    have HQE : Hid (Q = some t.e) := by show Q = _; rw [← HQ.out, hcnt, List.getElem?_eq_getElem (by rw [esT_len]; exact hlt), esT_get hlt, ht]
    have hent := hS1.ent t htm
    obtain ⟨⟨c0, c1, c2, c3⟩, rx, ry⟩ := hent
    obtain ⟨x1, xc, ex⟩ := rx.len
    obtain ⟨y1, yc, ey⟩ := ry.len
    rw [ex] at c0 rx
    rw [ey] at c3 ry
    obtain ⟨tb, htb⟩ : ∃ z, t.b = z := ⟨_, rfl⟩
    obtain ⟨sq, hsq⟩ : ∃ z : Int, (t.e.2.1 : Int) = z := ⟨_, rfl⟩
    obtain ⟨ek, hek⟩ : ∃ z : Int, (t.e.2.2.1.toNat : Int) = z := ⟨_, rfl⟩
    have HSE : Hid ((t.e.2.1 : Int) = sq ∧ (t.e.2.2.1.toNat : Int) = ek) := ⟨hsq, hek⟩
    rw [hsq] at c1
    rw [hek] at c2
    have hap := skapart_any w1 (.slice x1 t.e.1.length xc) (.slice y1 t.e.2.2.2.length yc) t.e.1 t.e.2.2.2 sq ek rx ry (HSM.out t htm).1 (HSM.out t htm).2
    have HW1 : Hid (w.heap.size + 2 ≤ w1.heap.size + 2) := by show _ ≤ _; have := HB1.out.size; omega
    rw [htb] at hcel c0 c1 c2 c3
    clear rx ry ex ey hsq hek ht hS1 hcnt htm hlt
    go_wp2_with fail
    refine hap.mono ?_
    rintro o w2 ⟨x, y, rfl, rx2, ry2, _, hb2⟩
    obtain ⟨⟨r0, r1, r2, r3⟩, f0, f1, f2, f3⟩ := BR1.below hb2 (Nat.le_refl _)
    have HB2 : Hid (Below w.heap.size w w2) := bsplit HB1.out hb2
    have HX : Hid ((Rd w2 x t.e.1 ∧ From (w.heap.size + 2) x) ∧ (Rd w2 y t.e.2.2.2 ∧ From (w.heap.size + 2) y)) := ⟨⟨rx2.1, fun a n c e => by have := rx2.2 a n c e; have := HW1.out; omega⟩, ⟨ry2.1, fun a n c e => by have := ry2.2 a n c e; have := HW1.out; omega⟩⟩
    obtain ⟨xa, xc2, rfl⟩ := rx2.1.len
    obtain ⟨ya, yc2, rfl⟩ := ry2.1.len
    clear hap hb2 rx2 ry2 c0 c1 c2 c3
    go_wp2
    refine bodyPost_ret (v := .tuple #[enV (.slice xa t.e.1.length xc2) sq ek (.slice ya t.e.2.2.2.length yc2), .bool true]) (by simp [results, Try.results63, go_sem, r0, r1, r2, r3]) rfl ?_
    refine ⟨below_store4 HB2.out (Nat.le_succ _) _ _ _ _, ?_⟩
    rw [HQE.out]
    exact ⟨_, _, by rw [HSE.out.1, HSE.out.2], ⟨rd_store4 HX.out.1.1 (from_ne HX.out.1.2 (by omega)) _ _ _ _, fun a n c e => by have := HX.out.1.2 a n c e; omega⟩, ⟨rd_store4 HX.out.2.1 (from_ne HX.out.2.2 (by omega)) _ _ _ _, fun a n c e => by have := HX.out.2.2 a n c e; omega⟩⟩
  · rw [List.getElem?_eq_none (by omega)] at hcel
    simp only [Option.map_none, ptrT] at hcel
    have HQE : Hid (Q = none) := by show Q = _; rw [← HQ.out, hcnt, List.getElem?_eq_none (by rw [esT_len]; omega)]
    clear hS1 hcnt hlt
    obtain ⟨⟨r0, r1, r2, r3⟩, f0, f1, f2, f3⟩ := BR1
    go_wp2
    refine bodyPost_ret (v := .tuple #[enV (.slice none 0 0) 0 0 (.slice none 0 0), .bool false]) (by simp [results, Try.results63, go_sem, r0, r1, r2, r3]) rfl ?_
    refine ⟨below_store4 HB1.out (Nat.le_succ _) _ _ _ _, ?_⟩
    rw [HQE.out]

end Go.Proofs.Ythcoblmfmbmdkaa
