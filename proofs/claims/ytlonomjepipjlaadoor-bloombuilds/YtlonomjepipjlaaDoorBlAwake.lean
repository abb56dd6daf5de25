/- The document's examples of filters. -/
import Derived.Test.YtlonomjepipjlaaDoorBlPure
import Derived.Lib.SmallJoins
namespace Go.Proofs.YtlonomjepipjlaaDoor
open Go.RowKit
set_option linter.unusedVariables false

theorem rd_markb (w : World) (b : UInt8) (i : Int) (hi : (b.toNat : Int) = i) : Rd (w.alloc (.cells #[.int .u8 i] 5 (1, 2))) (.slice (some ⟨w.heap.size, 0, none⟩) 1 1) [b] := by
  refine .inr ⟨w.heap.size, 0, 1, rfl, by simp, by simp [maxLen], fun j u hu => ?_⟩
  rw [World.cell?_alloc_mark]
  subst hi
  have hj : j = 0 := by have := (List.getElem?_eq_some_iff.1 hu).1; simp [bv] at this; omega
  subst hj
  simpa [bv] using hu

theorem conv_markb (w : World) (i : Int) (g : Nat) (hg : g = w.heap.size) : (convert 26 26 (.slice (some ⟨g, 0, none⟩) 1 1)).run Tryd.prog (w.alloc (.cells #[.int .u8 i] 5)) = .ok (.slice (some ⟨g, 0, none⟩) 1 1) (w.alloc (.cells #[.int .u8 i] 5 (1, 2))) :=
  Joins.run_convert_bytes_const_at w 26 5 _ 1 1 g hg Tryd.underlying26 Tryd.underlying5

theorem bex1 : prbN 10 = 6 := by decide +kernel
theorem bex2 : sizN 10 2 = 8 := by decide +kernel
theorem bex3 : hasB [0, 0, 0, 0, 0, 0, 0, 0] [] = true := by decide +kernel
theorem bex4 : hasB [0, 0, 0, 0, 0, 0, 0, 0, 1] [] = false := by decide +kernel

/-- append to a row of one's own, behind '&&' or '||' -/
theorem wpList_appg {P : Program} {w : World} {ops : Array Oper} {rest : List Oper} {o : Oper} {a : Act} {Q : Exit → Act → World → Prop} (hgd : Region.wanted o (yielded ops a.tmps) = true) (s x : Operand) (t : TypeId)
    (ho : o.op = .call { callee := .builtin .append, args := #[s, x], argTypes := #[t, t] })
    (base : Nat) (e : TypeId) (i : TypeInfo) (z : Value) (size bytes : Nat) (ht : P.underlying t = some (.slice e)) (hi : P.info? e = some i) (hz : i.zero = some z)
    (hsize : i.size = size) (hby : i.bytes = bytes) (hzs : z.cells.size = size) (hsz : 0 < size)
    (v : Value) (n : Nat) (xs : List Value) (hs : a.eval s = v) (hown : w.ownsRow base e size v n xs)
    (ad : Addr) (m c : Nat) (news : List Value) (hx : a.eval x = .slice (some ad) m c) (hl : news.length = m * size) (hnews : ∀ j u, news[j]? = some u → w.cell? (ad.add j) = some u) (h1 : ∀ u ∈ news, u.oneCell' = true)
    (h63 : n + m ≤ maxLen) (hbytes : (n + m) * bytes ≤ 140737488355328) (hbase : base ≤ w.heap.size)
    (h : ∀ v' w', w'.ownsRow base e size v' (n + m) (xs ++ news) → w.grownBy w' v.ownBlock → (v' = .slice none 0 0 ↔ v = .slice none 0 0 ∧ m = 0) → wpList P ops Q rest (a.put o.dst v') w') : wpList P ops Q (o :: rest) a w :=
  wpList_step fun K hK => by
    rw [if_pos hgd]
    exact wp_append_own w s x t ho base e i z size bytes ht hi hz hsize hby hzs hsz v n xs hs hown ad m c news hx hl hnews h1 h63 hbytes hbase fun v' w' h2 h3 h4 => hK _ _ (h v' w' h2 h3 h4)

theorem below_new (w : World) (o : Obj) : Below w.heap.size w (w.alloc o) := (Below.refl _ _).alloc (Nat.le_refl _) _

set_option maxHeartbeats 4000000 in
set_option maxRecDepth 100000 in
theorem blawake_any (w : World) (ht : Tab w) : Calls Tryd.prog 7 #[] w fun e w' => e = .returned (.bool true) ∧ Below w.heap.size w w' := by
  obtain ⟨i0, hi, hz0, hz1, hz2⟩ := info_parts info5
  have k1 := conv_markb w 97 w.heap.size rfl
  have k2 := conv_markb (w.alloc (.cells #[.int .u8 97] 5 (1, 2))) 98 (w.heap.size + 1) (by simp)
  have h1 := below_new w (.cells #[.int .u8 97] 5 (1, 2))
  have h2 := below_new (w.alloc (.cells #[.int .u8 97] 5 (1, 2))) (.cells #[.int .u8 98] 5 (1, 2))
  have r1 := (rd_markb w 97 97 rfl).below h2 (Nat.le_refl _)
  have r2 := rd_markb (w.alloc (.cells #[.int .u8 97] 5 (1, 2))) 98 98 rfl
  have r3 := rdl_two _ _ _ _ _ r1 r2
  have h3 := below_new ((w.alloc (.cells #[.int .u8 97] 5 (1, 2))).alloc (.cells #[.int .u8 98] 5 (1, 2))) (.cells #[.slice (some ⟨w.heap.size, 0, none⟩) 1 1, .slice (some ⟨(w.alloc (.cells #[.int .u8 97] 5 (1, 2))).heap.size, 0, none⟩) 1 1] 26)
  have hB := (h1.trans (h2.mono h1.size)).trans (h3.mono (Nat.le_trans h1.size h2.size))
  have hbd := build_any _ 10 _ 2 [[97], [98]] (by decide) (by decide) r3 (ht.below hB (Nat.le_refl _))
  simp only [World.size_alloc] at hbd hB
  obtain ⟨F, hF⟩ : ∃ F, buildF 10 [[97], [98]] = F := ⟨_, rfl⟩
  have HF1 : Hid (F.length = 9 ∧ hasB F [97] = true ∧ hasB F [98] = true) := by
    rw [← hF]
    exact ⟨by rw [buildF_len]; show sizN 10 2 + 1 = 9; rw [bex2], has_built _ _ _ (by simp), has_built _ _ _ (by simp)⟩
  rw [hF] at hbd
  have HB : Hid _ := hB
  clear r1 r2 r3 h1 h2 h3 hF hB
  go_enter Tryd.func7, Tryd.ntmps7
  go_wp2_with fail
  refine hbd.mono ?_
  rintro e w1 ⟨vF, rfl, oF, hb1⟩
  obtain ⟨gF, cF, rfl⟩ := oF.shape
  have hB1 := HB.out.trans (hb1.mono (by omega))
  have hpr := prb_any w1 10
  rw [bex1] at hpr
  have k3 := conv_markb w1 97 w1.heap.size rfl
  have h4 := below_new w1 (.cells #[.int .u8 97] 5 (1, 2))
  have hB4 := hB1.trans (h4.mono hB1.size)
  have hl9 := HF1.out.1
  have hh1 := has_any (w1.alloc (.cells #[.int .u8 97] 5 (1, 2))) (some ⟨gF, 0, none⟩) cF (some ⟨w1.heap.size, 0, none⟩) 1 1 F [97] (by omega) (oF.rd.below h4 (Nat.le_refl _)) (rd_markb w1 97 97 rfl) (ht.below hB4 (Nat.le_refl _))
  rw [HF1.out.2.1] at hh1
  have HOF : Hid (Rd w1 (.slice (some ⟨gF, 0, none⟩) F.length cF) F) := oF.rd
  have HB4 : Hid (Below w.heap.size w (w1.alloc (.cells #[.int .u8 97] 5 (1, 2)))) := hB4
  have H4 : Hid (Below w1.heap.size w1 (w1.alloc (.cells #[.int .u8 97] 5 (1, 2)))) := h4
  rw [hl9] at hh1 ⊢
  have hl9I : (F.length : Int) = 9 := by omega
  clear hbd hb1 oF k1 k2 h4 hB4 hB1
  go_wp2_with fail
  refine hpr.mono ?_
  rintro e w1' ⟨rfl, hw1⟩
  subst w1'
  clear hpr
  go_wp2_with fail
  refine hh1.mono ?_
  rintro e w2 ⟨rfl, hb2⟩
  have hB2 := HB4.out.trans (hb2.mono HB4.out.size)
  have hF2 := (HOF.out.below H4.out (Nat.le_refl _)).below hb2 (Nat.le_refl _)
  have k4 := conv_markb w2 98 w2.heap.size rfl
  have h5 := below_new w2 (.cells #[.int .u8 98] 5 (1, 2))
  have hB5 := hB2.trans (h5.mono hB2.size)
  have hh2 := has_any (w2.alloc (.cells #[.int .u8 98] 5 (1, 2))) (some ⟨gF, 0, none⟩) cF (some ⟨w2.heap.size, 0, none⟩) 1 1 F [98] (by omega) (hF2.below h5 (Nat.le_refl _)) (rd_markb w2 98 98 rfl) (ht.below hB5 (Nat.le_refl _))
  rw [HF1.out.2.2, hl9] at hh2
  have HB5 : Hid (Below w.heap.size w (w2.alloc (.cells #[.int .u8 98] 5 (1, 2)))) := hB5
  clear hh1 hb2 hB2 hF2 h5 hB5 k3
  go_wp2_with fail
  refine hh2.mono ?_
  rintro e w3 ⟨rfl, hb3⟩
  have hB3 := HB5.out.trans (hb3.mono HB5.out.size)
  obtain ⟨w4, hrun, o4, g4⟩ := run_make_full (P := Tryd.prog) w3 w3.heap.size 26 5 i0 (.int .u8 0) 1 Tryd.underlying26 hi hz0 hz1 .i64 .i64 8 (by rw [hz2]; omega) (by simp [maxLen]) (Nat.le_refl _)
  rw [made_list, show List.replicate 8 (Value.int .u8 0) = bv [0, 0, 0, 0, 0, 0, 0, 0] from rfl] at o4
  have e8 : ((8 : Nat) : Int) = 8 := rfl
  rw [e8] at hrun
  have hb4 : Below w3.heap.size w3 w4 := (Below.refl _ _).grown g4 (Nat.le_refl _) (fun k h => by cases h)
  have hB6 := hB3.trans (hb4.mono hB3.size)
  have r4 := (Own.of_row (l := [0, 0, 0, 0, 0, 0, 0, 0]) o4 (by simp)).rd
  have hh3 := has_any w4 (some ⟨w3.heap.size, 0, none⟩) 8 none 0 0 [0, 0, 0, 0, 0, 0, 0, 0] [] (by decide) r4 (.inl ⟨rfl, rfl⟩) (ht.below hB6 (Nat.le_refl _))
  rw [bex3] at hh3
  have HB6 : Hid (Below w.heap.size w w4) := hB6
  clear hh2 hb3 hB3 hB6 o4 g4 hb4 r4 k4
  go_wp2_with fail
  refine hh3.mono ?_
  rintro e w5 ⟨rfl, hb5⟩
  have hB7 := HB6.out.trans (hb5.mono HB6.out.size)
  obtain ⟨w6, hrun2, o6, g6⟩ := run_make_full (P := Tryd.prog) w5 w5.heap.size 26 5 i0 (.int .u8 0) 1 Tryd.underlying26 hi hz0 hz1 .i64 .i64 8 (by rw [hz2]; omega) (by simp [maxLen]) (Nat.le_refl _)
  rw [made_list, show List.replicate 8 (Value.int .u8 0) = bv [0, 0, 0, 0, 0, 0, 0, 0] from rfl] at o6
  rw [e8] at hrun2
  have hb6 : Below w5.heap.size w5 w6 := (Below.refl _ _).grown g6 (Nat.le_refl _) (fun k h => by cases h)
  have hB8 := hB7.trans (hb6.mono hB7.size)
  have o6a := o6.alloc (.cells #[.int .u8 1] 5)
  have hlit := lit_row w6 w6.heap.size (Nat.le_refl _) 1
  rw [show ((1 : UInt8).toNat : Int) = 1 from rfl] at hlit
  have HB9 : Hid (Below w.heap.size w (w6.alloc (.cells #[.int .u8 1] 5))) := hB8.alloc hB8.size _
  have hsz : w5.heap.size ≤ w6.heap.size := hb6.size
  have HSZ5 : Hid (w.heap.size ≤ w5.heap.size) := hB7.size
  clear hh3 hb5 hB7 hB8 o6 g6 hb6 hrun
  go_wp2_with (first | (at_builtin; refine wpList_appg (by rfl) (.tmp 34) (.tmp 35) 26 rfl w5.heap.size 5 i0 (.int .u8 0) 1 1 Tryd.underlying26 hi hz0 hz1 hz2 rfl (by decide) (.slice (some ⟨w5.heap.size, 0, none⟩) 8 8) 8 (bv [0, 0, 0, 0, 0, 0, 0, 0]) rfl o6a ⟨w6.heap.size, 0, none⟩ 1 1 (bv [1]) rfl rfl (hlit.cells rfl) (bv_one _) (by simp [maxLen]) (by omega) (by simp; omega) ?_; intro v' w7 ho' hgr' hn'; obtain ⟨gv, kv, hvv, hk1, hk2, ov⟩ := app_shape ho' rfl rfl (fun e => by have := (hn'.1 e).1; cases this); subst hvv) | fail)
  have hB9 : Below w.heap.size w w7 := HB9.out.grown hgr' HB9.out.size (fun k' e => by have := (o6a.lt k' e).1; have h9 := HSZ5.out; omega)
  have r7 : Rd w7 (.slice (some ⟨gv, 0, none⟩) ([0, 0, 0, 0, 0, 0, 0, 0, 1] : List UInt8).length kv) [0, 0, 0, 0, 0, 0, 0, 0, 1] := by simpa using ov.rd
  have hh4 := has_any w7 (some ⟨gv, 0, none⟩) kv none 0 0 [0, 0, 0, 0, 0, 0, 0, 0, 1] [] (by decide) r7 (.inl ⟨rfl, rfl⟩) (ht.below hB9 (Nat.le_refl _))
  rw [bex4] at hh4
  have HB10 : Hid (Below w.heap.size w w7) := hB9
  clear ho' hgr' hn' ov o6a hlit hB9 r7
  refine hh4.mono ?_
  rintro e w8 ⟨rfl, hb8⟩
  have HB11 : Hid (Below w.heap.size w w8) := HB10.out.trans (hb8.mono HB10.out.size)
  clear hh4 hb8
  go_wp2
  go_ret
  exact ⟨rfl, HB11.out⟩

end Go.Proofs.YtlonomjepipjlaaDoor
