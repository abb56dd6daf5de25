/- BloomMore answers true: with more keys, as many bits in all, a filter lets through what it did. -/
import Derived.Test.YtlonomjepipjlaaDoorBHasWalk
import Derived.Laws.AppendOwnNone
namespace Go.Proofs.YtlonomjepipjlaaDoor
open Go.RowKit
set_option linter.unusedVariables false

/-- append of whatever row, nil or not, to a row of one's own -/
theorem wpList_append_src {P : Program} {w : World} {ops : Array Oper} {rest : List Oper} {o : Oper} {a : Act} {Q : Exit → Act → World → Prop} (hgd : o.guard = none) (s x : Operand) (t : TypeId)
    (ho : o.op = .call { callee := .builtin .append, args := #[s, x], argTypes := #[t, t] })
    (base : Nat) (e : TypeId) (i : TypeInfo) (z : Value) (size bytes : Nat) (ht : P.underlying t = some (.slice e)) (hi : P.info? e = some i) (hz : i.zero = some z)
    (hsize : i.size = size) (hby : i.bytes = bytes) (hzs : z.cells.size = size) (hsz : 0 < size)
    (v : Value) (n : Nat) (xs : List Value) (hs : a.eval s = v) (hown : w.ownsRow base e size v n xs)
    (vx : Value) (hx : a.eval x = vx) (m : Nat) (news : List Value) (hsrc : (vx = .slice none 0 0 ∧ m = 0 ∧ news = []) ∨ ∃ ad c, vx = .slice (some ad) m c ∧ news.length = m * size ∧ ∀ j u, news[j]? = some u → w.cell? (ad.add j) = some u) (h1 : ∀ u ∈ news, u.oneCell' = true)
    (h63 : n + m ≤ maxLen) (hbytes : (n + m) * bytes ≤ 140737488355328) (hbase : base ≤ w.heap.size) (hv : v ≠ .slice none 0 0)
    (h : ∀ g c w', w'.ownsRow base e size (.slice (some ⟨g, 0, none⟩) (n + m) c) (n + m) (xs ++ news) → w.grownBy w' v.ownBlock → wpList P ops Q rest (a.put o.dst (.slice (some ⟨g, 0, none⟩) (n + m) c)) w') : wpList P ops Q (o :: rest) a w := by
  rcases hsrc with ⟨rfl, rfl, rfl⟩ | ⟨ad, c, rfl, hl, hnews⟩
  · rcases hown.2 with ⟨e', _⟩ | ⟨g, cap, cur, e', r⟩
    · exact absurd e' hv
    · have hown' := hown
      rw [e'] at hown'
      refine wpList_append_own_none hgd s x t ho base e i size ht hi v n xs hs hown hx ?_
      rw [e']
      refine h g cap w (by simpa using hown') ⟨rfl, rfl, rfl, Nat.le_refl _, fun _ _ _ => rfl⟩
  · refine wpList_append_own w hgd s x t ho base e i z size bytes ht hi hz hsize hby hzs hsz v n xs hs hown ad m c news hx hl hnews h1 h63 hbytes hbase fun v' w' h2 h3 h4 => ?_
    rcases h2.2 with ⟨e', _⟩ | ⟨g, cap, cur, e', r⟩
    · exact absurd (h4.1 e').1 hv
    · subst e'
      exact h g cap w' h2 h3

/-- the cells of a row of texts, as a source -/
theorem OwnT.src {B : Nat} {w : World} {v : Value} {ls : List (List UInt8)} (h : OwnT B w v ls) : ∃ vs, vs.length = ls.length ∧ (∀ u ∈ vs, u.oneCell' = true) ∧ (∀ j (h : j < ls.length), ∃ x, vs[j]? = some x ∧ Rd w x ls[j]) ∧ ((v = .slice none 0 0 ∧ ls.length = 0 ∧ vs = []) ∨ ∃ ad c, v = .slice (some ad) ls.length c ∧ vs.length = ls.length * 1 ∧ ∀ j u, vs[j]? = some u → w.cell? (ad.add j) = some u) := by
  obtain ⟨vs, hr, hj⟩ := h
  have hl : vs.length = ls.length := by have := hr.1; omega
  refine ⟨vs, hl, fun u hu => ?_, fun j h => ?_, ?_⟩
  · obtain ⟨j, hj1, rfl⟩ := List.getElem_of_mem hu
    obtain ⟨x, hx, ox⟩ := hj j (by omega)
    rw [List.getElem?_eq_getElem hj1] at hx
    simp only [Option.some.injEq] at hx
    rw [hx]
    obtain ⟨a, c, rfl⟩ := ox.rd.len
    rfl
  · obtain ⟨x, hx, ox⟩ := hj j h
    exact ⟨x, hx, ox.rd⟩
  · have hr2 := hr
    rcases hr.2 with ⟨e, hn⟩ | ⟨g, cap, cur, e, r⟩
    · exact .inl ⟨e, hn, List.eq_nil_of_length_eq_zero (by omega)⟩
    · refine .inr ⟨⟨g, 0, none⟩, cap, e, by omega, fun j u hu => ?_⟩
      subst e
      exact hr2.cells (g := g) rfl j u hu

theorem src_to {w w' : World} {v : Value} {m : Nat} {vs : List Value} (hb : Below w.heap.size w w') (h : (v = .slice none 0 0 ∧ m = 0 ∧ vs = []) ∨ ∃ ad c, v = .slice (some ad) m c ∧ vs.length = m * 1 ∧ ∀ j u, vs[j]? = some u → w.cell? (ad.add j) = some u) : (v = .slice none 0 0 ∧ m = 0 ∧ vs = []) ∨ ∃ ad c, v = .slice (some ad) m c ∧ vs.length = m * 1 ∧ ∀ j u, vs[j]? = some u → w'.cell? (ad.add j) = some u := by
  rcases h with h | ⟨ad, c, e, hl, hc⟩
  · exact .inl h
  · refine .inr ⟨ad, c, e, hl, fun j u hu => ?_⟩
    have := hc j u hu
    rw [hb.cell (World.block_lt_of_cell? w _ this)]
    exact this

set_option maxHeartbeats 4000000 in
set_option maxRecDepth 100000 in
theorem bmore (w : World) (vl vm vx : Value) (ls ms KS MS : List (List UInt8)) (x cx : List UInt8) (CK : Hid (fewT 6 60 ls = KS)) (CM : Hid (fewT 6 60 ms = MS)) (CX : Hid (x.take 60 = cx)) (hcx : cx.length ≤ 60) (hl : ArgL w vl ls) (hm : ArgL w vm ms) (hx : Arg w vx x) (ht : Tab w) :
    Calls Tryd.prog 6 #[vl, vm, vx] w fun e w' => e = .returned (.bool true) ∧ Below w.heap.size w w' := by
  obtain ⟨i0, hi, hz0, hz1, hz2⟩ := info_parts info24
  have haw := blawake_any w ht
  obtain ⟨la, lc, rfl, _⟩ := ArgL.places hl
  obtain ⟨ma, mc, rfl, _⟩ := ArgL.places hm
  obtain ⟨xa, xc, rfl⟩ := Arg.shape hx
  have HL : Hid (ArgL w (.slice la ls.length lc) ls) := hl
  have HM : Hid (ArgL w (.slice ma ms.length mc) ms) := hm
  have HX : Hid (Arg w (.slice xa x.length xc) x) := hx
  have HT : Hid (Tab w) := ht
  have e6 : ((6 : Nat) : Int) = 6 := rfl
  have e60 : ((60 : Nat) : Int) = 60 := rfl
  clear hl hm hx ht
  go_enter Tryd.func6, Tryd.ntmps6
  go_wp2_with fail
  refine haw.mono ?_
  rintro e w0 ⟨rfl, hb0⟩
  have hfw := few_any w0 _ ls 6 60 (HL.out.below hb0 (Nat.le_refl _)) (by omega) (by omega)
  rw [CK.out, e6, e60] at hfw
  have HB0 : Hid (Below w.heap.size w w0) := hb0
  clear haw hb0
  go_wp2_with fail
  refine hfw.mono ?_
  rintro e w1 ⟨vk, rfl, ok, hb1⟩
  obtain ⟨kka, kkc, rfl⟩ := ok.shape
  have HB1 : Hid (Below w.heap.size w w1) := HB0.out.trans (hb1.mono HB0.out.size)
  have HK1 : Hid (OwnT w0.heap.size w1 (.slice kka KS.length kkc) KS) := ok
  have hfw2 := few_any w1 _ ms 6 60 (HM.out.below HB1.out (Nat.le_refl _)) (by omega) (by omega)
  rw [CM.out, e6, e60] at hfw2
  clear hfw hb1 ok
  go_wp2_with fail
  refine hfw2.mono ?_
  rintro e w2 ⟨vk2, rfl, ok2, hb2⟩
  obtain ⟨mka, mkc, rfl⟩ := ok2.shape
  have HB2 : Hid (Below w.heap.size w w2) := HB1.out.trans (hb2.mono HB1.out.size)
  have HK2 : Hid (OwnT w0.heap.size w2 (.slice kka KS.length kkc) KS) := HK1.out.below hb2 (Nat.le_refl _)
  have HM2 : Hid (OwnT w1.heap.size w2 (.slice mka MS.length mkc) MS) := ok2
  have hc2 := cut_any w2 _ x 60 (HX.out.below HB2.out (Nat.le_refl _)) (by omega)
  rw [CX.out] at hc2
  clear hfw2 hb2 ok2
  go_wp2_with fail
  refine hc2.mono ?_
  rintro e w3 ⟨vq, rfl, oq, hb3⟩
  obtain ⟨gy, ky, rfl⟩ := oq.shape
  have HB3 : Hid (Below w.heap.size w w3) := HB2.out.trans (hb3.mono HB2.out.size)
  have HK3 : Hid (OwnT w0.heap.size w3 (.slice kka KS.length kkc) KS) := HK2.out.below hb3 (Nat.le_refl _)
  have HM3 : Hid (OwnT w1.heap.size w3 (.slice mka MS.length mkc) MS) := HM2.out.below hb3 (Nat.le_refl _)
  have HY3 : Hid (Rd w3 (.slice (some ⟨gy, 0, none⟩) cx.length ky) cx) := oq.rd
  have hKl : KS.length ≤ 6 := by rw [← CK.out]; exact few_len _ _ _
  have hMl : MS.length ≤ 6 := by rw [← CM.out]; exact few_len _ _ _
  have hba := below_new w3 (.cells #[] 26)
  have hlit := World.ownsRow_lit (base := w3.heap.size) (e := 26) (size := 1) w3 #[] 0 (Nat.le_refl _) (by simp [maxLen]) rfl
  obtain ⟨vs, hvl, hv1, hvr, hvs0⟩ := HK3.out.src
  have hvs := src_to hba hvs0
  obtain ⟨us, hul, hu1, hur, hus0⟩ := HM3.out.src
  have HUS : Hid _ := hus0
  have HVR : Hid (∀ j (h : j < KS.length), ∃ x, vs[j]? = some x ∧ Rd w3 x KS[j]) := hvr
  have HUR : Hid (∀ j (h : j < MS.length), ∃ x, us[j]? = some x ∧ Rd w3 x MS[j]) := hur
  have hs3 : w3.heap.size ≤ (w3.alloc (.cells #[] 26)).heap.size := hba.size
  have HBA : Hid (Below w3.heap.size w3 (w3.alloc (.cells #[] 26))) := hba
  clear hc2 hb3 oq hvr hba hvs0 hur hus0
  go_wp2_with (first
    | (at_builtin; refine wpList_append_src rfl (.tmp 18) (.tmp 19) 22 rfl w3.heap.size 26 i0 (.slice none 0 0) 1 24 Tryd.underlying22 hi hz0 hz1 hz2 rfl (by decide) (.slice (some ⟨w3.heap.size, 0, none⟩) 0 0) 0 [] rfl hlit (.slice kka KS.length kkc) rfl KS.length vs hvs hv1 (by simp only [maxLen]; omega) (by omega) hs3 (by simp) ?_; intro g1 c1 w4 ho1 hg1; have hb4 : Below w3.heap.size w3 w4 := HBA.out.grown hg1 HBA.out.size (fun k' e => (hlit.lt k' e).1); have hus := src_to hb4 HUS.out; rw [Nat.zero_add, List.nil_append] at ho1; have HB34 : Hid (Below w3.heap.size w3 w4) := hb4; have hs4 : w3.heap.size ≤ w4.heap.size := hb4.size; clear hlit hvs hg1 hb4)
    | (at_builtin; refine wpList_append_src rfl (.tmp 20) (.tmp 21) 22 rfl w3.heap.size 26 i0 (.slice none 0 0) 1 24 Tryd.underlying22 hi hz0 hz1 hz2 rfl (by decide) (.slice (some ⟨g1, 0, none⟩) KS.length c1) KS.length vs rfl ho1 (.slice mka MS.length mkc) rfl MS.length us hus hu1 (by simp only [maxLen]; omega) (by omega) hs4 (by simp) ?_; intro g2 c2 w5 ho2 hg2; have hb5 : Below w3.heap.size w3 w5 := HB34.out.grown hg2 HB34.out.size (fun k' e => (ho1.lt k' e).1); have HB35 : Hid (Below w3.heap.size w3 w5) := hb5; have HO2 : Hid (w5.ownsRow w3.heap.size 26 1 (.slice (some ⟨g2, 0, none⟩) (KS.length + MS.length) c2) (KS.length + MS.length) (vs ++ us)) := ho2; clear ho1 hus hg2 hb5 ho2)
    | fail)
  have hRL : RdL w5 (.slice (some ⟨g2, 0, none⟩) (KS ++ MS).length c2) (KS ++ MS) := by
    rcases HO2.out.2 with ⟨e, _⟩ | ⟨g', cap', cur, e, hbb, hgg, h1, h2, h3, h4⟩
    · simp at e
    · simp only [Value.slice.injEq, Option.some.injEq, Addr.mk.injEq, and_true, true_and] at e
      obtain ⟨rfl, rfl⟩ := e
      refine .inr ⟨g2, 0, c2, rfl, by rw [List.length_append]; exact h1, h2, fun j hj => ?_⟩
      have hc := HO2.out.cells (g := g2) rfl
      by_cases hjk : j < KS.length
      · obtain ⟨x', hx', rx'⟩ := HVR.out j hjk
        have h9 := hc j x' (by rw [List.getElem?_append_left (by omega)]; exact hx')
        rw [Addr.add_lit] at h9
        exact ⟨x', h9, by rw [List.getElem_append_left hjk]; exact rx'.below HB35.out (Nat.le_refl _)⟩
      · have hjm : j - KS.length < MS.length := by rw [List.length_append] at hj; omega
        obtain ⟨x', hx', rx'⟩ := HUR.out (j - KS.length) hjm
        have h9 := hc j x' (by rw [List.getElem?_append_right (by omega), hvl]; exact hx')
        rw [Addr.add_lit] at h9
        exact ⟨x', h9, by rw [List.getElem_append_right (by omega)]; exact rx'.below HB35.out (Nat.le_refl _)⟩
  have HRL : Hid (RdL w5 (.slice (some ⟨g2, 0, none⟩) (KS ++ MS).length c2) (KS ++ MS)) := hRL
  have HB5 : Hid (Below w.heap.size w w5) := HB3.out.trans (HB35.out.mono HB3.out.size)
  have hkk : ∀ k ∈ KS ++ MS, k.length ≤ 1000 := fun k hk => by
    rcases List.mem_append.1 hk with h | h
    · rw [← CK.out] at h; have := fewT_le 6 60 ls k h; omega
    · rw [← CM.out] at h; have := fewT_le 6 60 ms k h; omega
  have hal : (KS ++ MS).length = KS.length + MS.length := List.length_append
  have HAL : Hid ((KS ++ MS).length = KS.length + MS.length ∧ ∀ k ∈ KS ++ MS, k.length ≤ 1000) := ⟨hal, hkk⟩
  have hbd := build_any w5 4 kka kkc KS (by omega) (fun k hk => hkk k (List.mem_append.2 (.inl hk))) (HK3.out.below HB35.out (Nat.le_refl _)).rd (HT.out.below HB5.out (Nat.le_refl _))
  obtain ⟨F, hF⟩ : ∃ F, buildF 4 KS = F := ⟨_, rfl⟩
  obtain ⟨G, hG⟩ : ∃ G, buildF 4 (KS ++ MS) = G := ⟨_, rfl⟩
  have hsl : ∀ K : List (List UInt8), K.length ≤ 12 → (buildF 4 K).length ≤ 1000 := by
    intro K hK
    rw [buildF_len]
    unfold sizN
    have h1 : takN 4 = 4 := by decide +kernel
    rw [h1]
    split <;> omega
  have hFl : F.length ≤ 1000 := by rw [← hF]; exact hsl KS (by omega)
  have hGl : G.length ≤ 1000 := by rw [← hG]; exact hsl _ (by omega)
  have HMO : Hid (F.length = G.length → hasB F cx = true → hasB G cx = true) := by
    rw [← hF, ← hG]
    exact fun h1 h2 => has_more 4 KS (KS ++ MS) cx (fun k hk => List.mem_append.2 (.inl hk)) h1 h2
  have HG : Hid (buildF 4 (KS ++ MS) = G) := hG
  rw [hF] at hbd
  clear hRL hkk hF hG hsl hal
  refine hbd.mono ?_
  rintro e w6 ⟨vF, rfl, oF, hb6⟩
  obtain ⟨gF, cF, rfl⟩ := oF.shape
  have HB6 : Hid (Below w.heap.size w w6) := HB5.out.trans (hb6.mono HB5.out.size)
  have HF6 : Hid (Rd w6 (.slice (some ⟨gF, 0, none⟩) F.length cF) F) := oF.rd
  have hbd2 := build_any w6 4 (some ⟨g2, 0, none⟩) c2 (KS ++ MS) (by rw [HAL.out.1]; omega) HAL.out.2 (HRL.out.below hb6 (Nat.le_refl _)) (HT.out.below HB6.out (Nat.le_refl _))
  rw [HG.out, HAL.out.1] at hbd2
  have HY6 : Hid (Rd w6 (.slice (some ⟨gy, 0, none⟩) cx.length ky) cx) := (HY3.out.below HB35.out (Nat.le_refl _)).below hb6 (Nat.le_refl _)
  clear hbd hb6 oF
  go_wp2_with fail
  refine hbd2.mono ?_
  rintro e w7 ⟨vG, rfl, oG, hb7⟩
  obtain ⟨gG, cG, rfl⟩ := oG.shape
  have HB7 : Hid (Below w.heap.size w w7) := HB6.out.trans (hb7.mono HB6.out.size)
  have HF7 : Hid (Rd w7 (.slice (some ⟨gF, 0, none⟩) F.length cF) F) := HF6.out.below hb7 (Nat.le_refl _)
  have HG7 : Hid (Rd w7 (.slice (some ⟨gG, 0, none⟩) G.length cG) G) := oG.rd
  have HY7 : Hid (Rd w7 (.slice (some ⟨gy, 0, none⟩) cx.length ky) cx) := HY6.out.below hb7 (Nat.le_refl _)
  clear hbd2 hb7 oG
  by_cases heq : F.length = G.length
  · have heI : (F.length : Int) = (G.length : Int) := by omega
    obtain ⟨H, hH⟩ : ∃ H, hasB F cx = H := ⟨_, rfl⟩
    have hh1 := has_any w7 (some ⟨gF, 0, none⟩) cF (some ⟨gy, 0, none⟩) cx.length ky F cx (by omega) HF7.out HY7.out (HT.out.below HB7.out (Nat.le_refl _))
    rw [hH] at hh1
    have HH : Hid (hasB F cx = H) := hH
    have HEQ : Hid (F.length = G.length) := heq
    obtain ⟨nF, hnF⟩ : ∃ nF, F.length = nF := ⟨_, rfl⟩
    have hnG : G.length = nF := by omega
    rw [hnF] at hh1 ⊢
    rw [hnG]
    have HNG : Hid (G.length = nF) := hnG
    clear hH heq heI hnF hnG
    go_wp2_with fail
    refine hh1.mono ?_
    rintro e w8 ⟨rfl, hb8⟩
    have HB8 : Hid (Below w.heap.size w w8) := HB7.out.trans (hb8.mono HB7.out.size)
    cases H
    · clear hh1 hb8
      go_wp2
      go_ret
      exact ⟨ret_bo (by simp), HB8.out⟩
    · have hh2 := has_any w8 (some ⟨gG, 0, none⟩) cG (some ⟨gy, 0, none⟩) cx.length ky G cx (by omega) (HG7.out.below hb8 (Nat.le_refl _)) (HY7.out.below hb8 (Nat.le_refl _)) (HT.out.below HB8.out (Nat.le_refl _))
      rw [HMO.out HEQ.out HH.out, HNG.out] at hh2
      clear hh1 hb8
      go_wp2_with fail
      refine hh2.mono ?_
      rintro e w9 ⟨rfl, hb9⟩
      have HB9 : Hid (Below w.heap.size w w9) := HB8.out.trans (hb9.mono HB8.out.size)
      clear hh2 hb9
      go_wp2
      go_ret
      exact ⟨ret_bo (by simp), HB9.out⟩
  · have heI : ¬ (F.length : Int) = (G.length : Int) := by omega
    have heb : ((F.length : Int) == (G.length : Int)) = false := by simpa using heI
    go_wp2
    go_ret
    exact ⟨ret_bo (by simp), HB7.out⟩

theorem bloomMore_walk (a0 : Option Addr) (len0 cap0 : Nat) (z0 : List (List UInt8)) (a1 : Option Addr) (len1 cap1 : Nat) (z1 : List (List UInt8)) (a2 : Option Addr) (len2 cap2 : Nat) (z2 : List Int) (w : World) (w0 : ArgL w (.slice a0 len0 cap0) z0) (w1 : ArgL w (.slice a1 len1 cap1) z1) (w2 : IsRow .u8 w a2 len2 cap2 z2) (ht : Tab w) :
    Calls Tryd.prog 6 #[.slice a0 len0 cap0, .slice a1 len1 cap1, .slice a2 len2 cap2] w fun e w' => e = .returned (.bool true) ∧ Below w.heap.size w w' :=
  bmore w _ _ _ z0 z1 _ _ _ _ rfl rfl rfl (List.length_take_le _ _) w0 w1 (arg_of w2) ht

end Go.Proofs.YtlonomjepipjlaaDoor
