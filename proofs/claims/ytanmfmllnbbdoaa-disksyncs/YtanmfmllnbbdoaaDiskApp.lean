/- Append. -/
import Derived.Test.YtanmfmllnbbdoaaDiskUsed
import Derived.Test.YtanmfmllnbbdoaaLists
import Derived.Maps.AppendAt
import Derived.Deep.RegionHeld3
namespace Go.Proofs.Ytanmfmllnbbdoaa
open Go.RowKit Go.Maps Go.WideShapes

def appD (S : Dsk) (l p : List UInt8) : Int × Dsk :=
  match getBy FileA.name l S.fs with
  | none => (6, S)
  | some f => if S.room - (usedA S.fs : Int) < (p.length : Int) then (8, S) else if S.off = true then (9, S) else chg { S with fs := setBy FileA.name { f with data := f.data ++ p } S.fs }

theorem row_val {w : World} {B n : Nat} {v : Value} {xs : List Value} (h : w.ownsRow B 5 1 v n xs) : ∃ ao cap, v = .slice ao n cap := by
  rcases h.2 with ⟨e, e2⟩ | ⟨g, cap, cur, rfl, _⟩
  · subst e2; exact ⟨none, 0, e⟩
  · exact ⟨_, cap, rfl⟩

theorem OwnN.row {B : Nat} {w : World} {v : Value} {l : List UInt8} (h : OwnN B w v l) : w.ownsRow B 5 1 v l.length (bv l) := by
  rcases h with ⟨rfl, rfl⟩ | h
  · exact World.ownsRow_nil w B 5 1
  · exact h.row

theorem ownN_of_row {B n : Nat} {w : World} {v : Value} {l : List UInt8} (h : w.ownsRow B 5 1 v n (bv l)) (hn : l.length = n) : OwnN B w v l := by
  subst hn
  by_cases e : v = .slice none 0 0
  · rcases h.2 with ⟨_, e2⟩ | ⟨g, cap, cur, e3, _⟩
    · exact .inl ⟨e, List.eq_nil_of_length_eq_zero e2⟩
    · rw [e] at e3; cases e3
  · exact .inr (Own.of_row h e)

theorem DiskAt.drew {F : Nat → Prop} {w : World} {d m : Nat} {S : Dsk} {fs : List FileT} (h : DiskAt F w d m S fs) : DiskAt F w.drew d m S fs := h.stay (w' := w.drew) fun _ _ _ => rfl

/-- a file's bytes are written, in the old row or in a new one -/
theorem file_grown {F : Nat → Prop} {w w2 : World} {d m : Nat} {S : Dsk} {fs : List FileT} {f : FileT} {v' : Value} {l : List UInt8} (h : DiskAt F w d m S fs) (hF : ∀ i, w.heap.size ≤ i → F i) (hf : f ∈ fs) (hl : f.syn ≤ l.length)
    (hg : w.grownBy w2 f.v.ownBlock) (ho : OwnN 0 w2 v' l) (hv : v'.ownBlock = f.v.ownBlock ∨ v'.ownBlock = some w.heap.size) (hu : (usedA S.fs : Int) + l.length ≤ S.room + f.data.length) :
    DiskAt F (w2.setCell ⟨f.g, 0, none⟩ v') d m { S with fs := setBy FileA.name { f.abs with data := l } S.fs } (setBy FileT.name { f with v := v', data := l } fs) ∧ Keeps F w (w2.setCell ⟨f.g, 0, none⟩ v') := by
  have hA := h.fl f hf
  have hne : f.v.ownBlock ≠ some f.g := ownN_ne hA.own hA.cells (by decide)
  have hc2 : w2.heap[f.g]? = some (.cells #[f.v, .int .i64 (f.syn : Int)] 74 (0, 0)) := (hg.block f.g (lt_of hA.cells) (fun e => hne e.symm)).trans hA.cells
  have hs := heap_setCell_same w2 f.g 0 _ 74 v' hc2
  have hvF : ∀ b, v'.ownBlock = some b → f.v.ownBlock = some b ∨ w.heap.size ≤ b := fun b hb => by
    rcases hv with e | e
    · exact .inl (e ▸ hb)
    · rw [e] at hb
      cases hb
      exact .inr (Nat.le_refl _)
  refine ⟨h.file (f := f) (f' := { f with v := v', data := l }) hf rfl rfl (fun i hi h1 h2 => ?_) ⟨?_, ?_, hl, hA.fg, fun b hb => ?_⟩ hvF (h.ok_set hf rfl hu), ((Keeps.refl F w).grown hg fun k hk => hA.fv k hk).setCell (p := ⟨f.g, 0, none⟩) hA.fg _⟩
  · rw [Below.heap_setCell _ _ _ _ (by simpa using h1)]
    exact hg.block i hi fun e => h2 e.symm
  · rw [hs]; rfl
  · refine ownN_stay ho fun i hi hvi => Below.heap_setCell _ _ _ _ fun e => ?_
    subst e
    exact ownN_ne ho hc2 (by decide) hvi
  · rcases hvF b hb with h1 | h1
    · exact hA.fv b h1
    · exact hF b h1

set_option maxRecDepth 100000 in
set_option maxHeartbeats 4000000 in
theorem append_any (F : Nat → Prop) (w : World) (d : Nat) (S : Dsk) (s : ByteArray) (l p : List UInt8) (vp : Value) (c : Int) (q : Dsk) (hD : DiskIs F w d S) (hF : ∀ i, w.heap.size ≤ i → F i) (hs : s.data.toList = l) (hl : l.length ≤ 1000000) (hc : S.ch ≤ 1099511627776)
    (hp : Arg w vp p) (hpl : (p.length : Int) ≤ 1048576) (hq : appD S l p = (c, q)) :
    Calls Try.prog 19 #[.pointer (some ⟨d, 0, none⟩), .string s, vp] w fun e w' => e = .returned (.int .i64 c) ∧ DiskIs F w' d q ∧ Keeps F w w' := by
  obtain ⟨m, fs, h⟩ := hD
  have HQ : Hid (appD S l p = (c, q)) := hq
  have HH : Hid (DiskAt F w d m S fs) := h
  have HF : Hid (∀ i, w.heap.size ≤ i → F i) := hF
  have hab := h.ab
  have hfind := find_any F w d m S fs s l h hs hl
  have k0 := h.five.k0
  have k3 := h.five.k3
  clear h hq hF
  cases hg : getBy FileA.name l S.fs with
  | none =>
    have hr := HQ.out
    simp only [appD, hg, Prod.mk.injEq] at hr
    obtain ⟨rfl, rfl⟩ := hr
    have hf := ptrOf_none hab hg
    simp only [ptrOf, hf, Option.map_none] at hfind
    go_enter Try.func19, Try.ntmps19
    go_wp2_with fail
    refine hfind.mono ?_
    rintro e w1 ⟨rfl, hw⟩
    subst hw
    go_wp2
    go_ret
    exact ⟨rfl, ⟨m, fs, HH.out⟩, Keeps.refl _ _⟩
  | some x =>
    obtain ⟨f, hf, hm, rfl, hnm⟩ := ptrOf_some hab hg
    simp only [ptrOf, hf, Option.map_some] at hfind
    obtain ⟨u, hu⟩ : ∃ u : Int, (usedA S.fs : Int) = u := ⟨_, rfl⟩
    obtain ⟨r, hr0⟩ : ∃ r : Int, S.room = r := ⟨_, rfl⟩
    obtain ⟨o, ho⟩ : ∃ o, S.off = o := ⟨_, rfl⟩
    have hu0 : 0 ≤ u := by omega
    have hur : u ≤ r := by have := HH.out.ok.us; omega
    have hr1 : r ≤ 1048576 := by have := HH.out.ok.r1; omega
    have hwr : IntKind.i64.wrap (r - u) = r - u := by rw [IntKind.wrap_i64]; omega
    have hr := HQ.out
    simp only [appD, hg, hu, hr0, ho] at hr
    have HR : Hid _ := hr
    have HU : Hid _ := hu
    have HO : Hid _ := ho
    have HX : Hid _ := hr0
    have HM : Hid _ := hm
    have HG : Hid _ := hf
    obtain ⟨pa, pc, hps⟩ := hp.shape
    rw [ho] at k0
    rw [hr0] at k3
    subst hps
    have HP : Hid (Arg w (.slice pa p.length pc) p) := hp
    clear hr hf hg hm hu ho hr0 hp
    by_cases hfull : r - u < (p.length : Int)
    · have hr := HR.out
      rw [if_pos hfull] at hr
      simp only [Prod.mk.injEq] at hr
      obtain ⟨rfl, rfl⟩ := hr
      go_enter Try.func19, Try.ntmps19
      go_wp2_with fail
      refine hfind.mono ?_
      rintro e w1 ⟨rfl, hw⟩
      subst hw
      clear hfind
      go_wp2_with fail
      go_region_held3 (fun w' => w'.cell? ⟨d, 4, none⟩ = some (.int .i64 r))
        (first | exact k3x | exact k3)
        (first | (go_at_call 36; refine (used_any F w1.drew d S u ⟨m, fs, HH.out.drew⟩ HU.out).mono ?_; rintro e wx ⟨rfl, hbx⟩; have HB : Hid (Below w1.heap.size w1 wx) := Below.mk hbx.os hbx.tape hbx.output hbx.size hbx.block; have k3x : wx.cell? ⟨d, 4, none⟩ = some (.int .i64 r) := (HB.out.cell (p := ⟨d, 4, none⟩) (lt_of HH.out.dkz)).trans k3; clear hbx))
      go_wp2
      go_ret
      exact ⟨rfl, ⟨m, fs, HH.out.stay fun i hi _ => HB.out.block i hi⟩, Below.keeps HB.out F fun i h1 h2 => by omega⟩
    · have hr := HR.out
      rw [if_neg hfull] at hr
      have HR2 : Hid _ := hr
      clear hr
      cases o
      · have hr := HR2.out
        simp only [Bool.false_eq_true, if_false] at hr
        have HR3 : Hid _ := hr
        clear hr
        obtain ⟨i0, hi, hz0, hz1, hz2⟩ := info_parts info5
        go_enter Try.func19, Try.ntmps19
        go_wp2_with fail
        refine hfind.mono ?_
        rintro e w1 ⟨rfl, hw⟩
        subst hw
        clear hfind
        go_wp2_with fail
        go_region_held3 (fun w' => w'.cell? ⟨d, 4, none⟩ = some (.int .i64 r))
          (first | exact k3x | exact k3)
          (first | (go_at_call 36; refine (used_any F w1.drew d S u ⟨m, fs, HH.out.drew⟩ HU.out).mono ?_; rintro e wx ⟨rfl, hbx⟩; have HB : Hid (Below w1.heap.size w1 wx) := Below.mk hbx.os hbx.tape hbx.output hbx.size hbx.block; have k3x : wx.cell? ⟨d, 4, none⟩ = some (.int .i64 r) := (HB.out.cell (p := ⟨d, 4, none⟩) (lt_of HH.out.dkz)).trans k3; clear hbx))
        have Dx : Hid (DiskAt F wx d m S fs) := HH.out.stay fun i hi _ => HB.out.block i hi
        have hA := Dx.out.fl f HM.out
        have g0 := hA.two.k0
        have gf := hA.two.fz 0
        have hne : Hid (f.v.ownBlock ≠ some f.g) := ownN_ne hA.own hA.cells (by decide)
        have hlt : Hid (f.g < wx.heap.size) := lt_of hA.cells
        have kx0 : wx.cell? ⟨d, 0, none⟩ = some (.bool false) := (HB.out.cell (p := ⟨d, 0, none⟩) (lt_of HH.out.dkz)).trans k0
        have hown : wx.ownsRow 0 5 1 f.v f.data.length (bv f.data) := hA.own.row
        have HD : Hid (f.data.length ≤ 1048576) := Dx.out.data_le HM.out
        have HPl : Hid (p.length ≤ 1048576) := by show _ ≤ _; omega
        obtain ⟨vo, vc, hvv⟩ := hA.own.rd.len
        have HO' : Hid (OwnN 0 wx f.v f.data) := hA.own
        have HV : Hid _ := hvv
        have HPx := HP.out.below HB.out (Nat.le_refl _)
        have HFx : Hid (∀ i, wx.heap.size ≤ i → F i) := fun i hi => HF.out i (Nat.le_trans HB.out.size hi)
        have HK : Hid (Keeps F w1 wx) := Below.keeps HB.out F fun i h1 h2 => by omega
        rw [hvv] at g0 hown
        have hsyn : Hid (f.syn ≤ f.data.length) := hA.syn
        clear hA hvv k3x k0 k3
        rcases HPx with ⟨hp1, hp2⟩ | ⟨ad, cap, hp1, hp2, hp3, hp4⟩
        · simp only [Value.slice.injEq] at hp1
          obtain ⟨rfl, hp5, rfl⟩ := hp1
          subst hp2
          go_wp2_with (at_builtin; refine wpList_append_own_none rfl _ _ 31 rfl 0 5 i0 1 Try.underlying31 hi _ _ _ rfl hown rfl ?_)
          have HW : Hid (DiskAt F (wx.setCell ⟨f.g, 0, none⟩ (.slice vo f.data.length vc)) d m { S with fs := setBy FileA.name { f.abs with data := f.data ++ [] } S.fs } (setBy FileT.name { f with v := .slice vo f.data.length vc, data := f.data ++ [] } fs) ∧ Keeps F wx (wx.setCell ⟨f.g, 0, none⟩ (.slice vo f.data.length vc))) :=
            file_grown (f := f) Dx.out HFx.out HM.out (by rw [List.append_nil]; exact hsyn.out) ⟨rfl, rfl, rfl, Nat.le_refl _, fun _ _ _ => rfl⟩ (by rw [List.append_nil, ← HV.out]; exact HO'.out) (.inl (by rw [HV.out])) (by rw [List.append_nil]; have := HU.out; have := HX.out; omega)
          obtain ⟨D2, K2⟩ := HW.out
          have D2' : Hid _ := D2
          have K2' : Hid _ := K2
          clear D2 K2
          refine (change_any F _ d m _ q c _ D2'.out hc (by have e1 := HO.out; have e2 := HX.out; simp only [e1, e2]; exact HR3.out)).mono ?_
          rintro e w3 ⟨rfl, hD3, hK3⟩
          have D3 : Hid _ := hD3
          have K3 : Hid _ := hK3
          clear hD3 hK3
          go_wp2
          go_ret
          exact ⟨rfl, ⟨m, _, D3.out⟩, (HK.out.trans K2'.out).trans K3.out⟩
        · simp only [Value.slice.injEq] at hp1
          obtain ⟨rfl, _, rfl⟩ := hp1
          go_wp2_with (at_builtin; refine wpList_append_own_at _ rfl _ _ 31 rfl 0 5 i0 (.int .u8 0) 1 1 Try.underlying31 hi hz0 hz1 hz2 rfl (by decide) _ f.data.length (bv f.data) rfl hown ad p.length pc (bv p) rfl (by rw [bv_length, Nat.mul_one]) hp4 (bv_one _) (by have := HD.out; have := HPl.out; simp only [maxLen]; omega) (by have := HD.out; have := HPl.out; omega) (Nat.zero_le _) ?_; intro v' w2 ho' hgr' hn' hb'; obtain ⟨ao', cap', hv'⟩ := row_val ho'; subst hv'; have k2 : w2.cell? ⟨f.g, 0, none⟩ = some (.slice vo f.data.length vc) := (World.cell?_of_block (w := wx) (a := ⟨f.g, 0, none⟩) (hgr'.block f.g hlt.out (fun e => hne.out (by rw [HV.out]; exact e.symm)))).trans g0; have f2 : w2.frozen? ⟨f.g, 0, none⟩ = false := (World.frozen?_of_block (w := wx) (a := ⟨f.g, 0, none⟩) (hgr'.block f.g hlt.out (fun e => hne.out (by rw [HV.out]; exact e.symm)))).trans gf)
          have HW : Hid (DiskAt F (w2.setCell ⟨f.g, 0, none⟩ (.slice ao' (f.data.length + p.length) cap')) d m { S with fs := setBy FileA.name { f.abs with data := f.data ++ p } S.fs } (setBy FileT.name { f with v := .slice ao' (f.data.length + p.length) cap', data := f.data ++ p } fs) ∧ Keeps F wx (w2.setCell ⟨f.g, 0, none⟩ (.slice ao' (f.data.length + p.length) cap'))) :=
            file_grown (f := f) Dx.out HFx.out HM.out (by rw [List.length_append]; have := hsyn.out; omega) (by rw [HV.out]; exact hgr') (ownN_of_row (by rw [bv_append]; exact ho') (by rw [List.length_append])) (by rw [HV.out]; exact hb') (by rw [List.length_append]; have := HU.out; have := HX.out; omega)
          obtain ⟨D2, K2⟩ := HW.out
          have D2' : Hid _ := D2
          have K2' : Hid _ := K2
          clear D2 K2
          refine (change_any F _ d m _ q c _ D2'.out hc (by have e1 := HO.out; have e2 := HX.out; simp only [e1, e2]; exact HR3.out)).mono ?_
          rintro e w3 ⟨rfl, hD3, hK3⟩
          have D3 : Hid _ := hD3
          have K3 : Hid _ := hK3
          clear hD3 hK3
          go_wp2
          go_ret
          exact ⟨rfl, ⟨m, _, D3.out⟩, (HK.out.trans K2'.out).trans K3.out⟩
      · have hr := HR2.out
        simp only [if_true, Prod.mk.injEq] at hr
        obtain ⟨rfl, rfl⟩ := hr
        go_enter Try.func19, Try.ntmps19
        go_wp2_with fail
        refine hfind.mono ?_
        rintro e w1 ⟨rfl, hw⟩
        subst hw
        clear hfind
        go_wp2_with fail
        go_region_held3 (fun w' => w'.cell? ⟨d, 4, none⟩ = some (.int .i64 r))
          (first | exact k3x | exact k3)
          (first | (go_at_call 36; refine (used_any F w1.drew d S u ⟨m, fs, HH.out.drew⟩ HU.out).mono ?_; rintro e wx ⟨rfl, hbx⟩; have HB : Hid (Below w1.heap.size w1 wx) := Below.mk hbx.os hbx.tape hbx.output hbx.size hbx.block; have k3x : wx.cell? ⟨d, 4, none⟩ = some (.int .i64 r) := (HB.out.cell (p := ⟨d, 4, none⟩) (lt_of HH.out.dkz)).trans k3; clear hbx))
        have kx0 : wx.cell? ⟨d, 0, none⟩ = some (.bool true) := (HB.out.cell (p := ⟨d, 0, none⟩) (lt_of HH.out.dkz)).trans k0
        go_wp2
        go_ret
        exact ⟨rfl, ⟨m, fs, HH.out.stay fun i hi _ => HB.out.block i hi⟩, Below.keeps HB.out F fun i h1 h2 => by omega⟩

end Go.Proofs.Ytanmfmllnbbdoaa
