/- A file at a crash. -/
import Derived.Test.YtanmfmllnbbdoaaDiskTear
import Derived.Lib.BitFns
namespace Go.Proofs.Ytanmfmllnbbdoaa
open Go.RowKit Go.Maps Go.WideShapes

section
variable {F : Nat → Prop} {w : World} {d m : Nat} {S : Dsk} {fs : List FileT} {f : FileT}

theorem take_own {w : World} {ao : Option Addr} {cap : Nat} {l : List UInt8} {k : Nat} (h : OwnN 0 w (.slice ao l.length cap) l) (hk : k ≤ l.length) : OwnN 0 w (.slice ao k cap) (l.take k) := by
  rcases h with ⟨e, rfl⟩ | ⟨g, cp, cur, e, hB, hg, h1, h2, h3, h4⟩
  · simp only [Value.slice.injEq] at e
    obtain ⟨rfl, _, rfl⟩ := e
    simp only [List.length_nil] at hk
    obtain rfl : k = 0 := by omega
    exact .inl ⟨rfl, by simp⟩
  · simp only [Value.slice.injEq] at e
    obtain ⟨rfl, _, rfl⟩ := e
    refine .inr ⟨g, cap, cur, by rw [List.length_take, Nat.min_eq_left hk], hB, hg, by rw [List.length_take]; omega, h2, h3, ?_⟩
    rw [List.length_take, Nat.min_eq_left hk]
    have := congrArg (List.take k) h4
    rw [List.take_take, Nat.min_eq_left hk] at this
    rw [this]
    simp [bv, List.map_take]

/-- a file is cut -/
theorem file_cut {ao : Option Addr} {cap k : Nat} (h : DiskAt F w d m S fs) (hf : f ∈ fs) (hv : f.v = .slice ao f.data.length cap) (hk : f.syn ≤ k) (hk2 : k ≤ f.data.length) :
    DiskAt F (w.setCell ⟨f.g, 0, none⟩ (.slice ao k cap)) d m { S with fs := setBy FileA.name { f.abs with data := f.data.take k } S.fs } (setBy FileT.name { f with v := .slice ao k cap, data := f.data.take k } fs) ∧ Keeps F w (w.setCell ⟨f.g, 0, none⟩ (.slice ao k cap)) := by
  have hA := h.fl f hf
  have hs := heap_setCell_same w f.g 0 _ 74 (.slice ao k cap) hA.cells
  have hO : OwnN 0 w (.slice ao k cap) (f.data.take k) := take_own (by rw [← hv]; exact hA.own) hk2
  have hob : ∀ b, (Value.slice ao k cap).ownBlock = some b → f.v.ownBlock = some b := fun b hb => by
    rw [hv]
    cases ao with
    | none => simp [Value.ownBlock] at hb
    | some a => exact hb
  refine ⟨h.file (f := f) (f' := { f with v := .slice ao k cap, data := f.data.take k }) hf rfl rfl (fun i hi h1 h2 => Below.heap_setCell _ _ _ _ (by simpa using h1)) ⟨by rw [hs]; rfl, ?_, by show f.syn ≤ (f.data.take k).length; rw [List.length_take]; omega, hA.fg, fun b hb => hA.fv b (hob b hb)⟩ (fun b hb => .inl (hob b hb)) (h.ok_set hf rfl ?_), (Keeps.refl F w).setCell (p := ⟨f.g, 0, none⟩) hA.fg _⟩
  · refine ownN_stay hO fun i hi hvi => Below.heap_setCell _ _ _ _ fun e => ?_
    subst e
    exact ownN_ne hA.own hA.cells (by decide) (hob _ hvi)
  · have := h.ok.us
    simp only [FileT.abs, List.length_take]
    omega

/-- a byte of a file is another one -/
theorem file_byte {g cap j : Nat} {b : UInt8} (h : DiskAt F w d m S fs) (hf : f ∈ fs) (hv : f.v = .slice (some ⟨g, 0, none⟩) f.data.length cap) :
    DiskAt F (w.setCell ⟨g, j, none⟩ (.int .u8 (b.toNat : Int))) d m { S with fs := setBy FileA.name { f.abs with data := f.data.set j b } S.fs } (setBy FileT.name { f with data := f.data.set j b } fs) ∧ Keeps F w (w.setCell ⟨g, j, none⟩ (.int .u8 (b.toNat : Int))) := by
  have hA := h.fl f hf
  have hob : f.v.ownBlock = some g := by rw [hv]; rfl
  refine ⟨h.file (f := f) (f' := { f with data := f.data.set j b }) hf rfl rfl (fun i hi h1 h2 => Below.heap_setCell _ _ _ _ fun e => h2 (by rw [hob, e])) ⟨?_, ?_, by rw [List.length_set]; exact hA.syn, hA.fg, hA.fv⟩ (fun b hb => .inl hb) (h.ok_set hf rfl ?_), (Keeps.refl F w).setCell (p := ⟨g, j, none⟩) (hA.fv g hob) _⟩
  · rw [Below.heap_setCell _ _ _ _ fun e => ownN_ne hA.own hA.cells (by decide) (by rw [hob, e])]
    exact hA.cells
  · have hO := hA.own
    rw [hv] at hO
    rcases hO with ⟨e, _⟩ | hO
    · cases e
    · show OwnN 0 _ f.v _
      rw [hv]
      exact .inr (hO.store j b)
  · have := h.ok.us
    simp only [FileT.abs, List.length_set]
    omega

end

theorem twice_at {F : Nat → Prop} {w : World} {d m : Nat} {S : Dsk} {fs : List FileT} {a b : FileA} {x y : FileT} 
    (h : DiskAt F w d m { S with fs := setBy FileA.name a (setBy FileA.name b S.fs) } (setBy FileT.name x (setBy FileT.name y fs))) (ha : a.name = b.name) (hx : x.name = y.name) : DiskAt F w d m { S with fs := setBy FileA.name a S.fs } (setBy FileT.name x fs) := by
  rw [setBy_twice FileT.name x y hx, setBy_twice FileA.name a b ha] at h
  exact h

theorem wrap64_of {z : Int} (h0 : 0 ≤ z) (h1 : z ≤ 1048576) : wrap64 z = z := by unfold wrap64; omega
theorem wrapi_of {z : Int} (h0 : 0 ≤ z) (h1 : z ≤ 1048576) : IntKind.i64.wrap z = z := by rw [IntKind.wrap_i64]; omega

theorem take_len {l : List UInt8} {k n : Nat} (h : l.length = n) (hk : k ≤ n) : (l.take k).length = k := by rw [List.length_take]; omega
theorem kn_of {n s tl kk k : Nat} (h1 : n - s = tl) (h2 : s + kk = k) (h4 : s ≤ n) (h5 : kk ≤ tl) : k ≤ n := by omega

theorem xor_u8 (a b : UInt8) : bits BinOp.xor IntKind.u8 (a.toNat : Int) (b.toNat : Int) = ((a ^^^ b).toNat : Int) := by
  rw [u8_xor_nat a.toNat b.toNat a.toNat_lt b.toNat_lt]
  rfl

set_option maxRecDepth 100000 in
set_option maxHeartbeats 4000000 in
theorem fcrash_any (F : Nat → Prop) (w : World) (d m : Nat) (S : Dsk) (fs : List FileT) (f : FileT) (keep : Int) (t : UInt8) (h : DiskAt F w d m S fs) (hf : f ∈ fs) :
    Calls Try.prog 51 #[.pointer (some ⟨f.g, 0, none⟩), .int .i64 keep, .int .u8 (t.toNat : Int)] w fun e w' => e = .returned (.tuple #[]) ∧
      (∃ v', DiskAt F w' d m { S with fs := setBy FileA.name ⟨f.name, tear f.data f.syn keep t, (tear f.data f.syn keep t).length⟩ S.fs } (setBy FileT.name ⟨f.name, f.g, v', tear f.data f.syn keep t, (tear f.data f.syn keep t).length⟩ fs)) ∧ Keeps F w w' := by
  have HH : Hid (DiskAt F w d m S fs) := h
  have HM : Hid (f ∈ fs) := hf
  have hA := h.fl f hf
  obtain ⟨k0, k1, fz⟩ := hA.two
  have f0 := fz 0
  obtain ⟨ao, cap, hv⟩ := hA.own.rd.len
  rw [hv] at k0
  have h1 := hA.syn
  have h2 := h.data_le hf
  have hcap : f.data.length ≤ cap := by
    rcases hA.own with ⟨e, _⟩ | ⟨g, cp, cur, e, _, _, r1, _⟩
    · rw [hv] at e; simp only [Value.slice.injEq] at e; omega
    · rw [hv] at e; simp only [Value.slice.injEq] at e; omega
  obtain ⟨kk, hkk⟩ : ∃ kk, keptN f.data.length f.syn keep = kk := ⟨_, rfl⟩
  have hkl := keptN_le f.data.length f.syn keep
  rw [hkk] at hkl
  have hmx : ∃ mx : Int, max keep 0 = mx := ⟨_, rfl⟩
  obtain ⟨mx, hmx⟩ := hmx
  have hmn : min mx ((f.data.length - f.syn : Nat) : Int) = (kk : Int) := by rw [← hkk, ← hmx]; unfold keptN; omega
  obtain ⟨n, hn⟩ : ∃ n, f.data.length = n := ⟨_, rfl⟩
  obtain ⟨s, hs⟩ : ∃ s, f.syn = s := ⟨_, rfl⟩
  obtain ⟨tl, htl⟩ : ∃ tl : Nat, n - s = tl := ⟨_, rfl⟩
  obtain ⟨k, hk⟩ : ∃ k : Nat, s + kk = k := ⟨_, rfl⟩
  have ht := tail_any F w d m S fs f HH.out HM.out
  rw [hn] at k0 hcap
  rw [hs] at k1
  rw [hn, hs, htl] at hmn ht
  have hwk : IntKind.i64.wrap ((s : Int) + (kk : Int)) = (k : Int) := by rw [IntKind.wrap_i64]; omega
  have HC : Hid (DiskAt F (w.setCell ⟨f.g, 0, none⟩ (.slice ao k cap)) d m { S with fs := setBy FileA.name { f.abs with data := f.data.take k } S.fs } (setBy FileT.name { f with v := .slice ao k cap, data := f.data.take k } fs) ∧ Keeps F w (w.setCell ⟨f.g, 0, none⟩ (.slice ao k cap))) := file_cut h hf hv (by omega) (by omega)
  have HT : Hid (tear f.data f.syn keep t = if 0 < kk ∧ kk < tl then (f.data.take k).set (k - 1) ((f.data.getD (k - 1) 0) ^^^ t) else f.data.take k) := by
    show _ = _
    unfold tear
    rw [hkk, hn, hs, htl, hk]
  have HX : Hid (n - s = tl ∧ s + kk = k ∧ f.data.length = n ∧ s ≤ n ∧ kk ≤ tl) := by show _ ∧ _; omega
  have HO : Hid (ao = none → n = 0 ∧ cap = 0) := by
    intro e
    subst e
    rcases hA.own with ⟨e, e2⟩ | ⟨g, cp, cur, e, _, _, r1, _⟩
    · rw [hv] at e
      simp only [Value.slice.injEq] at e
      omega
    · rw [hv] at e
      cases e
  have HG : Hid (∀ a, ao = some a → a = ⟨a.block, 0, none⟩) := by
    intro a e
    subst e
    rcases hA.own with ⟨e, e2⟩ | ⟨g, cp, cur, e, _, _, r1, _⟩
    · rw [hv] at e
      cases e
    · rw [hv] at e
      simp only [Value.slice.injEq, Option.some.injEq] at e
      rw [e.1]
  have HMC : Hid ({ f with v := .slice ao k cap, data := f.data.take k } ∈ setBy FileT.name { f with v := .slice ao k cap, data := f.data.take k } fs) := by
    show _ ∈ _
    unfold setBy
    exact List.mem_map.2 ⟨f, hf, by simp⟩
  have HR : Hid (∀ g, ao = some ⟨g, 0, none⟩ → g ≠ f.g ∧ ∃ cur, w.heap[g]? = some (.cells cur 5 (0, 0)) ∧ cur.toList.take n = bv f.data) := by
    intro g e
    subst e
    refine ⟨fun e => ?_, ?_⟩
    · exact ownN_ne hA.own hA.cells (by decide) (by rw [hv, e]; rfl)
    · rcases hA.own with ⟨e, e2⟩ | ⟨g', cp, cur, e, _, r0, _, _, _, r1⟩
      · rw [hv] at e
        cases e
      · rw [hv] at e
        simp only [Value.slice.injEq, Option.some.injEq, Addr.mk.injEq, and_true] at e
        obtain ⟨rfl, _⟩ := e
        rw [hn] at r1
        exact ⟨cur, r0, r1⟩
  have hkc : k ≤ cap := by omega
  have hkc' : (k : Int) ≤ (cap : Int) := by omega
  clear h hA fz hf hv h1 h2 hkk hkl hn hs htl hk hcap hkc
  cases ao with
  | none =>
    obtain ⟨rfl, rfl⟩ := HO.out rfl
    obtain ⟨x1, x2, x3, x4, x5⟩ := HX.out
    obtain rfl : s = 0 := by omega
    obtain rfl : tl = 0 := by omega
    obtain rfl : kk = 0 := by omega
    obtain rfl : k = 0 := by omega
    have hmn' : min mx 0 = 0 := hmn
    clear x1 x2 x3 x4 x5 hkc' hmn
    go_enter Try.func51, Try.ntmps51
    go_wp2_with fail
    refine ht.mono ?_
    rintro e w1 ⟨rfl, rfl⟩
    go_wp2_with fail
    go_region
    go_wp2_with fail
    refine ((fsync_any F _ d m _ _ { f with v := .slice none 0 0, data := f.data.take 0 } HC.out.1.drew.drew HMC.out).mono ?_)
    rintro e w3 ⟨rfl, hD3, hK3⟩
    have D3 : Hid _ := hD3
    have K3 : Hid _ := hK3
    clear hD3 hK3
    go_wp2
    go_end0
    refine ⟨rfl, ⟨.slice none 0 0, ?_⟩, (HC.out.2.drew.drew).trans K3.out⟩
    have e1 := twice_at (S := S) (a := ⟨f.name, f.data.take 0, (f.data.take 0).length⟩) D3.out rfl rfl
    have e2 := HT.out
    rw [if_neg (by omega)] at e2
    rw [e2]
    exact e1
  | some a =>
    obtain ⟨g, rfl⟩ : ∃ g, a = ⟨g, 0, none⟩ := ⟨_, HG.out a rfl⟩
    by_cases hc : 0 < kk ∧ kk < tl
    · have hcc : Hid (0 < kk ∧ kk < tl) := hc
      have hc0 : (0 : Int) < (kk : Int) := by omega
      have hc1 : (kk : Int) < (tl : Int) := by omega
      obtain ⟨hgf, cur, hcur, htk⟩ := HR.out g rfl
      obtain ⟨x1, x2, x3, x4, x5⟩ := HX.out
      obtain ⟨j, hj⟩ : ∃ j : Nat, k - 1 = j := ⟨_, rfl⟩
      have hjn : j < n := by omega
      obtain ⟨b, hb⟩ : ∃ b, f.data.getD (k - 1) 0 = b := ⟨_, rfl⟩
      have kb : w.cell? ⟨g, j, none⟩ = some (.int .u8 (b.toNat : Int)) := by
        rw [cell_of_row w g j cur 5 (0, 0) hcur]
        have e1 : (cur.toList.take n)[j]? = cur.toList[j]? := by rw [List.getElem?_take, if_pos hjn]
        have e2 : (bv f.data)[j]? = some (.int .u8 (b.toNat : Int)) := by
          rw [bv_get f.data j (by omega), ← hb, hj, List.getD_eq_getElem?_getD, List.getElem?_eq_getElem (by omega)]
          rfl
        rw [htk] at e1
        rw [← Array.getElem?_toList, ← e1, e2]
      have fb : w.frozen? ⟨g, j, none⟩ = false := frozen_of_row w g j cur 5 hcur
      have hx := xor_u8 b t
      have hgf' : ¬ f.g = g := fun e => hgf e.symm
      have hkj : (k : Int) - 1 = (j : Int) := by omega
      have hjI : (j : Int) ≤ 1048576 := by
        have := HH.out.data_le HM.out
        omega
      have hjw1 : wrap64 (j : Int) = (j : Int) := wrap64_of (Int.natCast_nonneg j) hjI
      have hjw2 : IntKind.i64.wrap (j : Int) = (j : Int) := wrapi_of (Int.natCast_nonneg j) hjI
      have hjk' : (j : Int) < (k : Int) := by omega
      have hjk : j < k := by omega
      have HB : Hid _ := hb
      have HJ : Hid _ := hj
      clear hc x1 x2 x3 x4 x5 hjn hb hj hcur htk
      go_enter Try.func51, Try.ntmps51
      go_wp2_with fail
      refine ht.mono ?_
      rintro e w1 ⟨rfl, rfl⟩
      go_wp2_with fail
      go_region
      go_wp2_with fail
      go_region
      go_wp2_with fail
      have HN : Hid ((b.toNat ^^^ t.toNat : Nat) = (b ^^^ t).toNat) := by show _ = _; rfl
      rw [HN.out]
      have HL : Hid ((f.data.take k).length = k) := by
        obtain ⟨x1, x2, x3, x4, x5⟩ := HX.out
        exact take_len x3 (kn_of x1 x2 x4 x5)
      have HE : Hid (DiskAt F ((w.setCell ⟨f.g, 0, none⟩ (.slice (some ⟨g, 0, none⟩) k cap)).setCell ⟨g, j, none⟩ (.int .u8 ((b ^^^ t).toNat : Int))) d m { S with fs := setBy FileA.name ⟨f.name, (f.data.take k).set j (b ^^^ t), f.syn⟩ S.fs } (setBy FileT.name ⟨f.name, f.g, .slice (some ⟨g, 0, none⟩) k cap, (f.data.take k).set j (b ^^^ t), f.syn⟩ fs) ∧ Keeps F w ((w.setCell ⟨f.g, 0, none⟩ (.slice (some ⟨g, 0, none⟩) k cap)).setCell ⟨g, j, none⟩ (.int .u8 ((b ^^^ t).toNat : Int)))) := by
        obtain ⟨D1, K1⟩ := HC.out
        obtain ⟨D2, K2⟩ := file_byte (g := g) (cap := cap) (j := j) (b := b ^^^ t) D1 HMC.out (by simp only; rw [HL.out])
        exact ⟨twice_at (S := S) D2 rfl rfl, K1.trans K2⟩
      have HMD : Hid ((⟨f.name, f.g, .slice (some ⟨g, 0, none⟩) k cap, (f.data.take k).set j (b ^^^ t), f.syn⟩ : FileT) ∈ setBy FileT.name ⟨f.name, f.g, .slice (some ⟨g, 0, none⟩) k cap, (f.data.take k).set j (b ^^^ t), f.syn⟩ fs) := by
        show _ ∈ _
        unfold setBy
        exact List.mem_map.2 ⟨f, HM.out, by simp⟩
      refine ((fsync_any F _ d m _ _ ⟨f.name, f.g, .slice (some ⟨g, 0, none⟩) k cap, (f.data.take k).set j (b ^^^ t), f.syn⟩ HE.out.1.drew.drew.drew HMD.out).mono ?_)
      rintro e w3 ⟨rfl, hD3, hK3⟩
      have D3 : Hid _ := hD3
      have K3 : Hid _ := hK3
      clear hD3 hK3
      go_wp2
      go_end0
      refine ⟨rfl, ⟨.slice (some ⟨g, 0, none⟩) k cap, ?_⟩, (HE.out.2.drew.drew.drew).trans K3.out⟩
      have e1 := twice_at (S := S) (a := ⟨f.name, (f.data.take k).set j (b ^^^ t), ((f.data.take k).set j (b ^^^ t)).length⟩) D3.out rfl rfl
      have e2 := HT.out
      rw [if_pos hcc.out, HB.out, HJ.out] at e2
      rw [e2]
      exact e1
    · have hcc : Hid (¬ (0 < kk ∧ kk < tl)) := hc
      by_cases hc0 : (0 : Int) < (kk : Int)
      · have hc1 : ¬ (kk : Int) < (tl : Int) := by omega
        clear hc
        go_enter Try.func51, Try.ntmps51
        go_wp2_with fail
        refine ht.mono ?_
        rintro e w1 ⟨rfl, rfl⟩
        go_wp2_with fail
        go_region
        go_wp2_with fail
        all_goals
          refine ((fsync_any F _ d m _ _ { f with v := .slice (some ⟨g, 0, none⟩) k cap, data := f.data.take k } HC.out.1.drew.drew HMC.out).mono ?_)
          rintro e w3 ⟨rfl, hD3, hK3⟩
          have D3 : Hid _ := hD3
          have K3 : Hid _ := hK3
          clear hD3 hK3
          go_wp2
          go_end0
          refine ⟨rfl, ⟨.slice (some ⟨g, 0, none⟩) k cap, ?_⟩, (HC.out.2.drew.drew).trans K3.out⟩
          have e1 := twice_at (S := S) (a := ⟨f.name, f.data.take k, (f.data.take k).length⟩) D3.out rfl rfl
          have e2 := HT.out
          rw [if_neg hcc.out] at e2
          rw [e2]
          exact e1

      · clear hc
        go_enter Try.func51, Try.ntmps51
        go_wp2_with fail
        refine ht.mono ?_
        rintro e w1 ⟨rfl, rfl⟩
        go_wp2_with fail
        go_region
        go_wp2_with fail
        all_goals
          refine ((fsync_any F _ d m _ _ { f with v := .slice (some ⟨g, 0, none⟩) k cap, data := f.data.take k } HC.out.1.drew.drew HMC.out).mono ?_)
          rintro e w3 ⟨rfl, hD3, hK3⟩
          have D3 : Hid _ := hD3
          have K3 : Hid _ := hK3
          clear hD3 hK3
          go_wp2
          go_end0
          refine ⟨rfl, ⟨.slice (some ⟨g, 0, none⟩) k cap, ?_⟩, (HC.out.2.drew.drew).trans K3.out⟩
          have e1 := twice_at (S := S) (a := ⟨f.name, f.data.take k, (f.data.take k).length⟩) D3.out rfl rfl
          have e2 := HT.out
          rw [if_neg hcc.out] at e2
          rw [e2]
          exact e1

end Go.Proofs.Ytanmfmllnbbdoaa
