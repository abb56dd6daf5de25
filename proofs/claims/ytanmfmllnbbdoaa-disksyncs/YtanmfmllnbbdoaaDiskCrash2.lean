/- Crash: the walk. -/
import Derived.Test.YtanmfmllnbbdoaaDiskCrash
namespace Go.Proofs.Ytanmfmllnbbdoaa
open Go.RowKit Go.Maps Go.WideShapes Go.Sort

section
variable {F : Nat → Prop} {w1 wr w2 : World} {d m : Nat} {S : Dsk} {t : UInt8} {ks ks' : List Int} {j : Nat} {kv kv' : Value} {A : List FileA} {fs fs2 : List FileT} {f : FileA}

theorem Mid.drop (_h : Mid F w1 wr d m S t ks j kv A ks' fs) (hj : j < S.fs.length) : S.fs.drop j = S.fs[j] :: S.fs.drop (j + 1) := List.drop_eq_getElem_cons hj

theorem Mid.skip (h : Mid F w1 wr d m S t ks j kv A ks' fs) (hj : j < S.fs.length) (hz : S.fs[j].data.length - S.fs[j].syn = 0) : Mid F w1 wr.drew d m S t ks (j + 1) kv (A ++ [S.fs[j]]) ks' fs := by
  have e := h.drop hj
  refine ⟨by rw [List.length_append, h.len]; rfl, ?_, ?_, h.arg.keeps (Keeps.refl F wr).drew, ?_, h.kp.drew⟩
  · have := h.sum
    rw [e, crashL, if_pos hz] at this
    rw [this, List.append_assoc]
    rfl
  · have := h.nms
    rw [e] at this
    rw [← this, List.append_assoc]
    rfl
  · have := h.dk
    rw [e] at this
    rw [List.append_assoc]
    exact this.drew

theorem Mid.crash (h : Mid F w1 wr d m S t ks j kv A ks' fs) (hj : j < S.fs.length) (hz : ¬ S.fs[j].data.length - S.fs[j].syn = 0) (g : FileA) (hg : g = ⟨S.fs[j].name, tear S.fs[j].data S.fs[j].syn (ks'.headD 0) t, (tear S.fs[j].data S.fs[j].syn (ks'.headD 0) t).length⟩)
    (hD : DiskAt F w2 d m { S with fs := setBy FileA.name g (A ++ S.fs.drop j) } fs2) (hK : Keeps F wr w2) (hA : ArgI F wr kv' ks'.tail) : Mid F w1 w2 d m S t ks (j + 1) kv' (A ++ [g]) ks'.tail fs2 := by
  have e := h.drop hj
  have hr := h.dk.rise
  simp only at hr
  have hs : setBy FileA.name g (A ++ S.fs.drop j) = A ++ [g] ++ S.fs.drop (j + 1) := by
    rw [e] at hr ⊢
    rw [setBy_mid hr (by rw [hg]), List.append_assoc]
    rfl
  refine ⟨by rw [List.length_append, h.len]; rfl, ?_, ?_, hA.keeps hK, by rw [hs] at hD; exact hD, h.kp.trans hK⟩
  · have := h.sum
    rw [e, crashL, if_neg hz] at this
    rw [this, List.append_assoc, hg]
    rfl
  · have := h.nms
    rw [← this, ← hs]
    unfold setBy
    rw [List.map_map]
    refine List.map_congr_left fun x _ => ?_
    simp only [Function.comp]
    split
    · rename_i e'; exact e'.symm
    · rfl

theorem Mid.file (h : Mid F w1 wr d m S t ks j kv A ks' fs) (hj : j < S.fs.length) : ∃ T ∈ fs, T.abs = S.fs[j] ∧ ptrOf fs S.fs[j].name = some ⟨T.g, 0, none⟩ := by
  have hr := h.dk.rise
  have hb := h.dk.ab
  simp only at hr hb
  have e := h.drop hj
  have hg : getBy FileA.name S.fs[j].name (A ++ S.fs.drop j) = some S.fs[j] := by
    rw [e] at hr ⊢
    exact getBy_mid hr
  obtain ⟨T, h1, h2, h3, h4⟩ := ptrOf_some (S := { S with fs := A ++ S.fs.drop j }) hb hg
  exact ⟨T, h2, h3, by unfold ptrOf; rw [h1]; rfl⟩

theorem ArgI.shape (h : ArgI F wr kv ks) : ∃ a c, kv = .slice a ks.length c := by
  rcases h with ⟨a, cap, rfl, rfl⟩ | ⟨b, off, cap, rfl, _⟩
  · exact ⟨a, cap, rfl⟩
  · exact ⟨_, cap, rfl⟩

theorem names_shape {B : Nat} {w : World} {v : Value} {ns : List (List UInt8)} (h : OwnS B w v ns) : ∃ ao cap, v = .slice ao ns.length cap ∧ ns.length ≤ cap ∧ cap ≤ 9223372036854775807 ∧ ∀ j (hj : j < ns.length), ∃ g, ao = some ⟨g, 0, none⟩ ∧ B ≤ g ∧ w.cell? ⟨g, j, none⟩ = some (.string ⟨ns[j].toArray⟩) := by
  by_cases hn : ns = []
  · subst hn
    rcases h.2 with ⟨e, e2⟩ | ⟨g, cap, cur, rfl, hB, hg, h1, h2, h3, h4⟩
    · exact ⟨none, 0, e, by simp, by omega, fun j hj => by simp at hj⟩
    · exact ⟨_, cap, rfl, by simp, by unfold maxLen at h2; omega, fun j hj => by simp at hj⟩
  · obtain ⟨g, cap, rfl, h1, h2, h3, h4⟩ := name_row h hn
    exact ⟨_, cap, rfl, h1, h2, fun j hj => ⟨g, rfl, h3, h4 j hj⟩⟩

end

set_option maxRecDepth 100000 in
set_option maxHeartbeats 4000000 in
theorem crash_any (F : Nat → Prop) (w : World) (d : Nat) (S : Dsk) (ks : List Int) (kv : Value) (t : UInt8) (hD : DiskIs F w d S) (hk : ArgI F w kv ks) (hnm : ∀ f ∈ S.fs, f.name.length ≤ 1000000) :
    Calls Try.prog 32 #[.pointer (some ⟨d, 0, none⟩), kv, .int .u8 (t.toNat : Int)] w fun e w' => e = .returned (.int .i64 0) ∧ DiskIs F w' d (crashD S ks t) ∧ Keeps F w w' := by
  obtain ⟨m, fs, h0⟩ := hD
  obtain ⟨G, hG⟩ : ∃ G : Nat → Prop, G = fun i => F i ∧ i < w.heap.size := ⟨_, rfl⟩
  have h : DiskAt G w d m S fs := h0.mono (fun i a b => by rw [hG]; exact ⟨a, b⟩)
  have HH : Hid (DiskAt G w d m S fs) := h
  have HG : Hid (∀ i, G i → F i ∧ i < w.heap.size) := fun i hi => by rw [hG] at hi; exact hi
  have HK : Hid (ArgI G w kv ks) := by
    rcases hk with hk | ⟨b, off, cap, e, h1, h2, hF, h3⟩
    · exact .inl hk
    · exact .inr ⟨b, off, cap, e, h1, h2, fun hg => hF (HG.out b hg).1, h3⟩
  have HN : Hid (∀ f ∈ S.fs, f.name.length ≤ 1000000) := hnm
  obtain ⟨ka, kc, hkv⟩ := HK.out.shape
  have hsz : S.fs.length ≤ 256 := by rw [← h.ab, List.length_map]; exact h.le
  clear h h0 hG hk hnm
  subst hkv
  go_enter Try.func32, Try.ntmps32
  go_wp2_with fail
  refine (list_any G w d S ⟨m, fs, HH.out⟩).mono ?_
  rintro e w1 ⟨v, rfl, hrow, hb⟩
  obtain ⟨ao, cap, rfl, hc1, hc2, hcell⟩ := names_shape hrow
  have HC : Hid _ := hcell
  have HB : Hid (Below w.heap.size w w1) := hb
  obtain ⟨n, hn⟩ : ∃ n, (S.fs.map FileA.name).length = n := ⟨_, rfl⟩
  rw [hn] at hc1
  rw [hn]
  have hn' : S.fs.length = n := by rw [← hn, List.length_map]
  rw [hn'] at hsz
  have HN1 : Hid _ := hn
  have HN2 : Hid _ := hn'
  have HM0 : Hid (Mid G w1 w1 d m S t ks 0 (.slice ka ks.length kc) [] ks fs) := by
    have hkk : Keeps G w w1 := Below.keeps HB.out G (fun i hi hi2 => by omega)
    exact ⟨rfl, by simp, by simp, HK.out.keeps hkk, by simpa using HH.out.stay (w' := w1) (fun i hi _ => HB.out.block i hi), Keeps.refl _ _⟩
  clear hcell hb hrow hn hn'
  go_wp2_with fail
  go_loopg [1, 16] n (fun gk kw iv wr => ∃ (j : Nat) (A : List FileA) (ks' : List Int) (fs' : List FileT) (a : Option Addr) (c : Nat), gk + j = n ∧ iv = .int .i64 (j : Int) ∧ kw = .slice a ks'.length c ∧ Hid (Mid G w1 wr d m S t ks j kw A ks' fs'))
  case atStart => exact ⟨0, [], ks, fs, ka, kc, rfl, rfl, rfl, HM0⟩
  case round =>
    obtain ⟨j, A, ks', fs', a, c, hj, rfl, rfl, HM⟩ := hrel
    by_cases hlt : j < n
    · have hlt2 : j < S.fs.length := by rw [HN2.out]; exact hlt
      obtain ⟨g, rfl, hgB, hcg⟩ := HC.out j (by rw [HN1.out]; exact hlt)
      have hcg2 : wr.cell? ⟨g, j, none⟩ = some (.string ⟨S.fs[j].name.toArray⟩) := by
        have := HM.out.kp.cell (p := ⟨g, j, none⟩) (fun hg => by have := (HG.out g hg).2; omega) hcg
        simpa using this
      obtain ⟨T, hT, hTa, hptr⟩ := HM.out.file hlt2
      have k4 := HM.out.dk.five.k4
      have hrun := find_run HM.out.dk ⟨S.fs[j].name.toArray⟩ S.fs[j].name (by simp) (HN.out _ (List.getElem_mem hlt2))
      rw [hptr] at hrun
      have htail := tail_any G wr d m _ fs' T HM.out.dk hT
      have HT : Hid (T ∈ fs') := hT
      have HTA : Hid (T.abs = S.fs[j]) := hTa
      have hd1 : S.fs[j].data = T.data := by rw [← hTa]; rfl
      have hd2 : S.fs[j].syn = T.syn := by rw [← hTa]; rfl
      have hd3 : S.fs[j].name = T.name := by rw [← hTa]; rfl
      have HD : Hid (S.fs[j].data = T.data ∧ S.fs[j].syn = T.syn ∧ S.fs[j].name = T.name) := ⟨hd1, hd2, hd3⟩
      obtain ⟨nm, hnm⟩ : ∃ nm, S.fs[j].name.toArray = nm := ⟨_, rfl⟩
      rw [hnm] at hcg2 hrun
      obtain ⟨tl, htl⟩ : ∃ tl, T.data.length - T.syn = tl := ⟨_, rfl⟩
      rw [htl] at htail
      have HTL : Hid _ := htl
      clear hcg hT hTa hd1 hd2 hd3 hptr hnm htl
      by_cases hz : tl = 0
      · subst hz
        have HS : Hid (S.fs[j].data.length - S.fs[j].syn = 0) := by show _ = _; rw [HD.out.1, HD.out.2.1]; exact HTL.out
        go_wp2_with fail
        refine htail.mono ?_
        rintro e w3 ⟨rfl, rfl⟩
        go_wp2_with fail
        go_roundg (gk - 1)
        case measure => omega
        case rel => exact ⟨j + 1, _, ks', fs', a, c, by omega, by go_num, rfl, HM.out.skip hlt2 HS.out⟩
      · have hz' : ¬ (tl : Int) = 0 := by omega
        have HS : Hid (¬ S.fs[j].data.length - S.fs[j].syn = 0) := by show ¬ _; rw [HD.out.1, HD.out.2.1, HTL.out]; exact hz
        have harg := HM.out.arg
        cases ks' with
        | nil =>
          clear harg
          go_wp2_with fail
          refine htail.mono ?_
          rintro e w3 ⟨rfl, rfl⟩
          go_wp2_with fail
          refine (fcrash_any G wr.drew d m _ fs' T 0 t HM.out.dk.drew HT.out).mono ?_
          rintro e w3 ⟨rfl, ⟨v', hD3⟩, hK3⟩
          have HE : Hid (Mid G w1 w3 d m S t ks (j + 1) (.slice a ([] : List Int).length c) _ ([] : List Int).tail _) := HM.out.crash hlt2 HS.out _ rfl (by rw [HD.out.1, HD.out.2.1, HD.out.2.2]; exact hD3) ((Keeps.refl G wr).drew.trans hK3) HM.out.arg
          clear hD3 hK3
          go_wp2_with fail
          go_roundg (gk - 1)
          case measure => omega
          case rel => exact ⟨j + 1, _, [], _, a, c, by omega, by go_num, rfl, HE⟩
        | cons k r =>
          rcases harg with ⟨a', c', _, e⟩ | ⟨b, off, cp, e, g1, g2, gF, gc⟩
          · cases e
          simp only [Value.slice.injEq] at e
          obtain ⟨rfl, _, rfl⟩ := e
          have hk0 : wr.cell? ⟨b, off, none⟩ = some (.int .i64 k) := gc 0 (by simp)
          have HA1 : Hid (ArgI G wr (.slice (some ⟨b, off + 1, none⟩) r.length (c - 1)) r) := .inr ⟨b, off + 1, c - 1, rfl, by simp at g1; omega, by omega, gF, fun i hi => by
            have := gc (i + 1) (by simp; omega)
            rw [Nat.add_assoc, Nat.add_comm 1 i]
            simpa using this⟩
          have HA0 : Hid (c = 1 → ArgI G wr (.slice (some ⟨b, off, none⟩) r.length (c - 1)) r) := fun e => by
            subst e
            simp only [List.length_cons] at g1
            have : r = [] := List.eq_nil_of_length_eq_zero (by omega)
            subst this
            exact .inl ⟨_, _, rfl, rfl⟩
          have hrl : r.length + 1 ≤ c := by simpa using g1
          have hcm : c ≤ 9223372036854775807 := by unfold maxLen at g2; omega
          rw [List.length_cons]
          obtain ⟨rl, hrr⟩ : ∃ rl, r.length = rl := ⟨_, rfl⟩
          rw [hrr] at hrl HA1 HA0
          rw [hrr]
          have HRR : Hid _ := hrr
          clear gc g1 g2 gF hrr
          by_cases hc : c = 1
          · subst hc
            obtain rfl : rl = 0 := by omega
            go_wp2_with fail
            refine htail.mono ?_
            rintro e w3 ⟨rfl, rfl⟩
            go_wp2_with fail
            go_region
            all_goals
              go_wp2_with fail
              refine (fcrash_any G _ d m _ fs' T k t HM.out.dk.drew.drew HT.out).mono ?_
              rintro e w3 ⟨rfl, ⟨v', hD3⟩, hK3⟩
              have HE : Hid (Mid G w1 w3 d m S t ks (j + 1) (.slice (some ⟨b, off, none⟩) 0 0) _ (k :: r).tail _) := HM.out.crash hlt2 HS.out _ rfl (by rw [HD.out.1, HD.out.2.1, HD.out.2.2]; exact hD3) ((Keeps.refl G wr).drew.drew.trans hK3) (HA0.out (by first | exact rfl | trivial))
              clear hD3 hK3
              go_wp2_with fail
              go_roundg (gk - 1)
              case measure => omega
              case rel => exact ⟨j + 1, _, r, _, _, 0, by omega, by go_num, by rw [HRR.out], HE⟩
          · go_wp2_with fail
            refine htail.mono ?_
            rintro e w3 ⟨rfl, rfl⟩
            go_wp2_with fail
            go_region
            all_goals
              go_wp2_with fail
              refine (fcrash_any G _ d m _ fs' T k t HM.out.dk.drew.drew HT.out).mono ?_
              rintro e w3 ⟨rfl, ⟨v', hD3⟩, hK3⟩
              have HE : Hid (Mid G w1 w3 d m S t ks (j + 1) (.slice (some ⟨b, off + 1, none⟩) rl (c - 1)) _ (k :: r).tail _) := HM.out.crash hlt2 HS.out _ rfl (by rw [HD.out.1, HD.out.2.1, HD.out.2.2]; exact hD3) ((Keeps.refl G wr).drew.drew.trans hK3) HA1.out
              clear hD3 hK3
              go_wp2_with fail
              go_roundg (gk - 1)
              case measure => omega
              case rel => exact ⟨j + 1, _, r, _, _, c - 1, by omega, by go_num, by rw [HRR.out], HE⟩
    · obtain rfl : j = n := by omega
      have HE : Hid (DiskAt G wr d m { S with fs := crashL t S.fs ks } fs') := by
        show DiskAt _ _ _ _ _ _
        have e1 := HM.out.sum
        have e2 := HM.out.dk
        have e3 : S.fs.drop j = [] := List.drop_eq_nil_of_le (by rw [HN2.out]; exact Nat.le_refl _)
        rw [e3] at e1 e2
        simp only [crashL, List.append_nil] at e1 e2
        rw [e1]
        exact e2
      go_wp2_with fail
      refine (restore_any G wr d m _ fs' HE.out).mono ?_
      rintro e w3 ⟨rfl, hD3, hK3⟩
      have D3 : Hid _ := hD3
      have K3 : Hid _ := hK3
      clear hD3 hK3
      go_wp2
      go_ret
      refine ⟨rfl, ⟨m, fs', D3.out.mono fun i hi _ => (HG.out i hi).1⟩, ?_⟩
      have hkk : Keeps G w w1 := Below.keeps HB.out G (fun i hi hi2 => by omega)
      exact ((hkk.trans HM.out.kp).trans K3.out).mono fun i hi => (HG.out i hi).1

end Go.Proofs.Ytanmfmllnbbdoaa
