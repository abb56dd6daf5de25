/- Create. -/
import Derived.Test.YtanmfmllnbbdoaaDiskFind
namespace Go.Proofs.Ytanmfmllnbbdoaa
open Go.RowKit Go.Maps Go.WideShapes

/-- what Create makes of a disk -/
def createD (S : Dsk) (l : List UInt8) : Int × Dsk :=
  if isName l = false then (1, S)
  else if (getBy FileA.name l S.fs).isSome = true then (7, S)
  else if 256 ≤ S.fs.length then (8, S)
  else if (chg S).1 = 0 then (0, { (chg S).2 with fs := putBy FileA.name ⟨l, [], 0⟩ S.fs })
  else chg S

theorem chg_two (S : Dsk) : (chg S).1 = 0 ∨ (chg S).1 = 9 := by
  unfold chg
  repeat' split
  all_goals simp

theorem usedA_ins (nm : FileA → List UInt8) (f : FileA) (fs : List FileA) : usedA (insBy nm f fs) = f.data.length + usedA fs := by
  unfold usedA
  induction fs with
  | nil => simp [insBy]
  | cons y r ih =>
    simp only [insBy]
    split
    · simp
    · simp only [List.map_cons, List.sum_cons, ih]
      omega

theorem usedA_del (nm : FileA → List UInt8) (l : List UInt8) (fs : List FileA) : usedA (delBy nm l fs) ≤ usedA fs := by
  unfold usedA delBy
  induction fs with
  | nil => simp
  | cons y r ih =>
    simp only [List.filter_cons, List.map_cons, List.sum_cons]
    split
    · simp only [List.map_cons, List.sum_cons]; omega
    · omega

theorem usedA_put (f : FileA) (fs : List FileA) : usedA (putBy FileA.name f fs) ≤ f.data.length + usedA fs := by
  unfold putBy
  rw [usedA_ins]
  have := usedA_del FileA.name f.name fs
  omega

theorem ptrOf_none {fs : List FileT} {S : Dsk} (hab : fs.map FileT.abs = S.fs) {l : List UInt8} (h : getBy FileA.name l S.fs = none) : getBy FileT.name l fs = none := by
  rw [← hab, getBy_map FileT.name FileA.name FileT.abs abs_name] at h
  simpa using h

theorem ptrOf_some {fs : List FileT} {S : Dsk} (hab : fs.map FileT.abs = S.fs) {l : List UInt8} {x : FileA} (h : getBy FileA.name l S.fs = some x) : ∃ f, getBy FileT.name l fs = some f ∧ f ∈ fs ∧ f.abs = x ∧ f.name = l := by
  rw [← hab, getBy_map FileT.name FileA.name FileT.abs abs_name] at h
  obtain ⟨f, hf, rfl⟩ := Option.map_eq_some_iff.1 h
  exact ⟨f, hf, (getBy_some hf).1, rfl, (getBy_some hf).2⟩

set_option maxRecDepth 100000 in
set_option maxHeartbeats 4000000 in
theorem create_any (F : Nat → Prop) (w : World) (d : Nat) (S : Dsk) (s : ByteArray) (l : List UInt8) (c : Int) (q : Dsk) (hD : DiskIs F w d S) (hF : ∀ i, w.heap.size ≤ i → F i) (hs : s.data.toList = l) (hl : l.length ≤ 1000000) (hc : S.ch ≤ 1099511627776)
    (hq : createD S l = (c, q)) :
    Calls Try.prog 17 #[.pointer (some ⟨d, 0, none⟩), .string s] w fun e w' => e = .returned (.int .i64 c) ∧ DiskIs F w' d q ∧ Keeps F w w' := by
  obtain ⟨m, fs, h⟩ := hD
  have HQ : Hid (createD S l = (c, q)) := hq
  have HH : Hid (DiskAt F w d m S fs) := h
  have HF : Hid (∀ i, w.heap.size ≤ i → F i) := hF
  have k4 := h.five.k4
  have hrun := find_run h s l hs hl
  have hmp := h.mp
  have hab := h.ab
  have hfl : fs.length = S.fs.length := by rw [← hab, List.length_map]
  clear h hq hF
  cases hn : isName l with
  | false =>
    have hr := HQ.out
    simp only [createD, hn, if_true, Prod.mk.injEq] at hr
    obtain ⟨rfl, rfl⟩ := hr
    clear hmp hrun hfl
    go_enter Try.func17, Try.ntmps17
    go_wp2_with fail
    refine (name_any _ s l false hs hn hl).mono ?_
    rintro e w1 ⟨rfl, hw⟩
    subst hw
    go_wp2
    go_ret
    exact ⟨rfl, ⟨m, fs, HH.out⟩, Keeps.refl _ _⟩
  | true =>
    cases hg : getBy FileA.name l S.fs with
    | some x =>
      have hr := HQ.out
      simp only [createD, hn, hg, Option.isSome_some, Bool.true_eq_false, if_false, if_true, Prod.mk.injEq] at hr
      obtain ⟨rfl, rfl⟩ := hr
      obtain ⟨f, hf, _⟩ := ptrOf_some hab hg
      simp only [ptrOf, hf, Option.map_some] at hrun
      clear hmp hfl
      go_enter Try.func17, Try.ntmps17
      go_wp2_with fail
      refine (name_any _ s l true hs hn hl).mono ?_
      rintro e w1 ⟨rfl, hw⟩
      subst hw
      go_wp2
      go_ret
      exact ⟨rfl, ⟨m, fs, HH.out⟩, Keeps.refl _ _⟩
    | none =>
      have hf := ptrOf_none hab hg
      simp only [ptrOf, hf, Option.map_none] at hrun
      by_cases h256 : 256 ≤ S.fs.length
      · have hr := HQ.out
        simp only [createD, hn, hg, Option.isSome_none, Bool.true_eq_false, Bool.false_eq_true, if_false] at hr
        rw [if_pos h256] at hr
        simp only [Prod.mk.injEq] at hr
        obtain ⟨rfl, rfl⟩ := hr
        obtain ⟨n, hn1, hn2⟩ : ∃ n : Nat, Maps.size (mapD fs) = n ∧ 256 ≤ n := ⟨_, rfl, by rw [mapD_size]; omega⟩
        have hn3 : (256 : Int) ≤ (n : Int) := by omega
        clear hfl h256 hn2
        go_enter Try.func17, Try.ntmps17
        go_wp2_with fail
        refine (name_any _ s l true hs hn hl).mono ?_
        rintro e w1 ⟨rfl, hw⟩
        subst hw
        go_wp2_with (at_len; refine wpList_len_own _ rfl _ 62 rfl 9 71 Try.underlying62 _ m _ _ rfl hmp ?_)
        go_ret
        exact ⟨rfl, ⟨m, fs, HH.out⟩, Keeps.refl _ _⟩
      · obtain ⟨n, hn1, hn2⟩ : ∃ n : Nat, Maps.size (mapD fs) = n ∧ n < 256 := ⟨_, rfl, by rw [mapD_size]; omega⟩
        have hn3 : ¬ (256 : Int) ≤ (n : Int) := by omega
        obtain ⟨c1, S1, hch⟩ : ∃ c1 S1, chg S = (c1, S1) := ⟨_, _, rfl⟩
        have hfs := chg_fs S
        rw [hch] at hfs
        have hr := HQ.out
        simp only [createD, hn, hg, Option.isSome_none, Bool.true_eq_false, Bool.false_eq_true, if_false] at hr
        rw [if_neg h256, hch] at hr
        have h2 := chg_two S
        rw [hch] at h2
        simp only at h2 hr hfs
        have HR : Hid _ := hr
        have HS : Hid _ := hfs
        have HC : Hid _ := hch
        have H2 : Hid (S.fs.length < 256) := by show _ < _; omega
        have HL : Hid _ := hfl
        have HE : Hid _ := hf
        have HG : Hid _ := hg
        clear h256 hn2 hr hch hfs hfl hf hg
        go_enter Try.func17, Try.ntmps17
        go_wp2_with fail
        refine (name_any _ s l true hs hn hl).mono ?_
        rintro e w1 ⟨rfl, hw⟩
        subst hw
        go_wp2_with (at_len; refine wpList_len_own _ rfl _ 62 rfl 9 71 Try.underlying62 _ m _ _ rfl hmp ?_)
        refine (change_any F w1 d m S S1 c1 fs HH.out hc HC.out).mono ?_
        rintro e w2 ⟨rfl, hD2, hK2⟩
        have K2 : Hid (Keeps F w1 w2) := hK2
        have D2 : Hid (DiskAt F w2 d m S1 fs) := hD2
        have k4 := hD2.five.k4
        have hmp2 := hD2.mp.alloc (.cells #[.slice none 0 0, .int .i64 0] 74)
        clear hD2 hK2 hmp hrun
        rcases h2 with rfl | rfl
        · have hr := HR.out
          simp only [if_true, Prod.mk.injEq] at hr
          obtain ⟨rfl, rfl⟩ := hr
          have hkey : keyOf Try.prog 9 (.string s) = some (.string l) := str_key hs hl
          have HM : Hid (fs.length < maxLen) := by show _ < _; have := HL.out; have := H2.out; unfold maxLen; omega
          go_wp2_with (at_mapUpdate; refine wpList_mapUpdate_own _ rfl _ _ _ 62 rfl 9 71 (string_keyed Try.underlying9) Try.underlying62 _ m fs.length _ rfl hmp2 HM.out _ (.pointer (some ⟨w2.heap.size, 0, none⟩)) _ rfl rfl hkey (.lit (.int .i64 (w2.heap.size : Int))) [] rfl ?_; intro w3 hown3 hg3)
          go_ret
          refine ⟨rfl, ?_, (K2.out.alloc _).grown hg3 fun k hk => by cases hk; exact D2.out.fm⟩
          have hDA : DiskAt F (w2.alloc (.cells #[.slice none 0 0, .int .i64 0] 74)) d m S1 fs := D2.out.stay fun i hi _ => Below.heap_alloc _ _ i hi
          have hFA : FileAt F (w2.alloc (.cells #[.slice none 0 0, .int .i64 0] 74)) ⟨l, w2.heap.size, .slice none 0 0, [], 0⟩ :=
            ⟨heap_alloc_new w2 _, .inl ⟨rfl, rfl⟩, Nat.le_refl _, HF.out _ K2.out.size, fun b hb => by simp [Value.ownBlock] at hb⟩
          have e1 : putBy FileA.name ⟨l, [], 0⟩ S.fs = putBy FileA.name (FileT.abs ⟨l, w2.heap.size, .slice none 0 0, [], 0⟩) S1.fs := by rw [HS.out.1]; rfl
          have ok := D2.out.ok
          rw [e1]
          refine ⟨m, _, hDA.put hFA (fun x hx _ => ⟨fun e => ?_, fun b hb => by simp [Value.ownBlock] at hb⟩) hg3 hown3 ?_ ⟨ok.l0, ok.l1, ok.c0, ok.r0, ok.r1, ?_⟩⟩
          · have := lt_of (D2.out.fl x hx).cells
            simp only at e
            omega
          · unfold putBy
            rw [insBy_length]
            have := delBy_length FileT.name l fs
            have := H2.out
            have := HL.out
            simp only
            omega
          · have h1 := usedA_put (FileT.abs ⟨l, w2.heap.size, .slice none 0 0, [], 0⟩) S1.fs
            have h2 := ok.us
            simp only [FileT.abs, List.length_nil] at h1 ⊢
            omega
        · have hr := HR.out
          rw [if_neg (by decide)] at hr
          simp only [Prod.mk.injEq] at hr
          obtain ⟨rfl, rfl⟩ := hr
          go_wp2
          go_ret
          exact ⟨rfl, ⟨m, fs, D2.out⟩, K2.out⟩

end Go.Proofs.Ytanmfmllnbbdoaa
