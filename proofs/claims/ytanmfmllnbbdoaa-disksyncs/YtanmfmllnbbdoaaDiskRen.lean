/- Rename, Arm, On, Changes. -/
import Derived.Test.YtanmfmllnbbdoaaDiskOps
namespace Go.Proofs.Ytanmfmllnbbdoaa
open Go.RowKit Go.Maps Go.WideShapes

set_option maxRecDepth 100000 in
set_option maxHeartbeats 4000000 in
theorem ren_any (F : Nat → Prop) (w : World) (d : Nat) (S : Dsk) (s t : ByteArray) (l k : List UInt8) (c : Int) (q : Dsk) (hD : DiskIs F w d S) (hs : s.data.toList = l) (hl : l.length ≤ 1000000) (ht : t.data.toList = k) (hk : k.length ≤ 1000000) (hc : S.ch ≤ 1099511627776)
    (hq : renD S l k = (c, q)) :
    Calls Try.prog 23 #[.pointer (some ⟨d, 0, none⟩), .string s, .string t] w fun e w' => e = .returned (.int .i64 c) ∧ DiskIs F w' d q ∧ Keeps F w w' := by
  obtain ⟨m, fs, h⟩ := hD
  have HQ : Hid (renD S l k = (c, q)) := hq
  have HH : Hid (DiskAt F w d m S fs) := h
  have hab := h.ab
  have hfind := find_any F w d m S fs s l h hs hl
  clear h hq
  cases hn : isName k with
  | false =>
    have hr := HQ.out
    simp only [renD, hn, if_true, Prod.mk.injEq] at hr
    obtain ⟨rfl, rfl⟩ := hr
    clear hfind
    go_enter Try.func23, Try.ntmps23
    go_wp2_with fail
    refine (name_any _ t k false ht hn hk).mono ?_
    rintro e w1 ⟨rfl, hw⟩
    subst hw
    go_wp2
    go_ret
    exact ⟨rfl, ⟨m, fs, HH.out⟩, Keeps.refl _ _⟩
  | true =>
    cases hg : getBy FileA.name l S.fs with
    | none =>
      have hr := HQ.out
      simp only [renD, hg, hn, Bool.true_eq_false, if_false, Prod.mk.injEq] at hr
      obtain ⟨rfl, rfl⟩ := hr
      have hf := ptrOf_none hab hg
      simp only [ptrOf, hf, Option.map_none] at hfind
      go_enter Try.func23, Try.ntmps23
      go_wp2_with fail
      refine (name_any _ t k true ht hn hk).mono ?_
      rintro e w1 ⟨rfl, hw⟩
      subst hw
      go_wp2_with fail
      refine hfind.mono ?_
      rintro e w1 ⟨rfl, hw⟩
      subst hw
      go_wp2
      go_ret
      exact ⟨rfl, ⟨m, fs, HH.out⟩, Keeps.refl _ _⟩
    | some x =>
      obtain ⟨f, hf, hm, rfl, hnm⟩ := ptrOf_some hab hg
      simp only [ptrOf, hf, Option.map_some] at hfind
      obtain ⟨c1, S1, hch⟩ : ∃ c1 S1, chg S = (c1, S1) := ⟨_, _, rfl⟩
      have hfs := chg_fs S
      rw [hch] at hfs
      have hr := HQ.out
      simp only [renD, hg, doD, hn, Bool.true_eq_false, if_false] at hr
      rw [hch] at hr
      have h2 := chg_two S
      rw [hch] at h2
      simp only at h2 hr hfs
      have HR : Hid _ := hr
      have HS : Hid _ := hfs
      have HC : Hid _ := hch
      have HE : Hid _ := hm
      have HG : Hid _ := hf
      have HN : Hid _ := hnm
      clear hr hch hfs hf hg hm hnm
      go_enter Try.func23, Try.ntmps23
      go_wp2_with fail
      refine (name_any _ t k true ht hn hk).mono ?_
      rintro e w1 ⟨rfl, hw⟩
      subst hw
      go_wp2_with fail
      refine hfind.mono ?_
      rintro e w1 ⟨rfl, hw⟩
      subst hw
      clear hfind
      go_wp2_with fail
      refine (change_any F w1 d m S S1 c1 fs HH.out hc HC.out).mono ?_
      rintro e w2 ⟨rfl, hD2, hK2⟩
      have K2 : Hid (Keeps F w1 w2) := hK2
      have D2 : Hid (DiskAt F w2 d m S1 fs) := hD2
      have k4 := hD2.five.k4
      have hmp2 := hD2.mp
      clear hD2 hK2
      rcases h2 with rfl | rfl
      · have hr := HR.out
        simp only [if_true, Prod.mk.injEq] at hr
        obtain ⟨rfl, rfl⟩ := hr
        have hkey : keyOf Try.prog 9 (.string s) = some (.string l) := str_key hs hl
        have hkey2 : keyOf Try.prog 9 (.string t) = some (.string k) := str_key ht hk
        have HM : Hid (fs.length < maxLen) := by show _ < _; have := D2.out.le; unfold maxLen; omega
        go_wp2_with (first
          | (at_delete; refine wpList_delete_own _ rfl _ _ 62 9 rfl 71 (string_keyed Try.underlying9) Try.underlying62 _ m fs.length _ rfl hmp2 _ _ rfl hkey ?_; intro w3 hown3 hg3
             have ok := D2.out.ok
             have D3 : Hid (DiskAt F w3 d m { S1 with fs := delBy FileA.name l S1.fs } (delBy FileT.name l fs)) := D2.out.del hg3.grown hown3 ⟨ok.l0, ok.l1, ok.c0, ok.r0, ok.r1, by
               have h1 := usedA_del FileA.name l S1.fs
               have h2 := ok.us
               simp only
               omega⟩
             have k4 := D3.out.five.k4
             have G3 : Hid (w2.grownBy w3 (some m)) := hg3.grown
             clear ok hg3)
          | (at_mapUpdate; refine wpList_mapUpdate_own _ rfl _ _ _ 62 rfl 9 71 (string_keyed Try.underlying9) Try.underlying62 _ m fs.length _ rfl hown3 HM.out _ _ _ rfl rfl hkey2 (.lit (.int .i64 (f.g : Int))) [] rfl ?_; intro w4 hown4 hg4))
        go_ret
        refine ⟨rfl, ?_, (K2.out.grown G3.out fun k hk => by cases hk; exact D2.out.fm).grown hg4 fun k hk => by cases hk; exact D2.out.fm⟩
        have e := HS.out.1
        rw [← e]
        have ok := D3.out.ok
        have hF2 := D2.out.mapped (D2.out.fl f HE.out) G3.out
        have hF3 : FileAt F w3 { f with name := k } := ⟨hF2.cells, hF2.own, hF2.syn, hF2.fg, hF2.fv⟩
        rw [mapD_del] at hown4
        have hlen := delBy_len_eq D2.out.so HG.out
        have hus := usedA_del_eq D2.out.rise (D2.out.getA HE.out)
        rw [HN.out] at hus
        refine ⟨m, _, D3.out.put (f := { f with name := k }) hF3 (fun x hx _ => ?_) hg4 hown4 ?_ ⟨ok.l0, ok.l1, ok.c0, ok.r0, ok.r1, ?_⟩⟩
        · obtain ⟨h1, h2⟩ := (delBy_mem FileT.name l x fs).1 hx
          have := ap_of D2.out.ap HE.out h1 (by rw [HN.out]; exact fun e => h2 e.symm)
          exact ⟨this.1, this.2⟩
        · unfold putBy
          rw [insBy_length]
          have h1 := delBy_length FileT.name k (delBy FileT.name l fs)
          have h2 := D2.out.le
          simp only
          omega
        · have h1 := usedA_put (FileT.abs { f with name := k }) (delBy FileA.name l S1.fs)
          have h2 := D2.out.ok.us
          have e1 : (FileT.abs { f with name := k }).data.length = f.data.length := rfl
          have e2 : f.abs.data.length = f.data.length := rfl
          rw [e1] at h1
          rw [e2] at hus
          simp only
          omega
      · have hr := HR.out
        rw [if_neg (by decide)] at hr
        simp only [Prod.mk.injEq] at hr
        obtain ⟨rfl, rfl⟩ := hr
        go_wp2
        go_ret
        exact ⟨rfl, ⟨m, fs, D2.out⟩, K2.out⟩

theorem powarm_any (F : Nat → Prop) (w : World) (d m : Nat) (S : Dsk) (fs : List FileT) (n : Int) (h : DiskAt F w d m S fs) (hn : 0 ≤ n) (hn2 : n ≤ 9223372036854775807) :
    Calls Try.prog 49 #[.pointer (some ⟨d, 0, none⟩), .int .i64 n] w fun e w' => e = .returned (.tuple #[]) ∧ DiskAt F w' d m { S with left := n } fs ∧ Keeps F w w' := by
  have HH : Hid (DiskAt F w d m S fs) := h
  have f1 := h.five.fz 1
  have k1 := h.five.k1
  obtain ⟨z9, hz9⟩ := h.dk
  have hs := five_set hz9 1 (.int .i64 n)
  have HS : Hid _ := hs
  have hfd := h.fd
  clear h hs hz9
  go_enter Try.func49, Try.ntmps49
  go_wp2
  go_end0
  have ok := HH.out.ok
  exact ⟨rfl, HH.out.turn (but_set (But.refl d w) 1 _) (by simpa using HS.out) rfl ⟨hn, hn2, ok.c0, ok.r0, ok.r1, ok.us⟩, (Keeps.refl _ _).setCell (p := ⟨d, 1, none⟩) hfd _⟩

def armD (S : Dsk) (n : Int) : Int × Dsk := if n < 0 then (1, S) else (0, { S with left := n })

theorem arm_any (F : Nat → Prop) (w : World) (d : Nat) (S : Dsk) (n c : Int) (q : Dsk) (hD : DiskIs F w d S) (hn2 : n ≤ 9223372036854775807) (hq : armD S n = (c, q)) :
    Calls Try.prog 30 #[.pointer (some ⟨d, 0, none⟩), .int .i64 n] w fun e w' => e = .returned (.int .i64 c) ∧ DiskIs F w' d q ∧ Keeps F w w' := by
  obtain ⟨m, fs, h⟩ := hD
  have HH : Hid (DiskAt F w d m S fs) := h
  have HQ : Hid (armD S n = (c, q)) := hq
  clear h hq
  by_cases hn : n < 0
  · have hr := HQ.out
    unfold armD at hr
    rw [if_pos hn] at hr
    simp only [Prod.mk.injEq] at hr
    obtain ⟨rfl, rfl⟩ := hr
    go_enter Try.func30, Try.ntmps30
    go_wp2
    go_ret
    exact ⟨rfl, ⟨m, fs, HH.out⟩, Keeps.refl _ _⟩
  · have hr := HQ.out
    unfold armD at hr
    rw [if_neg hn] at hr
    simp only [Prod.mk.injEq] at hr
    obtain ⟨rfl, rfl⟩ := hr
    go_enter Try.func30, Try.ntmps30
    go_wp2_with fail
    refine (powarm_any F w d m S fs n HH.out (by omega) hn2).mono ?_
    rintro e w2 ⟨rfl, hD2, hK2⟩
    have K2 : Hid (Keeps F w w2) := hK2
    have D2 : Hid (DiskAt F w2 d m { S with left := n } fs) := hD2
    clear hD2 hK2
    go_wp2
    go_ret
    exact ⟨rfl, ⟨m, fs, D2.out⟩, K2.out⟩

theorem on_any (F : Nat → Prop) (w : World) (d : Nat) (S : Dsk) (hD : DiskIs F w d S) :
    Calls Try.prog 35 #[.pointer (some ⟨d, 0, none⟩)] w fun e w' => e = .returned (.bool (!S.off)) ∧ w' = w := by
  obtain ⟨m, fs, h⟩ := hD
  have k0 := h.five.k0
  clear h
  go_enter Try.func35, Try.ntmps35
  go_wp2
  go_ret
  exact ⟨rfl, rfl⟩

theorem changes_any (F : Nat → Prop) (w : World) (d : Nat) (S : Dsk) (hD : DiskIs F w d S) :
    Calls Try.prog 38 #[.pointer (some ⟨d, 0, none⟩)] w fun e w' => e = .returned (.int .i64 S.ch) ∧ w' = w := by
  obtain ⟨m, fs, h⟩ := hD
  have k2 := h.five.k2
  clear h
  go_enter Try.func38, Try.ntmps38
  go_wp2
  go_ret
  exact ⟨rfl, rfl⟩

end Go.Proofs.Ytanmfmllnbbdoaa
