/- Sync, Read, Arm, On, Changes, Delete, Rename. -/
import Derived.Test.YtanmfmllnbbdoaaDiskCreate
namespace Go.Proofs.Ytanmfmllnbbdoaa
open Go.RowKit Go.Maps Go.WideShapes

/-- the cells of a file -/
structure Two (w : World) (f : FileT) : Prop where
  k0 : w.cell? ⟨f.g, 0, none⟩ = some f.v
  k1 : w.cell? ⟨f.g, 1, none⟩ = some (.int .i64 (f.syn : Int))
  fz : ∀ i, w.frozen? ⟨f.g, i, none⟩ = false

theorem FileAt.two {F : Nat → Prop} {w : World} {f : FileT} (h : FileAt F w f) : Two w f := by
  have k := fun i => cell_of_row w f.g i _ 74 (0, 0) h.cells
  exact ⟨by rw [k]; rfl, by rw [k]; rfl, fun i => frozen_of_row w f.g i _ 74 h.cells⟩

theorem used_mem {fs : List FileA} {f : FileA} (hf : f ∈ fs) : f.data.length ≤ usedA fs := by
  unfold usedA
  induction fs with
  | nil => simp at hf
  | cons y r ih =>
    simp only [List.map_cons, List.sum_cons]
    rcases List.mem_cons.1 hf with rfl | hf
    · omega
    · have := ih hf
      omega

theorem usedA_set {fs : List FileA} (hr : Rise FileA.name fs) {f g : FileA} (hf : getBy FileA.name g.name fs = some f) : usedA (setBy FileA.name g fs) + f.data.length = usedA fs + g.data.length := by
  unfold usedA
  induction fs with
  | nil => simp [getBy] at hf
  | cons y r ih =>
    obtain ⟨h1, h2⟩ := List.pairwise_cons.1 hr
    unfold getBy at hf
    rw [List.find?_cons] at hf
    unfold setBy
    simp only [List.map_cons, List.sum_cons]
    by_cases e : y.name = g.name
    · rw [if_pos e]
      rw [show (y.name == g.name) = true by simpa using e] at hf
      simp only [Option.some.injEq] at hf
      subst hf
      have : r.map (fun y => if y.name = g.name then g else y) = r := by
        refine (List.map_congr_left fun z hz => ?_).trans (List.map_id r)
        have := h1 z hz
        rw [if_neg fun e' => by rw [e, e', WideAt.bytes_irrefl] at this; cases this]
        rfl
      rw [this]
      omega
    · rw [if_neg e]
      rw [show (y.name == g.name) = false by simpa using e] at hf
      have := ih h2 hf
      unfold setBy at this
      omega

theorem usedA_del_eq {fs : List FileA} (hr : Rise FileA.name fs) {l : List UInt8} {f : FileA} (hf : getBy FileA.name l fs = some f) : usedA (delBy FileA.name l fs) + f.data.length = usedA fs := by
  unfold usedA
  induction fs with
  | nil => simp [getBy] at hf
  | cons y r ih =>
    obtain ⟨h1, h2⟩ := List.pairwise_cons.1 hr
    unfold getBy at hf
    rw [List.find?_cons] at hf
    unfold delBy
    rw [List.filter_cons]
    by_cases e : y.name = l
    · rw [show (y.name == l) = true by simpa using e] at hf ⊢
      simp only [Option.some.injEq] at hf
      subst hf
      have : r.filter (fun x => !(x.name == l)) = r := List.filter_eq_self.2 fun z hz => by
        have := h1 z hz
        have hne : z.name ≠ l := fun e' => by rw [e, ← e', WideAt.bytes_irrefl] at this; cases this
        simpa using hne
      simp only [Bool.not_true, Bool.false_eq_true, if_false, List.map_cons, List.sum_cons]
      rw [this]
      omega
    · rw [show (y.name == l) = false by simpa using e] at hf ⊢
      have := ih h2 hf
      simp only [Bool.not_false, if_true, List.map_cons, List.sum_cons]
      unfold delBy at this
      omega

section
variable {F : Nat → Prop} {w : World} {d m : Nat} {S : Dsk} {fs : List FileT}

theorem DiskAt.rise (h : DiskAt F w d m S fs) : Rise FileA.name S.fs := by
  rw [← h.ab]
  exact (rise_map FileT.abs abs_name).2 h.so

theorem DiskAt.getA (h : DiskAt F w d m S fs) {f : FileT} (hf : f ∈ fs) : getBy FileA.name f.name S.fs = some f.abs := by
  rw [← h.ab, getBy_map FileT.name FileA.name FileT.abs abs_name, getBy_of_mem h.so hf]
  rfl

theorem DiskAt.data_le (h : DiskAt F w d m S fs) {f : FileT} (hf : f ∈ fs) : f.data.length ≤ 1048576 := by
  have h1 := used_mem (getBy_some (h.getA hf)).1
  have h2 := h.ok.us
  have h3 := h.ok.r1
  have : f.abs.data.length = f.data.length := rfl
  omega

theorem DiskAt.ok_set (h : DiskAt F w d m S fs) {f : FileT} (hf : f ∈ fs) {g : FileA} (e : g.name = f.name) (hl : (usedA S.fs : Int) + g.data.length ≤ S.room + f.data.length) : DOk { S with fs := setBy FileA.name g S.fs } := by
  have ok := h.ok
  refine ⟨ok.l0, ok.l1, ok.c0, ok.r0, ok.r1, ?_⟩
  have h1 := usedA_set h.rise (f := f.abs) (g := g) (by rw [e]; exact h.getA hf)
  have : f.abs.data.length = f.data.length := rfl
  simp only
  omega

end

theorem fsync_any (F : Nat → Prop) (w : World) (d m : Nat) (S : Dsk) (fs : List FileT) (f : FileT) (h : DiskAt F w d m S fs) (hf : f ∈ fs) :
    Calls Try.prog 46 #[.pointer (some ⟨f.g, 0, none⟩)] w fun e w' => e = .returned (.tuple #[]) ∧ DiskAt F w' d m { S with fs := setBy FileA.name { f.abs with syn := f.data.length } S.fs } (setBy FileT.name { f with syn := f.data.length } fs) ∧ Keeps F w w' := by
  have HH : Hid (DiskAt F w d m S fs) := h
  have hA := h.fl f hf
  obtain ⟨k0, k1, fz⟩ := hA.two
  have f1 := fz 1
  have HA : Hid (FileAt F w f) := hA
  obtain ⟨ao, cap, hv⟩ := hA.own.rd.len
  have HM : Hid (f ∈ fs) := hf
  clear h hA fz hf
  rw [hv] at k0
  have HV : Hid _ := hv
  clear hv
  go_enter Try.func46, Try.ntmps46
  go_wp2
  go_end0
  refine ⟨rfl, ?_, (Keeps.refl _ _).setCell (p := ⟨f.g, 1, none⟩) HA.out.fg _⟩
  have hs := heap_setCell_same w f.g 1 _ 74 (.int .i64 (f.data.length : Int)) HA.out.cells
  refine HH.out.file (f := f) (f' := { f with syn := f.data.length }) HM.out rfl rfl (fun i hi hg _ => Below.heap_setCell _ _ _ _ (by simpa using hg)) ⟨?_, ?_, Nat.le_refl _, HA.out.fg, HA.out.fv⟩ (fun b hb => .inl hb) (HH.out.ok_set HM.out rfl ?_)
  · rw [hs]; rfl
  · exact ownN_stay HA.out.own fun i hi hv => Below.heap_setCell _ _ _ _ (fun e => by
      subst e
      exact ownN_ne HA.out.own HA.out.cells (by decide) hv)
  · have := HH.out.ok.us
    simp only [FileT.abs]
    omega

/-- what a change does, if it isn't refused -/
def doD (S : Dsk) (fs : List FileA) : Int × Dsk := if (chg S).1 = 0 then (0, { (chg S).2 with fs := fs }) else chg S

def syncD (S : Dsk) (l : List UInt8) : Int × Dsk :=
  match getBy FileA.name l S.fs with
  | none => (6, S)
  | some f => doD S (setBy FileA.name { f with syn := f.data.length } S.fs)

def delD (S : Dsk) (l : List UInt8) : Int × Dsk :=
  match getBy FileA.name l S.fs with
  | none => (6, S)
  | some _ => doD S (delBy FileA.name l S.fs)

def renD (S : Dsk) (a b : List UInt8) : Int × Dsk :=
  if isName b = false then (1, S)
  else match getBy FileA.name a S.fs with
  | none => (6, S)
  | some f => doD S (putBy FileA.name { f with name := b } (delBy FileA.name a S.fs))

def readD (S : Dsk) (l : List UInt8) : Int × List UInt8 :=
  match getBy FileA.name l S.fs with
  | none => (6, [])
  | some f => if S.off = true then (9, []) else (0, f.data)

set_option maxRecDepth 100000 in
set_option maxHeartbeats 4000000 in
theorem sync_any (F : Nat → Prop) (w : World) (d : Nat) (S : Dsk) (s : ByteArray) (l : List UInt8) (c : Int) (q : Dsk) (hD : DiskIs F w d S) (hs : s.data.toList = l) (hl : l.length ≤ 1000000) (hc : S.ch ≤ 1099511627776)
    (hq : syncD S l = (c, q)) :
    Calls Try.prog 21 #[.pointer (some ⟨d, 0, none⟩), .string s] w fun e w' => e = .returned (.int .i64 c) ∧ DiskIs F w' d q ∧ Keeps F w w' := by
  obtain ⟨m, fs, h⟩ := hD
  have HQ : Hid (syncD S l = (c, q)) := hq
  have HH : Hid (DiskAt F w d m S fs) := h
  have hab := h.ab
  have hfind := find_any F w d m S fs s l h hs hl
  clear h hq
  cases hg : getBy FileA.name l S.fs with
  | none =>
    have hr := HQ.out
    simp only [syncD, hg, Prod.mk.injEq] at hr
    obtain ⟨rfl, rfl⟩ := hr
    have hf := ptrOf_none hab hg
    simp only [ptrOf, hf, Option.map_none] at hfind
    go_enter Try.func21, Try.ntmps21
    go_wp2_with fail
    refine hfind.mono ?_
    rintro e w1 ⟨rfl, hw⟩
    subst hw
    go_wp2
    go_ret
    exact ⟨rfl, ⟨m, fs, HH.out⟩, Keeps.refl _ _⟩
  | some x =>
    obtain ⟨f, hf, hm, rfl, hnm⟩ := ptrOf_some hab hg
    simp only [ptrOf, hf, Option.map_some] at hfind
    obtain ⟨c1, S1, hch⟩ : ∃ c1 S1, chg S = (c1, S1) := ⟨_, _, rfl⟩
    have hfs := chg_fs S
    rw [hch] at hfs
    have hr := HQ.out
    simp only [syncD, hg, doD] at hr
    rw [hch] at hr
    have h2 := chg_two S
    rw [hch] at h2
    simp only at h2 hr hfs
    have HR : Hid _ := hr
    have HS : Hid _ := hfs
    have HC : Hid _ := hch
    have HE : Hid _ := hm
    clear hr hch hfs hf hg hm
    go_enter Try.func21, Try.ntmps21
    go_wp2_with fail
    refine hfind.mono ?_
    rintro e w1 ⟨rfl, hw⟩
    subst hw
    clear hfind
    go_wp2_with fail
    refine (change_any F w1 d m S S1 c1 fs HH.out hc HC.out).mono ?_
    rintro e w2 ⟨rfl, hD2, hK2⟩
    have K2 : Hid (Keeps F w1 w2) := hK2
    have D2 : Hid (DiskAt F w2 d m S1 fs) := hD2
    clear hD2 hK2
    rcases h2 with rfl | rfl
    · have hr := HR.out
      simp only [if_true, Prod.mk.injEq] at hr
      obtain ⟨rfl, rfl⟩ := hr
      go_wp2_with fail
      refine (fsync_any F w2 d m S1 fs f D2.out HE.out).mono ?_
      rintro e w3 ⟨rfl, hD3, hK3⟩
      have K3 : Hid (Keeps F w2 w3) := hK3
      have D3 : Hid (DiskAt F w3 d m _ _) := hD3
      clear hD3 hK3
      go_wp2
      go_ret
      refine ⟨rfl, ?_, K2.out.trans K3.out⟩
      have e := HS.out.1
      rw [← e]
      exact ⟨m, _, D3.out⟩
    · have hr := HR.out
      rw [if_neg (by decide)] at hr
      simp only [Prod.mk.injEq] at hr
      obtain ⟨rfl, rfl⟩ := hr
      go_wp2
      go_ret
      exact ⟨rfl, ⟨m, fs, D2.out⟩, K2.out⟩

set_option maxRecDepth 100000 in
set_option maxHeartbeats 4000000 in
theorem del_any (F : Nat → Prop) (w : World) (d : Nat) (S : Dsk) (s : ByteArray) (l : List UInt8) (c : Int) (q : Dsk) (hD : DiskIs F w d S) (hs : s.data.toList = l) (hl : l.length ≤ 1000000) (hc : S.ch ≤ 1099511627776)
    (hq : delD S l = (c, q)) :
    Calls Try.prog 25 #[.pointer (some ⟨d, 0, none⟩), .string s] w fun e w' => e = .returned (.int .i64 c) ∧ DiskIs F w' d q ∧ Keeps F w w' := by
  obtain ⟨m, fs, h⟩ := hD
  have HQ : Hid (delD S l = (c, q)) := hq
  have HH : Hid (DiskAt F w d m S fs) := h
  have hab := h.ab
  have hfind := find_any F w d m S fs s l h hs hl
  clear h hq
  cases hg : getBy FileA.name l S.fs with
  | none =>
    have hr := HQ.out
    simp only [delD, hg, Prod.mk.injEq] at hr
    obtain ⟨rfl, rfl⟩ := hr
    have hf := ptrOf_none hab hg
    simp only [ptrOf, hf, Option.map_none] at hfind
    go_enter Try.func25, Try.ntmps25
    go_wp2_with fail
    refine hfind.mono ?_
    rintro e w1 ⟨rfl, hw⟩
    subst hw
    go_wp2
    go_ret
    exact ⟨rfl, ⟨m, fs, HH.out⟩, Keeps.refl _ _⟩
  | some x =>
    obtain ⟨f, hf, hm, rfl, hnm⟩ := ptrOf_some hab hg
    simp only [ptrOf, hf, Option.map_some] at hfind
    obtain ⟨c1, S1, hch⟩ : ∃ c1 S1, chg S = (c1, S1) := ⟨_, _, rfl⟩
    have hfs := chg_fs S
    rw [hch] at hfs
    have hr := HQ.out
    simp only [delD, hg, doD] at hr
    rw [hch] at hr
    have h2 := chg_two S
    rw [hch] at h2
    simp only at h2 hr hfs
    have HR : Hid _ := hr
    have HS : Hid _ := hfs
    have HC : Hid _ := hch
    clear hr hch hfs hf hg hm
    go_enter Try.func25, Try.ntmps25
    go_wp2_with fail
    refine hfind.mono ?_
    rintro e w1 ⟨rfl, hw⟩
    subst hw
    clear hfind
    go_wp2_with fail
    refine (change_any F w1 d m S S1 c1 fs HH.out hc HC.out).mono ?_
    rintro e w2 ⟨rfl, hD2, hK2⟩
    have K2 : Hid (Keeps F w1 w2) := hK2
    have D2 : Hid (DiskAt F w2 d m S1 fs) := hD2
    have k4 := hD2.five.k4
    have hmp2 := hD2.mp
    clear hD2 hK2
    rcases h2 with rfl | rfl
    · have hr := HR.out
      simp only [if_true, Prod.mk.injEq] at hr
      obtain ⟨rfl, rfl⟩ := hr
      have hkey : keyOf Try.prog 9 (.string s) = some (.string l) := str_key hs hl
      go_wp2_with (at_delete; refine wpList_delete_own _ rfl _ _ 62 9 rfl 71 (string_keyed Try.underlying9) Try.underlying62 _ m fs.length _ rfl hmp2 _ _ rfl hkey ?_; intro w3 hown3 hg3)
      go_ret
      have ok := D2.out.ok
      refine ⟨rfl, ?_, K2.out.grown hg3.grown fun k hk => by cases hk; exact D2.out.fm⟩
      have e := HS.out.1
      rw [← e]
      refine ⟨m, _, D2.out.del hg3.grown hown3 ⟨ok.l0, ok.l1, ok.c0, ok.r0, ok.r1, ?_⟩⟩
      have h1 := usedA_del FileA.name l S1.fs
      have h2 := ok.us
      simp only
      omega
    · have hr := HR.out
      rw [if_neg (by decide)] at hr
      simp only [Prod.mk.injEq] at hr
      obtain ⟨rfl, rfl⟩ := hr
      go_wp2
      go_ret
      exact ⟨rfl, ⟨m, fs, D2.out⟩, K2.out⟩

set_option maxRecDepth 100000 in
set_option maxHeartbeats 4000000 in
theorem read_any (F : Nat → Prop) (w : World) (d : Nat) (S : Dsk) (s : ByteArray) (l : List UInt8) (c : Int) (b : List UInt8) (hD : DiskIs F w d S) (hs : s.data.toList = l) (hl : l.length ≤ 1000000)
    (hq : readD S l = (c, b)) :
    Calls Try.prog 27 #[.pointer (some ⟨d, 0, none⟩), .string s] w fun e w' => ∃ x, e = .returned (.tuple #[x, .int .i64 c]) ∧ OwnN w.heap.size w' x b ∧ Below w.heap.size w w' := by
  obtain ⟨m, fs, h⟩ := hD
  have HQ : Hid (readD S l = (c, b)) := hq
  have HH : Hid (DiskAt F w d m S fs) := h
  have hab := h.ab
  have hfind := find_any F w d m S fs s l h hs hl
  have k0 := h.five.k0
  clear h hq
  cases hg : getBy FileA.name l S.fs with
  | none =>
    have hr := HQ.out
    simp only [readD, hg, Prod.mk.injEq] at hr
    obtain ⟨rfl, rfl⟩ := hr
    have hf := ptrOf_none hab hg
    simp only [ptrOf, hf, Option.map_none] at hfind
    go_enter Try.func27, Try.ntmps27
    go_wp2_with fail
    refine hfind.mono ?_
    rintro e w1 ⟨rfl, hw⟩
    subst hw
    go_wp2
    go_ret2
    exact ⟨_, rfl, .inl ⟨rfl, rfl⟩, Below.refl _ _⟩
  | some x =>
    obtain ⟨f, hf, hm, rfl, hnm⟩ := ptrOf_some hab hg
    simp only [ptrOf, hf, Option.map_some] at hfind
    have hr := HQ.out
    simp only [readD, hg] at hr
    have HR : Hid _ := hr
    obtain ⟨f0, f1, _⟩ := (HH.out.fl f hm).two
    have HA : Hid (Arg w f.v f.data) := (HH.out.fl f hm).own.rd.arg
    have HL : Hid (f.data.length ≤ 1099511627776) := by show _ ≤ _; have := HH.out.data_le hm; omega
    clear hr hf hg hm
    obtain ⟨o, ho⟩ : ∃ o, S.off = o := ⟨_, rfl⟩
    rw [ho] at k0
    have HO : Hid _ := ho
    clear ho
    cases o
    · have hr := HR.out
      rw [HO.out] at hr
      simp only [Bool.false_eq_true, if_false, Prod.mk.injEq] at hr
      obtain ⟨rfl, rfl⟩ := hr
      go_enter Try.func27, Try.ntmps27
      go_wp2_with fail
      refine hfind.mono ?_
      rintro e w1 ⟨rfl, hw⟩
      subst hw
      clear hfind
      go_wp2_with fail
      refine (clone_any w1 f.v f.data HA.out HL.out).mono ?_
      rintro e w2 ⟨y, rfl, hy, hb⟩
      go_wp2
      go_ret2
      exact ⟨_, rfl, hy, hb⟩
    · have hr := HR.out
      rw [HO.out] at hr
      simp only [if_true, Prod.mk.injEq] at hr
      obtain ⟨rfl, rfl⟩ := hr
      go_enter Try.func27, Try.ntmps27
      go_wp2_with fail
      refine hfind.mono ?_
      rintro e w1 ⟨rfl, hw⟩
      subst hw
      clear hfind
      go_wp2
      go_ret2
      exact ⟨_, rfl, .inl ⟨rfl, rfl⟩, Below.refl _ _⟩

end Go.Proofs.Ytanmfmllnbbdoaa
