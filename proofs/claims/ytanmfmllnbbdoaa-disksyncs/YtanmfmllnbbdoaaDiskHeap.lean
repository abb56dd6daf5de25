/- A disk, as it lies in memory. -/
import Derived.Test.YtanmfmllnbbdoaaClone
import Derived.Test.YtanmfmllnbbdoaaDiskPure
namespace Go.Proofs.Ytanmfmllnbbdoaa
open Go.RowKit Go.Maps

/-- nothing but blocks of F, and new ones, has turned -/
structure Keeps (F : Nat → Prop) (w w' : World) : Prop where
  os : w'.os = w.os
  tape : w'.tape = w.tape
  output : w'.output = w.output
  size : w.heap.size ≤ w'.heap.size
  block : ∀ k, k < w.heap.size → ¬ F k → w'.heap[k]? = w.heap[k]?

theorem Keeps.refl (F : Nat → Prop) (w : World) : Keeps F w w := ⟨rfl, rfl, rfl, Nat.le_refl _, fun _ _ _ => rfl⟩

theorem Keeps.trans {F : Nat → Prop} {a b c : World} (h : Keeps F a b) (k : Keeps F b c) : Keeps F a c :=
  ⟨k.os.trans h.os, k.tape.trans h.tape, k.output.trans h.output, Nat.le_trans h.size k.size, fun i hi hn => (k.block i (Nat.lt_of_lt_of_le hi h.size) hn).trans (h.block i hi hn)⟩

theorem Keeps.mono {F G : Nat → Prop} {a b : World} (h : Keeps F a b) (hF : ∀ i, F i → G i) : Keeps G a b := ⟨h.os, h.tape, h.output, h.size, fun i hi hn => h.block i hi fun hf => hn (hF i hf)⟩

theorem Keeps.below {F : Nat → Prop} {a b : World} (h : Keeps F a b) {B : Nat} (hF : ∀ i, F i → B ≤ i) (hB : B ≤ a.heap.size) : Below B a b :=
  ⟨h.os, h.tape, h.output, h.size, fun i hi => h.block i (Nat.lt_of_lt_of_le hi hB) fun hf => by have := hF i hf; omega⟩

theorem Below.keeps {a b : World} {B : Nat} (h : Below B a b) (F : Nat → Prop) (hF : ∀ i, B ≤ i → i < a.heap.size → F i) : Keeps F a b :=
  ⟨h.os, h.tape, h.output, h.size, fun i hi hn => h.block i (Nat.lt_of_not_le fun hb => hn (hF i hb hi))⟩

theorem Keeps.setCell {F : Nat → Prop} {a w : World} (h : Keeps F a w) {p : Addr} (hp : F p.block) (u : Value) : Keeps F a (w.setCell p u) :=
  h.trans ⟨rfl, rfl, rfl, by simp, fun k _ hk => Below.heap_setCell _ _ _ _ (fun e => hk (by rw [e]; exact hp))⟩

theorem Keeps.alloc {F : Nat → Prop} {a w : World} (h : Keeps F a w) (o : Obj) : Keeps F a (w.alloc o) :=
  h.trans ⟨rfl, rfl, rfl, by simp, fun k hk _ => Below.heap_alloc _ _ _ hk⟩

theorem Keeps.grown {F : Nat → Prop} {a w w' : World} {row : Option Nat} (h : Keeps F a w) (hg : w.grownBy w' row) (hr : ∀ k, row = some k → F k) : Keeps F a w' :=
  h.trans ⟨hg.os, hg.tape, hg.output, hg.size, fun k hk hn => hg.block k hk (fun e => hn (hr k e.symm))⟩

theorem Keeps.drew {F : Nat → Prop} {a w : World} (h : Keeps F a w) : Keeps F a w.drew := ⟨h.os, h.tape, h.output, h.size, h.block⟩

/-- a file: its name, its block, the slice of its bytes, these bytes, how many are synced -/
structure FileT where
  name : List UInt8
  g : Nat
  v : Value
  data : List UInt8
  syn : Nat

def FileT.abs (f : FileT) : FileA := ⟨f.name, f.data, f.syn⟩

theorem abs_name (f : FileT) : f.abs.name = f.name := rfl

/-- how a pointer to a file reads -/
def ptrElem : Value → Option (DataW Unit × List MemPlace)
  | .pointer none => some (.nil, [])
  | .pointer (some ⟨g, 0, none⟩) => some (.lit (.int .i64 (g : Int)), [])
  | _ => none

def entF (f : FileT) : Lit × DataW Unit := (.string f.name, .lit (.int .i64 (f.g : Int)))

/-- the map of files, as a datum: by rising names -/
def mapD (fs : List FileT) : DataW Unit := .map (fs.map entF)

theorem mapD_size (fs : List FileT) : Maps.size (mapD fs) = fs.length := by simp [mapD, Maps.size]

theorem insert_ent (f : FileT) (fs : List FileT) : DataW.insert (entF f) (fs.map entF) = (insBy FileT.name f fs).map entF := by
  induction fs with
  | nil => rfl
  | cons y r ih =>
    simp only [List.map_cons, DataW.insert, insBy]
    rw [show (entF f).1.before (entF y).1 = bytesBefore f.name y.name from rfl]
    cases bytesBefore f.name y.name
    · simp [ih]
    · simp

theorem del_ent (l : List UInt8) (fs : List FileT) : (fs.map entF).filter (fun p => !p.1.sameKey (.string l)) = (delBy FileT.name l fs).map entF := by
  unfold delBy
  rw [List.filter_map]
  rfl

theorem mapD_put (f : FileT) (fs : List FileT) : (mapD fs).put (.string f.name) (.lit (.int .i64 (f.g : Int))) = mapD (putBy FileT.name f fs) := by
  unfold mapD DataW.put putBy
  simp only
  rw [del_ent, ← insert_ent]
  rfl

theorem mapD_del (l : List UInt8) (fs : List FileT) : (mapD fs).del (.string l) = mapD (delBy FileT.name l fs) := by
  unfold mapD DataW.del
  simp only
  rw [del_ent]

structure FileAt (F : Nat → Prop) (w : World) (f : FileT) : Prop where
  cells : w.heap[f.g]? = some (.cells #[f.v, .int .i64 (f.syn : Int)] 74 (0, 0))
  own : OwnN 0 w f.v f.data
  syn : f.syn ≤ f.data.length
  fg : F f.g
  fv : ∀ b, f.v.ownBlock = some b → F b

/-- the blocks of two files -/
def Apart (f h : FileT) : Prop := f.g ≠ h.g ∧ ∀ b, f.v.ownBlock = some b → h.v.ownBlock ≠ some b

theorem Apart.symm {f h : FileT} (a : Apart f h) : Apart h f := ⟨fun e => a.1 e.symm, fun b hb hf => a.2 b hf hb⟩

structure DOk (S : Dsk) : Prop where
  l0 : 0 ≤ S.left
  l1 : S.left ≤ 9223372036854775807
  c0 : 0 ≤ S.ch
  r0 : 1 ≤ S.room
  r1 : S.room ≤ 1048576
  us : (usedA S.fs : Int) ≤ S.room

structure DiskAt (F : Nat → Prop) (w : World) (d m : Nat) (S : Dsk) (fs : List FileT) : Prop where
  dk : ∃ z : Int, w.heap[d]? = some (.cells #[.bool S.off, .int .i64 S.left, .int .i64 S.ch, .int .i64 z, .int .i64 S.room, .map (some m)] 66 (0, 0))
  mp : w.ownsMap Try.prog 9 ptrElem m fs.length (mapD fs)
  fl : ∀ f ∈ fs, FileAt F w f
  so : Rise FileT.name fs
  ap : fs.Pairwise Apart
  fd : F d
  fm : F m
  ab : fs.map FileT.abs = S.fs
  le : fs.length ≤ 256
  ok : DOk S

theorem DiskAt.dkz {F : Nat → Prop} {w : World} {d m : Nat} {S : Dsk} {fs : List FileT} (h : DiskAt F w d m S fs) : w.heap[d]? = some (.cells #[.bool S.off, .int .i64 S.left, .int .i64 S.ch, .int .i64 h.dk.choose, .int .i64 S.room, .map (some m)] 66 (0, 0)) := h.dk.choose_spec

/-- in world w block d, with all that hangs on it within F, is the disk S -/
def DiskIs (F : Nat → Prop) (w : World) (d : Nat) (S : Dsk) : Prop := ∃ m fs, DiskAt F w d m S fs

theorem ownN_stay {B : Nat} {w w' : World} {v : Value} {l : List UInt8} (h : OwnN B w v l) (hb : ∀ i, i < w.heap.size → v.ownBlock = some i → w'.heap[i]? = w.heap[i]?) : OwnN B w' v l := by
  rcases h with h | ⟨g, cap, cur, rfl, hB, hg, r⟩
  · exact .inl h
  · refine .inr ⟨g, cap, cur, rfl, hB, ?_, r⟩
    rw [hb g (Array.getElem?_eq_some_iff.1 hg).1 rfl]
    exact hg

theorem ownN_ne {B d : Nat} {w : World} {v : Value} {l : List UInt8} {cs : Array Value} {t : TypeId} (h : OwnN B w v l) (hd : w.heap[d]? = some (.cells cs t (0, 0))) (ht : t ≠ 5) : v.ownBlock ≠ some d := by
  rcases h with ⟨rfl, _⟩ | ⟨g, cap, cur, rfl, _, hg, _⟩
  · simp [Value.ownBlock]
  · intro e
    simp only [Value.ownBlock, Option.some.injEq] at e
    subst e
    rw [hd] at hg
    simp at hg
    exact ht hg.2

theorem ownN_nem {B d : Nat} {w : World} {v : Value} {l : List UInt8} {es : Array MapEntry} {t : Nat} (h : OwnN B w v l) (hd : w.heap[d]? = some (.map es t)) : v.ownBlock ≠ some d := by
  rcases h with ⟨rfl, _⟩ | ⟨g, cap, cur, rfl, _, hg, _⟩
  · simp [Value.ownBlock]
  · intro e
    simp only [Value.ownBlock, Option.some.injEq] at e
    subst e
    rw [hd] at hg
    cases hg

theorem map_stay {w w' : World} {m n : Nat} {D : DataW Unit} (h : w.ownsMap Try.prog 9 ptrElem m n D) (hb : w'.heap[m]? = w.heap[m]?) : w'.ownsMap Try.prog 9 ptrElem m n D := by
  obtain ⟨es, clock, hm, r⟩ := h
  exact ⟨es, clock, hb.trans hm, r⟩

theorem map_tight {w : World} {m n : Nat} {fs : List FileT} (h : w.ownsMap Try.prog 9 ptrElem m n (mapD fs)) : w.ownsMap Try.prog 9 ptrElem m fs.length (mapD fs) := by
  obtain ⟨es, clock, hm, F, hs, hD⟩ := h
  refine ⟨es, clock, hm, F, ?_, hD⟩
  have : Maps.size (mapD fs) = es.size := by rw [hD]; simp [Maps.size, length_sorted]
  rw [mapD_size] at this
  omega

section
variable {F : Nat → Prop} {w w' : World} {d m : Nat} {S : Dsk} {fs : List FileT}

theorem lt_of {i : Nat} {o : Obj} (h : w.heap[i]? = some o) : i < w.heap.size := (Array.getElem?_eq_some_iff.1 h).1

theorem FileAt.stay {f : FileT} (h : FileAt F w f) (hg : w'.heap[f.g]? = w.heap[f.g]?) (hv : ∀ i, i < w.heap.size → f.v.ownBlock = some i → w'.heap[i]? = w.heap[i]?) : FileAt F w' f :=
  ⟨hg.trans h.cells, ownN_stay h.own hv, h.syn, h.fg, h.fv⟩

/-- what is changed lies elsewhere -/
theorem DiskAt.stay (h : DiskAt F w d m S fs) (hb : ∀ i, i < w.heap.size → F i → w'.heap[i]? = w.heap[i]?) : DiskAt F w' d m S fs := by
  refine ⟨⟨_, (hb d (lt_of h.dkz) h.fd).trans h.dkz⟩, map_stay h.mp (hb m h.mp.lt h.fm), fun f hf => ?_, h.so, h.ap, h.fd, h.fm, h.ab, h.le, h.ok⟩
  have hF := h.fl f hf
  exact hF.stay (hb _ (lt_of hF.cells) hF.fg) fun i hi hv => hb i hi (hF.fv i hv)

theorem DiskAt.mono {G : Nat → Prop} (h : DiskAt F w d m S fs) (hG : ∀ i, F i → i < w.heap.size → G i) : DiskAt G w d m S fs := by
  refine ⟨h.dk, h.mp, fun f hf => ?_, h.so, h.ap, hG d h.fd (lt_of h.dkz), hG m h.fm h.mp.lt, h.ab, h.le, h.ok⟩
  have hF := h.fl f hf
  refine ⟨hF.cells, hF.own, hF.syn, hG _ hF.fg (lt_of hF.cells), fun b hb => hG b (hF.fv b hb) ?_⟩
  rcases hF.own with ⟨e, _⟩ | ⟨g, cap, cur, e, _, hg, _⟩
  · rw [e] at hb; simp [Value.ownBlock] at hb
  · rw [e] at hb; simp only [Value.ownBlock, Option.some.injEq] at hb; subst hb; exact lt_of hg

/-- the disk's own cells are written anew -/
theorem DiskAt.turn {S' : Dsk} (h : DiskAt F w d m S fs) (hb : ∀ i, i < w.heap.size → i ≠ d → w'.heap[i]? = w.heap[i]?)
    {z : Int} (hd : w'.heap[d]? = some (.cells #[.bool S'.off, .int .i64 S'.left, .int .i64 S'.ch, .int .i64 z, .int .i64 S'.room, .map (some m)] 66 (0, 0))) (e : S'.fs = S.fs) (ok : DOk S') : DiskAt F w' d m S' fs := by
  refine ⟨⟨z, hd⟩, ?_, fun f hf => ?_, h.so, h.ap, h.fd, h.fm, by rw [e]; exact h.ab, h.le, ok⟩
  · refine map_stay h.mp (hb m h.mp.lt fun e => ?_)
    obtain ⟨es, clock, hm, _⟩ := h.mp
    subst e
    rw [h.dkz] at hm
    cases hm
  · have hF := h.fl f hf
    refine hF.stay (hb _ (lt_of hF.cells) fun e => ?_) fun i hi hv => hb i hi fun e => ?_
    · have := hF.cells
      rw [e, h.dkz] at this
      simp at this
    · subst e
      exact ownN_ne hF.own h.dkz (by decide) hv

theorem ap_of {f h : FileT} (hp : fs.Pairwise Apart) (hf : f ∈ fs) (hh : h ∈ fs) (hn : f.name ≠ h.name) : Apart f h := by
  induction fs with
  | nil => simp at hf
  | cons y r ih =>
    obtain ⟨h1, h2⟩ := List.pairwise_cons.1 hp
    rcases List.mem_cons.1 hf with rfl | hf'
    · rcases List.mem_cons.1 hh with rfl | hh'
      · exact absurd rfl hn
      · exact h1 h hh'
    · rcases List.mem_cons.1 hh with rfl | hh'
      · exact (h1 f hf').symm
      · exact ih h2 hf' hh'

theorem ap_set {f' : FileT} (hr : Rise FileT.name fs) (hp : fs.Pairwise Apart) (ha : ∀ h ∈ fs, h.name ≠ f'.name → Apart f' h) : (setBy FileT.name f' fs).Pairwise Apart := by
  unfold setBy
  rw [List.pairwise_map]
  have hne := hr.ne
  refine (hp.and hne).imp_of_mem fun {a b} hma hmb hab => ?_
  obtain ⟨h1, h2⟩ := hab
  by_cases ea : a.name = f'.name
  · rw [if_pos ea, if_neg (fun eb => h2 (ea.trans eb.symm))]
    exact ha b hmb fun eb => h2 (ea.trans eb.symm)
  · rw [if_neg ea]
    by_cases eb : b.name = f'.name
    · rw [if_pos eb]; exact (ha a hma ea).symm
    · rw [if_neg eb]; exact h1

theorem set_ent {f f' : FileT} (hr : Rise FileT.name fs) (hf : f ∈ fs) (e1 : f'.name = f.name) (e2 : f'.g = f.g) : mapD (setBy FileT.name f' fs) = mapD fs := by
  unfold mapD setBy
  rw [List.map_map]
  congr 1
  refine List.map_congr_left fun y hy => ?_
  simp only [Function.comp]
  split
  · rename_i e
    have := getBy_of_mem hr hf
    rw [getBy_eq hr hy (e.trans e1)] at this
    cases this
    unfold entF
    rw [e1, e2]
  · rfl

/-- one file is another one, of the same name, in the same block -/
theorem DiskAt.file (h : DiskAt F w d m S fs) {f f' : FileT} (hf : f ∈ fs) (e1 : f'.name = f.name) (e2 : f'.g = f.g)
    (hb : ∀ i, i < w.heap.size → i ≠ f.g → f.v.ownBlock ≠ some i → w'.heap[i]? = w.heap[i]?) (hF : FileAt F w' f')
    (hv : ∀ b, f'.v.ownBlock = some b → f.v.ownBlock = some b ∨ w.heap.size ≤ b) (ok : DOk { S with fs := setBy FileA.name f'.abs S.fs }) :
    DiskAt F w' d m { S with fs := setBy FileA.name f'.abs S.fs } (setBy FileT.name f' fs) := by
  have hA := h.fl f hf
  have ha : ∀ h ∈ fs, h.name ≠ f'.name → Apart f h := fun x hx hn => ap_of h.ap hf hx (by rw [← e1]; exact fun e => hn e.symm)
  have hold : ∀ h ∈ fs, h.name ≠ f'.name → FileAt F w' h := fun x hx hn => by
    have hX := h.fl x hx
    have hap := ha x hx hn
    refine hX.stay (hb _ (lt_of hX.cells) (fun e => hap.1 e.symm) (ownN_ne hA.own hX.cells (by decide))) fun i hi hvi => hb i hi (fun e => ?_) fun hfi => hap.2 i hfi hvi
    subst e
    exact ownN_ne hX.own hA.cells (by decide) hvi
  refine ⟨⟨_, (hb d (lt_of h.dkz) (fun e => ?_) (ownN_ne hA.own h.dkz (by decide))).trans h.dkz⟩, ?_, fun x hx => ?_, rise_set h.so f', ap_set h.so h.ap fun x hx hn => ?_, h.fd, h.fm, ?_, by rw [setBy_length]; exact h.le, ok⟩
  · obtain ⟨z9, this⟩ := h.dk
    rw [e, hA.cells] at this
    simp at this
  · rw [setBy_length, set_ent h.so hf e1 e2]
    obtain ⟨es, clock, hm, r⟩ := h.mp
    refine map_stay ⟨es, clock, hm, r⟩ (hb m (lt_of hm) (fun e => ?_) (ownN_nem hA.own hm))
    subst e
    rw [hA.cells] at hm
    cases hm
  · rcases setBy_mem hx with rfl | ⟨hx, hn⟩
    · exact hF
    · exact hold x hx hn
  · have hap := ha x hx hn
    refine ⟨by rw [e2]; exact hap.1, fun b hb' hxb => ?_⟩
    rcases hv b hb' with h1 | h1
    · exact hap.2 b h1 hxb
    · rcases (h.fl x hx).own with ⟨e, _⟩ | ⟨g, cap, cur, e, _, hg, _⟩
      · rw [e] at hxb; simp [Value.ownBlock] at hxb
      · rw [e] at hxb; simp only [Value.ownBlock, Option.some.injEq] at hxb; subst hxb
        have := lt_of hg
        omega
  · show (setBy FileT.name f' fs).map FileT.abs = setBy FileA.name f'.abs S.fs
    rw [setBy_map FileT.name FileA.name FileT.abs abs_name, h.ab]

/-- blocks of a map that is written -/
theorem DiskAt.mapped (h : DiskAt F w d m S fs) {f : FileT} (hf : FileAt F w f) (hg : w.grownBy w' (some m)) : FileAt F w' f := by
  obtain ⟨es, clock, hm, _⟩ := h.mp
  refine hf.stay (hg.block _ (lt_of hf.cells) fun e => ?_) fun i hi hv => hg.block i hi fun e => ?_
  · cases e
    have := hf.cells
    rw [hm] at this
    cases this
  · cases e
    exact ownN_nem hf.own hm hv

theorem DiskAt.mappedD (h : DiskAt F w d m S fs) (hg : w.grownBy w' (some m)) : w'.heap[d]? = w.heap[d]? := by
  obtain ⟨es, clock, hm, _⟩ := h.mp
  refine hg.block _ (lt_of h.dkz) fun e => ?_
  cases e
  obtain ⟨z9, this⟩ := h.dk
  rw [hm] at this
  cases this

theorem ap_ins {nm : FileT → List UInt8} {f : FileT} (hp : fs.Pairwise Apart) (ha : ∀ h ∈ fs, Apart f h) : (insBy nm f fs).Pairwise Apart := by
  induction fs with
  | nil => simp [insBy]
  | cons y r ih =>
    obtain ⟨h1, h2⟩ := List.pairwise_cons.1 hp
    simp only [insBy]
    split
    · exact List.pairwise_cons.2 ⟨ha, hp⟩
    · refine List.pairwise_cons.2 ⟨fun q hq => ?_, ih h2 fun x hx => ha x (by simp [hx])⟩
      rcases (insBy_mem nm f q r).1 hq with rfl | hq
      · exact (ha y (by simp)).symm
      · exact h1 q hq

/-- a file is put among the others -/
theorem DiskAt.put (h : DiskAt F w d m S fs) {f : FileT} {n : Nat} (hf : FileAt F w f) (ha : ∀ h ∈ fs, h.name ≠ f.name → Apart f h) (hg : w.grownBy w' (some m))
    (hm : w'.ownsMap Try.prog 9 ptrElem m n ((mapD fs).put (.string f.name) (.lit (.int .i64 (f.g : Int))))) (hl : (putBy FileT.name f fs).length ≤ 256) (ok : DOk { S with fs := putBy FileA.name f.abs S.fs }) :
    DiskAt F w' d m { S with fs := putBy FileA.name f.abs S.fs } (putBy FileT.name f fs) := by
  rw [mapD_put] at hm
  refine ⟨⟨_, (h.mappedD hg).trans h.dkz⟩, map_tight hm, fun x hx => ?_, rise_put h.so f, ?_, h.fd, h.fm, ?_, hl, ok⟩
  · rcases (putBy_mem FileT.name f x fs).1 hx with rfl | ⟨hx, _⟩
    · exact h.mapped hf hg
    · exact h.mapped (h.fl x hx) hg
  · exact ap_ins (h.ap.filter _) fun x hx => by
      obtain ⟨h1, h2⟩ := (delBy_mem FileT.name _ x fs).1 hx
      exact ha x h1 h2
  · show (putBy FileT.name f fs).map FileT.abs = putBy FileA.name f.abs S.fs
    rw [putBy_map FileT.name FileA.name FileT.abs abs_name, h.ab]

/-- a file is taken away -/
theorem DiskAt.del (h : DiskAt F w d m S fs) {l : List UInt8} {n : Nat} (hg : w.grownBy w' (some m))
    (hm : w'.ownsMap Try.prog 9 ptrElem m n ((mapD fs).del (.string l))) (ok : DOk { S with fs := delBy FileA.name l S.fs }) :
    DiskAt F w' d m { S with fs := delBy FileA.name l S.fs } (delBy FileT.name l fs) := by
  rw [mapD_del] at hm
  refine ⟨⟨_, (h.mappedD hg).trans h.dkz⟩, map_tight hm, fun x hx => h.mapped (h.fl x ((delBy_mem FileT.name _ x fs).1 hx).1) hg, rise_del h.so l, h.ap.filter _, h.fd, h.fm, ?_, Nat.le_trans (delBy_length _ _ _) h.le, ok⟩
  show (delBy FileT.name l fs).map FileT.abs = delBy FileA.name l S.fs
  rw [delBy_map FileT.name FileA.name FileT.abs abs_name, h.ab]

end

end Go.Proofs.Ytanmfmllnbbdoaa
