/- Used. -/
import Derived.Test.YtanmfmllnbbdoaaDiskRen
import Derived.Maps.RangeWalk
namespace Go.Proofs.Ytanmfmllnbbdoaa
open Go.RowKit Go.Maps Go.WideShapes

/-- how many bytes those files have that are still to come -/
def usedL : List FileT → (Lit → Bool) → Nat
  | [], _ => 0
  | f :: r, left => cond (left (.string f.name)) f.data.length 0 + usedL r left

theorem usedL_end (fs : List FileT) (left : Lit → Bool) (h : ∀ kl, left kl = false) : usedL fs left = 0 := by
  induction fs with
  | nil => rfl
  | cons f r ih => rw [usedL, ih, h]; rfl

theorem usedL_all (fs : List FileT) (left : Lit → Bool) (h : ∀ f ∈ fs, left (.string f.name) = true) : usedL fs left = usedA (fs.map FileT.abs) := by
  induction fs with
  | nil => rfl
  | cons f r ih =>
    rw [usedL, ih fun x hx => h x (by simp [hx]), h f (by simp)]
    rfl

theorem usedL_congr (fs : List FileT) (left right : Lit → Bool) (h : ∀ f ∈ fs, left (.string f.name) = right (.string f.name)) : usedL fs left = usedL fs right := by
  induction fs with
  | nil => rfl
  | cons f r ih => rw [usedL, usedL, ih fun x hx => h x (by simp [hx]), h f (by simp)]

theorem same_ne {a b : List UInt8} (h : a ≠ b) : (Lit.string a).sameKey (.string b) = false := by
  show (a == b) = false
  simpa using h

theorem usedL_step {fs : List FileT} (hr : Rise FileT.name fs) {left : Lit → Bool} {f : FileT} (hf : f ∈ fs) (hl : left (.string f.name) = true) :
    usedL fs (fun z => left z && !z.sameKey (.string f.name)) + f.data.length = usedL fs left := by
  induction fs with
  | nil => simp at hf
  | cons y r ih =>
    obtain ⟨h1, h2⟩ := List.pairwise_cons.1 hr
    have hne : ∀ z ∈ r, y.name ≠ z.name := fun z hz e' => by
      have := h1 z hz
      rw [e', WideAt.bytes_irrefl] at this
      cases this
    rw [usedL, usedL]
    rcases List.mem_cons.1 hf with rfl | hf
    · rw [usedL_congr r _ left fun z hz => by rw [same_ne fun e => hne z hz e.symm]; simp, hl]
      have : (Lit.string f.name).sameKey (.string f.name) = true := by show (f.name == f.name) = true; simp
      rw [this]
      simp only [Bool.not_true, Bool.and_false, cond_false, cond_true]
      omega
    · have := ih h2 hf
      rw [same_ne (hne f hf)]
      simp only [Bool.not_false, Bool.and_true]
      omega

theorem has_mapD {fs : List FileT} {f : FileT} (hf : f ∈ fs) : Maps.has (mapD fs) (.string f.name) = true := by
  unfold mapD
  rw [Maps.has_eq, List.any_map, List.any_eq_true]
  exact ⟨f, hf, by simp [entF, Lit.sameKey]⟩

theorem next_file {fs : List FileT} {x : ByteArray} {c : Option Addr} {kl : Lit} {y : DataW Unit × List MemPlace} (hkey : keyOf Try.prog 9 (.string x) = some kl) (hv : ptrElem (.pointer c) = some y) (hat : ∀ zd, (mapD fs).atKey kl zd = y.1) :
    ∃ f ∈ fs, kl = .string f.name ∧ c = some ⟨f.g, 0, none⟩ := by
  have hk : kl = .string x.data.toList := by
    simp [keyOf, Try.underlying9, mapKey] at hkey
    exact hkey.2.symm
  subst hk
  have e : ptrElem (.pointer c) = some ((mapD fs).atKey (.string x.data.toList) .nil, y.2) := by rw [hat, hv]
  have ec := ptrElem_inv e
  simp only [Value.pointer.injEq] at ec
  cases hg : getBy FileT.name x.data.toList fs with
  | none =>
    exfalso
    have h1 := hat (.lit (.bool true))
    have h2 := hat .nil
    unfold mapD at h1 h2
    have hn : (fs.map entF).find? (fun p => p.1.sameKey (.string x.data.toList)) = none := by
      rw [List.find?_eq_none]
      intro p hp
      obtain ⟨f, hf, rfl⟩ := List.mem_map.1 hp
      have := getBy_none hg f hf
      simpa [entF, Lit.sameKey] using this
    unfold DataW.atKey at h1 h2
    simp only [hn] at h1 h2
    rw [← h2] at h1
    cases h1
  | some f =>
    obtain ⟨hf, hn⟩ := getBy_some hg
    refine ⟨f, hf, by rw [hn], ?_⟩
    rw [ec]
    unfold ptrOf
    rw [hg]
    rfl

theorem ptr_inv : ∀ (v : Value) (y : DataW Unit × List MemPlace), ptrElem v = some y → ∃ c, v = .pointer c := by
  intro v y h
  unfold ptrElem at h
  split at h
  · exact ⟨_, rfl⟩
  · exact ⟨_, rfl⟩
  · cases h

theorem str_inv : ∀ (key : Value) (kl : Lit), keyOf Try.prog 9 key = some kl → ∃ s, key = .string s := by
  intro key kl h
  cases key <;> simp [keyOf, Try.underlying9, mapKey] at h
  exact ⟨_, rfl⟩

set_option maxRecDepth 100000 in
set_option maxHeartbeats 4000000 in
theorem used_any (F : Nat → Prop) (w : World) (d : Nat) (S : Dsk) (n : Int) (hD : DiskIs F w d S) (hn : (usedA S.fs : Int) = n) :
    Calls Try.prog 36 #[.pointer (some ⟨d, 0, none⟩)] w fun e w' => e = .returned (.int .i64 n) ∧ Below w.heap.size w w' := by
  obtain ⟨m, fs, h⟩ := hD
  have HH : Hid (DiskAt F w d m S fs) := h
  have HN : Hid ((usedA S.fs : Int) = n) := hn
  have k4 := h.five.k4
  have hmp := h.mp
  clear h hn
  go_enter Try.func36, Try.ntmps36
  go_wp2_with (at_range; refine wpList_range_own _ rfl _ 62 rfl 9 71 (string_keyed Try.underlying9) Try.underlying62 _ m fs.length _ rfl hmp ?_; intro w0 hrg0 hg0 hs0)
  go_frame
  go_loopg [3] (Maps.size (mapD fs)) (fun gk acc wr => ∃ left, wr.ranges Try.prog 9 ptrElem m w.heap.size fs.length (mapD fs) left gk ∧ ∃ a : Nat, acc = .int .i64 (a : Int) ∧ Hid ((a + usedL fs left : Nat) = usedA S.fs) ∧ Below w.heap.size w wr)
  case atStart =>
    refine ⟨_, hrg0, 0, rfl, ?_, (Below.refl _ _).grown hg0 (Nat.le_refl _) (fun k hk => by cases hk)⟩
    show _ = _
    rw [usedL_all fs _ fun f hf => has_mapD hf, HH.out.ab]
    omega
  case round =>
    obtain ⟨left, hrg, a, rfl, ha, hb⟩ := hrel
    have HB : Hid (Below w.heap.size w wr) := hb
    clear hb
    go_wp2_with (at_next; refine wpList_next_ranges _ rfl _ rfl 9 (string_keyed Try.underlying9) ptrElem Value.string Value.pointer str_inv ptr_inv m w.heap.size fs.length (mapD fs) left gk rfl hrg ?_ ?_; intro hc0 hl0; rotate_left; intro x c kl y w1 cnt1 hkey hlk hv hat hrg1 hlt hg1 hs1 hen; obtain ⟨f, hf, rfl, rfl⟩ := next_file hkey hv hat; have HB1 : Hid (Below w.heap.size w w1) := HB.out.grown hg1 HB.out.size (fun k hk => by cases hk; exact Nat.le_refl _); have hA := HH.out.fl f hf; have hc := (HB1.out.cell (p := ⟨f.g, 0, none⟩) (lt_of hA.cells)).trans hA.two.k0; obtain ⟨ao, cap, hv'⟩ := hA.own.rd.len; rw [hv'] at hc; clear hv'; rotate_left)
    · go_ret
      refine ⟨?_, HB.out⟩
      have e0 := ha.out
      rw [usedL_end fs left hl0] at e0
      have e1 := HN.out
      show Ending.returned (.int .i64 (a : Int)) = _
      rw [← e1, ← e0, Nat.add_zero]
    · have e0 := ha.out
      have e1 := usedL_step HH.out.so hf hlk
      have e2 := HH.out.ok.us
      have e3 := HH.out.ok.r1
      go_roundg cnt1
      case measure => exact hlt
      case rel =>
        refine ⟨_, hrg1, a + f.data.length, ?_, ?_, HB1.out⟩
        · have hb : (a : Int) + (f.data.length : Int) ≤ 1048576 := by omega
          clear e0 e1 e2 e3
          rw [Int.natCast_add]
          have : wrap64 ((a : Int) + (f.data.length : Int)) = (a : Int) + (f.data.length : Int) := by unfold wrap64; omega
          rw [this]
        · show _ = _
          omega

end Go.Proofs.Ytanmfmllnbbdoaa
