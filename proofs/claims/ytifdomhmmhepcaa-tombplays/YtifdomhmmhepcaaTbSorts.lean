/- The three sorts of tomb.Fragments. -/
import Derived.Test.YtifdomhmmhepcaaTbSort
import Derived.Test.YtifdomhmmhepcaaLess
import Derived.Test.YtifdomhmmhepcaaKeyCmp
namespace Go.Proofs.Ytifdomhmmhepcaa
set_option maxRecDepth 20000
open Go.RowKit
set_option linter.unusedVariables false
set_option linter.unusedSimpArgs false

theorem bgcl_any (w : World) (x y x' y' : Value) (l m l' m' : List UInt8) (s s' : Int) (hx : Rd w x l) (hy : Rd w y m) (hx' : Rd w x' l') (hy' : Rd w y' m') :
    Calls Try.prog 33 #[spV x y s, spV x' y' s'] w fun e w' => e = .returned (.int .i64 (Lib.compareBytes l l')) ∧ ∃ q os', w' = Go.Sort.grow (w.drewN q) os' := by
  obtain ⟨xa, xc, rfl⟩ := hx.len
  obtain ⟨ya, yc, rfl⟩ := hy.len
  obtain ⟨xa', xc', rfl⟩ := hx'.len
  obtain ⟨ya', yc', rfl⟩ := hy'.len
  have hb := below_box2 w #[.slice xa l.length xc, .slice ya m.length yc, .int .u64 s] #[.slice xa' l'.length xc', .slice ya' m'.length yc', .int .u64 s'] 32 32
  have hcm := cmp_any ((w.alloc (.cells #[.slice xa l.length xc, .slice ya m.length yc, .int .u64 s] 32)).alloc (.cells #[.slice xa' l'.length xc', .slice ya' m'.length yc', .int .u64 s'] 32)) _ _ l l' (hx.below hb (Nat.le_refl _)) (hx'.below hb (Nat.le_refl _))
  generalize Lib.compareBytes l l' = r at hcm ⊢
  clear hb hx hy hx' hy'
  go_enter Try.func33, Try.ntmps33
  go_wp2_with fail
  refine hcm.mono ?_
  rintro e w' ⟨rfl, rfl⟩
  go_wp2
  go_ret
  exact ⟨rfl, 0, _, by rw [Go.Sort.alloc_eq_grow, Go.Sort.alloc_eq_grow, Go.Sort.grow_grow]; rfl⟩

theorem cb_nn {a b c : List UInt8} (h1 : ¬ Lib.compareBytes a b < 0) (h2 : ¬ Lib.compareBytes b c < 0) : ¬ Lib.compareBytes a c < 0 := fun h => h1 (cb_lt_le h h2)

theorem swoB {α : Type} (f : α → List UInt8) : Go.Sort.SWO (ltOf fun x y : α => Lib.compareBytes (f x) (f y)) where
  irrefl x := by show decide (Lib.compareBytes (f x) (f x) < 0) = false; rw [Mth.cmp_zero.2 rfl]; rfl
  trans x y z h1 h2 := by unfold ltOf at *; rw [decide_eq_true_iff] at *; exact Mth.cmp_trans h1 h2
  ntrans x y z h1 h2 := by unfold ltOf at *; rw [decide_eq_false_iff_not] at *; exact cb_nn h1 h2

theorem mkS {w0 : World} {ts : List SpC} (h : ∀ t ∈ ts, GdS w0 t) : ∃ d : Array {t : SpC // GdS w0 t}, d.toList.map (·.1) = ts := by
  refine ⟨(ts.pmap (fun t ht => ⟨t, ht⟩) h).toArray, ?_⟩
  rw [List.map_pmap]
  simp

theorem flatS_sub {w0 : World} (l : List {t : SpC // GdS w0 t}) : l.flatMap (fun t => celS t.1) = flatS (l.map (·.1)) := by
  unfold flatS
  rw [List.flatMap_map]

/-- they stand by their Froms -/
def RiseT (ts : List SpC) : Prop := ts.Pairwise (fun a b => ¬ Lib.compareBytes b.e.1 a.e.1 < 0)

set_option maxHeartbeats 2000000 in
/-- spans, by their Froms -/
theorem tsort_any (w0 w : World) (B g n cap : Nat) (ts : List SpC) (hn : ts.length = n) (hR : RowT w0 B w (.slice (some ⟨g, 0, none⟩) n cap) ts) (hb : Below w0.heap.size w0 w) (hB : w0.heap.size ≤ B) (h0 : 0 < n) (hs : n < 4611686018427387904) :
    Calls Try.prog 45 #[.slice (some ⟨g, 0, none⟩) n cap, .func (.func 33) #[] #[]] w fun e w' => e = .returned (.tuple #[]) ∧ ∃ ts' : List SpC, ts'.Perm ts ∧ RiseT ts' ∧ RowT w0 B w' (.slice (some ⟨g, 0, none⟩) n cap) ts' ∧ w.grownBy w' (some g) := by
  obtain ⟨d, hd⟩ := mkS hR.2
  have hdn : d.size = n := by
    have := congrArg List.length hd
    rw [List.length_map, Array.length_toList] at this
    omega
  have hrow := hR.1
  rw [← hd, ← flatS_sub, List.length_map, Array.length_toList, hdn] at hrow
  have hgB := hrow.lt g rfl
  letI : Inhabited {t : SpC // GdS w0 t} := ⟨d[0]'(by omega)⟩
  have hH := (own_sortedK (enc := fun t : {t : SpC // GdS w0 t} => celS t.1) (m := 0) (os := #[]) (by decide) (fun x => rfl) hdn hdn hrow).2.2
  have eg : ∀ args w, (callFunc 33 args).run Try.prog w = .ok (.enter 33 args) w := enters_of Try.func33 (by kernel_rfl) rfl
  have hcmp : CmpLays Try.prog 33 #[] (fun t : {t : SpC // GdS w0 t} => celS t.1) 3 (fun x y => Lib.compareBytes x.1.e.1 y.1.e.1) g 0 d.size w := by
    intro m os dk hsz x y
    have hbW : Below w0.heap.size w0 (sortWorldK (fun t : {t : SpC // GdS w0 t} => celS t.1) 3 w g 0 m dk os) := hb.grown (mb_grown _) hb.size (fun q hq => by cases hq; omega)
    exact bgcl_any _ x.1.x x.1.y y.1.x y.1.y x.1.e.1 x.1.e.2.1 y.1.e.1 y.1.e.2.1 (x.1.e.2.2 : Int) (y.1.e.2.2 : Int) (x.2.1.below hbW (Nat.le_refl _)) (x.2.2.below hbW (Nat.le_refl _)) (y.2.1.below hbW (Nat.le_refl _)) (y.2.2.below hbW (Nat.le_refl _))
  have hcon := AnyQ.slices_SortFunc sortSp 3 Try.isAgg32 Try.sizeOf32 (fun t : {t : SpC // GdS w0 t} => celS t.1) (fun _ => rfl) (fun x v hv => by
    simp [celS] at hv
    rcases hv with rfl | rfl | rfl
    · exact rd_oneT x.2.1
    · exact rd_oneT x.2.2
    · rfl) (fun x y => Lib.compareBytes x.1.e.1 y.1.e.1) (swoB fun x : {t : SpC // GdS w0 t} => x.1.e.1) 33 #[] g 0 cap d w eg hcmp hH.1 hH.2 (by omega)
  change Calls Try.prog 45 _ _ _ at hcon
  rw [hdn] at hcon
  refine hcon.mono ?_
  rintro e w' ⟨rfl, d', m, os, hp, hso, rfl⟩
  rw [← hdn] at hp hso
  obtain ⟨hs1, hp1⟩ := perm_of_in hp
  have hpw := pw_of_in hs1 hso
  obtain ⟨k1, k2, _⟩ := own_sortedK (enc := fun t : {t : SpC // GdS w0 t} => celS t.1) (m := m) (os := os) (d' := d') (by decide) (fun x => rfl) hdn (by omega) hrow
  refine ⟨rfl, d'.toList.map (·.1), ?_, ?_, ⟨?_, fun t ht => ?_⟩, k2⟩
  · rw [← hd]; exact hp1.map _
  · first | unfold RiseT | unfold RiseP
    rw [List.pairwise_map]
    exact hpw.imp (fun {a b} h => by unfold ltOf at h; rwa [decide_eq_false_iff_not] at h)
  · rw [List.length_map, Array.length_toList, hs1, hdn, ← flatS_sub]
    exact k1
  · obtain ⟨u, _, rfl⟩ := List.mem_map.1 ht
    exact u.2

/-- a place: a value, and the bytes that it is -/
abbrev PlC := Value × List UInt8

def GdP (w0 : World) (p : PlC) : Prop := Rd w0 p.1 p.2

/-- places in a row of one's own -/
def RowP (w0 : World) (B : Nat) (wr : World) (v : Value) (ps : List PlC) : Prop := wr.ownsRow B 29 1 v ps.length (ps.map (·.1)) ∧ ∀ p ∈ ps, GdP w0 p

theorem mkP {w0 : World} {ps : List PlC} (h : ∀ t ∈ ps, GdP w0 t) : ∃ d : Array {t : PlC // GdP w0 t}, d.toList.map (·.1) = ps := by
  refine ⟨(ps.pmap (fun t ht => ⟨t, ht⟩) h).toArray, ?_⟩
  rw [List.map_pmap]
  simp

/-- they rise -/
def RiseP (ps : List PlC) : Prop := ps.Pairwise (fun a b => ¬ Lib.compareBytes b.2 a.2 < 0)

set_option maxHeartbeats 2000000 in
/-- places, rising -/
theorem psort_any (w0 w : World) (B g n cap : Nat) (ps : List PlC) (hn : ps.length = n) (hR : RowP w0 B w (.slice (some ⟨g, 0, none⟩) n cap) ps) (hb : Below w0.heap.size w0 w) (hB : w0.heap.size ≤ B) (h0 : 0 < n) (hs : n < 4611686018427387904) :
    Calls Try.prog 48 #[.slice (some ⟨g, 0, none⟩) n cap, .func (.func 34) #[] #[]] w fun e w' => e = .returned (.tuple #[]) ∧ ∃ ps' : List PlC, ps'.Perm ps ∧ RiseP ps' ∧ RowP w0 B w' (.slice (some ⟨g, 0, none⟩) n cap) ps' ∧ w.grownBy w' (some g) := by
  obtain ⟨d, hd⟩ := mkP hR.2
  have hdn : d.size = n := by
    have := congrArg List.length hd
    rw [List.length_map, Array.length_toList] at this
    omega
  have hrow := hR.1
  rw [← hd, List.map_map, List.length_map, Array.length_toList, hdn] at hrow
  have hgB := hrow.lt g rfl
  letI : Inhabited {t : PlC // GdP w0 t} := ⟨d[0]'(by omega)⟩
  have hH := (own_sorted1 (enc := fun t : {t : PlC // GdP w0 t} => t.1.1) (m := 0) (os := #[]) hdn hdn hrow).2.2
  have eg : ∀ args w, (callFunc 34 args).run Try.prog w = .ok (.enter 34 args) w := enters_of Try.func34 (by kernel_rfl) rfl
  have hcmp : CmpLays1 Try.prog 34 #[] (fun t : {t : PlC // GdP w0 t} => t.1.1) (fun x y => Lib.compareBytes x.1.2 y.1.2) g 0 d.size w := by
    intro m os dk hsz x y
    have hbW : Below w0.heap.size w0 (sortWorld (fun t : {t : PlC // GdP w0 t} => t.1.1) w g 0 m dk os) := hb.grown (mb_grown _) hb.size (fun q hq => by cases hq; omega)
    exact (cmp_any _ x.1.1 y.1.1 x.1.2 y.1.2 (x.2.below hbW (Nat.le_refl _)) (y.2.below hbW (Nat.le_refl _))).mono (fun e w' h => ⟨h.1, 0, #[], by rw [h.2, Go.Sort.grow_empty]; rfl⟩)
  have hcon := Any.slices_SortFunc sortBy (fun t : {t : PlC // GdP w0 t} => t.1.1) (fun x => rd_oneT x.2) (fun x y => Lib.compareBytes x.1.2 y.1.2) (swoB fun x : {t : PlC // GdP w0 t} => x.1.2) 34 #[] g 0 cap d w eg hcmp hH.1 hH.2 (by omega)
  change Calls Try.prog 48 _ _ _ at hcon
  rw [hdn] at hcon
  refine hcon.mono ?_
  rintro e w' ⟨rfl, d', m, os, hp, hso, rfl⟩
  rw [← hdn] at hp hso
  obtain ⟨hs1, hp1⟩ := perm_of_in hp
  have hpw := pw_of_in hs1 hso
  obtain ⟨k1, k2, _⟩ := own_sorted1 (enc := fun t : {t : PlC // GdP w0 t} => t.1.1) (m := m) (os := os) (d' := d') hdn (by omega) hrow
  refine ⟨rfl, d'.toList.map (·.1), ?_, ?_, ⟨?_, fun t ht => ?_⟩, k2⟩
  · rw [← hd]; exact hp1.map _
  · first | unfold RiseT | unfold RiseP
    rw [List.pairwise_map]
    exact hpw.imp (fun {a b} h => by unfold ltOf at h; rwa [decide_eq_false_iff_not] at h)
  · rw [List.length_map, Array.length_toList, hs1, hdn, List.map_map]
    exact k1
  · obtain ⟨u, _, rfl⟩ := List.mem_map.1 ht
    exact u.2

/-- numbers in a row of one's own -/
def encN (n : Nat) : Value := .int .u64 (n : Int)
def RowN (B : Nat) (wr : World) (v : Value) (ns : List Nat) : Prop := wr.ownsRow B 30 1 v ns.length (ns.map encN)

def cfN (x y : Nat) : Int := if (y : Int) < (x : Int) then -1 else if (x : Int) < (y : Int) then 1 else 0

theorem ltN (x y : Nat) : ltOf cfN x y = decide (y < x) := by
  unfold ltOf cfN
  by_cases h1 : y < x
  · simp [h1]
  · by_cases h2 : x < y <;> simp [h1, h2]

theorem swoN : Go.Sort.SWO (ltOf cfN) where
  irrefl x := by rw [ltN]; simp
  trans x y z h1 h2 := by rw [ltN] at *; simp at *; omega
  ntrans x y z h1 h2 := by rw [ltN] at *; simp at *; omega

theorem sqcl_any (w : World) (x y : Nat) : Calls Try.prog 53 #[encN x, encN y] w fun e w' => e = .returned (.int .i64 (cfN x y)) ∧ w' = w := by
  have hcm := cmpU64 w (y : Int) (x : Int)
  unfold cfN encN
  generalize (if (y : Int) < (x : Int) then (-1 : Int) else if (x : Int) < (y : Int) then 1 else 0) = r at hcm ⊢
  go_enter Try.func53, Try.ntmps53
  go_wp2_with fail
  refine hcm.mono ?_
  rintro e w' ⟨rfl, rfl⟩
  go_wp2
  go_ret
  exact ⟨rfl, rfl⟩

/-- they fall -/
def FallN (ns : List Nat) : Prop := ns.Pairwise (fun a b => ¬ a < b)

set_option maxHeartbeats 2000000 in
/-- numbers, falling -/
theorem nsort_any (w : World) (B g n cap : Nat) (ns : List Nat) (hn : ns.length = n) (hR : RowN B w (.slice (some ⟨g, 0, none⟩) n cap) ns) (h0 : 0 < n) (hs : n < 4611686018427387904) :
    Calls Try.prog 52 #[.slice (some ⟨g, 0, none⟩) n cap, .func (.func 53) #[] #[]] w fun e w' => e = .returned (.tuple #[]) ∧ ∃ ns' : List Nat, ns'.Perm ns ∧ FallN ns' ∧ RowN B w' (.slice (some ⟨g, 0, none⟩) n cap) ns' ∧ w.grownBy w' (some g) := by
  have hdn : ns.toArray.size = n := by simpa using hn
  have hrow : w.ownsRow B 30 1 (.slice (some ⟨g, 0, none⟩) n cap) n (ns.toArray.toList.map encN) := by
    have h := hR
    unfold RowN at h
    rw [hn] at h
    simpa using h
  have hgB := hrow.lt g rfl
  have hH := (own_sorted1 (enc := encN) (m := 0) (os := #[]) hdn hdn hrow).2.2
  have eg : ∀ args w, (callFunc 53 args).run Try.prog w = .ok (.enter 53 args) w := enters_of Try.func53 (by kernel_rfl) rfl
  have hcmp : CmpLays1 Try.prog 53 #[] encN cfN g 0 ns.toArray.size w := by
    intro m os dk hsz x y
    exact (sqcl_any _ x y).mono (fun e w' h => ⟨h.1, 0, #[], by rw [h.2, Go.Sort.grow_empty]; rfl⟩)
  have hcon := Any.slices_SortFunc sortU encN (fun x => rfl) cfN swoN 53 #[] g 0 cap ns.toArray w eg hcmp hH.1 hH.2 (by omega)
  change Calls Try.prog 52 _ _ _ at hcon
  rw [hdn] at hcon
  refine hcon.mono ?_
  rintro e w' ⟨rfl, d', m, os, hp, hso, rfl⟩
  rw [← hdn] at hp hso
  obtain ⟨hs1, hp1⟩ := perm_of_in hp
  have hpw := pw_of_in hs1 hso
  obtain ⟨k1, k2, _⟩ := own_sorted1 (enc := encN) (m := m) (os := os) (d' := d') hdn (by omega) hrow
  refine ⟨rfl, d'.toList, by simpa using hp1, ?_, ?_, k2⟩
  · unfold FallN
    exact hpw.imp (fun {a b} h => by rw [ltN] at h; simp at h; omega)
  · unfold RowN
    rw [Array.length_toList, hs1, hdn]
    exact k1

end Go.Proofs.Ytifdomhmmhepcaa
