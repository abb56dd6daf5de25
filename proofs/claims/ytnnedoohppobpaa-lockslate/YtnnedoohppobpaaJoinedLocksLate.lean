/- Several texts in one. -/
import Derived.Test.YtnnedoohppobpaaLkSet
import Derived.Test.YtnnedoohppobpaaLkAwake
import Derived.Test.YtnnedoohppobpaaCut
import Derived.Lib.SmallJoins
import Derived.Deep.Strs
import Derived.Test.YtnnedoohppobpaaLkLatePure
import Derived.Test.YtnnedoohppobpaaLkWaits
import Derived.Deep.DeepCutAuto

/- Maps from numbers: to numbers, to truths. -/
namespace Go.Proofs.Ytnnedoohppobpaa
set_option maxRecDepth 20000
open Go.RowKit Go.Maps
set_option linter.unusedVariables false
set_option linter.unusedSimpArgs false

/-- a map from numbers to numbers: what it tells of each -/
def MapF (w : World) (b n : Nat) (f : Nat → Nat) : Prop :=
  ∃ D : DataW Unit, w.ownsMap Try.prog 29 (plainElem Try.prog 29) b n D ∧ ∀ k, k < 18446744073709551616 → D.atKey (litU k) (.lit (.int .u64 0)) = .lit (.int .u64 (f k : Int))

/-- a map from numbers to truths: of which it tells true -/
def MapG (w : World) (b n : Nat) (l : List Nat) : Prop :=
  ∃ D : DataW Unit, w.ownsMap Try.prog 29 (plainElem Try.prog 4) b n D ∧ ∀ k, k < 18446744073709551616 → D.atKey (litU k) (.lit (.bool false)) = .lit (.bool (decide (k ∈ l)))

theorem ownsMap_block {w w' : World} {kt : TypeId} {R : Value → Option (DataW Unit × List MemPlace)} {b n : Nat} {D : DataW Unit} (h : w.ownsMap Try.prog kt R b n D) (hb : w'.heap[b]? = w.heap[b]?) : w'.ownsMap Try.prog kt R b n D := by
  obtain ⟨es, clock, hb2, r⟩ := h
  exact ⟨es, clock, hb.trans hb2, r⟩

theorem MapF.lt {w : World} {b n : Nat} {f : Nat → Nat} (h : MapF w b n f) : b < w.heap.size := by
  obtain ⟨D, h, _⟩ := h
  exact World.ownsMap.lt h
theorem MapG.lt {w : World} {b n : Nat} {l : List Nat} (h : MapG w b n l) : b < w.heap.size := by
  obtain ⟨D, h, _⟩ := h
  exact World.ownsMap.lt h

theorem MapF.same {w w' : World} {b n : Nat} {f : Nat → Nat} (h : MapF w b n f) (hb : w'.heap[b]? = w.heap[b]?) : MapF w' b n f := by
  obtain ⟨D, h1, h2⟩ := h
  exact ⟨D, ownsMap_block h1 hb, h2⟩
theorem MapG.same {w w' : World} {b n : Nat} {l : List Nat} (h : MapG w b n l) (hb : w'.heap[b]? = w.heap[b]?) : MapG w' b n l := by
  obtain ⟨D, h1, h2⟩ := h
  exact ⟨D, ownsMap_block h1 hb, h2⟩
theorem MapF.below {w w' : World} {b n : Nat} {f : Nat → Nat} (h : MapF w b n f) (hb : Below w.heap.size w w') : MapF w' b n f := h.same (hb.block b h.lt)
theorem MapG.below {w w' : World} {b n : Nat} {l : List Nat} (h : MapG w b n l) (hb : Below w.heap.size w w') : MapG w' b n l := h.same (hb.block b h.lt)

theorem MapF.made (w : World) : MapF (w.alloc (.map #[] 0)) w.heap.size 0 (fun _ => 0) :=
  ⟨.map [], World.ownsMap_made _ _ _ _, fun k _ => by simp [DataW.atKey]⟩
theorem MapG.made (w : World) : MapG (w.alloc (.map #[] 0)) w.heap.size 0 [] :=
  ⟨.map [], World.ownsMap_made _ _ _ _, fun k _ => by simp [DataW.atKey]⟩

theorem zero_boolU (w : World) : (zeroValue 4).run Try.prog w = .ok (.bool false) w := by kernel_rfl
theorem zero_u64U (w : World) : (zeroValue 29).run Try.prog w = .ok (.int .u64 0) w := by kernel_rfl

theorem plainElem_boolU_inv {H : Type} {P : Program} {e : TypeId} (he : P.underlying e = some .bool) {v : Value} {z : DataW H × List MemPlace} (h : plainElem P e v = some z) : ∃ b, v = .bool b ∧ z = (.lit (.bool b), []) := by
  unfold plainElem at h
  rw [he] at h
  cases v <;> simp at h
  exact ⟨_, rfl, h.symm⟩

theorem MapG.look {w : World} {b n : Nat} {l : List Nat} (h : MapG w b n l) (k : Nat) (hk : k < 18446744073709551616) :
    (Instr.lookup 28 (.map (some b)) (.int .u64 (k : Int)) false).run Try.prog w = .ok (.bool (decide (k ∈ l))) w := by
  obtain ⟨D, hm, hat⟩ := h
  obtain ⟨v, ps, hrun, hv⟩ := hm.lookup (int_keyed Try.underlying29) Try.underlying28 (zero_boolU w) (plainElem_bool Try.underlying4 false) (key := .int .u64 (k : Int)) (kl := litU k) (keyU hk)
  rw [hat k hk] at hv
  obtain ⟨b, rfl, hz⟩ := plainElem_boolU_inv Try.underlying4 hv
  simp only [Prod.mk.injEq, DataW.lit.injEq, Lit.bool.injEq] at hz
  rw [hrun, hz.1]

theorem MapF.look {w : World} {b n : Nat} {f : Nat → Nat} (h : MapF w b n f) (k : Nat) (hk : k < 18446744073709551616) :
    (Instr.lookup 51 (.map (some b)) (.int .u64 (k : Int)) false).run Try.prog w = .ok (.int .u64 (f k : Int)) w := by
  obtain ⟨D, hm, hat⟩ := h
  obtain ⟨v, ps, hrun, hv⟩ := hm.lookup (int_keyed Try.underlying29) Try.underlying51 (zero_u64U w) (plainElem_int Try.underlying29 (by decide)) (key := .int .u64 (k : Int)) (kl := litU k) (keyU hk)
  rw [hat k hk] at hv
  obtain ⟨b, rfl, hz, _⟩ := plainElem_int_inv Try.underlying29 hv
  simp only [Prod.mk.injEq, DataW.lit.injEq, Lit.int.injEq, true_and] at hz
  rw [hrun, hz.1]

theorem litU_ne {a b : Nat} (h : a ≠ b) : litU a ≠ litU b := by
  unfold litU
  intro e
  simp only [Lit.int.injEq, true_and] at e
  omega

theorem MapF.put {w w' : World} {b n k v : Nat} {f : Nat → Nat} {D : DataW Unit} (hm : w.ownsMap Try.prog 29 (plainElem Try.prog 29) b n D) (hat : ∀ k, k < 18446744073709551616 → D.atKey (litU k) (.lit (.int .u64 0)) = .lit (.int .u64 (f k : Int)))
    (h : w'.ownsMap Try.prog 29 (plainElem Try.prog 29) b (n + 1) (D.put (litU k) (.lit (.int .u64 (v : Int))))) : MapF w' b (n + 1) (fun x => if x = k then v else f x) := by
  refine ⟨_, h, fun x hx => ?_⟩
  by_cases e : x = k
  · subst e
    rw [atKey_put_same hm.isMap (k := litU x) (by simp [WideAt.IsKeyLit, litU])]
    simp
  · rw [atKey_put_other (litU_ne e), hat x hx]
    simp [e]

theorem MapG.put {w w' : World} {b n k : Nat} {l : List Nat} {D : DataW Unit} (hm : w.ownsMap Try.prog 29 (plainElem Try.prog 4) b n D) (hat : ∀ k, k < 18446744073709551616 → D.atKey (litU k) (.lit (.bool false)) = .lit (.bool (decide (k ∈ l))))
    (h : w'.ownsMap Try.prog 29 (plainElem Try.prog 4) b (n + 1) (D.put (litU k) (.lit (.bool true)))) : MapG w' b (n + 1) (l ++ [k]) := by
  refine ⟨_, h, fun x hx => ?_⟩
  by_cases e : x = k
  · subst e
    rw [atKey_put_same hm.isMap (k := litU x) (by simp [WideAt.IsKeyLit, litU])]
    simp
  · rw [atKey_put_other (litU_ne e), hat x hx]
    simp [e]

end Go.Proofs.Ytnnedoohppobpaa

/- bartizanlaw19.few; a lock that came in. -/
namespace Go.Proofs.Ytnnedoohppobpaa
set_option maxRecDepth 100000
open Go.RowKit Go.Maps
open Go.ChangeShapes Go.WideShapes Go.ChangeAt
set_option linter.unusedVariables false
set_option linter.unusedSimpArgs false

theorem byte_of9 {k : Int} (h : (Lit.int .u8 k).wf = true) : k = ((UInt8.ofNat k.toNat).toNat : Int) := by
  have := bounds_u8 h
  rw [UInt8.toNat_ofNat', Nat.mod_eq_of_lt (by omega)]
  omega

/-- a lock that came in -/
theorem lockArg_of {H : Type} {enc : TypeId × Value → H} {w : World} {r : Reach} {base : Nat} {v : Value} {d : DataW H} {ps : List MemPlace}
    (hv : Value.okWide Try.prog w r base 32 v) (h : DataW.Trod enc Try.prog w 0 (fun _ => true) true 32 v d ps) :
    ∃ (n : Nat) (f t : List UInt8) (m : UInt8) (x y : Value), v = .agg #[.int .u64 (n : Int), x, y, .int .u8 (m.toNat : Int)] ∧ n < 18446744073709551616 ∧ Arg w x f ∧ Arg w y t := by
  obtain ⟨v0, v1, v2, v3, y0, y1, y2, y3, n, rfl, _, _, h0, h1, h2, h3⟩ := Joins.open_agg4 Try.underlying32 (by kernel_rfl) (by kernel_rfl) hv h
  obtain ⟨k, e0, _, wk⟩ := DataW.trod_int Try.underlying29 h0
  obtain ⟨a1, l1, q1, z1, rfl, r1⟩ := row_of_trod h1
  obtain ⟨a2, l2, q2, z2, rfl, r2⟩ := row_of_trod h2
  obtain ⟨s, e3, _, ws⟩ := DataW.trod_int Try.underlying5 h3
  simp at e0 e3
  subst e0 e3
  have hs := bounds_u64 wk
  refine ⟨k.toNat, _, _, UInt8.ofNat s.toNat, _, _, ?_, by omega, arg_of r1, arg_of r2⟩
  rw [← byte_of9 ws, show ((k.toNat : Nat) : Int) = k by omega]
set_option maxHeartbeats 2000000 in
theorem few_any (w : World) (x y : Value) (f t : List UInt8) (n m : Int) (h1 : Arg w x f) (h2 : Arg w y t) :
    Calls Try.prog 11 #[lkV n x y m] w fun e w' => ∃ x' y', e = .returned (lkV n x' y' m) ∧ OwnN w.heap.size w' x' (f.take 80) ∧ OwnN w.heap.size w' y' (t.take 80) ∧ Below w.heap.size w w' := by
  obtain ⟨a1, a2, ea⟩ := h1.shape
  obtain ⟨a3, a4, eb⟩ := h2.shape
  subst ea eb
  have hb0 := below_two w (.cells #[.int .u64 n, .slice a1 f.length a2, .slice a3 t.length a4, .int .u8 m] 32) (.cells #[.int .u64 0, .slice none 0 0, .slice none 0 0, .int .u8 0] 32)
  have HB0 : Hid (Below w.heap.size w ((w.alloc (.cells #[.int .u64 n, .slice a1 f.length a2, .slice a3 t.length a4, .int .u8 m] 32)).alloc (.cells #[.int .u64 0, .slice none 0 0, .slice none 0 0, .int .u8 0] 32))) := hb0
  have hba := below_box4 (w.alloc (.cells #[.int .u64 n, .slice a1 f.length a2, .slice a3 t.length a4, .int .u8 m] 32)) (.cells #[.int .u64 0, .slice none 0 0, .slice none 0 0, .int .u8 0] 32)
  have bx := ((box4_new w (.int .u64 n) (.slice a1 f.length a2) (.slice a3 t.length a4) (.int .u8 m) 32).below hba (Nat.le_refl _)).drew
  have r1 := h1.below hb0.drew (Nat.le_refl _)
  have r2 := h2.below hb0.drew (Nat.le_refl _)
  have BF : Hid (Box4f ((w.alloc (.cells #[.int .u64 n, .slice a1 f.length a2, .slice a3 t.length a4, .int .u8 m] 32)).alloc (.cells #[.int .u64 0, .slice none 0 0, .slice none 0 0, .int .u8 0] 32)) (w.heap.size + 1) (.int .u64 0) (.slice none 0 0) (.slice none 0 0) (.int .u8 0)) := by
    have := box4f_new (w.alloc (.cells #[.int .u64 n, .slice a1 f.length a2, .slice a3 t.length a4, .int .u8 m] 32)) (.int .u64 0) (.slice none 0 0) (.slice none 0 0) (.int .u8 0) 32
    rw [show (w.alloc (.cells #[.int .u64 n, .slice a1 f.length a2, .slice a3 t.length a4, .int .u8 m] 32)).heap.size = w.heap.size + 1 by simp] at this
    exact this
  obtain ⟨fl, hfl⟩ : ∃ z, f.length = z := ⟨_, rfl⟩
  obtain ⟨tl, htl⟩ : ∃ z, t.length = z := ⟨_, rfl⟩
  obtain ⟨fm, hfm⟩ : ∃ z, (f.take 80).length = z := ⟨_, rfl⟩
  obtain ⟨tm, htm⟩ : ∃ z, (t.take 80).length = z := ⟨_, rfl⟩
  have HFL : Hid ((f.take 80).length = fm ∧ (t.take 80).length = tm) := ⟨hfm, htm⟩
  rw [hfl] at HB0 bx r1 BF
  rw [htl] at HB0 bx r2 BF
  rw [hfl] at r2
  rw [htl] at r1
  rw [hfl, htl]
  clear h1 h2 hb0 hba hfl htl hfm htm
  unfold lkV
  go_enter Try.func11, Try.ntmps11
  go_wp2_with fail
  go_region_held3 (fun w' => w'.cell? ⟨w.heap.size, 0, none⟩ = some (.int .u64 n) ∧ w'.cell? ⟨w.heap.size, 1, none⟩ = some (.slice a1 fl a2) ∧ w'.cell? ⟨w.heap.size, 2, none⟩ = some (.slice a3 tl a4) ∧ w'.cell? ⟨w.heap.size, 3, none⟩ = some (.int .u8 m))
    (first | with_reducible exact ⟨bs.c0, bs.c1, bs.c2, bs.c3⟩ | with_reducible exact ⟨by2.c0, by2.c1, by2.c2, by2.c3⟩ | with_reducible exact ⟨bx2.c0, bx2.c1, bx2.c2, bx2.c3⟩ | with_reducible exact ⟨bx.c0, bx.c1, bx.c2, bx.c3⟩)
    (first
      | (go_at_call 23; refine (cut_any _ _ f 80 r1 (by decide)).mono ?_; rintro e wx ⟨x, rfl, ox, hbx⟩; obtain ⟨gx, kx, hx⟩ := ox.rd.len; rw [HFL.out.1] at hx; subst hx; have bx2 := bx.below hbx (Nat.le_refl _); clear r1)
      | (go_at_call 23; refine (cut_any _ _ t 80 (r2.below hbx (Nat.le_refl _)) (by decide)).mono ?_; rintro e wy ⟨y, rfl, oy, hby⟩; obtain ⟨gy, ky, hy⟩ := oy.rd.len; rw [HFL.out.2] at hy; subst hy; have by2 := bx2.below hby (Nat.le_refl _)
         have HBY : Hid (Below w.heap.size w wy) := bsplit (bsplit HB0.out.drew hbx) hby
         have hsz : ((w.alloc (.cells #[.int .u64 n, .slice a1 fl a2, .slice a3 tl a4, .int .u8 m] 32)).alloc (.cells #[.int .u64 0, .slice none 0 0, .slice none 0 0, .int .u8 0] 32)).drew.heap.size = w.heap.size + 2 := by simp
         have HOX : Hid (OwnN (w.heap.size + 2) wy (.slice gx fm kx) (f.take 80)) := (show OwnN _ _ _ _ from .inr (ox.below hby (Nat.le_refl _))).mono (by rw [hsz]; exact Nat.le_refl _)
         have HOY : Hid (OwnN (w.heap.size + 2) wy (.slice gy tm ky) (t.take 80)) := (show OwnN _ _ _ _ from .inr oy).mono (by have h8 := hbx.size; rw [hsz] at h8; exact h8)
         have bs := by2.stored (w.heap.size + 1) (by omega) (.int .u64 n) (.slice gx fm kx) (.slice gy tm ky) (.int .u8 m)
         obtain ⟨⟨c0, c1, c2, c3⟩, f0, f1, f2, f3⟩ := ((BF.out.below (Below.refl _ _).drew (Nat.le_refl _)).below hbx (Nat.le_refl _)).below hby (Nat.le_refl _))
      | fail)
  go_wp2
  refine bodyPost_ret (v := lkV n (.slice gx fm kx) (.slice gy tm ky) m) (by simp [results, Try.results11, go_sem, c0, c1, c2, c3, lkV]) rfl ⟨_, _, rfl, ?_, ?_, below_store4 HBY.out (Nat.le_succ _) _ _ _ _⟩
  · exact ownN_stored4 (HOX.out.mono (by omega)) (fun g hg => by have := (ownN_lt9 HOX.out g hg).1; omega) _ _ _ _
  · exact ownN_stored4 (HOY.out.mono (by omega)) (fun g hg => by have := (ownN_lt9 HOY.out g hg).1; omega) _ _ _ _

end Go.Proofs.Ytnnedoohppobpaa

/- What a law of locks is told of calls that came in. -/
namespace Go.Proofs.Ytnnedoohppobpaa
open Go.ChangeShapes Go.WideShapes Go.ChangeAt Go.RowKit
set_option linter.unusedVariables false
set_option maxRecDepth 20000

structure LOp where
  dop : UInt8
  n : Nat
  f : List UInt8
  t : List UInt8
  m : UInt8
  u : Nat

structure LOpAt (w : World) (b off : Nat) (o : LOp) (x y : Value) : Prop where
  c0 : w.cell? ⟨b, off, none⟩ = some (.int .u8 (o.dop.toNat : Int))
  c1 : w.cell? ⟨b, off + 1, none⟩ = some (.int .u64 (o.n : Int))
  c2 : w.cell? ⟨b, off + 2, none⟩ = some x
  c3 : w.cell? ⟨b, off + 3, none⟩ = some y
  c4 : w.cell? ⟨b, off + 4, none⟩ = some (.int .u8 (o.m.toNat : Int))
  c5 : w.cell? ⟨b, off + 5, none⟩ = some (.int .u64 (o.u : Int))
  ax : Arg w x o.f
  ay : Arg w y o.t
  hn : o.n < 18446744073709551616
  hu : o.u < 18446744073709551616

def ArgLO (w : World) (v : Value) (os : List LOp) : Prop :=
  ∃ a cap, v = .slice a os.length cap ∧ os.length ≤ cap ∧ cap ≤ 9223372036854775807 ∧ ∀ j (hj : j < os.length), ∃ b off, a = some ⟨b, off, none⟩ ∧ ∃ x y, LOpAt w b (off + j * 6) os[j] x y

theorem cell_belowLO {B : Nat} {w w' : World} {p : Addr} {v : Value} (hb : Below B w w') (hB : w.heap.size ≤ B) (h : w.cell? p = some v) : w'.cell? p = some v :=
  (hb.cell (Nat.lt_of_lt_of_le (World.block_lt_of_cell? w _ h) hB)).trans h

theorem LOpAt.below {B : Nat} {w w' : World} {b off : Nat} {o : LOp} {x y : Value} (h : LOpAt w b off o x y) (hb : Below B w w') (hB : w.heap.size ≤ B) : LOpAt w' b off o x y :=
  ⟨cell_belowLO hb hB h.c0, cell_belowLO hb hB h.c1, cell_belowLO hb hB h.c2, cell_belowLO hb hB h.c3, cell_belowLO hb hB h.c4, cell_belowLO hb hB h.c5, h.ax.below hb hB, h.ay.below hb hB, h.hn, h.hu⟩

theorem ArgLO.below {B : Nat} {w w' : World} {v : Value} {os : List LOp} (h : ArgLO w v os) (hb : Below B w w') (hB : w.heap.size ≤ B) : ArgLO w' v os := by
  obtain ⟨a, cap, e, h1, h2, h3⟩ := h
  refine ⟨a, cap, e, h1, h2, fun j hj => ?_⟩
  obtain ⟨b, off, e2, v1, v3, h4⟩ := h3 j hj
  exact ⟨b, off, e2, v1, v3, h4.below hb hB⟩

theorem lop_of {H : Type} {enc : TypeId × Value → H} {w : World} {n : Nat} {v0 v1 v2 v3 v4 v5 : Value} {y : DataW H × List MemPlace}
    (h : DataW.trod enc Try.prog w 0 (fun _ => true) true n 34 [v0, v1, v2, v3, v4, v5] = some y) :
    ∃ o : LOp, v0 = .int .u8 (o.dop.toNat : Int) ∧ v1 = .int .u64 (o.n : Int) ∧ Arg w v2 o.f ∧ Arg w v3 o.t ∧ v4 = .int .u8 (o.m.toNat : Int) ∧ v5 = .int .u64 (o.u : Int) ∧ o.n < 18446744073709551616 ∧ o.u < 18446744073709551616 := by
  obtain ⟨y0, y1, y2, n', _, _, h0, h1, h2⟩ := Deep.trod_struct3 Try.underlying34 h
  have c5 : Try.prog.cellsOf 5 = 1 := by kernel_rfl
  have c8 : Try.prog.cellsOf 29 = 1 := by kernel_rfl
  have cl : Try.prog.cellsOf 32 = 4 := by kernel_rfl
  have cb : Try.prog.cellsOf 30 = 1 := by kernel_rfl
  simp only [c5, c8, cl] at h0 h1 h2
  simp at h0 h1 h2
  obtain ⟨k, e0, _, wk⟩ := DataW.trod_int Try.underlying5 h0
  obtain ⟨s, e2, _, ws⟩ := DataW.trod_int Try.underlying29 h2
  obtain ⟨z0, z1, z2, z3, n2, _, _, g0, g1, g2, g3⟩ := Joins.trod_struct4 Try.underlying32 h1
  simp only [c5, c8, cb] at g0 g1 g2 g3
  simp at g0 g1 g2 g3
  obtain ⟨p, e1, _, wp⟩ := DataW.trod_int Try.underlying29 g0
  obtain ⟨a1, l1, q1, x1, rfl, r1⟩ := row_of_trod g1
  obtain ⟨a2, l2, q2, x2, rfl, r2⟩ := row_of_trod g2
  obtain ⟨q, e3, _, wq⟩ := DataW.trod_int Try.underlying5 g3
  simp at e0 e1 e2 e3
  subst e0 e1 e2 e3
  have hp := bounds_u64 wp
  have hs := bounds_u64 ws
  refine ⟨⟨UInt8.ofNat k.toNat, p.toNat, _, _, UInt8.ofNat q.toNat, s.toNat⟩, ?_, ?_, arg_of r1, arg_of r2, ?_, ?_, by show p.toNat < _; omega, by show s.toNat < _; omega⟩
  · exact congrArg (Value.int .u8) (byte_of9 wk)
  · rw [show ((p.toNat : Nat) : Int) = p by omega]
  · exact congrArg (Value.int .u8) (byte_of9 wq)
  · rw [show ((s.toNat : Nat) : Int) = s by omega]

theorem lopsArg_of {H : Type} {enc : TypeId × Value → H} {w : World} {a : Option Addr} {len cap : Nat} {d : DataW H} {ps : List MemPlace}
    (h : DataW.Trod enc Try.prog w 0 (fun _ => true) true 22 (.slice a len cap) d ps) : ∃ os, ArgLO w (.slice a len cap) os := by
  obtain ⟨fuel, hf⟩ := h
  rcases Deep.open_slice Try.underlying22 hf with ⟨hcs, _⟩ | ⟨x, len', cap', m, n, D, Pl, hcs, _, hl, hm, hmm, _, hall⟩
  · simp [Value.cells] at hcs
    obtain ⟨rfl, rfl, rfl⟩ := hcs
    exact ⟨[], none, 0, rfl, by simp, by omega, fun j hj => by simp at hj⟩
  · simp [Value.cells] at hcs
    obtain ⟨rfl, rfl, rfl⟩ := hcs
    simp only [if_true] at hmm
    subst hmm
    have c6 : Try.prog.cellsOf 34 = 6 := by kernel_rfl
    rw [c6] at hall
    have hsp : 0 < len → x.spot = none := by
      intro h0
      obtain ⟨cs', h1, _⟩ := hall 0 (by omega)
      obtain ⟨_, hlen, hcell⟩ := World.cells?_some h1
      match cs', hlen with
      | [v0, v1, v2, v3, v4, v5], _ =>
        have k0 : w.cell? ((x.add (0 * 6)).add 0) = some v0 := hcell 0 (by decide)
        simpa [Addr.add] using World.cell?_spot k0
    have hex : ∀ i, i < len → ∃ o : LOp, ∃ b off, x = ⟨b, off, none⟩ ∧ ∃ x y, LOpAt w b (off + i * 6) o x y := by
      intro i hi
      obtain ⟨cs', h1, h2⟩ := hall i (by omega)
      obtain ⟨_, hlen, hcell⟩ := World.cells?_some h1
      match cs', hlen with
      | [v0, v1, v2, v3, v4, v5], _ =>
        obtain ⟨o, rfl, rfl, r2, r3, rfl, rfl, s1, s2⟩ := lop_of h2
        have k0 := hcell 0 (by decide)
        have k1 := hcell 1 (by decide)
        have k2 := hcell 2 (by decide)
        have k3 := hcell 3 (by decide)
        have k4 := hcell 4 (by decide)
        have k5 := hcell 5 (by decide)
        have hspot := hsp (by omega)
        obtain ⟨b, off, spot⟩ := x
        simp only at hspot
        subst hspot
        simp only [Addr.add_lit] at k0 k1 k2 k3 k4 k5
        exact ⟨o, b, off, rfl, v2, v3, k0, k1, k2, k3, k4, k5, r2, r3, s1, s2⟩
    have hI : Inhabited LOp := ⟨⟨0, 0, [], [], 0, 0⟩⟩
    obtain ⟨L, hL⟩ := Deep.choose_lt hex
    refine ⟨(List.range len).map L, some x, m, by simp, by simp; omega, by unfold maxLen at hm; omega, fun j hj => ?_⟩
    have hj' : j < len := by simpa using hj
    obtain ⟨b, off, rfl, v1, v3, hD⟩ := hL j hj'
    exact ⟨b, off, rfl, v1, v3, by simpa using hD⟩

end Go.Proofs.Ytnnedoohppobpaa

/- LocksLate answers true. -/
namespace Go.Proofs.Ytnnedoohppobpaa
set_option maxRecDepth 100000
open Go.RowKit Go.Maps
set_option linter.unusedVariables false
set_option linter.unusedSimpArgs false

/-- six cells -/
structure Box6 (w : World) (b : Nat) (v0 v1 v2 v3 v4 v5 : Value) : Prop where
  c0 : w.cell? ⟨b, 0, none⟩ = some v0
  c1 : w.cell? ⟨b, 1, none⟩ = some v1
  c2 : w.cell? ⟨b, 2, none⟩ = some v2
  c3 : w.cell? ⟨b, 3, none⟩ = some v3
  c4 : w.cell? ⟨b, 4, none⟩ = some v4
  c5 : w.cell? ⟨b, 5, none⟩ = some v5

theorem Box6.new (w : World) (v0 v1 v2 v3 v4 v5 : Value) (t : TypeId) : Box6 (w.alloc (.cells #[v0, v1, v2, v3, v4, v5] t)) w.heap.size v0 v1 v2 v3 v4 v5 := by
  have h := heap_alloc_new w (.cells #[v0, v1, v2, v3, v4, v5] t)
  have c := fun i => cell_of_row (w.alloc (.cells #[v0, v1, v2, v3, v4, v5] t)) w.heap.size i _ t (0, 0) h
  exact ⟨by rw [c]; rfl, by rw [c]; rfl, by rw [c]; rfl, by rw [c]; rfl, by rw [c]; rfl, by rw [c]; rfl⟩

theorem Box6.lt {w : World} {b : Nat} {v0 v1 v2 v3 v4 v5 : Value} (h : Box6 w b v0 v1 v2 v3 v4 v5) : b < w.heap.size := World.block_lt_of_cell? w _ h.c0

theorem Box6.same {w w' : World} {b : Nat} {v0 v1 v2 v3 v4 v5 : Value} (h : Box6 w b v0 v1 v2 v3 v4 v5) (e : w'.heap[b]? = w.heap[b]?) : Box6 w' b v0 v1 v2 v3 v4 v5 := by
  obtain ⟨c0, c1, c2, c3, c4, c5⟩ := h
  exact ⟨by rw [← c0]; unfold World.cell?; rw [e], by rw [← c1]; unfold World.cell?; rw [e], by rw [← c2]; unfold World.cell?; rw [e], by rw [← c3]; unfold World.cell?; rw [e], by rw [← c4]; unfold World.cell?; rw [e], by rw [← c5]; unfold World.cell?; rw [e]⟩

theorem Box6.below {w w' : World} {b : Nat} {v0 v1 v2 v3 v4 v5 : Value} (h : Box6 w b v0 v1 v2 v3 v4 v5) (hb : Below w.heap.size w w') : Box6 w' b v0 v1 v2 v3 v4 v5 := h.same (hb.block b h.lt)
theorem Box6.drew {w : World} {b : Nat} {v0 v1 v2 v3 v4 v5 : Value} (h : Box6 w b v0 v1 v2 v3 v4 v5) : Box6 w.drew b v0 v1 v2 v3 v4 v5 := ⟨h.c0, h.c1, h.c2, h.c3, h.c4, h.c5⟩

theorem keeps_grown9 {w w' : World} {m : Nat} (hg : w.grownBy w' (some m)) : Keeps (fun b => b = m) w w' :=
  ⟨hg.os, hg.tape, hg.output, hg.size, fun k hk hn => hg.block k hk (fun e => hn (Option.some.inj e))⟩

theorem not9 {a b : Bool} (h : a = !b) : b = !a := by rw [h, Bool.not_not]

/-- where the script has come to -/
structure LtI (B mb : Nat) (w1 wr : World) (t j n : Nat) (gs : List Lk) (qs : List Rq) (f : Nat → Nat) : Prop where
  hb : Below B w1 wr
  tb : LkX B (fun b => b = mb) wr t 60 60 gs qs
  mp : MapF wr mb n f
  li : LateI gs qs f
  ln : gs.length + qs.length ≤ 40 ∧ n ≤ 40
  lj : gs.length + qs.length ≤ j ∧ n ≤ j

set_option maxHeartbeats 2000000 in
theorem llate (now : Nat) (v : Value) (os : List LOp) (w : World) (hv : ArgLO w v os) (hnow : now < 18446744073709551616) :
    Calls Try.prog 5 #[v, .int .u64 (now : Int)] w fun e w' => e = .returned (.bool true) ∧ Below w.heap.size w w' := by
  have HV : Hid (ArgLO w v os) := hv
  have HNOW : Hid (now < 18446744073709551616) := hnow
  obtain ⟨va, vc, rfl, hlc, hcm, _⟩ := hv
  obtain ⟨N, hN⟩ : ∃ N, os.length = N := ⟨_, rfl⟩
  have HN : Hid (os.length = N) := hN
  rw [hN] at HV hlc ⊢
  clear hN hnow
  go_enter Try.func5, Try.ntmps5
  have hw := lkawake_any w
  go_wp2_with fail
  refine hw.mono ?_
  rintro e w1 ⟨rfl, hb1⟩
  have HB1 : Hid (Below w.heap.size w w1) := hb1
  clear hw hb1
  have hnw := lknew_any w1 60 60 (by decide) (by decide) (by decide) (by decide)
  go_wp2_with fail
  refine hnw.mono ?_
  rintro e w2 ⟨t, rfl, hp2, ht, hs2, hb2⟩
  have HT : Hid (LkX w1.heap.size (fun b => b = w2.heap.size) w2 t 60 60 [] [] ∧ Below w1.heap.size w1 w2) := ⟨⟨hb2.size, _, hp2, fun b hb => ⟨by rw [hb, ht]; exact Nat.le_refl _, fun h9 => by omega⟩⟩, hb2⟩
  clear hnw hp2 ht hs2 hb2
  have hmk : ∀ w : World, (Instr.makeMap 51 none).run Try.prog w = .ok (.map (some w.heap.size)) (w.alloc (.map #[] 0)) := fun w => run_makeMap _ w
  go_wp2_with fail
  have HI0 : Hid (LtI w1.heap.size w2.heap.size w1 (w2.alloc (.map #[] 0)) t 0 0 [] [] (fun _ => 0)) := by
    have hba := below_box4 w2 (.map #[] 0)
    exact ⟨HT.out.2.trans (hba.mono HT.out.2.size), HT.out.1.below hba, MapF.made w2, ⟨fun r hr => absurd hr (by simp), by simp⟩, by simp, by simp⟩
  obtain ⟨mb, hmb⟩ : ∃ mb, w2.heap.size = mb := ⟨_, rfl⟩
  have HMB : Hid (w1.heap.size ≤ mb) := by
    have := HT.out.2.size
    show _ ≤ _
    omega
  rw [hmb] at HI0 ⊢
  generalize w2.alloc (.map #[] 0) = w3 at HI0 ⊢
  clear HT hmb
  go_loopg [31] N (fun gk iv wr => ∃ j : Nat, gk + j = N ∧ iv = .int .i64 (j : Int) ∧ Hid (∃ n gs qs f, LtI w1.heap.size mb w1 wr t j n gs qs f))
  case atStart => exact ⟨0, by omega, rfl, _, _, _, _, HI0.out⟩
  case round =>
    obtain ⟨j, hj, rfl, HI⟩ := hrel
    by_cases hlt : j < N
    · have hlt2 : j < os.length := by rw [HN.out]; exact hlt
      obtain ⟨q1, q2⟩ := gk_nxt hj hlt
      obtain ⟨n, gs, qs, f, hI⟩ := HI.out
      have HJ : Hid (LtI w1.heap.size mb w1 wr t j n gs qs f) := hI
      obtain ⟨a9, c9, e9, _, _, hat9⟩ := (HV.out.below HB1.out (Nat.le_refl _)).below hI.hb (Nat.le_refl _)
      obtain ⟨ab, ao, ea, x0, y0, hop⟩ := hat9 j hlt2
      rw [ea] at e9
      cases e9
      obtain ⟨o, ho⟩ : ∃ o, os[j] = o := ⟨_, rfl⟩
      rw [ho] at hop
      obtain ⟨c0, c1, c2, c3, c4, c5, ax, ay, hon, hou⟩ := hop
      obtain ⟨x1, x2, ex⟩ := ax.shape
      obtain ⟨y1, y2, ey⟩ := ay.shape
      have HO : Hid (Arg wr x0 o.f ∧ Arg wr y0 o.t ∧ o.n < 18446744073709551616 ∧ o.u < 18446744073709551616) := ⟨ax, ay, hon, hou⟩
      subst ex ey
      obtain ⟨d0, hd0⟩ : ∃ z : Int, (o.dop.toNat : Int) = z := ⟨_, rfl⟩
      rw [hd0] at c0
      clear hI hat9 ax ay hon hou ho hd0 HI
      have BX := Box6.new wr (.int .u8 d0) (.int .u64 (o.n : Int)) (.slice x1 o.f.length x2) (.slice y1 o.t.length y2) (.int .u8 (o.m.toNat : Int)) (.int .u64 (o.u : Int)) 34
      have hba := below_box4 wr (.cells #[.int .u8 d0, .int .u64 (o.n : Int), .slice x1 o.f.length x2, .slice y1 o.t.length y2, .int .u8 (o.m.toNat : Int), .int .u64 (o.u : Int)] 34)
      have HBX : Hid (Box6 (wr.alloc (.cells #[.int .u8 d0, .int .u64 (o.n : Int), .slice x1 o.f.length x2, .slice y1 o.t.length y2, .int .u8 (o.m.toNat : Int), .int .u64 (o.u : Int)] 34)) wr.heap.size (.int .u8 d0) (.int .u64 (o.n : Int)) (.slice x1 o.f.length x2) (.slice y1 o.t.length y2) (.int .u8 (o.m.toNat : Int)) (.int .u64 (o.u : Int))) := BX
      have HBA : Hid (Below wr.heap.size wr (wr.alloc (.cells #[.int .u8 d0, .int .u64 (o.n : Int), .slice x1 o.f.length x2, .slice y1 o.t.length y2, .int .u8 (o.m.toNat : Int), .int .u64 (o.u : Int)] 34))) := hba
      by_cases h40 : j < 40
      · have hfew := few_any (wr.alloc (.cells #[.int .u8 d0, .int .u64 (o.n : Int), .slice x1 o.f.length x2, .slice y1 o.t.length y2, .int .u8 (o.m.toNat : Int), .int .u64 (o.u : Int)] 34)).drew _ _ o.f o.t (o.n : Int) (o.m.toNat : Int) (HO.out.1.below hba.drew (Nat.le_refl _)) (HO.out.2.1.below hba.drew (Nat.le_refl _))
        unfold lkV at hfew
        have BD := BX.drew
        clear hba
        go_upto_region 8 with fail
        obtain ⟨o1, o2, o3, o4, o5, o6⟩ := BD
        have h40i : (j : Int) < 40 := by omega
        go_region_held3 (fun w' => w'.cell? ⟨wr.heap.size, 1, none⟩ = some (.int .u64 (o.n : Int)) ∧ w'.cell? ⟨wr.heap.size, 2, none⟩ = some (.slice x1 o.f.length x2) ∧ w'.cell? ⟨wr.heap.size, 3, none⟩ = some (.slice y1 o.t.length y2) ∧ w'.cell? ⟨wr.heap.size, 4, none⟩ = some (.int .u8 (o.m.toNat : Int)) ∧ w'.cell? ⟨wr.heap.size, 5, none⟩ = some (.int .u64 (o.u : Int)))
          (first | with_reducible exact ⟨p2, p3, p4, p5, p6⟩ | with_reducible exact ⟨r2, r3, r4, r5, r6⟩ | with_reducible exact ⟨o2, o3, o4, o5, o6⟩)
          (first
            | (go_at_call 11; refine Calls.mono hfew ?_; rintro e wx ⟨x', y', rfl, ox, oy, hbx⟩
               obtain ⟨g1, k1, eg1⟩ := ox.rd.len
               obtain ⟨g2, k2, eg2⟩ := oy.rd.len
               obtain ⟨m1, hm1⟩ : ∃ z, (o.f.take 80).length = z := ⟨_, rfl⟩
               obtain ⟨m2, hm2⟩ : ∃ z, (o.t.take 80).length = z := ⟨_, rfl⟩
               rw [hm1] at eg1
               rw [hm2] at eg2
               subst eg1 eg2
               obtain ⟨r1, r2, r3, r4, r5, r6⟩ := HBX.out.drew.below hbx
               have HBx : Hid (Below wr.heap.size wr wx) := bsplit HBA.out.drew hbx
               have HXX : Hid (wr.heap.size < wx.heap.size ∧ mb < wr.heap.size) := ⟨World.block_lt_of_cell? _ _ r1, HJ.out.mp.lt⟩
               have hask := askx_any w1.heap.size (fun b => b = mb ∨ b = wr.heap.size) wx t 60 60 gs qs o.n o.m (.slice g1 m1 k1) (.slice g2 m2 k2) (o.f.take 80) (o.t.take 80) o.u ((HJ.out.tb.off (fun b hb => hb.elim .inl (fun h9 => .inr (by omega)))).below HBx.out) (fun b hb => by have := HXX.out; omega) (by have := HJ.out.ln; omega) ox.rd oy.rd HO.out.2.2.1 HO.out.2.2.2
               unfold lkV at hask
               clear hfew)
            | (go_at_call 15; refine Calls.mono hask ?_; rintro e w5 ⟨x2', y2', rfl, hk5, hx5⟩
               obtain ⟨p1, p2, p3, p4, p5, p6⟩ := (HBX.out.drew.below hbx).same (hk5.block _ HXX.out.1 (fun h9 => h9.2 (.inr rfl)))
               have hAk := HJ.out.li.ask (mo := 60) (ea := 60) ⟨o.n, o.f.take 80, o.t.take 80, o.m, .slice g1 m1 k1, .slice g2 m2 k2⟩ ⟨o.n, o.f.take 80, o.t.take 80, o.m, x2', y2'⟩ o.u rfl
               obtain ⟨A, hA⟩ : ∃ A, askB 60 60 gs qs ⟨o.n, o.f.take 80, o.t.take 80, o.m, .slice g1 m1 k1, .slice g2 m2 k2⟩ ⟨o.n, o.f.take 80, o.t.take 80, o.m, x2', y2'⟩ o.u = A := ⟨_, rfl⟩
               rw [hA] at hAk hx5 ⊢
               obtain ⟨c, gs', qs'⟩ := A
               have HAk : Hid ((c = 3 → LateI gs' qs' (fun x => if x = o.n then o.u else f x)) ∧ (c ≠ 3 → LateI gs' qs' f) ∧ gs'.length + qs'.length ≤ gs.length + qs.length + 1) := hAk
               have HX5 : Hid (LkX w1.heap.size (fun b => b = mb ∨ b = wr.heap.size) w5 t 60 60 gs' qs' ∧ MapF w5 mb n f ∧ Below w1.heap.size w1 w5) := ⟨hx5, (HJ.out.mp.below HBx.out).same (hk5.block mb (Nat.lt_trans HXX.out.2 HXX.out.1) (fun h9 => h9.2 (.inl rfl))), (HJ.out.hb.trans (HBx.out.mono HJ.out.hb.size)).trans (hk5.below (fun i h9 => h9.1) (Nat.le_trans HJ.out.hb.size HBx.out.size))⟩
               clear hask hAk hA hx5 hk5)
            | fail)
        clear o1 o2 o3 o4 o5 o6 r1 r2 r3 r4 r5 r6 ox oy hbx
        by_cases hc : c = 3
        · subst hc
          obtain ⟨D, hm, hat⟩ := HX5.out.2.1
          have HD : Hid (∀ k, k < 18446744073709551616 → D.atKey (litU k) (.lit (.int .u64 0)) = .lit (.int .u64 (f k : Int))) := hat
          have HM : Hid (w5.ownsMap Try.prog 29 (plainElem Try.prog 29) mb n D) := hm
          have hou := HO.out.2.2.2
          clear hat
          go_wp2_with (first | (at_mapUpdate; refine wpList_mapUpdate_own _ rfl _ _ _ 51 rfl 29 29 (int_keyed Try.underlying29) Try.underlying51 _ mb n D rfl hm (by have := HJ.out.ln; unfold maxLen; omega) _ _ _ rfl rfl (keyU HO.out.2.2.1) (.lit (.int .u64 (o.u : Int))) [] (plainElem_int Try.underlying29 (WalkArith.wf_u64 (by omega))) ?_; intro w6 hown6 hgrow6) | fail)
          have HN : Hid (LtI w1.heap.size mb w1 w6 t (j + 1) (n + 1) gs' qs' (fun x => if x = o.n then o.u else f x)) := by
            have hk6 : Keeps (fun b => b = mb) w5 w6 := keeps_grown9 hgrow6
            refine ⟨HX5.out.2.2.trans (hk6.below (fun i e => by rw [e]; exact HMB.out) HX5.out.2.2.size), (HX5.out.1.off (fun b hb => .inl (.inl hb))).keeps hk6 (fun b hb => hb), MapF.put HM.out HD.out hown6, HAk.out.1 trivial, ?_, ?_⟩
            · have h1 := HAk.out.2.2; have h2 := HJ.out.lj; have h3 := HJ.out.ln; omega
            · have h1 := HAk.out.2.2; have h2 := HJ.out.lj; omega
          clear hm hown6 hgrow6
          go_roundg (gk - 1)
          case measure => exact q1
          case rel => exact ⟨j + 1, q2, by go_num, _, _, _, _, HN.out⟩
        · have hc3 : (c == 3) = false := by simpa using hc
          have HN : Hid (LtI w1.heap.size mb w1 w5 t (j + 1) n gs' qs' f) := by
            refine ⟨HX5.out.2.2, HX5.out.1.off (fun b hb => .inl (.inl hb)), HX5.out.2.1, HAk.out.2.1 hc, ?_, ?_⟩
            · have h1 := HAk.out.2.2; have h2 := HJ.out.lj; have h3 := HJ.out.ln; omega
            · have h1 := HAk.out.2.2; have h2 := HJ.out.lj; omega
          clear hc
          go_wp2_with fail
          go_roundg (gk - 1)
          case measure => exact q1
          case rel => exact ⟨j + 1, q2, by go_num, _, _, _, _, HN.out⟩
      · have h40i : ¬ (j : Int) < 40 := by omega
        have h40d : ((j : Int) < 40) = False := eq_false h40i
        clear h40i
        clear hba BX
        go_upto_region 8 with fail
        go_quiet (fail)
        go_wp2_with fail
        have HN : Hid (∀ k, LtI w1.heap.size mb w1 ((wr.alloc (.cells #[.int .u8 d0, .int .u64 (o.n : Int), .slice x1 o.f.length x2, .slice y1 o.t.length y2, .int .u8 (o.m.toNat : Int), .int .u64 (o.u : Int)] 34)).drewN k) t (j + 1) n gs qs f) := fun k => by
          have h8 := HBA.out
          have h9 := below_drewN HBA.out k
          exact ⟨HJ.out.hb.trans (h9.mono HJ.out.hb.size), HJ.out.tb.below h9, HJ.out.mp.below h9, HJ.out.li, HJ.out.ln, by have := HJ.out.lj; omega⟩
        go_roundg (gk - 1)
        case measure => exact q1
        case rel => exact ⟨j + 1, q2, by go_num, _, _, _, _, HN.out _⟩
    · have hjN : j = N := by omega
      subst hjN
      obtain ⟨n, gs, qs, f, hI⟩ := HI.out
      have HJ : Hid (LtI w1.heap.size mb w1 wr t j n gs qs f) := hI
      have hqu := queueq_any w1.heap.size wr t 60 60 gs qs hI.tb.q (by have := hI.ln; omega)
      clear hI HI
      go_wp2_with fail
      refine hqu.mono ?_
      rintro e w4 ⟨vb, rfl, hvb, hb4⟩
      obtain ⟨ba, bc, evb, _⟩ := row_slice9 hvb
      subst evb
      obtain ⟨nb, hnb⟩ : ∃ k, (qs.map (·.l.n)).length = k := ⟨_, rfl⟩
      have HVB : Hid (OwnU wr.heap.size w4 (.slice ba (qs.map (·.l.n)).length bc) (qs.map (·.l.n))) := hvb
      rw [hnb] at HVB ⊢
      have HB4 : Hid (Below wr.heap.size wr w4 ∧ (qs.map (·.l.n)).length = nb ∧ mb < wr.heap.size) := ⟨hb4, hnb, HJ.out.mp.lt⟩
      have htk := tickx_any w1.heap.size (fun b => b = mb ∨ (wr.heap.size ≤ b ∧ b < w4.heap.size)) w4 t 60 60 gs qs now ((HJ.out.tb.off (fun b hb => hb.elim .inl (fun h9 => .inr h9.1))).below hb4) (fun b hb => by have h8 := HB4.out.2.2; have h9 := hb4.size; omega) (by have := HJ.out.ln; omega)
      clear hqu hvb hb4 hnb
      go_wp2_with fail
      refine htk.mono ?_
      rintro e w5 ⟨v1, v2, rfl, hv1, hv2, hk5, hx5⟩
      obtain ⟨a1, c1, ev1, _, hc1⟩ := row_slice9 hv1
      obtain ⟨a2, c2, ev2, _, hc2⟩ := row_slice9 hv2
      subst ev1 ev2
      have HF5 : Hid (MapF w5 mb n f) := (HJ.out.mp.below HB4.out.1).same (hk5.block mb (Nat.lt_of_lt_of_le HB4.out.2.2 HB4.out.1.size) (fun h9 => h9.2 (.inl rfl)))
      have HR5 : Hid (RdU w5 (.slice ba nb bc) (qs.map (·.l.n))) := by
        refine row_mono9 (row_same9 HVB.out fun q hq => ?_) (Nat.zero_le _)
        have hl := HVB.out.lt q hq
        exact hk5.block q hl.2 (fun h9 => h9.2 (.inr hl))
      have HQ5 : Hid (LkQ w1.heap.size w5 t 60 60 (advB (restB qs now) gs [] []).1 (advB (restB qs now) gs [] []).2.1 ∧ (advB (restB qs now) gs [] []).2.1.length ≤ 1000) := ⟨hx5.q, by
        have h8 := (advB_perm (restB qs now) gs [] []).length_eq
        have h9 := List.length_filter_le (fun q : Rq => !decide (q.u ≤ now)) qs
        have h7 := HJ.out.ln
        simp only [List.nil_append, List.length_append] at h8
        have h6 : (restB qs now).length ≤ qs.length := h9
        omega⟩
      have HBW : Hid (Below w.heap.size w w5) := bsplit HB1.out (HJ.out.hb.trans ((HB4.out.1.mono HJ.out.hb.size).trans (hk5.below (fun i h9 => h9.1) (Nat.le_trans HJ.out.hb.size HB4.out.1.size))))
      have HFIN := HJ.out.li.fin now
      have HQU : Hid (∀ q ∈ qs, q.l.n < 18446744073709551616 ∧ q.u < 18446744073709551616) := HJ.out.tb.qu
      obtain ⟨L, hL⟩ : ∃ L, (lateB qs now).map (·.l.n) = L := ⟨_, rfl⟩
      obtain ⟨P, hP⟩ : ∃ P, (advB (restB qs now) gs [] []).2.2.map (·.l.n) = P := ⟨_, rfl⟩
      have HLQ : Hid ((∀ x ∈ L, x < 18446744073709551616) ∧ (∀ x ∈ P, x < 18446744073709551616) ∧ L.length ≤ 100 ∧ P.length ≤ 100) := by
        have h7 := HJ.out.ln
        have hap := advB_perm (restB qs now) gs [] []
        have h6 : (restB qs now).length ≤ qs.length := List.length_filter_le _ _
        have h5 : (lateB qs now).length ≤ qs.length := List.length_filter_le _ _
        have h8 := hap.length_eq
        simp only [List.nil_append, List.length_append] at h8
        refine ⟨fun x hx => ?_, fun x hx => ?_, by rw [← hL, List.length_map]; omega, by rw [← hP, List.length_map]; omega⟩
        · rw [← hL] at hx
          obtain ⟨r, hr, rfl⟩ := List.mem_map.1 hx
          exact (HQU.out r (List.mem_filter.1 hr).1).1
        · rw [← hP] at hx
          obtain ⟨r, hr, rfl⟩ := List.mem_map.1 hx
          have h4 := hap.mem_iff.1 (List.mem_append.2 (.inr hr))
          exact (HQU.out r (List.mem_filter.1 h4).1).1
      rw [hL] at hv1 HFIN ⊢
      rw [hP] at hv2 HFIN ⊢
      obtain ⟨N1, hN1⟩ : ∃ k, L.length = k := ⟨_, rfl⟩
      obtain ⟨N2, hN2⟩ : ∃ k, P.length = k := ⟨_, rfl⟩
      have HV1 : Hid (RdU w5 (.slice a1 L.length c1) L) := hv1
      have HV2 : Hid (RdU w5 (.slice a2 P.length c2) P) := hv2
      have HLN : Hid (L.length = N1 ∧ P.length = N2) := ⟨hN1, hN2⟩
      rw [hN1] at HV1 ⊢
      rw [hN2] at HV2 ⊢
      have HFI : Hid _ := HFIN
      have hmk2 : ∀ w : World, (Instr.makeMap 28 none).run Try.prog w = .ok (.map (some w.heap.size)) (w.alloc (.map #[] 0)) := fun w => run_makeMap _ w
      clear htk hv1 hv2 hk5 hx5 hL hP hN1 hN2 HFIN
      go_wp2_with fail
      have HG0 : Hid (Below w5.heap.size w5 (w5.alloc (.map #[] 0)) ∧ MapG (w5.alloc (.map #[] 0)) w5.heap.size 0 ([] : List Nat)) := ⟨below_box4 w5 _, MapG.made w5⟩
      generalize w5.alloc (.map #[] 0) = w6 at HG0 ⊢
      obtain ⟨mg, hmg⟩ : ∃ m, w5.heap.size = m := ⟨_, rfl⟩
      rw [hmg] at HG0 ⊢
      have HMG : Hid (w5.heap.size = mg) := hmg
      clear hmg
      go_loopg [66] N1 (fun gk iv wr => ∃ j : Nat, gk + j = N1 ∧ iv = .int .i64 (j : Int) ∧ Hid (Below mg w5 wr ∧ MapG wr mg j (L.take j)))
      case atStart => exact ⟨0, by omega, rfl, HG0.out⟩
      case round =>
        obtain ⟨i, hi, rfl, HG⟩ := hrel
        by_cases hlt1 : i < N1
        · obtain ⟨q1, q2⟩ := gk_nxt hi hlt1
          have hlt2 : i < L.length := by rw [HLN.out.1]; exact hlt1
          have hbm : Below w5.heap.size w5 wr := by rw [HMG.out]; exact HG.out.1
          obtain ⟨b1, c9, e9, _, k0⟩ := RdU.at (row_below HV1.out hbm) i hlt2
          rw [HLN.out.1] at e9
          cases e9
          have htk : L.take (i + 1) = L.take i ++ [L[i]] := List.take_succ_eq_append_getElem hlt2
          have hLi := HLQ.out.1 _ (List.getElem_mem hlt2)
          have hfi := HFI.out.1 _ (List.getElem_mem hlt2)
          obtain ⟨x, hx⟩ : ∃ x, L[i] = x := ⟨_, rfl⟩
          rw [hx] at k0 htk hLi hfi
          have HTK : Hid (L.take (i + 1) = L.take i ++ [x] ∧ x < 18446744073709551616) := ⟨htk, hLi⟩
          obtain ⟨D, hm, hat⟩ := HG.out.2
          have HD : Hid (∀ k, k < 18446744073709551616 → D.atKey (litU k) (.lit (.bool false)) = .lit (.bool (decide (k ∈ L.take i)))) := hat
          have HM : Hid (wr.ownsMap Try.prog 29 (plainElem Try.prog 4) mg i D) := hm
          have hN1 : N1 ≤ 100 := by rw [← HLN.out.1]; exact HLQ.out.2.2.1
          have hle : ¬ (now : Int) < (f x : Int) := by omega
          clear hat htk hx hfi hbm
          go_wp2_with (first
            | (at_mapUpdate
               refine wpList_mapUpdate_own _ rfl _ _ _ 28 rfl 29 4 (int_keyed Try.underlying29) Try.underlying28 _ mg i D rfl hm (by unfold maxLen; omega) _ _ _ rfl rfl (keyU HTK.out.2) (.lit (.bool true)) [] (plainElem_bool Try.underlying4 true) ?_
               intro w7 hown7 hgrow7
               have HG7 : Hid (Below mg w5 w7 ∧ MapG w7 mg (i + 1) (L.take (i + 1))) := ⟨HG.out.1.grown hgrow7 (Nat.le_trans (by rw [HMG.out]; exact Nat.le_refl _) HG.out.1.size) (fun k e => by cases e; exact Nat.le_refl _), by rw [HTK.out.1]; exact MapG.put HM.out HD.out hown7⟩
               have hlk := (HF5.out.below (show Below w5.heap.size w5 w7 by rw [HMG.out]; exact HG7.out.1)).look x HTK.out.2
               clear hm hown7 hgrow7)
            | fail)
          go_roundg (gk - 1)
          case measure => exact q1
          case rel => exact ⟨i + 1, q2, by go_num, HG7.out⟩
        · have hiN : i = N1 := by omega
          subst hiN
          have HG1 : Hid (Below mg w5 wr ∧ MapG wr mg i L) := ⟨HG.out.1, by have h := HG.out.2; rw [← HLN.out.1, List.take_length] at h; rw [← HLN.out.1]; exact h⟩
          clear HG
          go_wp2_with fail
          go_loopg [80] N2 (fun gk iv wr => ∃ j : Nat, gk + j = N2 ∧ iv = .int .i64 (j : Int) ∧ Hid (Below mg w5 wr ∧ MapG wr mg (i + j) (L ++ P.take j)))
          case atStart => exact ⟨0, by omega, rfl, HG1.out.1, by have h := HG1.out.2; rw [List.take_zero, List.append_nil]; exact h⟩
          case round =>
            obtain ⟨k, hk, rfl, HG⟩ := hrel
            by_cases hlt2 : k < N2
            · obtain ⟨q1, q2⟩ := gk_nxt hk hlt2
              have hlt3 : k < P.length := by rw [HLN.out.2]; exact hlt2
              have hbm : Below w5.heap.size w5 wr := by rw [HMG.out]; exact HG.out.1
              obtain ⟨b1, c9, e9, _, k0⟩ := RdU.at (row_below HV2.out hbm) k hlt3
              rw [HLN.out.2] at e9
              cases e9
              have htk : L ++ P.take (k + 1) = (L ++ P.take k) ++ [P[k]] := by rw [List.take_succ_eq_append_getElem hlt3, List.append_assoc]
              have hLi := HLQ.out.2.1 _ (List.getElem_mem hlt3)
              obtain ⟨x, hx⟩ : ∃ x, P[k] = x := ⟨_, rfl⟩
              rw [hx] at k0 htk hLi
              have HTK : Hid (L ++ P.take (k + 1) = (L ++ P.take k) ++ [x] ∧ x < 18446744073709551616) := ⟨htk, hLi⟩
              obtain ⟨D, hm, hat⟩ := HG.out.2
              have HD : Hid (∀ y, y < 18446744073709551616 → D.atKey (litU y) (.lit (.bool false)) = .lit (.bool (decide (y ∈ L ++ P.take k)))) := hat
              have HM : Hid (wr.ownsMap Try.prog 29 (plainElem Try.prog 4) mg (i + k) D) := hm
              have hN1 : i ≤ 100 ∧ N2 ≤ 100 := by rw [← HLN.out.1, ← HLN.out.2]; exact HLQ.out.2.2
              clear hat htk hx hbm
              go_wp2_with (first
                | (at_mapUpdate
                   refine wpList_mapUpdate_own _ rfl _ _ _ 28 rfl 29 4 (int_keyed Try.underlying29) Try.underlying28 _ mg (i + k) D rfl hm (by unfold maxLen; omega) _ _ _ rfl rfl (keyU HTK.out.2) (.lit (.bool true)) [] (plainElem_bool Try.underlying4 true) ?_
                   intro w7 hown7 hgrow7
                   have HG7 : Hid (Below mg w5 w7 ∧ MapG w7 mg (i + (k + 1)) (L ++ P.take (k + 1))) := ⟨HG.out.1.grown hgrow7 (Nat.le_trans (by rw [HMG.out]; exact Nat.le_refl _) HG.out.1.size) (fun k e => by cases e; exact Nat.le_refl _), by rw [HTK.out.1, ← Nat.add_assoc]; exact MapG.put HM.out HD.out hown7⟩
                   clear hm hown7 hgrow7)
                | fail)
              go_roundg (gk - 1)
              case measure => exact q1
              case rel => exact ⟨k + 1, q2, by go_num, HG7.out⟩
            · have hkN : k = N2 := by omega
              subst hkN
              have HG2 : Hid (Below mg w5 wr ∧ MapG wr mg (i + k) (L ++ P)) := by
                refine ⟨HG.out.1, ?_⟩
                have h := HG.out.2
                have e : P.take k = P := by rw [← HLN.out.2, List.take_length]
                rw [e] at h
                exact h
              clear HG
              go_wp2_with fail
              go_loopg [89] nb (fun gk iv wr => ∃ j : Nat, gk + j = nb ∧ iv = .int .i64 (j : Int) ∧ Hid (Below mg w5 wr ∧ MapG wr mg (i + k) (L ++ P)))
              case atStart => exact ⟨0, by omega, rfl, HG2.out⟩
              case round =>
                obtain ⟨z, hz, rfl, HG⟩ := hrel
                by_cases hltz : z < nb
                · obtain ⟨q1, q2⟩ := gk_nxt hz hltz
                  have hlt3 : z < (qs.map (·.l.n)).length := by rw [HB4.out.2.1]; exact hltz
                  have hbm : Below w5.heap.size w5 wr := by rw [HMG.out]; exact HG.out.1
                  have hr5 : RdU w5 (.slice ba (qs.map (·.l.n)).length bc) (qs.map (·.l.n)) := by rw [HB4.out.2.1]; exact HR5.out
                  obtain ⟨b1, c9, e9, _, k0⟩ := RdU.at (row_below hr5 hbm) z hlt3
                  rw [HB4.out.2.1] at e9
                  cases e9
                  have hfin := HFI.out.2 _ (List.getElem_mem hlt3)
                  have hxlt : (qs.map (·.l.n))[z] < 18446744073709551616 := by
                    obtain ⟨r, hr, e⟩ := List.mem_map.1 (List.getElem_mem hlt3)
                    rw [← e]
                    exact (HQU.out r hr).1
                  obtain ⟨x, hx⟩ : ∃ x, (qs.map (·.l.n))[z] = x := ⟨_, rfl⟩
                  rw [hx] at k0 hfin hxlt
                  have hwt := waitsq_any w1.heap.size wr t 60 60 _ _ x (HQ5.out.1.below hbm) HQ5.out.2
                  obtain ⟨r, hr⟩ : ∃ r, ((advB (restB qs now) gs [] []).2.1.any fun q => decide (q.l.n = x)) = r := ⟨_, rfl⟩
                  rw [hr] at hwt hfin
                  have HFN : Hid (r = !decide (x ∈ L ++ P) ∧ (r = true → now < f x) ∧ x < 18446744073709551616) := ⟨hfin.1, hfin.2, hxlt⟩
                  clear hr5 hbm hfin hx hr
                  go_wp2_with fail
                  refine hwt.mono ?_
                  rintro e w8 ⟨wn, wm, wa1, wa2, wl1, wc1, wl2, wc2, rfl, hb8⟩
                  have HB8 : Hid (Below wr.heap.size wr w8) := hb8
                  have hba := below_box4 w8 (.cells #[.int .u64 wn, .slice wa1 wl1 wc1, .slice wa2 wl2 wc2, .int .u8 wm] 32)
                  have hb9 : Below wr.heap.size wr (w8.alloc (.cells #[.int .u64 wn, .slice wa1 wl1 wc1, .slice wa2 wl2 wc2, .int .u8 wm] 32)) := bsplit hb8 hba
                  have HN9 : Hid (Below mg w5 (w8.alloc (.cells #[.int .u64 wn, .slice wa1 wl1 wc1, .slice wa2 wl2 wc2, .int .u8 wm] 32)) ∧ MapG (w8.alloc (.cells #[.int .u64 wn, .slice wa1 wl1 wc1, .slice wa2 wl2 wc2, .int .u8 wm] 32)) mg (i + k) (L ++ P)) := ⟨HG.out.1.trans (hb9.mono (Nat.le_trans (by rw [HMG.out]; exact Nat.le_refl _) HG.out.1.size)), HG.out.2.below hb9⟩
                  have hlk1 := HN9.out.2.look x HFN.out.2.2
                  have hlk2 := (HF5.out.below (show Below w5.heap.size w5 _ by rw [HMG.out]; exact HN9.out.1)).look x HFN.out.2.2
                  clear hwt hb8 hba hb9
                  cases r with
                  | true =>
                    have hd : decide (x ∈ L ++ P) = false := not9 HFN.out.1
                    rw [hd] at hlk1
                    have hlt9 : ¬ (f x : Int) ≤ (now : Int) := by have := HFN.out.2.1 rfl; omega
                    clear hd
                    go_wp2_with fail
                    go_roundg (gk - 1)
                    case measure => exact q1
                    case rel => exact ⟨z + 1, q2, by go_num, HN9.out⟩
                  | false =>
                    have hd : decide (x ∈ L ++ P) = true := not9 HFN.out.1
                    rw [hd] at hlk1
                    clear hd
                    go_wp2_with fail
                    go_roundg (gk - 1)
                    case measure => exact q1
                    case rel => exact ⟨z + 1, q2, by go_num, HN9.out⟩
                · have hzN : z = nb := by omega
                  subst hzN
                  have HBF : Hid (Below w.heap.size w wr) := bsplit HBW.out (show Below w5.heap.size w5 wr by rw [HMG.out]; exact HG.out.1)
                  go_wp2
                  go_ret
                  exact ⟨rfl, HBF.out⟩

theorem locksLate_walk (a : Option Addr) (len cap : Nat) (os : List LOp) (now : Int) (w : World) (ho : ArgLO w (.slice a len cap) os) (hn : (Lit.int .u64 now).wf = true) :
    Calls Try.prog 5 #[.slice a len cap, .int .u64 now] w fun e w' => e = .returned (.bool true) ∧ Below w.heap.size w w' := by
  have h1 := bounds_u64 hn
  obtain ⟨m, rfl⟩ := Int.eq_ofNat_of_zero_le h1.1
  exact llate m _ os w ho (by omega)

end Go.Proofs.Ytnnedoohppobpaa
