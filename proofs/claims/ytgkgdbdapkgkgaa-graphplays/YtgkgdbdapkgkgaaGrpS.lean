/- Several texts in one. -/
import Derived.Test.YtgkgdbdapkgkgaaKeepB
import Derived.BigQuiet
import Derived.Deep.DeepCutAuto
import Derived.Deep.CutBlock
import Derived.Test.YtgkgdbdapkgkgaaShelf
import Derived.Sort.LotD5
import Derived.Sort.LotD1
import Derived.Sort.WalkA14
import Derived.Laws.Bits64
import Derived.Sort.Row
import Derived.Laws.Bits64b

/- Rows of numbers. -/
namespace Go.Proofs.Ytgkgdbdapkgkgaa
set_option maxRecDepth 20000
open Go.RowKit
set_option linter.unusedVariables false
set_option linter.unusedSimpArgs false

theorem infoU64 : (Try.prog.info? 30).map (fun i => (i.zero, i.size, i.bytes)) = some (some (.int .u64 0), 1, 8) := by kernel_rfl

def encN (n : Nat) : Value := .int .u64 (n : Int)
/-- numbers in a row of one's own -/
def OwnU (B : Nat) (w : World) (v : Value) (ns : List Nat) : Prop := w.ownsRow B 30 1 v ns.length (ns.map encN)

/-- numbers, read -/
def RdU (w : World) (v : Value) (ns : List Nat) : Prop := w.ownsRow 0 30 1 v ns.length (ns.map encN)
theorem OwnU.rd {B : Nat} {w : World} {v : Value} {ns : List Nat} (h : OwnU B w v ns) : RdU w v ns := row_mono9 h (Nat.zero_le _)

theorem RdU.at {w : World} {v : Value} {ns : List Nat} (h : RdU w v ns) (j : Nat) (hj : j < ns.length) : ∃ b c, v = .slice (some ⟨b, 0, none⟩) ns.length c ∧ ns.length ≤ c ∧ w.cell? ⟨b, j, none⟩ = some (.int .u64 (ns[j] : Int)) := by
  have h' := h
  unfold RdU at h'
  rcases h'.2 with ⟨_, h0⟩ | ⟨b, c, cur, e, _, _, hc, _⟩
  · omega
  · subst e
    refine ⟨b, c, rfl, hc, ?_⟩
    rw [World.ownsRow.cellAt h' _ (by rw [Nat.mul_one]; exact hj), List.getElem?_map, List.getElem?_eq_getElem hj]
    rfl

end Go.Proofs.Ytgkgdbdapkgkgaa

/- bartizanref18.Same: two rows of numbers that are alike. -/
namespace Go.Proofs.Ytgkgdbdapkgkgaa
set_option maxRecDepth 100000
open Go.RowKit Go.Maps
set_option linter.unusedVariables false
set_option linter.unusedSimpArgs false

set_option maxHeartbeats 2000000 in
theorem sameU_any (w : World) (a b : Value) (ns : List Nat) (ha : RdU w a ns) (hb : RdU w b ns) :
    Calls Try.prog 14 #[a, b] w fun e w' => e = .returned (.bool true) ∧ Below w.heap.size w w' := by
  obtain ⟨a1, a2, rfl, ha1, ha2⟩ := row_slice9 ha
  obtain ⟨b1, b2, rfl, hb1, hb2⟩ := row_slice9 hb
  obtain ⟨N, hN⟩ : ∃ N, ns.length = N := ⟨_, rfl⟩
  have HA : Hid (RdU w (.slice a1 ns.length a2) ns ∧ RdU w (.slice b1 ns.length b2) ns) := ⟨ha, hb⟩
  have HN : Hid (ns.length = N) := hN
  rw [hN] at HA ha1 hb1 ⊢
  clear ha hb hN
  go_enter Try.func14, Try.ntmps14
  go_wp2_with fail
  go_loopg [13] N (fun gk iv wr => ∃ j : Nat, gk + j = N ∧ iv = .int .i64 (j : Int) ∧ Hid (Below w.heap.size w wr))
  case atStart => exact ⟨0, by omega, rfl, Below.refl _ _⟩
  case round =>
    obtain ⟨j, hj, rfl, HB⟩ := hrel
    by_cases hlt : j < N
    · have hlt2 : j < ns.length := by rw [HN.out]; exact hlt
      obtain ⟨g, c, e, _, c0⟩ := RdU.at (row_below HA.out.1 HB.out) j hlt2
      obtain ⟨g', c', e', _, c0'⟩ := RdU.at (row_below HA.out.2 HB.out) j hlt2
      rw [HN.out] at e e'
      cases e
      cases e'
      obtain ⟨q1, q2⟩ := gk_nxt hj hlt
      obtain ⟨z, hz⟩ : ∃ z : Int, (ns[j] : Int) = z := ⟨_, rfl⟩
      rw [hz] at c0 c0'
      have HB1 : Hid (∀ n, Below w.heap.size w (wr.drewN n)) := fun n => below_drewN HB.out n
      go_wp2_with fail
      go_quiet (fail)
      go_wp2_with fail
      go_roundg (gk - 1)
      case measure => exact q1
      case rel => exact ⟨j + 1, q2, by go_num, HB1.out _⟩
    · have hjN : j = N := by omega
      subst hjN
      go_wp2
      go_ret
      exact ⟨rfl, HB.out⟩

end Go.Proofs.Ytgkgdbdapkgkgaa

/- Rows of numbers that are sorted: what they hold, what swaps make of it; cmp.Less. -/
namespace Go.Proofs.Ytgkgdbdapkgkgaa
set_option maxRecDepth 20000
open Go.RowKit
set_option linter.unusedVariables false
set_option linter.unusedSimpArgs false

/-- a row of n numbers in block g -/
def RU (w : World) (g n : Nat) (f : Nat → Nat) : Prop := ∃ cs : Array Value, w.heap[g]? = some (.cells cs 30 (0, 0)) ∧ ∀ j, j < n → cs[j]? = some (.int .u64 (f j : Int))

theorem RU.cell {w : World} {g n : Nat} {f : Nat → Nat} (h : RU w g n f) {j : Nat} (hj : j < n) : w.cell? ⟨g, j, none⟩ = some (.int .u64 (f j : Int)) := by
  obtain ⟨cs, h1, h2⟩ := h
  rw [cell_of_row w g j cs _ _ h1]
  exact h2 j hj

theorem RU.froz {w : World} {g n : Nat} {f : Nat → Nat} (h : RU w g n f) (j : Nat) : w.frozen? ⟨g, j, none⟩ = false := by
  obtain ⟨cs, h1, h2⟩ := h
  exact frozen_of_row w g j cs _ h1

theorem RU.lt {w : World} {g n : Nat} {f : Nat → Nat} (h : RU w g n f) : g < w.heap.size := by
  obtain ⟨cs, h1, _⟩ := h
  exact (Array.getElem?_eq_some_iff.1 h1).1

def updF (f : Nat → Nat) (i v : Nat) : Nat → Nat := fun k => if k = i then v else f k
def swpF (f : Nat → Nat) (i j : Nat) : Nat → Nat := updF (updF f i (f j)) j (f i)

theorem RU.set {w : World} {g n : Nat} {f : Nat → Nat} (h : RU w g n f) {i : Nat} (hi : i < n) (v : Nat) : RU (w.setCell ⟨g, i, none⟩ (.int .u64 (v : Int))) g n (updF f i v) := by
  obtain ⟨cs, h1, h2⟩ := h
  refine ⟨cs.setIfInBounds i (.int .u64 (v : Int)), heap_setCell_same w g i cs _ _ h1, fun j hj => ?_⟩
  have hc := h2 j hj
  have hlt : j < cs.size := (Array.getElem?_eq_some_iff.1 hc).1
  unfold updF
  by_cases e : j = i
  · subst e
    rw [if_pos rfl, Array.getElem?_setIfInBounds_self_of_lt hlt]
  · rw [if_neg e, Array.getElem?_setIfInBounds_ne (fun h => e h.symm)]
    exact hc

/-- nothing but block g has turned, and that has as many cells as it had -/
structure KU (g : Nat) (w w' : World) : Prop extends Keeps (fun b => b = g) w w' where
  rs : ∀ cs t fr, w.heap[g]? = some (.cells cs t fr) → ∃ cs', w'.heap[g]? = some (.cells cs' t fr) ∧ cs'.size = cs.size

theorem KU.refl (g : Nat) (w : World) : KU g w w := ⟨Keeps.refl _ _, fun cs _ _ h => ⟨cs, h, rfl⟩⟩
theorem KU.trans {g : Nat} {a b c : World} (h : KU g a b) (k : KU g b c) : KU g a c :=
  ⟨⟨k.os.trans h.os, k.tape.trans h.tape, k.output.trans h.output, Nat.le_trans h.size k.size, fun i hi hn => (k.block i (Nat.lt_of_lt_of_le hi h.size) hn).trans (h.block i hi hn)⟩, fun cs t fr h0 => by
    obtain ⟨c1, h1, e1⟩ := h.rs cs t fr h0
    obtain ⟨c2, h2, e2⟩ := k.rs c1 t fr h1
    exact ⟨c2, h2, e2.trans e1⟩⟩
theorem KU.set {g : Nat} {a w : World} (h : KU g a w) (i : Nat) (u : Value) : KU g a (w.setCell ⟨g, i, none⟩ u) :=
  h.trans ⟨⟨rfl, rfl, rfl, by simp, fun k _ hk => Below.heap_setCell _ _ _ _ (by simpa using hk)⟩, fun cs t fr h0 => ⟨cs.setIfInBounds i u, by simp [World.setCell, Array.getElem?_modify, h0], by simp⟩⟩
theorem KU.drewN {g : Nat} {a w : World} (h : KU g a w) (n : Nat) : KU g a (w.drewN n) := h.trans ⟨⟨rfl, rfl, rfl, Nat.le_refl _, fun _ _ _ => rfl⟩, fun cs _ _ h0 => ⟨cs, h0, rfl⟩⟩
theorem RU.drewN {w : World} {g n : Nat} {f : Nat → Nat} (h : RU w g n f) (k : Nat) : RU (w.drewN k) g n f := h
theorem RU.keeps {w w' : World} {g n q : Nat} {f : Nat → Nat} (h : RU w g n f) (hk : KU q w w') (hne : g ≠ q) : RU w' g n f := by
  obtain ⟨cs, h1, h2⟩ := h
  exact ⟨cs, (hk.block g (Array.getElem?_eq_some_iff.1 h1).1 hne).trans h1, h2⟩

/-- how often a value stands among the first n -/
def cntF (f : Nat → Nat) (v : Nat) : Nat → Nat
  | 0 => 0
  | k + 1 => cntF f v k + if f k = v then 1 else 0

theorem cntF_congr {f g : Nat → Nat} {v : Nat} : ∀ n, (∀ k, k < n → g k = f k) → cntF g v n = cntF f v n := by
  intro n
  induction n with
  | zero => intro _; rfl
  | succ n ih =>
    intro h
    show cntF g v n + _ = cntF f v n + _
    rw [ih (fun k hk => h k (by omega)), h n (by omega)]

theorem cntF_upd (f : Nat → Nat) (v i x : Nat) : ∀ n, i < n → cntF (updF f i x) v n + (if f i = v then 1 else 0) = cntF f v n + (if x = v then 1 else 0) := by
  intro n
  induction n with
  | zero => intro h; omega
  | succ n ih =>
    intro h
    show cntF (updF f i x) v n + _ + _ = cntF f v n + _ + _
    by_cases e : i = n
    · subst e
      rw [cntF_congr (f := f) (g := updF f i x) i (fun k hk => by unfold updF; rw [if_neg (by omega)])]
      have : updF f i x i = x := by unfold updF; rw [if_pos rfl]
      rw [this]
      omega
    · have h1 := ih (by omega)
      have : updF f i x n = f n := by unfold updF; rw [if_neg (fun h => e h.symm)]
      rw [this]
      omega

theorem cntF_swp (f : Nat → Nat) (v i j n : Nat) (hi : i < n) (hj : j < n) : cntF (swpF f i j) v n = cntF f v n := by
  unfold swpF
  have h1 := cntF_upd f v i (f j) n hi
  have h2 := cntF_upd (updF f i (f j)) v j (f i) n hj
  have e : updF f i (f j) j = f j := by unfold updF; by_cases h : j = i <;> simp [h]
  rw [e] at h2
  omega

theorem cntF_mono (f : Nat → Nat) (v : Nat) {a b : Nat} (h : a ≤ b) : cntF f v a ≤ cntF f v b := by
  induction b with
  | zero => have : a = 0 := by omega
            subst this; exact Nat.le_refl _
  | succ b ih =>
    by_cases e : a = b + 1
    · subst e; exact Nat.le_refl _
    · have := ih (by omega)
      show _ ≤ cntF f v b + _
      omega

theorem cntF_ex (f : Nat → Nat) (v a : Nat) : ∀ b, cntF f v a < cntF f v b → ∃ k, a ≤ k ∧ k < b ∧ f k = v := by
  intro b
  induction b with
  | zero => intro h; have := cntF_mono f v (Nat.zero_le a); have e : cntF f v 0 = 0 := rfl; omega
  | succ b ih =>
    intro h
    by_cases hb : cntF f v a < cntF f v b
    · obtain ⟨k, h1, h2, h3⟩ := ih hb
      exact ⟨k, h1, by omega, h3⟩
    · have h' : cntF f v a < cntF f v b + if f b = v then 1 else 0 := h
      by_cases e : f b = v
      · refine ⟨b, ?_, by omega, e⟩
        by_cases hab : a ≤ b
        · exact hab
        · have := cntF_mono f v (show b + 1 ≤ a by omega)
          have e2 : cntF f v (b + 1) = cntF f v b + if f b = v then 1 else 0 := rfl
          rw [if_pos e] at e2 h'
          omega
      · rw [if_neg e] at h'
        omega

/-- from a to b it is turned about, elsewhere it stays -/
structure SwP (a b : Nat) (f g : Nat → Nat) : Prop where
  out : ∀ k, k < a ∨ b ≤ k → g k = f k
  cnt : ∀ n v, b ≤ n → cntF g v n = cntF f v n

theorem SwP.refl (a b : Nat) (f : Nat → Nat) : SwP a b f f := ⟨fun _ _ => rfl, fun _ _ _ => rfl⟩
theorem SwP.trans {a b : Nat} {f g h : Nat → Nat} (h1 : SwP a b f g) (h2 : SwP a b g h) : SwP a b f h :=
  ⟨fun k hk => (h2.out k hk).trans (h1.out k hk), fun n v hn => (h2.cnt n v hn).trans (h1.cnt n v hn)⟩
theorem SwP.wide {a b a' b' : Nat} {f g : Nat → Nat} (h : SwP a b f g) (ha : a' ≤ a) (hb : b ≤ b') : SwP a' b' f g :=
  ⟨fun k hk => h.out k (by omega), fun n v hn => h.cnt n v (by omega)⟩
theorem SwP.swp {a b i j : Nat} (f : Nat → Nat) (hi : a ≤ i ∧ i < b) (hj : a ≤ j ∧ j < b) : SwP a b f (swpF f i j) :=
  ⟨fun k hk => by unfold swpF updF; rw [if_neg (by omega), if_neg (by omega)], fun n v hn => cntF_swp f v i j n (by omega) (by omega)⟩

/-- what stands there stood there -/
theorem SwP.src {a b : Nat} {f g : Nat → Nat} (h : SwP a b f g) {k : Nat} (h1 : a ≤ k) (h2 : k < b) : ∃ l, a ≤ l ∧ l < b ∧ f l = g k := by
  have hab : a ≤ b := by omega
  have e1 := h.cnt b (g k) (Nat.le_refl _)
  have e2 : cntF g (g k) a = cntF f (g k) a := cntF_congr a (fun i hi => h.out i (.inl hi))
  have e3 : cntF g (g k) a < cntF g (g k) b := by
    have m1 := cntF_mono g (g k) h1
    have m2 := cntF_mono g (g k) (show k + 1 ≤ b by omega)
    have m3 : cntF g (g k) (k + 1) = cntF g (g k) k + if g k = g k then 1 else 0 := rfl
    rw [if_pos rfl] at m3
    omega
  exact cntF_ex f (g k) a b (by omega)

def SrtP (a b : Nat) (g : Nat → Nat) : Prop := ∀ i j, a ≤ i → i ≤ j → j < b → g i ≤ g j

theorem nan_any (w : World) (x : Int) : Calls Try.prog 56 #[.int .u64 x] w fun e w' => e = .returned (.bool false) ∧ w' = w := by
  go_enter Try.func56, Try.ntmps56
  go_wp2
  go_ret
  exact ⟨by simp, rfl⟩

theorem lessU_any (w : World) (x y : Int) (r : Bool) (hr : decide (x < y) = r) : Calls Try.prog 46 #[.int .u64 x, .int .u64 y] w fun e w' => e = .returned (.bool r) ∧ w' = w := by
  have h1 := nan_any w x
  have h2 := nan_any w y
  have HR : Hid (decide (x < y) = r) := hr
  clear hr
  go_enter Try.func46, Try.ntmps46
  go_wp2_with fail
  refine h1.mono ?_
  rintro e w1 ⟨rfl, rfl⟩
  clear h1
  go_wp2
  go_ret
  exact ⟨by rw [← HR.out]; rfl, rfl⟩

end Go.Proofs.Ytgkgdbdapkgkgaa

/- insertionSortOrdered of numbers. -/
namespace Go.Proofs.Ytgkgdbdapkgkgaa
set_option maxRecDepth 100000
open Go.RowKit
set_option linter.unusedVariables false
set_option linter.unusedSimpArgs false

/-- sorted from a to i, but for what stands at j, which is below all behind it -/
structure InsI (a i j : Nat) (g : Nat → Nat) : Prop where
  oth : ∀ p q, a ≤ p → p ≤ q → q ≤ i → p ≠ j → q ≠ j → g p ≤ g q
  abv : ∀ q, j < q → q ≤ i → g j ≤ g q
  pos : a ≤ j ∧ j ≤ i

theorem InsI.start {a i : Nat} {g : Nat → Nat} (h : SrtP a i g) (ha : a ≤ i) : InsI a i i g :=
  ⟨fun p q h1 h2 h3 h4 h5 => h p q h1 h2 (by omega), fun q h1 h2 => by omega, ha, Nat.le_refl _⟩

theorem swpF_l (f : Nat → Nat) {i j : Nat} (h : i ≠ j) : swpF f i j i = f j := by unfold swpF updF; rw [if_neg h, if_pos rfl]
theorem swpF_r (f : Nat → Nat) (i j : Nat) : swpF f i j j = f i := by unfold swpF updF; rw [if_pos rfl]
theorem swpF_o (f : Nat → Nat) {i j k : Nat} (h1 : k ≠ i) (h2 : k ≠ j) : swpF f i j k = f k := by unfold swpF updF; rw [if_neg h2, if_neg h1]
theorem swpF_comm (f : Nat → Nat) {i j : Nat} (h : i ≠ j) : updF (updF f j (f i)) i (f j) = swpF f i j := by
  funext k
  unfold swpF updF
  by_cases h1 : k = i
  · subst h1; simp [h]
  · by_cases h2 : k = j
    · subst h2; simp [h1]
    · simp [h1, h2]

theorem InsI.step {a i m : Nat} {g : Nat → Nat} (h : InsI a i (m + 1) g) (hm : a ≤ m) (hl : g (m + 1) < g m) : InsI a i m (swpF g (m + 1) m) := by
  have hp := h.pos
  have e1 : swpF g (m + 1) m (m + 1) = g m := swpF_l g (by omega)
  have e2 : swpF g (m + 1) m m = g (m + 1) := swpF_r g _ _
  have e3 : ∀ k, k ≠ m + 1 → k ≠ m → swpF g (m + 1) m k = g k := fun k h1 h2 => swpF_o g h1 h2
  refine ⟨fun p q h1 h2 h3 h4 h5 => ?_, fun q h1 h2 => ?_, hm, by omega⟩
  · by_cases hpm : p = m + 1
    · subst hpm
      rw [e1]
      by_cases hqm : q = m + 1
      · subst hqm; rw [e1]; exact Nat.le_refl _
      · rw [e3 q hqm h5]
        exact h.oth m q hm (by omega) h3 (by omega) hqm
    · rw [e3 p hpm h4]
      by_cases hqm : q = m + 1
      · subst hqm
        rw [e1]
        exact h.oth p m h1 (by omega) (by omega) hpm (by omega)
      · rw [e3 q hqm h5]
        exact h.oth p q h1 h2 h3 hpm hqm
  · rw [e2]
    by_cases hqm : q = m + 1
    · subst hqm; rw [e1]; exact Nat.le_of_lt hl
    · rw [e3 q hqm (by omega)]
      exact h.abv q (by omega) h2

theorem InsI.stop {a i j : Nat} {g : Nat → Nat} (h : InsI a i j g) (hs : j = a ∨ ∃ m, j = m + 1 ∧ ¬ g j < g m) : SrtP a (i + 1) g := by
  intro p q h1 h2 h3
  have hp := h.pos
  by_cases e1 : p = j
  · subst e1
    by_cases e2 : q = p
    · subst e2; exact Nat.le_refl _
    · exact h.abv q (by omega) (by omega)
  · by_cases e2 : q = j
    · subst e2
      rcases hs with hs | ⟨m, rfl, hs⟩
      · omega
      · exact Nat.le_trans (h.oth p m h1 (by omega) (by omega) e1 (by omega)) (by omega)
    · exact h.oth p q h1 h2 (by omega) e1 e2

theorem srt_one (a : Nat) (f : Nat → Nat) : SrtP a (a + 1) f := by
  intro i j h1 h2 h3
  have : i = j := by omega
  subst this
  exact Nat.le_refl _

set_option maxHeartbeats 2000000 in
theorem insU_any (w : World) (g n cap a b : Nat) (f : Nat → Nat) (h : RU w g n f) (hab : a ≤ b) (hbn : b ≤ n) (hn : n < 4611686018427387904) :
    Calls Try.prog 40 #[.slice (some ⟨g, 0, none⟩) n cap, .int .i64 (a : Int), .int .i64 (b : Int)] w fun e w' => e = .returned (.tuple #[]) ∧ ∃ f', RU w' g n f' ∧ KU g w w' ∧ SwP a b f f' ∧ SrtP a b f' := by
  have H : Hid (RU w g n f) := h
  clear h
  go_enter Try.func40, Try.ntmps40
  go_wp2_with fail
  go_loopg [6] (b - a) (fun gk iv wr => ∃ i : Nat, gk + i = b + 1 ∧ a + 1 ≤ i ∧ iv = .int .i64 (i : Int) ∧ Hid (∃ f', RU wr g n f' ∧ KU g w wr ∧ SwP a b f f' ∧ SrtP a i f'))
  case atStart => exact ⟨a + 1, by omega, Nat.le_refl _, by go_num, f, H.out, KU.refl _ _, SwP.refl _ _ _, srt_one a f⟩
  case round =>
    obtain ⟨i, hi, hai, rfl, HI⟩ := hrel
    by_cases hlt : i < b
    · have q1 : gk - 1 < gk := by omega
      have q2 : gk - 1 + (i + 1) = b + 1 := by omega
      obtain ⟨G0, hG0⟩ : ∃ G, gk - 1 = G := ⟨_, rfl⟩
      rw [hG0] at q1 q2
      obtain ⟨G00, hG00⟩ : ∃ G, gk = G := ⟨_, rfl⟩
      rw [hG00] at q1
      have hltI : (i : Int) < (b : Int) := by omega
      go_wp2_with fail
      try rw [show decide ((i : Int) < (b : Int)) = true from decide_eq_true (by omega)]
      go_loopg [7] i (fun gk jv wr => ∃ j : Nat, gk = j ∧ jv = .int .i64 (j : Int) ∧ Hid (∃ f', RU wr g n f' ∧ KU g w wr ∧ SwP a b f f' ∧ InsI a i j f'))
      case atStart =>
        obtain ⟨f', h1, h2, h3, h4⟩ := HI.out
        exact ⟨i, rfl, rfl, f', h1, h2, h3, InsI.start h4 (by omega)⟩
      case round =>
        obtain ⟨j, rfl, rfl, HJ⟩ := hrel
        obtain ⟨f', hru, hku, hsw, hin⟩ := HJ.out
        have hpos := hin.pos
        by_cases hja : a < gk
        · obtain ⟨m, hm⟩ : ∃ m, gk = m + 1 := ⟨gk - 1, by omega⟩
          obtain ⟨j, hjg⟩ : ∃ j, gk = j := ⟨_, rfl⟩
          rw [hjg] at hm hin hja hpos ⊢
          have c0 := hru.cell (j := j) (by omega)
          have c1 := hru.cell (j := m) (by omega)
          have HF : Hid (RU wr g n f' ∧ KU g w wr ∧ SwP a b f f' ∧ InsI a i j f' ∧ j = m + 1 ∧ a ≤ m ∧ j ≤ i ∧ gk = j) := ⟨hru, hku, hsw, hin, hm, by omega, hpos.2, hjg⟩
          obtain ⟨r, hr⟩ : ∃ r, decide ((f' j : Int) < (f' m : Int)) = r := ⟨_, rfl⟩
          have hle : ∀ W : World, Calls Try.prog 46 #[.int .u64 (f' j : Int), .int .u64 (f' m : Int)] W fun e w' => e = .returned (.bool r) ∧ ∃ n, w' = W.drewN n := fun W => (lessU_any W _ _ r hr).mono fun e w' h => ⟨h.1, 0, by rw [h.2]; rfl⟩
          have HR : Hid (decide ((f' j : Int) < (f' m : Int)) = r) := hr
          have hg1 : (a : Int) < (j : Int) := by omega
          have hjm : (j : Int) - 1 = (m : Int) := by omega
          have hmn : (j : Int) < (n : Int) := by omega
          have hmn2 : (m : Int) < (n : Int) := by omega
          clear hru hku hsw hin hr HJ hpos hm hja
          go_upto_region 4 with fail
          go_quiet (first | (go_at_call 46; refine Calls.quiet_of (hle _)) | fail)
          have hne : ¬ j = m := by have := HF.out.2.2.2.2.1; omega
          have hne2 : ¬ m = j := fun e => hne e.symm
          have hz0 := HF.out.1.froz j
          have hz1 := HF.out.1.froz m
          cases r with
          | true =>
            have hlt9 : f' j < f' m := by have := of_decide_eq_true HR.out; omega
            go_upto_region 6 with fail
            go_region
            go_wp2_with fail
            obtain ⟨h1, h2, h3, h4, h5, h6, h7, h8⟩ := HF.out
            go_roundg m
            case measure => omega
            case rel =>
              refine ⟨m, rfl, by go_num, swpF f' j m, ((h1.drewN _).set (by omega) _).set (by omega) _, ((h2.drewN _).set _ _).set _ _, h3.trans (SwP.swp f' (by omega) (by omega)), ?_⟩
              subst h5
              exact h4.step h6 hlt9
          | false =>
            have HI2 : Hid (∃ f'', RU (wr.drewN nq) g n f'' ∧ KU g w (wr.drewN nq) ∧ SwP a b f f'' ∧ SrtP a (i + 1) f'') := by
              obtain ⟨h1, h2, h3, h4, h5, _⟩ := HF.out
              exact ⟨f', h1.drewN _, h2.drewN _, h3, h4.stop (.inr ⟨m, h5, fun h9 => by have := of_decide_eq_false HR.out; omega⟩)⟩
            go_wp2_with fail
            go_roundg G0
            case measure => omega
            case rel => exact ⟨i + 1, q2, by omega, by go_num, HI2.out⟩
        · have hg1 : ¬ (a : Int) < (gk : Int) := by omega
          have hg2 : ((a : Int) < (gk : Int)) = False := eq_false hg1
          have HF : Hid (RU wr g n f' ∧ KU g w wr ∧ SwP a b f f' ∧ InsI a i gk f' ∧ gk = a) := ⟨hru, hku, hsw, hin, by omega⟩
          clear hru hku hsw hin HJ hg1
          go_upto_region 4 with fail
          go_quiet (fail)
          have HI2 : Hid (∃ f'', RU (wr.drewN nq) g n f'' ∧ KU g w (wr.drewN nq) ∧ SwP a b f f'' ∧ SrtP a (i + 1) f'') := by
            obtain ⟨h1, h2, h3, h4, h5⟩ := HF.out
            exact ⟨f', h1.drewN _, h2.drewN _, h3, h4.stop (.inl h5)⟩
          go_wp2_with fail
          go_roundg G0
          case measure => omega
          case rel => exact ⟨i + 1, q2, by omega, by go_num, HI2.out⟩
    · have hbi : ¬ (i : Int) < (b : Int) := by omega
      obtain ⟨f', h1, h2, h3, h4⟩ := HI.out
      have HE : Hid (∃ f', RU wr g n f' ∧ KU g w wr ∧ SwP a b f f' ∧ SrtP a b f') := ⟨f', h1, h2, h3, fun p q a1 a2 a3 => h4 p q a1 a2 (by omega)⟩
      clear h1 h2 h3 h4 HI
      go_wp2
      go_end0
      exact ⟨rfl, HE.out⟩

end Go.Proofs.Ytgkgdbdapkgkgaa

/- partialInsertionSortOrdered of numbers. -/
namespace Go.Proofs.Ytgkgdbdapkgkgaa
set_option maxRecDepth 100000
open Go.RowKit
set_option linter.unusedVariables false
set_option linter.unusedSimpArgs false

theorem SrtP.ext {a i : Nat} {h : Nat → Nat} (H : SrtP a i h) (hai : a + 1 ≤ i) (hl : ¬ h i < h (i - 1)) : SrtP a (i + 1) h := by
  intro p q h1 h2 h3
  by_cases e : q = i
  · subst e
    by_cases e2 : p = q
    · subst e2; exact Nat.le_refl _
    · exact Nat.le_trans (H p (q - 1) h1 (by omega) (by omega)) (by omega)
  · exact H p q h1 h2 (by omega)

theorem SrtP.sub {a b c : Nat} {h : Nat → Nat} (H : SrtP a b h) (hc : c ≤ b) : SrtP a c h := fun p q h1 h2 h3 => H p q h1 h2 (by omega)
theorem SrtP.same {a b : Nat} {h h' : Nat → Nat} (H : SrtP a b h) (e : ∀ k, a ≤ k → k < b → h' k = h k) : SrtP a b h' := fun p q h1 h2 h3 => by
  rw [e p h1 (by omega), e q (by omega) h3]
  exact H p q h1 h2 h3

/-- what stands ahead of the row is below all of it, whatever was turned -/
theorem low_sw {a b : Nat} {f h : Nat → Nat} (hlow : ∀ k, 1 ≤ a → a ≤ k → k < b → f (a - 1) ≤ f k) (hs : SwP a b f h) : ∀ k, 1 ≤ a → a ≤ k → k < b → h (a - 1) ≤ h k := by
  intro k h1 h2 h3
  obtain ⟨l, q1, q2, q3⟩ := hs.src h2 h3
  rw [hs.out (a - 1) (.inl (by omega)), ← q3]
  exact hlow l h1 q1 q2

set_option maxHeartbeats 2000000 in
theorem pisU_any (w : World) (g n cap a b : Nat) (f : Nat → Nat) (h : RU w g n f) (hab : a + 1 ≤ b) (hbn : b ≤ n) (hn : n < 1152921504606846976) (hlow : ∀ k, 1 ≤ a → a ≤ k → k < b → f (a - 1) ≤ f k) :
    Calls Try.prog 45 #[.slice (some ⟨g, 0, none⟩) n cap, .int .i64 (a : Int), .int .i64 (b : Int)] w fun e w' => ∃ r f', e = .returned (.bool r) ∧ RU w' g n f' ∧ KU g w w' ∧ SwP a b f f' ∧ (r = true → SrtP a b f') := by
  have H : Hid (RU w g n f) := h
  have HL : Hid (∀ k, 1 ≤ a → a ≤ k → k < b → f (a - 1) ≤ f k) := hlow
  obtain ⟨D, hD⟩ : ∃ D, b - a = D := ⟨_, rfl⟩
  have eD : (b : Int) - (a : Int) = (D : Int) := by omega
  have yD : D < 1152921504606846976 := by omega
  have ya : a < 1152921504606846976 := by omega
  have yb : b < 1152921504606846976 := by omega
  obtain ⟨A1, hA1⟩ : ∃ A1, a + 1 = A1 := ⟨_, rfl⟩
  have eA1 : (a : Int) + 1 = (A1 : Int) := by omega
  have yA1 : A1 < 1152921504606846976 := by omega
  have HA : Hid (a + 1 = A1 ∧ A1 ≤ b ∧ b ≤ n ∧ n < 1152921504606846976 ∧ b - a = D) := ⟨hA1, by omega, hbn, hn, hD⟩
  clear h hlow hD hA1
  go_enter Try.func45, Try.ntmps45
  go_wp2_with fail
  go_loopg [7, 8] 5 (fun gk iv jv wr => ∃ i jo : Nat, gk + jo = 5 ∧ A1 ≤ i ∧ i ≤ b ∧ iv = .int .i64 (i : Int) ∧ jv = .int .i64 (jo : Int) ∧ Hid (∃ h, RU wr g n h ∧ KU g w wr ∧ SwP a b f h ∧ SrtP a i h))
  case atStart => exact ⟨A1, 0, rfl, Nat.le_refl _, HA.out.2.1, rfl, rfl, f, H.out, KU.refl _ _, SwP.refl _ _ _, by rw [← HA.out.1]; exact srt_one a f⟩
  case round =>
    obtain ⟨i0, jo, hgk, hai, hib, rfl, rfl, HI⟩ := hrel
    obtain ⟨G1, hG1⟩ : ∃ G1, gk - 1 = G1 := ⟨_, rfl⟩
    obtain ⟨J1, hJ1⟩ : ∃ J1, jo + 1 = J1 := ⟨_, rfl⟩
    have HGG : Hid (jo < 5 → (G1 < gk ∧ G1 + J1 = 5)) := fun h => ⟨by omega, by omega⟩
    have eJ1 : (jo : Int) + 1 = (J1 : Int) := by omega
    by_cases hj5 : jo < 5
    · have hj5I : (jo : Int) < 5 := by omega
      have yJ : J1 < 1152921504606846976 := by omega
      have HG1 := HGG.out hj5
      have HGQ : Hid (G1 < gk ∧ G1 + J1 = 5) := HG1
      have HI0 : Hid (A1 ≤ i0 ∧ i0 ≤ b) := ⟨hai, hib⟩
      clear hJ1 hgk HGG HG1 hj5 hG1
      clear hai hib
      go_upto_block 2 with fail
      go_cut [7] from 13 to 132 (fun iv wx => ∃ i : Nat, iv = .int .i64 (i : Int) ∧ Hid (∃ h, RU wx g n h ∧ KU g w wx ∧ SwP a b f h ∧ SrtP a i h ∧ A1 ≤ i ∧ i ≤ b ∧ (i < b → h i < h (i - 1))))
      case first =>
        go_wp2_with fail
        go_loopg [7] (b - i0) (fun gk iv wr => ∃ i : Nat, gk + i = b ∧ A1 ≤ i ∧ iv = .int .i64 (i : Int) ∧ Hid (∃ h, RU wr g n h ∧ KU g w wr ∧ SwP a b f h ∧ SrtP a i h))
        case atStart => exact ⟨i0, by have := HI0.out; omega, HI0.out.1, rfl, HI.out⟩
        case round =>
          obtain ⟨i, hgi, hIi, rfl, HJ⟩ := hrel
          obtain ⟨h, hru, hku, hsw, hst⟩ := HJ.out
          have HF : Hid (RU wr g n h ∧ KU g w wr ∧ SwP a b f h ∧ SrtP a i h ∧ gk + i = b ∧ A1 ≤ i) := ⟨hru, hku, hsw, hst, hgi, hIi⟩
          by_cases hib : i < b
          · have hibI : (i : Int) < (b : Int) := by omega
            have hiI : (i : Int) < (n : Int) := by omega
            obtain ⟨m, hm⟩ : ∃ m, i - 1 = m := ⟨_, rfl⟩
            have em : (i : Int) - 1 = (m : Int) := by omega
            have hmI : (m : Int) < (n : Int) := by omega
            obtain ⟨i1, hi1⟩ : ∃ i1, i + 1 = i1 := ⟨_, rfl⟩
            have ei1 : (i : Int) + 1 = (i1 : Int) := by omega
            have y1 : i1 < 1152921504606846976 := by omega
            have y2 : m < 1152921504606846976 := by omega
            have k0 := hru.cell (j := i) (by omega)
            have k1 := hru.cell (j := m) (by omega)
            obtain ⟨r, hr⟩ : ∃ r, decide ((h i : Int) < (h m : Int)) = r := ⟨_, rfl⟩
            have hle : ∀ W : World, Calls Try.prog 46 #[.int .u64 (h i : Int), .int .u64 (h m : Int)] W fun e w' => e = .returned (.bool r) ∧ ∃ n, w' = W.drewN n := fun W => (lessU_any W _ _ r hr).mono fun e w' h => ⟨h.1, 0, by rw [h.2]; rfl⟩
            have HR : Hid (decide ((h i : Int) < (h m : Int)) = r ∧ i - 1 = m ∧ i + 1 = i1 ∧ i < b) := ⟨hr, hm, hi1, hib⟩
            clear hru hku hsw hst hr HJ hgi hIi hm hi1 hib
            go_upto_region 5 with fail
            go_quiet (first | (go_at_call 46; refine Calls.quiet_of (hle _)) | fail)
            cases r with
            | false =>
              have HN : Hid (∃ h, RU (wr.drewN nq) g n h ∧ KU g w (wr.drewN nq) ∧ SwP a b f h ∧ SrtP a i1 h) := by
                obtain ⟨j1, j2, j3, j4, j5, j6⟩ := HF.out
                obtain ⟨p1, p2, p3, p4⟩ := HR.out
                have := of_decide_eq_false p1
                have h9 := HA.out.1
                exact ⟨h, j1.drewN _, j2.drewN _, j3, by rw [← p3]; exact j4.ext (by omega) (by rw [p2]; omega)⟩
              have HG : Hid (gk - 1 < gk ∧ gk - 1 + i1 = b ∧ A1 ≤ i1) := by have := HF.out.2.2.2.2; have := HR.out.2; exact ⟨by omega, by omega, by omega⟩
              go_wp2_with fail
              go_roundg (gk - 1)
              case measure => exact HG.out.1
              case rel => exact ⟨i1, HG.out.2.1, HG.out.2.2, rfl, HN.out⟩
            | true =>
              have HN : Hid (∃ h, RU (wr.drewN nq) g n h ∧ KU g w (wr.drewN nq) ∧ SwP a b f h ∧ SrtP a i h ∧ A1 ≤ i ∧ i ≤ b ∧ (i < b → h i < h (i - 1))) := by
                obtain ⟨j1, j2, j3, j4, j5, j6⟩ := HF.out
                obtain ⟨p1, p2, p3, p4⟩ := HR.out
                have := of_decide_eq_true p1
                exact ⟨h, j1.drewN _, j2.drewN _, j3, j4, j6, by omega, fun _ => by rw [p2]; omega⟩
              go_wp2_with fail
              go_meet
              exact ⟨i, rfl, HN.out⟩
          · have hibI : ((i : Int) < (b : Int)) = False := eq_false (by omega)
            clear hru hku hsw hst HJ hgi hIi
            go_upto_region 5 with fail
            go_quiet (fail)
            have HN : Hid (∃ h, RU (wr.drewN nq) g n h ∧ KU g w (wr.drewN nq) ∧ SwP a b f h ∧ SrtP a i h ∧ A1 ≤ i ∧ i ≤ b ∧ (i < b → h i < h (i - 1))) := by
              obtain ⟨j1, j2, j3, j4, j5, j6⟩ := HF.out
              exact ⟨h, j1.drewN _, j2.drewN _, j3, j4, j6, by omega, fun h9 => absurd h9 hib⟩
            clear hibI
            go_wp2_with fail
            go_meet
            exact ⟨i, rfl, HN.out⟩
      case rest =>
        obtain ⟨i, rfl, HP⟩ := hcut
        clear HI
        by_cases hib : i = b
        · subst hib
          have HE : Hid (∃ h, RU wc g n h ∧ KU g w wc ∧ SwP a i f h ∧ SrtP a i h) := by
            obtain ⟨h, h1, h2, h3, h4, _⟩ := HP.out
            exact ⟨h, h1, h2, h3, h4⟩
          go_wp2
          go_ret
          obtain ⟨h, h1, h2, h3, h4⟩ := HE.out
          exact ⟨true, h, rfl, h1, h2, h3, fun _ => h4⟩
        · have hibI : ¬ (i : Int) = (b : Int) := by omega
          have HIB : Hid (i ≠ b) := hib
          clear hib
          by_cases hD : D < 50
          · have hDI : (D : Int) < 50 := by omega
            have HE : Hid (∃ h, RU wc g n h ∧ KU g w wc ∧ SwP a b f h) := by
              obtain ⟨h, h1, h2, h3, h4, _⟩ := HP.out
              exact ⟨h, h1, h2, h3⟩
            go_wp2
            go_ret
            obtain ⟨h, h1, h2, h3⟩ := HE.out
            exact ⟨false, h, rfl, h1, h2, h3, fun h => absurd h (by decide)⟩
          · have hDI : ¬ (D : Int) < 50 := by omega
            obtain ⟨h, hru, hku, hsw, hst, hai, hib, hlt⟩ := HP.out
            have hne : i ≠ b := HIB.out
            obtain ⟨m, hm⟩ : ∃ m, i - 1 = m := ⟨_, rfl⟩
            have em : (i : Int) - 1 = (m : Int) := by omega
            have hmI : (m : Int) < (n : Int) := by have := HA.out; omega
            have hiI : (i : Int) < (n : Int) := by have := HA.out; omega
            have y2 : m < 1152921504606846976 := by have := HA.out; omega
            have y3 : i < 1152921504606846976 := by have := HA.out; omega
            have k0 := hru.cell (j := i) (by have := HA.out; omega)
            have k1 := hru.cell (j := m) (by have := HA.out; omega)
            have z0 := hru.froz i
            have z1 := hru.froz m
            have n1 : ¬ i = m := by have := HA.out; omega
            have n2 : ¬ m = i := fun h => n1 h.symm
            obtain ⟨E, hE⟩ : ∃ E, i - a = E := ⟨_, rfl⟩
            have eE : (i : Int) - (a : Int) = (E : Int) := by have := HA.out; omega
            have yE : E < 1152921504606846976 := by omega
            obtain ⟨R, hR⟩ : ∃ R, b - i = R := ⟨_, rfl⟩
            have eR : (b : Int) - (i : Int) = (R : Int) := by omega
            have yR : R < 1152921504606846976 := by omega
            obtain ⟨i1, hi1⟩ : ∃ i1, i + 1 = i1 := ⟨_, rfl⟩
            have ei1 : (i : Int) + 1 = (i1 : Int) := by omega
            have y1 : i1 < 1152921504606846976 := by omega
            have HF : Hid (RU wc g n h ∧ KU g w wc ∧ SwP a b f h ∧ InsI a i m (swpF h i m)) := ⟨hru, hku, hsw, by
              have q1 := (InsI.start hst (by have := HA.out; omega))
              have q2 := hlt (by omega)
              have q3 : i = m + 1 := by have := HA.out; omega
              subst q3
              exact q1.step (by have := HA.out; omega) (by rw [hm] at q2; exact q2)⟩
            have HQ : Hid (A1 ≤ i ∧ i < b ∧ i - 1 = m ∧ i - a = E ∧ b - i = R ∧ i + 1 = i1) := ⟨hai, by omega, hm, hE, hR, hi1⟩
            clear hru hku hsw hst hai hib hlt hne hm hE hR hi1 HP
            go_upto_region 11 with fail
            go_region
            have HN : Hid (∃ h', RU ((((wc.setCell ⟨g, i, none⟩ (.int .u64 (h m : Int))).setCell ⟨g, m, none⟩ (.int .u64 (h i : Int))).drew)) g n h' ∧ KU g w ((((wc.setCell ⟨g, i, none⟩ (.int .u64 (h m : Int))).setCell ⟨g, m, none⟩ (.int .u64 (h i : Int))).drew)) ∧ SwP a b f h' ∧ InsI a i m h') := by
              obtain ⟨q1, q2, q3, q4⟩ := HF.out
              have p1 := HQ.out
              have p2 := HA.out
              exact ⟨swpF h i m, ((q1.set (by omega) _).set (by omega) _).drewN 1, ((q2.set _ _).set _ _).drewN 1, q3.trans (SwP.swp h (by omega) (by omega)), q4⟩
            generalize ((((wc.setCell ⟨g, i, none⟩ (.int .u64 (h m : Int))).setCell ⟨g, m, none⟩ (.int .u64 (h i : Int))).drew)) = W2 at HN ⊢
            clear k0 k1 z0 z1 n1 n2 HF
            by_cases hE2 : 2 ≤ E
            · have hE2I : (2 : Int) ≤ (E : Int) := by omega
              have HEE : Hid (2 ≤ E) := hE2
              clear hE2
              go_upto_block 4 with fail
              go_cut [9] from 13 to 132 (fun jv wx => ∃ j : Nat, jv = .int .i64 (j : Int) ∧ Hid (∃ h, RU wx g n h ∧ KU g w wx ∧ SwP a b f h ∧ SrtP a i h))
              case first =>
                go_wp2_with fail
                go_loopg [9] m (fun gk jv wr => ∃ j : Nat, gk = j ∧ jv = .int .i64 (j : Int) ∧ Hid (∃ h, RU wr g n h ∧ KU g w wr ∧ SwP a b f h ∧ InsI a i j h))
                case atStart => exact ⟨m, rfl, rfl, HN.out⟩
                case round =>
                  obtain ⟨j, hgj, rfl, HJ⟩ := hrel
                  obtain ⟨h, hru, hku, hsw, hin⟩ := HJ.out
                  have hpos := hin.pos
                  have HF : Hid (RU wr g n h ∧ KU g w wr ∧ SwP a b f h ∧ InsI a i j h ∧ gk = j ∧ a ≤ j ∧ j ≤ i) := ⟨hru, hku, hsw, hin, hgj, hpos.1, hpos.2⟩
                  by_cases hj1 : 1 ≤ j
                  · have hj1I : (1 : Int) ≤ (j : Int) := by omega
                    have hjI : (j : Int) < (n : Int) := by have := HA.out; have := HQ.out; omega
                    obtain ⟨m2, hm2⟩ : ∃ m2, j - 1 = m2 := ⟨_, rfl⟩
                    have em2 : (j : Int) - 1 = (m2 : Int) := by omega
                    have hmI2 : (m2 : Int) < (n : Int) := by omega
                    have y12 : m2 < 1152921504606846976 := by have := HA.out; omega
                    have k0 := hru.cell (j := j) (by omega)
                    have k1 := hru.cell (j := m2) (by omega)
                    have z0 := hru.froz j
                    have z1 := hru.froz m2
                    have n1 : ¬ j = m2 := by omega
                    have n2 : ¬ m2 = j := fun h => n1 h.symm
                    obtain ⟨r, hr⟩ : ∃ r, decide ((h j : Int) < (h m2 : Int)) = r := ⟨_, rfl⟩
                    have hle : ∀ W : World, Calls Try.prog 46 #[.int .u64 (h j : Int), .int .u64 (h m2 : Int)] W fun e w' => e = .returned (.bool r) ∧ ∃ n, w' = W.drewN n := fun W => (lessU_any W _ _ r hr).mono fun e w' h => ⟨h.1, 0, by rw [h.2]; rfl⟩
                    have HR : Hid (decide ((h j : Int) < (h m2 : Int)) = r ∧ j = m2 + 1 ∧ j < n) := ⟨hr, by omega, by omega⟩
                    clear hru hku hsw hin hr HJ hgj hm2 hj1 hpos
                    go_upto_region 16 with fail
                    go_quiet (first | (go_at_call 46; refine Calls.quiet_of (hle _)) | fail)
                    cases r with
                    | false =>
                      have HN2 : Hid (∃ h, RU (wr.drewN nq) g n h ∧ KU g w (wr.drewN nq) ∧ SwP a b f h ∧ SrtP a i h) := by
                        obtain ⟨q1, q2, q3, q4, _⟩ := HF.out
                        have p1 := HR.out
                        exact ⟨h, q1.drewN _, q2.drewN _, q3, (q4.stop (.inr ⟨m2, p1.2.1, by have := of_decide_eq_false p1.1; omega⟩)).sub (by omega)⟩
                      go_wp2_with fail
                      go_meet
                      exact ⟨j, rfl, HN2.out⟩
                    | true =>
                      generalize hWD : wr.drewN nq = WD
                      have k0' : WD.cell? ⟨g, j, none⟩ = some (.int .u64 (h j : Int)) := by rw [← hWD]; exact k0
                      have k1' : WD.cell? ⟨g, m2, none⟩ = some (.int .u64 (h m2 : Int)) := by rw [← hWD]; exact k1
                      have z0' : WD.frozen? ⟨g, j, none⟩ = false := by rw [← hWD]; exact z0
                      have z1' : WD.frozen? ⟨g, m2, none⟩ = false := by rw [← hWD]; exact z1
                      have HF2 : Hid (RU WD g n h ∧ KU g w WD ∧ SwP a b f h ∧ InsI a i j h ∧ gk = j ∧ a ≤ j ∧ j ≤ i) := by
                        rw [← hWD]
                        obtain ⟨q1, q2, q3, q4, q5⟩ := HF.out
                        exact ⟨q1.drewN _, q2.drewN _, q3, q4, q5⟩
                      clear k0 k1 z0 z1 hWD HF hle
                      go_upto_region 17 with fail
                      go_region
                      have HN2 : Hid (m2 < gk ∧ ∃ h', RU ((((WD.setCell ⟨g, j, none⟩ (.int .u64 (h m2 : Int))).setCell ⟨g, m2, none⟩ (.int .u64 (h j : Int))).drew)) g n h' ∧ KU g w ((((WD.setCell ⟨g, j, none⟩ (.int .u64 (h m2 : Int))).setCell ⟨g, m2, none⟩ (.int .u64 (h j : Int))).drew)) ∧ SwP a b f h' ∧ InsI a i m2 h') := by
                        obtain ⟨q1, q2, q3, q4, q5, q6, q7⟩ := HF2.out
                        have p1 := HR.out
                        have p2 := HQ.out
                        have p3 := HA.out
                        have p4 := of_decide_eq_true p1.1
                        have p5 : a ≤ m2 := by
                          by_cases e : j = a
                          · exfalso
                            have := low_sw HL.out q3 a (by omega) (Nat.le_refl _) (by omega)
                            have e2 : a - 1 = m2 := by omega
                            rw [e2] at this
                            rw [e] at p4
                            omega
                          · omega
                        refine ⟨by omega, swpF h j m2, ((q1.set (by omega) _).set (by omega) _).drewN 1, ((q2.set _ _).set _ _).drewN 1, q3.trans (SwP.swp h (by omega) (by omega)), ?_⟩
                        have p6 := p1.2.1
                        subst p6
                        exact q4.step p5 (by omega)
                      go_wp2_with fail
                      go_roundg m2
                      case measure => exact HN2.out.1
                      case rel => exact ⟨m2, rfl, rfl, HN2.out.2⟩
                  · have hj1I : ¬ (1 : Int) ≤ (j : Int) := by omega
                    have HN2 : Hid (∃ h, RU wr g n h ∧ KU g w wr ∧ SwP a b f h ∧ SrtP a i h) := by
                      obtain ⟨q1, q2, q3, q4, q5, q6, q7⟩ := HF.out
                      exact ⟨h, q1, q2, q3, (q4.stop (.inl (by omega))).sub (by omega)⟩
                    clear hru hku hsw hin hgj hj1 hpos HJ HF
                    go_wp2_with fail
                    go_meet
                    exact ⟨j, rfl, HN2.out⟩
              case rest =>
                obtain ⟨j8, rfl, HP5⟩ := hcut
                clear HN
                by_cases hR2 : 2 ≤ R
                · have hR2I : (2 : Int) ≤ (R : Int) := by omega
                  have HRR : Hid (2 ≤ R) := hR2
                  clear hR2
                  go_wp2_with fail
                  go_loopg [10] (b - i1) (fun gk jv wr => ∃ j : Nat, gk + j = b ∧ i1 ≤ j ∧ jv = .int .i64 (j : Int) ∧ Hid (∃ h, RU wr g n h ∧ KU g w wr ∧ SwP a b f h ∧ SrtP a i h))
                  case atStart => exact ⟨i1, by have := HQ.out; omega, Nat.le_refl _, rfl, HP5.out⟩
                  case round =>
                    obtain ⟨j, hgj, hij, rfl, HJ⟩ := hrel
                    obtain ⟨h, hru, hku, hsw, hst⟩ := HJ.out
                    have HF : Hid (RU wr g n h ∧ KU g w wr ∧ SwP a b f h ∧ SrtP a i h ∧ gk + j = b ∧ i1 ≤ j) := ⟨hru, hku, hsw, hst, hgj, hij⟩
                    by_cases hjb : j < b
                    · have hjbI : (j : Int) < (b : Int) := by omega
                      have hjI : (j : Int) < (n : Int) := by have := HA.out; omega
                      obtain ⟨m2, hm2⟩ : ∃ m2, j - 1 = m2 := ⟨_, rfl⟩
                      have em2 : (j : Int) - 1 = (m2 : Int) := by have := HQ.out; omega
                      have hmI2 : (m2 : Int) < (n : Int) := by have := HA.out; omega
                      obtain ⟨j1, hj1⟩ : ∃ j1, j + 1 = j1 := ⟨_, rfl⟩
                      have ej1 : (j : Int) + 1 = (j1 : Int) := by omega
                      have y11 : j1 < 1152921504606846976 := by have := HA.out; omega
                      have y12 : m2 < 1152921504606846976 := by have := HA.out; omega
                      have k0 := hru.cell (j := j) (by have := HA.out; omega)
                      have k1 := hru.cell (j := m2) (by have := HA.out; omega)
                      have z0 := hru.froz j
                      have z1 := hru.froz m2
                      have n1 : ¬ j = m2 := by have := HQ.out; omega
                      have n2 : ¬ m2 = j := fun h => n1 h.symm
                      obtain ⟨r, hr⟩ : ∃ r, decide ((h j : Int) < (h m2 : Int)) = r := ⟨_, rfl⟩
                      have hle : ∀ W : World, Calls Try.prog 46 #[.int .u64 (h j : Int), .int .u64 (h m2 : Int)] W fun e w' => e = .returned (.bool r) ∧ ∃ n, w' = W.drewN n := fun W => (lessU_any W _ _ r hr).mono fun e w' h => ⟨h.1, 0, by rw [h.2]; rfl⟩
                      have HR : Hid (j - 1 = m2 ∧ j + 1 = j1 ∧ j < b) := ⟨hm2, hj1, hjb⟩
                      clear hru hku hsw hst hr HJ hgj hij hm2 hj1 hjb
                      go_upto_region 22 with fail
                      go_quiet (first | (go_at_call 46; refine Calls.quiet_of (hle _)) | fail)
                      cases r with
                      | false =>
                        have HN2 : Hid (∃ h, RU (wr.drewN nq) g n h ∧ KU g w (wr.drewN nq) ∧ SwP a b f h ∧ SrtP a i h) := by
                          obtain ⟨q1, q2, q3, q4, _⟩ := HF.out
                          exact ⟨h, q1.drewN _, q2.drewN _, q3, q4⟩
                        go_wp2_with fail
                        go_roundg G1
                        case measure => exact HGQ.out.1
                        case rel => exact ⟨i, J1, HGQ.out.2, HQ.out.1, by have := HQ.out.2.1; omega, rfl, rfl, HN2.out⟩
                      | true =>
                        generalize hWD : wr.drewN nq = WD
                        have k0' : WD.cell? ⟨g, j, none⟩ = some (.int .u64 (h j : Int)) := by rw [← hWD]; exact k0
                        have k1' : WD.cell? ⟨g, m2, none⟩ = some (.int .u64 (h m2 : Int)) := by rw [← hWD]; exact k1
                        have z0' : WD.frozen? ⟨g, j, none⟩ = false := by rw [← hWD]; exact z0
                        have z1' : WD.frozen? ⟨g, m2, none⟩ = false := by rw [← hWD]; exact z1
                        have HF2 : Hid (RU WD g n h ∧ KU g w WD ∧ SwP a b f h ∧ SrtP a i h ∧ gk + j = b ∧ i1 ≤ j) := by
                          rw [← hWD]
                          obtain ⟨q1, q2, q3, q4, q5⟩ := HF.out
                          exact ⟨q1.drewN _, q2.drewN _, q3, q4, q5⟩
                        clear k0 k1 z0 z1 hWD HF hle
                        go_upto_region 23 with fail
                        go_region
                        have HN2 : Hid (∃ h', RU ((((WD.setCell ⟨g, j, none⟩ (.int .u64 (h m2 : Int))).setCell ⟨g, m2, none⟩ (.int .u64 (h j : Int))).drew)) g n h' ∧ KU g w ((((WD.setCell ⟨g, j, none⟩ (.int .u64 (h m2 : Int))).setCell ⟨g, m2, none⟩ (.int .u64 (h j : Int))).drew)) ∧ SwP a b f h' ∧ SrtP a i h') := by
                          obtain ⟨q1, q2, q3, q4, q5, q6⟩ := HF2.out
                          have p1 := HR.out
                          have p2 := HQ.out
                          have p3 := HA.out
                          exact ⟨swpF h j m2, ((q1.set (by omega) _).set (by omega) _).drewN 1, ((q2.set _ _).set _ _).drewN 1, q3.trans (SwP.swp h (by omega) (by omega)), q4.same (fun k _ hk => swpF_o h (by omega) (by omega))⟩
                        have HG : Hid (gk - 1 < gk ∧ gk - 1 + j1 = b ∧ i1 ≤ j1) := by have := HF2.out.2.2.2.2; have := HR.out; exact ⟨by omega, by omega, by omega⟩
                        go_wp2_with fail
                        go_roundg (gk - 1)
                        case measure => exact HG.out.1
                        case rel => exact ⟨j1, HG.out.2.1, HG.out.2.2, rfl, HN2.out⟩
                    · have hjbI : ¬ (j : Int) < (b : Int) := by omega
                      clear hru hku hsw hst hgj hij hjb
                      go_wp2_with fail
                      go_roundg G1
                      case measure => exact HGQ.out.1
                      case rel => exact ⟨i, J1, HGQ.out.2, HQ.out.1, by have := HQ.out.2.1; omega, rfl, rfl, HJ.out⟩
                · have hR2I : ¬ (2 : Int) ≤ (R : Int) := by omega
                  have HRR : Hid (¬ 2 ≤ R) := hR2
                  clear hR2
                  go_wp2_with fail
                  go_roundg G1
                  case measure => exact HGQ.out.1
                  case rel => exact ⟨i, J1, HGQ.out.2, HQ.out.1, by have := HQ.out.2.1; omega, rfl, rfl, HP5.out⟩
            · have hE2I : ¬ (2 : Int) ≤ (E : Int) := by omega
              have HP5 : Hid (∃ h, RU W2 g n h ∧ KU g w W2 ∧ SwP a b f h ∧ SrtP a i h) := by
                obtain ⟨h, q1, q2, q3, q4⟩ := HN.out
                have := HQ.out
                have := q4.pos
                exact ⟨h, q1, q2, q3, (q4.stop (.inl (by omega))).sub (by omega)⟩
              clear HN hE2
              by_cases hR2 : 2 ≤ R
              · have hR2I : (2 : Int) ≤ (R : Int) := by omega
                have HRR : Hid (2 ≤ R) := hR2
                clear hR2
                go_wp2_with fail
                go_loopg [10] (b - i1) (fun gk jv wr => ∃ j : Nat, gk + j = b ∧ i1 ≤ j ∧ jv = .int .i64 (j : Int) ∧ Hid (∃ h, RU wr g n h ∧ KU g w wr ∧ SwP a b f h ∧ SrtP a i h))
                case atStart => exact ⟨i1, by have := HQ.out; omega, Nat.le_refl _, rfl, HP5.out⟩
                case round =>
                  obtain ⟨j, hgj, hij, rfl, HJ⟩ := hrel
                  obtain ⟨h, hru, hku, hsw, hst⟩ := HJ.out
                  have HF : Hid (RU wr g n h ∧ KU g w wr ∧ SwP a b f h ∧ SrtP a i h ∧ gk + j = b ∧ i1 ≤ j) := ⟨hru, hku, hsw, hst, hgj, hij⟩
                  by_cases hjb : j < b
                  · have hjbI : (j : Int) < (b : Int) := by omega
                    have hjI : (j : Int) < (n : Int) := by have := HA.out; omega
                    obtain ⟨m2, hm2⟩ : ∃ m2, j - 1 = m2 := ⟨_, rfl⟩
                    have em2 : (j : Int) - 1 = (m2 : Int) := by have := HQ.out; omega
                    have hmI2 : (m2 : Int) < (n : Int) := by have := HA.out; omega
                    obtain ⟨j1, hj1⟩ : ∃ j1, j + 1 = j1 := ⟨_, rfl⟩
                    have ej1 : (j : Int) + 1 = (j1 : Int) := by omega
                    have y11 : j1 < 1152921504606846976 := by have := HA.out; omega
                    have y12 : m2 < 1152921504606846976 := by have := HA.out; omega
                    have k0 := hru.cell (j := j) (by have := HA.out; omega)
                    have k1 := hru.cell (j := m2) (by have := HA.out; omega)
                    have z0 := hru.froz j
                    have z1 := hru.froz m2
                    have n1 : ¬ j = m2 := by have := HQ.out; omega
                    have n2 : ¬ m2 = j := fun h => n1 h.symm
                    obtain ⟨r, hr⟩ : ∃ r, decide ((h j : Int) < (h m2 : Int)) = r := ⟨_, rfl⟩
                    have hle : ∀ W : World, Calls Try.prog 46 #[.int .u64 (h j : Int), .int .u64 (h m2 : Int)] W fun e w' => e = .returned (.bool r) ∧ ∃ n, w' = W.drewN n := fun W => (lessU_any W _ _ r hr).mono fun e w' h => ⟨h.1, 0, by rw [h.2]; rfl⟩
                    have HR : Hid (j - 1 = m2 ∧ j + 1 = j1 ∧ j < b) := ⟨hm2, hj1, hjb⟩
                    clear hru hku hsw hst hr HJ hgj hij hm2 hj1 hjb
                    go_upto_region 22 with fail
                    go_quiet (first | (go_at_call 46; refine Calls.quiet_of (hle _)) | fail)
                    cases r with
                    | false =>
                      have HN2 : Hid (∃ h, RU (wr.drewN nq) g n h ∧ KU g w (wr.drewN nq) ∧ SwP a b f h ∧ SrtP a i h) := by
                        obtain ⟨q1, q2, q3, q4, _⟩ := HF.out
                        exact ⟨h, q1.drewN _, q2.drewN _, q3, q4⟩
                      go_wp2_with fail
                      go_roundg G1
                      case measure => exact HGQ.out.1
                      case rel => exact ⟨i, J1, HGQ.out.2, HQ.out.1, by have := HQ.out.2.1; omega, rfl, rfl, HN2.out⟩
                    | true =>
                      generalize hWD : wr.drewN nq = WD
                      have k0' : WD.cell? ⟨g, j, none⟩ = some (.int .u64 (h j : Int)) := by rw [← hWD]; exact k0
                      have k1' : WD.cell? ⟨g, m2, none⟩ = some (.int .u64 (h m2 : Int)) := by rw [← hWD]; exact k1
                      have z0' : WD.frozen? ⟨g, j, none⟩ = false := by rw [← hWD]; exact z0
                      have z1' : WD.frozen? ⟨g, m2, none⟩ = false := by rw [← hWD]; exact z1
                      have HF2 : Hid (RU WD g n h ∧ KU g w WD ∧ SwP a b f h ∧ SrtP a i h ∧ gk + j = b ∧ i1 ≤ j) := by
                        rw [← hWD]
                        obtain ⟨q1, q2, q3, q4, q5⟩ := HF.out
                        exact ⟨q1.drewN _, q2.drewN _, q3, q4, q5⟩
                      clear k0 k1 z0 z1 hWD HF hle
                      go_upto_region 23 with fail
                      go_region
                      have HN2 : Hid (∃ h', RU ((((WD.setCell ⟨g, j, none⟩ (.int .u64 (h m2 : Int))).setCell ⟨g, m2, none⟩ (.int .u64 (h j : Int))).drew)) g n h' ∧ KU g w ((((WD.setCell ⟨g, j, none⟩ (.int .u64 (h m2 : Int))).setCell ⟨g, m2, none⟩ (.int .u64 (h j : Int))).drew)) ∧ SwP a b f h' ∧ SrtP a i h') := by
                        obtain ⟨q1, q2, q3, q4, q5, q6⟩ := HF2.out
                        have p1 := HR.out
                        have p2 := HQ.out
                        have p3 := HA.out
                        exact ⟨swpF h j m2, ((q1.set (by omega) _).set (by omega) _).drewN 1, ((q2.set _ _).set _ _).drewN 1, q3.trans (SwP.swp h (by omega) (by omega)), q4.same (fun k _ hk => swpF_o h (by omega) (by omega))⟩
                      have HG : Hid (gk - 1 < gk ∧ gk - 1 + j1 = b ∧ i1 ≤ j1) := by have := HF2.out.2.2.2.2; have := HR.out; exact ⟨by omega, by omega, by omega⟩
                      go_wp2_with fail
                      go_roundg (gk - 1)
                      case measure => exact HG.out.1
                      case rel => exact ⟨j1, HG.out.2.1, HG.out.2.2, rfl, HN2.out⟩
                  · have hjbI : ¬ (j : Int) < (b : Int) := by omega
                    clear hru hku hsw hst hgj hij hjb
                    go_wp2_with fail
                    go_roundg G1
                    case measure => exact HGQ.out.1
                    case rel => exact ⟨i, J1, HGQ.out.2, HQ.out.1, by have := HQ.out.2.1; omega, rfl, rfl, HJ.out⟩
              · have hR2I : ¬ (2 : Int) ≤ (R : Int) := by omega
                have HRR : Hid (¬ 2 ≤ R) := hR2
                clear hR2
                go_wp2_with fail
                go_roundg G1
                case measure => exact HGQ.out.1
                case rel => exact ⟨i, J1, HGQ.out.2, HQ.out.1, by have := HQ.out.2.1; omega, rfl, rfl, HP5.out⟩
    · have hj5I : ¬ (jo : Int) < 5 := by omega
      have HE : Hid (∃ h, RU wr g n h ∧ KU g w wr ∧ SwP a b f h) := by
        obtain ⟨h, h1, h2, h3, h4⟩ := HI.out
        exact ⟨h, h1, h2, h3⟩
      clear HGG hgk hai hib hJ1 hG1 hj5
      go_wp2
      go_ret
      exact .inl ⟨rfl, HE.out⟩

end Go.Proofs.Ytgkgdbdapkgkgaa

/- partitionEqualOrdered of numbers. -/
namespace Go.Proofs.Ytgkgdbdapkgkgaa
set_option maxRecDepth 100000
open Go.RowKit
set_option linter.unusedVariables false
set_option linter.unusedSimpArgs false

/-- below i not above what stands at a, behind j above it -/
structure PeI (a b pv i j : Nat) (f h : Nat → Nat) : Prop where
  sw : SwP a b f h
  at0 : h a = f pv
  lo : ∀ k, a + 1 ≤ k → k < i → h k ≤ h a
  up : ∀ k, j < k → k < b → h a < h k
  ia : a + 1 ≤ i
  ij : i ≤ j + 1
  jb : j + 1 ≤ b

theorem PeI.iup {a b pv i j : Nat} {f h : Nat → Nat} (H : PeI a b pv i j f h) (hij : i ≤ j) (hl : ¬ h a < h i) : PeI a b pv (i + 1) j f h :=
  ⟨H.sw, H.at0, fun k q1 q2 => by
    by_cases e : k = i
    · subst e; omega
    · exact H.lo k q1 (by omega), H.up, by have := H.ia; omega, by omega, H.jb⟩

theorem PeI.jdn {a b pv i j : Nat} {f h : Nat → Nat} (H : PeI a b pv i (j + 1) f h) (hij : i ≤ j + 1) (hl : h a < h (j + 1)) : PeI a b pv i j f h :=
  ⟨H.sw, H.at0, H.lo, fun k q1 q2 => by
    by_cases e : k = j + 1
    · subst e; exact hl
    · exact H.up k (by omega) q2, H.ia, hij, by have := H.jb; omega⟩

/-- what such a partition leaves -/
def PeP (a b pv m : Nat) (f h : Nat → Nat) : Prop := SwP a b f h ∧ a + 1 ≤ m ∧ m ≤ b ∧ h a = f pv ∧ (∀ k, a ≤ k → k < m → h k ≤ h a) ∧ ∀ k, m ≤ k → k < b → h a < h k

theorem PeI.fin {a b pv i j : Nat} {f h : Nat → Nat} (H : PeI a b pv i j f h) (hij : j < i) : PeP a b pv i f h := by
  have h1 := H.ia
  have h2 := H.ij
  have h3 := H.jb
  refine ⟨H.sw, h1, by omega, H.at0, fun k q1 q2 => ?_, fun k q1 q2 => H.up k (by omega) q2⟩
  by_cases e : k = a
  · subst e; exact Nat.le_refl _
  · exact H.lo k (by omega) q2

theorem PeI.swp {a b pv i j : Nat} {f h : Nat → Nat} (H : PeI a b pv i j f h) (hij : i ≤ j) (hi : h a < h i) (hj : ¬ h a < h j) : i < j ∧ PeI a b pv (i + 1) (j - 1) f (swpF h i j) := by
  have h1 := H.ia
  have h3 := H.jb
  have hne : i < j := by
    by_cases e : i = j
    · subst e; exact absurd hi hj
    · omega
  have e0 : swpF h i j a = h a := swpF_o h (by omega) (by omega)
  have e1 : swpF h i j i = h j := swpF_l h (by omega)
  have e2 : swpF h i j j = h i := swpF_r h _ _
  have e3 : ∀ k, k ≠ i → k ≠ j → swpF h i j k = h k := fun k q1 q2 => swpF_o h q1 q2
  refine ⟨hne, H.sw.trans (SwP.swp h (by omega) (by omega)), by rw [e0]; exact H.at0, fun k q1 q2 => ?_, fun k q1 q2 => ?_, by omega, by omega, by omega⟩
  · rw [e0]
    by_cases e : k = i
    · subst e; rw [e1]; omega
    · rw [e3 k e (by omega)]; exact H.lo k q1 (by omega)
  · rw [e0]
    by_cases e : k = j
    · subst e; rw [e2]; exact hi
    · rw [e3 k (by omega) e]; exact H.up k (by omega) q2

set_option maxHeartbeats 2000000 in
theorem peqU_any (w : World) (g n cap a b pv : Nat) (f : Nat → Nat) (h : RU w g n f) (hab : a + 1 ≤ b) (hp : a ≤ pv ∧ pv < b) (hbn : b ≤ n) (hn : n < 1152921504606846976) :
    Calls Try.prog 47 #[.slice (some ⟨g, 0, none⟩) n cap, .int .i64 (a : Int), .int .i64 (b : Int), .int .i64 (pv : Int)] w fun e w' => ∃ (m : Nat) (f' : Nat → Nat), e = .returned (.int .i64 (m : Int)) ∧ RU w' g n f' ∧ KU g w w' ∧ PeP a b pv m f f' := by
  have H : Hid (RU w g n f) := h
  have han : (a : Int) < (n : Int) := by omega
  have hpn : (pv : Int) < (n : Int) := by omega
  have k0 := h.cell (j := a) (by omega)
  have k1 := h.cell (j := pv) (by omega)
  have z0 := h.froz a
  have z1 := h.froz pv
  clear h
  go_enter Try.func47, Try.ntmps47
  go_upto_region 1 with fail
  go_cut [] from 11 to 24 (fun wx => Hid (∃ h, RU wx g n h ∧ KU g w wx ∧ SwP a b f h ∧ h a = f pv))
  case first =>
    by_cases e : a = pv
    · subst e
      go_region
      go_wp2_with fail
      go_meet
      exact ⟨_, ((H.out.set (by omega) _).set (by omega) _).drewN 1, (((KU.refl g w).set _ _).set _ _).drewN 1, SwP.swp f (by omega) (by omega), swpF_r f a a⟩
    · have n1 : ¬ pv = a := fun h => e h.symm
      go_region
      go_wp2_with fail
      go_meet
      exact ⟨_, ((H.out.set (by omega) _).set (by omega) _).drewN 1, (((KU.refl g w).set _ _).set _ _).drewN 1, SwP.swp f (by omega) (by omega), swpF_l f e⟩
  case rest =>
    clear k0 k1 z0 z1
    obtain ⟨J0, hJ0⟩ : ∃ J0, J0 + 1 = b := ⟨b - 1, by omega⟩
    have eJ : (b : Int) - 1 = (J0 : Int) := by omega
    obtain ⟨I0, hI0⟩ : ∃ I0, a + 1 = I0 := ⟨_, rfl⟩
    have eI : (a : Int) + 1 = (I0 : Int) := by omega
    have yI0 : I0 < 1152921504606846976 := by omega
    have yJ0 : J0 < 1152921504606846976 := by omega
    have HP : Hid (∃ h, RU wc g n h ∧ KU g w wc ∧ PeI a b pv I0 J0 f h) := by
      obtain ⟨h, h1, h2, h3, h4⟩ := hcut.out
      exact ⟨h, h1, h2, h3, h4, fun k q1 q2 => by omega, fun k q1 q2 => by omega, by omega, by omega, by omega⟩
    have HIJ : Hid (J0 + 1 = b ∧ a + 1 = I0) := ⟨hJ0, hI0⟩
    clear hcut hJ0 hI0
    go_wp2_with fail
    go_loopg [9, 10] (J0 + 1 - I0) (fun gk iv jv wr => ∃ i j : Nat, gk + i = j + 1 ∧ iv = .int .i64 (i : Int) ∧ jv = .int .i64 (j : Int) ∧ Hid (∃ h, RU wr g n h ∧ KU g w wr ∧ PeI a b pv i j f h))
    case atStart => exact ⟨I0, J0, by have := HIJ.out; omega, rfl, rfl, HP.out⟩
    case round =>
      clear HP
      obtain ⟨ii, jj, hgij, rfl, rfl, HP⟩ := hrel
      obtain ⟨G, hG⟩ : ∃ G, gk = G := ⟨_, rfl⟩
      have HGG : Hid (gk + ii = jj + 1) := hgij
      clear hG hgij
      go_upto_block 2 with fail
      go_cut [9] from 29 to 82 (fun iv wx => ∃ i : Nat, iv = .int .i64 (i : Int) ∧ Hid (∃ h, RU wx g n h ∧ KU g w wx ∧ PeI a b pv i jj f h ∧ ii ≤ i ∧ (i ≤ jj → h a < h i)))
      case first =>
        go_wp2_with fail
        go_loopg [9] (jj + 1 - ii) (fun gk iv wr => ∃ i : Nat, gk + i = jj + 1 ∧ ii ≤ i ∧ iv = .int .i64 (i : Int) ∧ Hid (∃ h, RU wr g n h ∧ KU g w wr ∧ PeI a b pv i jj f h))
        case atStart => exact ⟨ii, by have := HP.out.choose_spec.2.2.ij; omega, Nat.le_refl _, rfl, HP.out⟩
        case round =>
          obtain ⟨i, hgi, hIi, rfl, HJ⟩ := hrel
          obtain ⟨h, hru, hku, hpt⟩ := HJ.out
          have HF : Hid (RU wr g n h ∧ KU g w wr ∧ PeI a b pv i jj f h ∧ gk + i = jj + 1 ∧ ii ≤ i) := ⟨hru, hku, hpt, hgi, hIi⟩
          have q1 := hpt.ia
          have q2 := hpt.jb
          have q3 := hpt.ij
          by_cases hij : i ≤ jj
          · have hijI : (i : Int) ≤ (jj : Int) := by omega
            have hiI : (i : Int) < (n : Int) := by omega
            have k0 := hru.cell (j := i) (by omega)
            have k1 := hru.cell (j := a) (by omega)
            obtain ⟨r, hr⟩ : ∃ r, decide ((h a : Int) < (h i : Int)) = r := ⟨_, rfl⟩
            have hle : ∀ W : World, Calls Try.prog 46 #[.int .u64 (h a : Int), .int .u64 (h i : Int)] W fun e w' => e = .returned (.bool r) ∧ ∃ n, w' = W.drewN n := fun W => (lessU_any W _ _ r hr).mono fun e w' h => ⟨h.1, 0, by rw [h.2]; rfl⟩
            have HR : Hid (decide ((h a : Int) < (h i : Int)) = r ∧ i ≤ jj) := ⟨hr, hij⟩
            obtain ⟨i1, hi1⟩ : ∃ i1, i + 1 = i1 := ⟨_, rfl⟩
            have ei1 : (i : Int) + 1 = (i1 : Int) := by omega
            have y1 : i1 < 1152921504606846976 := by omega
            have H1 : Hid (i + 1 = i1) := hi1
            clear hru hku hpt hr HJ hgi hIi q1 q2 q3 hi1 hij
            go_upto_region 3 with fail
            go_quiet (first | (go_at_call 46; refine Calls.quiet_of (hle _)) | fail)
            cases r with
            | false =>
              have HN : Hid (∃ h, RU (wr.drewN nq) g n h ∧ KU g w (wr.drewN nq) ∧ PeI a b pv i1 jj f h) := by
                obtain ⟨j1, j2, j3, j4⟩ := HF.out
                have := of_decide_eq_false HR.out.1
                exact ⟨h, j1.drewN _, j2.drewN _, by rw [← H1.out]; exact j3.iup HR.out.2 (by omega)⟩
              have HG : Hid (gk - 1 < gk ∧ gk - 1 + i1 = jj + 1 ∧ ii ≤ i1) := by have := HF.out.2.2.2; have := HR.out.2; have := H1.out; exact ⟨by omega, by omega, by omega⟩
              go_wp2_with fail
              go_roundg (gk - 1)
              case measure => exact HG.out.1
              case rel => exact ⟨i1, HG.out.2.1, HG.out.2.2, rfl, HN.out⟩
            | true =>
              have HN : Hid (∃ h, RU (wr.drewN nq) g n h ∧ KU g w (wr.drewN nq) ∧ PeI a b pv i jj f h ∧ ii ≤ i ∧ (i ≤ jj → h a < h i)) := by
                obtain ⟨j1, j2, j3, j4⟩ := HF.out
                have := of_decide_eq_true HR.out.1
                exact ⟨h, j1.drewN _, j2.drewN _, j3, j4.2, fun _ => by omega⟩
              go_wp2_with fail
              go_meet
              exact ⟨i, rfl, HN.out⟩
          · have hijI : ((i : Int) ≤ (jj : Int)) = False := eq_false (by omega)
            clear hru hku hpt HJ hgi hIi q1 q2 q3
            go_upto_region 3 with fail
            go_quiet (fail)
            have HN : Hid (∃ h, RU (wr.drewN nq) g n h ∧ KU g w (wr.drewN nq) ∧ PeI a b pv i jj f h ∧ ii ≤ i ∧ (i ≤ jj → h a < h i)) := by
              obtain ⟨j1, j2, j3, j4⟩ := HF.out
              exact ⟨h, j1.drewN _, j2.drewN _, j3, j4.2, fun h9 => absurd h9 hij⟩
            clear hijI
            go_wp2_with fail
            go_meet
            exact ⟨i, rfl, HN.out⟩
      case rest =>
        obtain ⟨iN, rfl, HP1⟩ := hcut
        clear HP
        go_upto_block 4 with fail
        go_cut [10] from 29 to 82 (fun jv wx => ∃ j : Nat, jv = .int .i64 (j : Int) ∧ Hid (∃ h, RU wx g n h ∧ KU g w wx ∧ PeI a b pv iN j f h ∧ ii ≤ iN ∧ j ≤ jj ∧ (iN ≤ j → ¬ h a < h j ∧ h a < h iN)))
        case first =>
          go_wp2_with fail
          go_loopg [10] (jj + 1 - iN) (fun gk jv wr => ∃ j : Nat, gk + iN = j + 1 ∧ j ≤ jj ∧ jv = .int .i64 (j : Int) ∧ Hid (∃ h, RU wr g n h ∧ KU g w wr ∧ PeI a b pv iN j f h ∧ ii ≤ iN ∧ (iN ≤ j → h a < h iN)))
          case atStart =>
            obtain ⟨h, h1, h2, h3, h4, h5⟩ := HP1.out
            exact ⟨jj, by have := h3.ij; omega, Nat.le_refl _, rfl, h, h1, h2, h3, h4, h5⟩
          case round =>
            obtain ⟨j, hgj, hjJ, rfl, HJ⟩ := hrel
            obtain ⟨h, hru, hku, hpt, hii, hni⟩ := HJ.out
            have HF : Hid (RU wr g n h ∧ KU g w wr ∧ PeI a b pv iN j f h ∧ (iN ≤ j → h a < h iN) ∧ gk + iN = j + 1 ∧ j ≤ jj ∧ ii ≤ iN) := ⟨hru, hku, hpt, hni, hgj, hjJ, hii⟩
            have q1 := hpt.ia
            have q2 := hpt.jb
            have q3 := hpt.ij
            by_cases hij : iN ≤ j
            · have hijI : (iN : Int) ≤ (j : Int) := by omega
              have hjI : (j : Int) < (n : Int) := by omega
              obtain ⟨jd, hjd⟩ : ∃ jd, jd + 1 = j := ⟨j - 1, by omega⟩
              have e1 : (j : Int) - 1 = (jd : Int) := by omega
              have y1 : jd < 1152921504606846976 := by omega
              have k0 := hru.cell (j := j) (by omega)
              have k1 := hru.cell (j := a) (by omega)
              obtain ⟨r, hr⟩ : ∃ r, decide ((h a : Int) < (h j : Int)) = r := ⟨_, rfl⟩
              have hle : ∀ W : World, Calls Try.prog 46 #[.int .u64 (h a : Int), .int .u64 (h j : Int)] W fun e w' => e = .returned (.bool r) ∧ ∃ n, w' = W.drewN n := fun W => (lessU_any W _ _ r hr).mono fun e w' h => ⟨h.1, 0, by rw [h.2]; rfl⟩
              have HR : Hid (decide ((h a : Int) < (h j : Int)) = r ∧ jd + 1 = j ∧ iN ≤ j) := ⟨hr, hjd, hij⟩
              clear hru hku hpt hr HJ hgj hjJ q1 q2 q3 hni hjd hii hij
              go_upto_region 5 with fail
              go_quiet (first | (go_at_call 46; refine Calls.quiet_of (hle _)) | fail)
              cases r with
              | true =>
                have HN : Hid (∃ h, RU (wr.drewN nq) g n h ∧ KU g w (wr.drewN nq) ∧ PeI a b pv iN jd f h ∧ ii ≤ iN ∧ (iN ≤ jd → h a < h iN)) := by
                  obtain ⟨j1, j2, j3, j5, j4, j6, j7⟩ := HF.out
                  have := of_decide_eq_true HR.out.1
                  have h9 := HR.out.2.1
                  have h8 := HR.out.2.2
                  subst h9
                  exact ⟨h, j1.drewN _, j2.drewN _, j3.jdn h8 (by omega), j7, fun h8 => j5 (by omega)⟩
                have HG : Hid (gk - 1 < gk ∧ gk - 1 + iN = jd + 1 ∧ jd ≤ jj) := by have := HF.out.2.2.2.2; have h9 := HR.out.2; exact ⟨by omega, by omega, by omega⟩
                go_wp2_with fail
                go_roundg (gk - 1)
                case measure => exact HG.out.1
                case rel => exact ⟨jd, HG.out.2.1, HG.out.2.2, rfl, HN.out⟩
              | false =>
                have HN : Hid (∃ h, RU (wr.drewN nq) g n h ∧ KU g w (wr.drewN nq) ∧ PeI a b pv iN j f h ∧ ii ≤ iN ∧ j ≤ jj ∧ (iN ≤ j → ¬ h a < h j ∧ h a < h iN)) := by
                  obtain ⟨j1, j2, j3, j5, j4, j6, j7⟩ := HF.out
                  have := of_decide_eq_false HR.out.1
                  exact ⟨h, j1.drewN _, j2.drewN _, j3, j7, j6, fun h8 => ⟨by omega, j5 h8⟩⟩
                go_wp2_with fail
                go_meet
                exact ⟨j, rfl, HN.out⟩
            · have hijI : ((iN : Int) ≤ (j : Int)) = False := eq_false (by omega)
              clear hru hku hpt HJ hgj hjJ q1 q2 q3 hni hii
              go_upto_region 5 with fail
              go_quiet (fail)
              have HN : Hid (∃ h, RU (wr.drewN nq) g n h ∧ KU g w (wr.drewN nq) ∧ PeI a b pv iN j f h ∧ ii ≤ iN ∧ j ≤ jj ∧ (iN ≤ j → ¬ h a < h j ∧ h a < h iN)) := by
                obtain ⟨j1, j2, j3, j5, j4, j6, j7⟩ := HF.out
                exact ⟨h, j1.drewN _, j2.drewN _, j3, j7, j6, fun h9 => absurd h9 hij⟩
              clear hijI
              go_wp2_with fail
              go_meet
              exact ⟨j, rfl, HN.out⟩
        case rest =>
          obtain ⟨J1, rfl, HP2⟩ := hcut
          clear HP1
          by_cases hIJ : J1 < iN
          · have hij2 : (J1 : Int) < (iN : Int) := by omega
            have HE : Hid (∃ (m : Nat) (f' : Nat → Nat), m = iN ∧ RU wc g n f' ∧ KU g w wc ∧ PeP a b pv m f f') := by
              obtain ⟨h, h1, h2, h3, h4, h5⟩ := HP2.out
              exact ⟨iN, h, rfl, h1, h2, h3.fin hIJ⟩
            clear hIJ HP2
            go_wp2
            go_ret
            obtain ⟨m, f', rfl, h1, h2, h3⟩ := HE.out
            exact ⟨m, f', rfl, h1, h2, h3⟩
          · obtain ⟨h, h1, h2, h3, h4, h5, h6⟩ := HP2.out
            have h6 := h6 (by omega)
            have h7 := h3.swp (by omega) h6.2 h6.1
            obtain ⟨Jd, hJd⟩ : ∃ Jd, J1 - 1 = Jd := ⟨_, rfl⟩
            rw [hJd] at h7
            have HF : Hid (RU wc g n h ∧ KU g w wc ∧ iN < J1 ∧ PeI a b pv (iN + 1) Jd f (swpF h iN J1) ∧ Jd + 1 = J1 ∧ J1 < n ∧ ii ≤ iN ∧ J1 ≤ jj) := ⟨h1, h2, h7.1, h7.2, by omega, by have := h3.jb; omega, h4, h5⟩
            have e5 : (J1 : Int) - 1 = (Jd : Int) := by omega
            obtain ⟨i1, hi1⟩ : ∃ i1, iN + 1 = i1 := ⟨_, rfl⟩
            have ei1 : (iN : Int) + 1 = (i1 : Int) := by omega
            have H1 : Hid (iN + 1 = i1) := hi1
            have y1 : i1 < 1152921504606846976 := by have := h3.jb; omega
            have y2 : Jd < 1152921504606846976 := by have := h3.jb; omega
            have k0 := h1.cell (j := iN) (by have := h3.jb; omega)
            have k1 := h1.cell (j := J1) (by have := h3.jb; omega)
            have z0 := h1.froz iN
            have z1 := h1.froz J1
            have hJn : (J1 : Int) < (n : Int) := by have := h3.jb; omega
            have hIn : (iN : Int) < (n : Int) := by have := h3.jb; omega
            have hij2 : (iN : Int) < (J1 : Int) := by omega
            have n1 : ¬ iN = J1 := by omega
            have n2 : ¬ J1 = iN := by omega
            clear h1 h2 h3 h4 h5 h6 h7 hJd HP2 hIJ hi1
            go_upto_region 8 with fail
            go_region
            have HN : Hid (∃ h', RU ((((wc.setCell ⟨g, iN, none⟩ (.int .u64 (h J1 : Int))).setCell ⟨g, J1, none⟩ (.int .u64 (h iN : Int))).drew)) g n h' ∧ KU g w ((((wc.setCell ⟨g, iN, none⟩ (.int .u64 (h J1 : Int))).setCell ⟨g, J1, none⟩ (.int .u64 (h iN : Int))).drew)) ∧ PeI a b pv i1 Jd f h') :=
              ⟨swpF h iN J1, ((HF.out.1.set (by have := HF.out.2.2; omega) _).set (by have := HF.out.2.2; omega) _).drewN 1, ((HF.out.2.1.set _ _).set _ _).drewN 1, by rw [← H1.out]; exact HF.out.2.2.2.1⟩
            have HG : Hid (Jd + 1 - i1 < gk ∧ Jd + 1 - i1 + i1 = Jd + 1) := by
              have q1 := HF.out.2.2
              have q2 := HGG.out
              have q3 := H1.out
              have q4 := q1.2.1.ij
              exact ⟨by omega, by omega⟩
            go_wp2_with fail
            go_roundg (Jd + 1 - i1)
            case measure => exact HG.out.1
            case rel => exact ⟨i1, Jd, HG.out.2, rfl, rfl, HN.out⟩

end Go.Proofs.Ytgkgdbdapkgkgaa

/- partitionOrdered of numbers. -/
namespace Go.Proofs.Ytgkgdbdapkgkgaa
set_option maxRecDepth 100000
open Go.RowKit
set_option linter.unusedVariables false
set_option linter.unusedSimpArgs false

/-- below i less than what stands at a, behind j not -/
structure PtI (a b i j : Nat) (f h : Nat → Nat) : Prop where
  sw : SwP a b f h
  lo : ∀ k, a + 1 ≤ k → k < i → h k < h a
  up : ∀ k, j < k → k < b → h a ≤ h k
  ia : a + 1 ≤ i
  ij : i ≤ j + 1
  jb : j + 1 ≤ b

theorem PtI.iup {a b i j : Nat} {f h : Nat → Nat} (H : PtI a b i j f h) (hij : i ≤ j) (hl : h i < h a) : PtI a b (i + 1) j f h :=
  ⟨H.sw, fun k q1 q2 => by
    by_cases e : k = i
    · subst e; exact hl
    · exact H.lo k q1 (by omega), H.up, by have := H.ia; omega, by omega, H.jb⟩

theorem PtI.jdn {a b i j : Nat} {f h : Nat → Nat} (H : PtI a b i (j + 1) f h) (hij : i ≤ j + 1) (hl : ¬ h (j + 1) < h a) : PtI a b i j f h :=
  ⟨H.sw, H.lo, fun k q1 q2 => by
    by_cases e : k = j + 1
    · subst e; omega
    · exact H.up k (by omega) q2, H.ia, hij, by have := H.jb; omega⟩

/-- what a partition leaves -/
def PtP (a b m : Nat) (f h : Nat → Nat) : Prop := SwP a b f h ∧ a ≤ m ∧ m < b ∧ (∀ k, a ≤ k → k < m → h k < h m) ∧ ∀ k, m < k → k < b → h m ≤ h k

theorem PtI.fin {a b i j : Nat} {f h : Nat → Nat} (H : PtI a b i j f h) (hij : j < i) : PtP a b j f (swpF h j a) := by
  have h1 := H.ia
  have h2 := H.ij
  have h3 := H.jb
  have e1 : swpF h j a a = h j := swpF_r h _ _
  have e2 : swpF h j a j = h a := by
    by_cases e : j = a
    · subst e; exact swpF_r h _ _
    · exact swpF_l h e
  have e3 : ∀ k, k ≠ j → k ≠ a → swpF h j a k = h k := fun k q1 q2 => swpF_o h q1 q2
  refine ⟨H.sw.trans (SwP.swp h (by omega) (by omega)), by omega, by omega, fun k q1 q2 => ?_, fun k q1 q2 => ?_⟩
  · rw [e2]
    by_cases e : k = a
    · subst e; rw [e1]; exact H.lo j (by omega) (by omega)
    · rw [e3 k (by omega) e]; exact H.lo k (by omega) (by omega)
  · rw [e2, e3 k (by omega) (by omega)]; exact H.up k q1 q2

theorem PtI.swp {a b i j : Nat} {f h : Nat → Nat} (H : PtI a b i j f h) (hij : i ≤ j) (hi : ¬ h i < h a) (hj : h j < h a) : i < j ∧ PtI a b (i + 1) (j - 1) f (swpF h i j) := by
  have h1 := H.ia
  have h3 := H.jb
  have hne : i < j := by
    by_cases e : i = j
    · subst e; exact absurd hj hi
    · omega
  have e0 : swpF h i j a = h a := swpF_o h (by omega) (by omega)
  have e1 : swpF h i j i = h j := swpF_l h (by omega)
  have e2 : swpF h i j j = h i := swpF_r h _ _
  have e3 : ∀ k, k ≠ i → k ≠ j → swpF h i j k = h k := fun k q1 q2 => swpF_o h q1 q2
  refine ⟨hne, H.sw.trans (SwP.swp h (by omega) (by omega)), fun k q1 q2 => ?_, fun k q1 q2 => ?_, by omega, by omega, by omega⟩
  · rw [e0]
    by_cases e : k = i
    · subst e; rw [e1]; exact hj
    · rw [e3 k e (by omega)]; exact H.lo k q1 (by omega)
  · rw [e0]
    by_cases e : k = j
    · subst e; rw [e2]; omega
    · rw [e3 k (by omega) e]; exact H.up k (by omega) q2

set_option maxHeartbeats 2000000 in
theorem partU_any (w : World) (g n cap a b pv : Nat) (f : Nat → Nat) (h : RU w g n f) (hab : a + 1 ≤ b) (hp : a ≤ pv ∧ pv < b) (hbn : b ≤ n) (hn : n < 1152921504606846976) :
    Calls Try.prog 48 #[.slice (some ⟨g, 0, none⟩) n cap, .int .i64 (a : Int), .int .i64 (b : Int), .int .i64 (pv : Int)] w fun e w' => ∃ (m : Nat) (r : Bool) (f' : Nat → Nat), e = .returned (.tuple #[.int .i64 (m : Int), .bool r]) ∧ RU w' g n f' ∧ KU g w w' ∧ PtP a b m f f' := by
  have H : Hid (RU w g n f) := h
  have han : (a : Int) < (n : Int) := by omega
  have hpn : (pv : Int) < (n : Int) := by omega
  have k0 := h.cell (j := a) (by omega)
  have k1 := h.cell (j := pv) (by omega)
  have z0 := h.froz a
  have z1 := h.froz pv
  clear h
  go_enter Try.func48, Try.ntmps48
  go_upto_region 1 with fail
  go_cut [] from 12 to 25 (fun wx => Hid (∃ h, RU wx g n h ∧ KU g w wx ∧ SwP a b f h))
  case first =>
    by_cases e : a = pv
    · subst e
      go_region
      go_wp2_with fail
      go_meet
      exact ⟨_, ((H.out.set (by omega) _).set (by omega) _).drewN 1, (((KU.refl g w).set _ _).set _ _).drewN 1, SwP.swp f (by omega) (by omega)⟩
    · have n1 : ¬ pv = a := fun h => e h.symm
      go_region
      go_wp2_with fail
      go_meet
      exact ⟨_, ((H.out.set (by omega) _).set (by omega) _).drewN 1, (((KU.refl g w).set _ _).set _ _).drewN 1, SwP.swp f (by omega) (by omega)⟩
  case rest =>
    clear k0 k1 z0 z1
    obtain ⟨J0, hJ0⟩ : ∃ J0, J0 + 1 = b := ⟨b - 1, by omega⟩
    have eJ : (b : Int) - 1 = (J0 : Int) := by omega
    obtain ⟨I0, hI0⟩ : ∃ I0, a + 1 = I0 := ⟨_, rfl⟩
    have eI : (a : Int) + 1 = (I0 : Int) := by omega
    have HP : Hid (∃ h, RU wc g n h ∧ KU g w wc ∧ PtI a b I0 J0 f h) := by
      obtain ⟨h, h1, h2, h3⟩ := hcut.out
      exact ⟨h, h1, h2, h3, fun k q1 q2 => by omega, fun k q1 q2 => by omega, by omega, by omega, by omega⟩
    have HIJ : Hid (J0 + 1 = b ∧ a + 1 = I0) := ⟨hJ0, hI0⟩
    clear hcut hJ0 hI0
    go_upto_block 0 with fail
    go_cut [10] from 30 to 45 (fun iv wx => ∃ i : Nat, iv = .int .i64 (i : Int) ∧ Hid (∃ h, RU wx g n h ∧ KU g w wx ∧ PtI a b i J0 f h ∧ (I0 ≤ i) ∧ (i ≤ J0 → ¬ h i < h a)))
    case first =>
      go_wp2_with fail
      go_loopg [10] (J0 + 1 - I0) (fun gk iv wr => ∃ i : Nat, gk + i = J0 + 1 ∧ I0 ≤ i ∧ iv = .int .i64 (i : Int) ∧ Hid (∃ h, RU wr g n h ∧ KU g w wr ∧ PtI a b i J0 f h))
      case atStart => exact ⟨I0, by have := HP.out.choose_spec.2.2.ij; omega, Nat.le_refl _, rfl, HP.out⟩
      case round =>
        obtain ⟨i, hgi, hIi, rfl, HJ⟩ := hrel
        obtain ⟨h, hru, hku, hpt⟩ := HJ.out
        have HF : Hid (RU wr g n h ∧ KU g w wr ∧ PtI a b i J0 f h ∧ gk + i = J0 + 1 ∧ I0 ≤ i) := ⟨hru, hku, hpt, hgi, hIi⟩
        have q1 := hpt.ia
        have q2 := hpt.jb
        have q3 := hpt.ij
        by_cases hij : i ≤ J0
        · have hijI : (i : Int) ≤ (J0 : Int) := by omega
          have hiI : (i : Int) < (n : Int) := by omega
          have k0 := hru.cell (j := i) (by omega)
          have k1 := hru.cell (j := a) (by omega)
          obtain ⟨r, hr⟩ : ∃ r, decide ((h i : Int) < (h a : Int)) = r := ⟨_, rfl⟩
          have hle : ∀ W : World, Calls Try.prog 46 #[.int .u64 (h i : Int), .int .u64 (h a : Int)] W fun e w' => e = .returned (.bool r) ∧ ∃ n, w' = W.drewN n := fun W => (lessU_any W _ _ r hr).mono fun e w' h => ⟨h.1, 0, by rw [h.2]; rfl⟩
          have HR : Hid (decide ((h i : Int) < (h a : Int)) = r) := hr
          clear hru hku hpt hr HJ hgi hIi q1 q2 q3
          go_upto_region 3 with fail
          go_quiet (first | (go_at_call 46; refine Calls.quiet_of (hle _)) | fail)
          cases r with
          | true =>
            have HN : Hid (∃ h, RU (wr.drewN nq) g n h ∧ KU g w (wr.drewN nq) ∧ PtI a b (i + 1) J0 f h) := by
              obtain ⟨j1, j2, j3, j4⟩ := HF.out
              have := of_decide_eq_true HR.out
              exact ⟨h, j1.drewN _, j2.drewN _, j3.iup hij (by omega)⟩
            have HG : Hid (gk - 1 < gk ∧ gk - 1 + (i + 1) = J0 + 1 ∧ I0 ≤ i + 1) := by have := HF.out.2.2.2; exact ⟨by omega, by omega, by omega⟩
            go_wp2_with fail
            go_roundg (gk - 1)
            case measure => exact HG.out.1
            case rel => exact ⟨i + 1, HG.out.2.1, HG.out.2.2, by go_num, HN.out⟩
          | false =>
            have HN : Hid (∃ h, RU (wr.drewN nq) g n h ∧ KU g w (wr.drewN nq) ∧ PtI a b i J0 f h ∧ I0 ≤ i ∧ (i ≤ J0 → ¬ h i < h a)) := by
              obtain ⟨j1, j2, j3, j4⟩ := HF.out
              have := of_decide_eq_false HR.out
              exact ⟨h, j1.drewN _, j2.drewN _, j3, j4.2, fun _ => by omega⟩
            go_wp2_with fail
            go_meet
            exact ⟨i, rfl, HN.out⟩
        · have hijI : ((i : Int) ≤ (J0 : Int)) = False := eq_false (by omega)
          clear hru hku hpt HJ hgi hIi q1 q2 q3
          go_upto_region 3 with fail
          go_quiet (fail)
          have HN : Hid (∃ h, RU (wr.drewN nq) g n h ∧ KU g w (wr.drewN nq) ∧ PtI a b i J0 f h ∧ I0 ≤ i ∧ (i ≤ J0 → ¬ h i < h a)) := by
            obtain ⟨j1, j2, j3, j4⟩ := HF.out
            exact ⟨h, j1.drewN _, j2.drewN _, j3, j4.2, fun h9 => absurd h9 hij⟩
          clear hijI
          go_wp2_with fail
          go_meet
          exact ⟨i, rfl, HN.out⟩
    case rest =>
      obtain ⟨I1, rfl, HP1⟩ := hcut
      go_upto_block 2 with fail
      go_cut [11] from 46 to 62 (fun jv wx => ∃ j : Nat, jv = .int .i64 (j : Int) ∧ Hid (∃ h, RU wx g n h ∧ KU g w wx ∧ PtI a b I1 j f h ∧ j ≤ J0 ∧ (I1 ≤ j → h j < h a ∧ ¬ h I1 < h a)))
      case first =>
        go_wp2_with fail
        go_loopg [11] (J0 + 1 - I1) (fun gk jv wr => ∃ j : Nat, gk + I1 = j + 1 ∧ j ≤ J0 ∧ jv = .int .i64 (j : Int) ∧ Hid (∃ h, RU wr g n h ∧ KU g w wr ∧ PtI a b I1 j f h ∧ (I1 ≤ j → ¬ h I1 < h a)))
        case atStart =>
          obtain ⟨h, h1, h2, h3, h4, h5⟩ := HP1.out
          exact ⟨J0, by have := h3.ij; omega, Nat.le_refl _, rfl, h, h1, h2, h3, h5⟩
        case round =>
          obtain ⟨j, hgj, hjJ, rfl, HJ⟩ := hrel
          obtain ⟨h, hru, hku, hpt, hni⟩ := HJ.out
          have HF : Hid (RU wr g n h ∧ KU g w wr ∧ PtI a b I1 j f h ∧ (I1 ≤ j → ¬ h I1 < h a) ∧ gk + I1 = j + 1 ∧ j ≤ J0) := ⟨hru, hku, hpt, hni, hgj, hjJ⟩
          have q1 := hpt.ia
          have q2 := hpt.jb
          have q3 := hpt.ij
          by_cases hij : I1 ≤ j
          · have hijI : (I1 : Int) ≤ (j : Int) := by omega
            have hjI : (j : Int) < (n : Int) := by omega
            obtain ⟨jd, hjd⟩ : ∃ jd, jd + 1 = j := ⟨j - 1, by omega⟩
            have e1 : (j : Int) - 1 = (jd : Int) := by omega
            have k0 := hru.cell (j := j) (by omega)
            have k1 := hru.cell (j := a) (by omega)
            obtain ⟨r, hr⟩ : ∃ r, decide ((h j : Int) < (h a : Int)) = r := ⟨_, rfl⟩
            have hle : ∀ W : World, Calls Try.prog 46 #[.int .u64 (h j : Int), .int .u64 (h a : Int)] W fun e w' => e = .returned (.bool r) ∧ ∃ n, w' = W.drewN n := fun W => (lessU_any W _ _ r hr).mono fun e w' h => ⟨h.1, 0, by rw [h.2]; rfl⟩
            have HR : Hid (decide ((h j : Int) < (h a : Int)) = r ∧ jd + 1 = j) := ⟨hr, hjd⟩
            clear hru hku hpt hr HJ hgj hjJ q1 q2 q3 hni hjd
            go_upto_region 5 with fail
            go_quiet (first | (go_at_call 46; refine Calls.quiet_of (hle _)) | fail)
            cases r with
            | false =>
              have HN : Hid (∃ h, RU (wr.drewN nq) g n h ∧ KU g w (wr.drewN nq) ∧ PtI a b I1 jd f h ∧ (I1 ≤ jd → ¬ h I1 < h a)) := by
                obtain ⟨j1, j2, j3, j5, j4⟩ := HF.out
                have := of_decide_eq_false HR.out.1
                have h9 := HR.out.2
                subst h9
                exact ⟨h, j1.drewN _, j2.drewN _, j3.jdn hij (by omega), fun h8 => j5 (by omega)⟩
              have HG : Hid (gk - 1 < gk ∧ gk - 1 + I1 = jd + 1 ∧ jd ≤ J0) := by have := HF.out.2.2.2.2; have h9 := HR.out.2; exact ⟨by omega, by omega, by omega⟩
              go_wp2_with fail
              go_roundg (gk - 1)
              case measure => exact HG.out.1
              case rel => exact ⟨jd, HG.out.2.1, HG.out.2.2, by go_num, HN.out⟩
            | true =>
              have HN : Hid (∃ h, RU (wr.drewN nq) g n h ∧ KU g w (wr.drewN nq) ∧ PtI a b I1 j f h ∧ j ≤ J0 ∧ (I1 ≤ j → h j < h a ∧ ¬ h I1 < h a)) := by
                obtain ⟨j1, j2, j3, j5, j4⟩ := HF.out
                have := of_decide_eq_true HR.out.1
                exact ⟨h, j1.drewN _, j2.drewN _, j3, j4.2, fun h8 => ⟨by omega, j5 h8⟩⟩
              go_wp2_with fail
              go_meet
              exact ⟨j, rfl, HN.out⟩
          · have hijI : ((I1 : Int) ≤ (j : Int)) = False := eq_false (by omega)
            clear hru hku hpt HJ hgj hjJ q1 q2 q3 hni
            go_upto_region 5 with fail
            go_quiet (fail)
            have HN : Hid (∃ h, RU (wr.drewN nq) g n h ∧ KU g w (wr.drewN nq) ∧ PtI a b I1 j f h ∧ j ≤ J0 ∧ (I1 ≤ j → h j < h a ∧ ¬ h I1 < h a)) := by
              obtain ⟨j1, j2, j3, j5, j4⟩ := HF.out
              exact ⟨h, j1.drewN _, j2.drewN _, j3, j4.2, fun h9 => absurd h9 hij⟩
            clear hijI
            go_wp2_with fail
            go_meet
            exact ⟨j, rfl, HN.out⟩
      case rest =>
        obtain ⟨J1, rfl, HP2⟩ := hcut
        by_cases hIJ : J1 < I1
        · obtain ⟨h, h1, h2, h3, h4, h5⟩ := HP2.out
          have HF : Hid (RU wc g n h ∧ KU g w wc ∧ PtI a b I1 J1 f h ∧ J1 < I1 ∧ J1 < n) := ⟨h1, h2, h3, by omega, by have := h3.jb; omega⟩
          have k0 := h1.cell (j := a) (by omega)
          have k1 := h1.cell (j := J1) (by have := h3.jb; omega)
          have z0 := h1.froz a
          have z1 := h1.froz J1
          have hJn : (J1 : Int) < (n : Int) := by have := h3.jb; omega
          have hij2 : (J1 : Int) < (I1 : Int) := by omega
          clear h1 h2 h3 h4 h5
          by_cases e : a = J1
          · subst e
            go_upto_region 8 with fail
            go_region
            have HE : Hid (∃ f', RU ((((wc.setCell ⟨g, a, none⟩ (.int .u64 (h a : Int))).setCell ⟨g, a, none⟩ (.int .u64 (h a : Int))).drew)) g n f' ∧ KU g w ((((wc.setCell ⟨g, a, none⟩ (.int .u64 (h a : Int))).setCell ⟨g, a, none⟩ (.int .u64 (h a : Int))).drew)) ∧ PtP a b a f f') :=
              ⟨swpF h a a, ((HF.out.1.set (by have := HF.out.2.2; omega) _).set (by omega) _).drewN 1, ((HF.out.2.1.set _ _).set _ _).drewN 1, HF.out.2.2.1.fin (by have := HF.out.2.2; omega)⟩
            go_wp2
            try simp only [Exit.inBlock, Exit.then]
            refine bodyPost_ret (results_tmp2 rfl _ _ _) rfl ?_
            obtain ⟨f', x1, x2, x3⟩ := HE.out
            exact ⟨a, true, f', rfl, x1, x2, x3⟩
          · have n1 : ¬ J1 = a := fun h => e h.symm
            go_upto_region 8 with fail
            go_region
            have HE : Hid (∃ f', RU ((((wc.setCell ⟨g, J1, none⟩ (.int .u64 (h a : Int))).setCell ⟨g, a, none⟩ (.int .u64 (h J1 : Int))).drew)) g n f' ∧ KU g w ((((wc.setCell ⟨g, J1, none⟩ (.int .u64 (h a : Int))).setCell ⟨g, a, none⟩ (.int .u64 (h J1 : Int))).drew)) ∧ PtP a b J1 f f') :=
              ⟨swpF h J1 a, ((HF.out.1.set (by have := HF.out.2.2; omega) _).set (by omega) _).drewN 1, ((HF.out.2.1.set _ _).set _ _).drewN 1, HF.out.2.2.1.fin (by have := HF.out.2.2; omega)⟩
            go_wp2
            try simp only [Exit.inBlock, Exit.then]
            refine bodyPost_ret (results_tmp2 rfl _ _ _) rfl ?_
            obtain ⟨f', x1, x2, x3⟩ := HE.out
            exact ⟨J1, true, f', rfl, x1, x2, x3⟩
        · obtain ⟨h, h1, h2, h3, h4, h5⟩ := HP2.out
          have h6 := h5 (by omega)
          have h7 := h3.swp (by omega) h6.2 h6.1
          obtain ⟨Jd, hJd⟩ : ∃ Jd, J1 - 1 = Jd := ⟨_, rfl⟩
          rw [hJd] at h7
          have HF : Hid (RU wc g n h ∧ KU g w wc ∧ I1 < J1 ∧ PtI a b (I1 + 1) Jd f (swpF h I1 J1) ∧ Jd + 1 = J1 ∧ J1 < n) := ⟨h1, h2, h7.1, h7.2, by omega, by have := h3.jb; omega⟩
          have e5 : (J1 : Int) - 1 = (Jd : Int) := by omega
          have k0 := h1.cell (j := I1) (by have := h3.jb; omega)
          have k1 := h1.cell (j := J1) (by have := h3.jb; omega)
          have z0 := h1.froz I1
          have z1 := h1.froz J1
          have hJn : (J1 : Int) < (n : Int) := by have := h3.jb; omega
          have hIn : (I1 : Int) < (n : Int) := by have := h3.jb; omega
          have hij2 : (I1 : Int) < (J1 : Int) := by omega
          have n1 : ¬ I1 = J1 := by omega
          have n2 : ¬ J1 = I1 := by omega
          clear h1 h2 h3 h4 h5 h6 h7 hJd
          go_upto_region 10 with fail
          go_region
          have HN : Hid (RU ((((wc.setCell ⟨g, I1, none⟩ (.int .u64 (h J1 : Int))).setCell ⟨g, J1, none⟩ (.int .u64 (h I1 : Int))).drew)) g n (swpF h I1 J1) ∧ KU g w ((((wc.setCell ⟨g, I1, none⟩ (.int .u64 (h J1 : Int))).setCell ⟨g, J1, none⟩ (.int .u64 (h I1 : Int))).drew)) ∧ PtI a b (I1 + 1) Jd f (swpF h I1 J1)) :=
            ⟨((HF.out.1.set (by have := HF.out.2.2; omega) _).set (by have := HF.out.2.2; omega) _).drewN 1, ((HF.out.2.1.set _ _).set _ _).drewN 1, HF.out.2.2.2.1⟩
          generalize ((((wc.setCell ⟨g, I1, none⟩ (.int .u64 (h J1 : Int))).setCell ⟨g, J1, none⟩ (.int .u64 (h I1 : Int))).drew)) = W2 at HN ⊢
          clear k0 k1 z0 z1
          go_wp2_with fail
          go_loopg [10, 11] (Jd + 1 - (I1 + 1)) (fun gk iv jv wr => ∃ i j : Nat, gk + i = j + 1 ∧ iv = .int .i64 (i : Int) ∧ jv = .int .i64 (j : Int) ∧ Hid (∃ h, RU wr g n h ∧ KU g w wr ∧ PtI a b i j f h))
          case atStart => exact ⟨I1 + 1, Jd, by have := HN.out.2.2.ij; omega, by go_num, rfl, _, HN.out⟩
          case round =>
            obtain ⟨ii, jj, hgij, rfl, rfl, HP⟩ := hrel
            obtain ⟨G, hG⟩ : ∃ G, gk = G := ⟨_, rfl⟩
            have HGG : Hid (G + ii = jj + 1) := by show _ = _; omega
            go_upto_block 6 with fail
            go_cut [10] from 99 to 152 (fun iv wx => ∃ i : Nat, iv = .int .i64 (i : Int) ∧ Hid (∃ h, RU wx g n h ∧ KU g w wx ∧ PtI a b i jj f h ∧ (ii ≤ i) ∧ (i ≤ jj → ¬ h i < h a)))
            case first =>
              go_wp2_with fail
              go_loopg [10] (jj + 1 - ii) (fun gk iv wr => ∃ i : Nat, gk + i = jj + 1 ∧ ii ≤ i ∧ iv = .int .i64 (i : Int) ∧ Hid (∃ h, RU wr g n h ∧ KU g w wr ∧ PtI a b i jj f h))
              case atStart => exact ⟨ii, by have := HP.out.choose_spec.2.2.ij; omega, Nat.le_refl _, rfl, HP.out⟩
              case round =>
                obtain ⟨i, hgi, hIi, rfl, HJ⟩ := hrel
                obtain ⟨h, hru, hku, hpt⟩ := HJ.out
                have HF : Hid (RU wr g n h ∧ KU g w wr ∧ PtI a b i jj f h ∧ gk + i = jj + 1 ∧ ii ≤ i) := ⟨hru, hku, hpt, hgi, hIi⟩
                have q1 := hpt.ia
                have q2 := hpt.jb
                have q3 := hpt.ij
                by_cases hij : i ≤ jj
                · have hijI : (i : Int) ≤ (jj : Int) := by omega
                  have hiI : (i : Int) < (n : Int) := by omega
                  have k0 := hru.cell (j := i) (by omega)
                  have k1 := hru.cell (j := a) (by omega)
                  obtain ⟨r, hr⟩ : ∃ r, decide ((h i : Int) < (h a : Int)) = r := ⟨_, rfl⟩
                  have hle : ∀ W : World, Calls Try.prog 46 #[.int .u64 (h i : Int), .int .u64 (h a : Int)] W fun e w' => e = .returned (.bool r) ∧ ∃ n, w' = W.drewN n := fun W => (lessU_any W _ _ r hr).mono fun e w' h => ⟨h.1, 0, by rw [h.2]; rfl⟩
                  have HR : Hid (decide ((h i : Int) < (h a : Int)) = r) := hr
                  clear hru hku hpt hr HJ hgi hIi q1 q2 q3
                  go_upto_region 13 with fail
                  go_quiet (first | (go_at_call 46; refine Calls.quiet_of (hle _)) | fail)
                  cases r with
                  | true =>
                    have HN : Hid (∃ h, RU (wr.drewN nq) g n h ∧ KU g w (wr.drewN nq) ∧ PtI a b (i + 1) jj f h) := by
                      obtain ⟨j1, j2, j3, j4⟩ := HF.out
                      have := of_decide_eq_true HR.out
                      exact ⟨h, j1.drewN _, j2.drewN _, j3.iup hij (by omega)⟩
                    have HG : Hid (gk - 1 < gk ∧ gk - 1 + (i + 1) = jj + 1 ∧ ii ≤ i + 1) := by have := HF.out.2.2.2; exact ⟨by omega, by omega, by omega⟩
                    go_wp2_with fail
                    go_roundg (gk - 1)
                    case measure => exact HG.out.1
                    case rel => exact ⟨i + 1, HG.out.2.1, HG.out.2.2, by go_num, HN.out⟩
                  | false =>
                    have HN : Hid (∃ h, RU (wr.drewN nq) g n h ∧ KU g w (wr.drewN nq) ∧ PtI a b i jj f h ∧ ii ≤ i ∧ (i ≤ jj → ¬ h i < h a)) := by
                      obtain ⟨j1, j2, j3, j4⟩ := HF.out
                      have := of_decide_eq_false HR.out
                      exact ⟨h, j1.drewN _, j2.drewN _, j3, j4.2, fun _ => by omega⟩
                    go_wp2_with fail
                    go_meet
                    exact ⟨i, rfl, HN.out⟩
                · have hijI : ((i : Int) ≤ (jj : Int)) = False := eq_false (by omega)
                  clear hru hku hpt HJ hgi hIi q1 q2 q3
                  go_upto_region 13 with fail
                  go_quiet (fail)
                  have HN : Hid (∃ h, RU (wr.drewN nq) g n h ∧ KU g w (wr.drewN nq) ∧ PtI a b i jj f h ∧ ii ≤ i ∧ (i ≤ jj → ¬ h i < h a)) := by
                    obtain ⟨j1, j2, j3, j4⟩ := HF.out
                    exact ⟨h, j1.drewN _, j2.drewN _, j3, j4.2, fun h9 => absurd h9 hij⟩
                  clear hijI
                  go_wp2_with fail
                  go_meet
                  exact ⟨i, rfl, HN.out⟩
            case rest =>
              obtain ⟨iN, rfl, HP1⟩ := hcut
              go_upto_block 8 with fail
              go_cut [11] from 99 to 152 (fun jv wx => ∃ j : Nat, jv = .int .i64 (j : Int) ∧ Hid (∃ h, RU wx g n h ∧ KU g w wx ∧ PtI a b iN j f h ∧ j ≤ jj ∧ (iN ≤ j → h j < h a ∧ ¬ h iN < h a)))
              case first =>
                go_wp2_with fail
                go_loopg [11] (jj + 1 - iN) (fun gk jv wr => ∃ j : Nat, gk + iN = j + 1 ∧ j ≤ jj ∧ jv = .int .i64 (j : Int) ∧ Hid (∃ h, RU wr g n h ∧ KU g w wr ∧ PtI a b iN j f h ∧ (iN ≤ j → ¬ h iN < h a)))
                case atStart =>
                  obtain ⟨h, h1, h2, h3, h4, h5⟩ := HP1.out
                  exact ⟨jj, by have := h3.ij; omega, Nat.le_refl _, rfl, h, h1, h2, h3, h5⟩
                case round =>
                  obtain ⟨j, hgj, hjJ, rfl, HJ⟩ := hrel
                  obtain ⟨h, hru, hku, hpt, hni⟩ := HJ.out
                  have HF : Hid (RU wr g n h ∧ KU g w wr ∧ PtI a b iN j f h ∧ (iN ≤ j → ¬ h iN < h a) ∧ gk + iN = j + 1 ∧ j ≤ jj) := ⟨hru, hku, hpt, hni, hgj, hjJ⟩
                  have q1 := hpt.ia
                  have q2 := hpt.jb
                  have q3 := hpt.ij
                  by_cases hij : iN ≤ j
                  · have hijI : (iN : Int) ≤ (j : Int) := by omega
                    have hjI : (j : Int) < (n : Int) := by omega
                    obtain ⟨jd, hjd⟩ : ∃ jd, jd + 1 = j := ⟨j - 1, by omega⟩
                    have e1 : (j : Int) - 1 = (jd : Int) := by omega
                    have k0 := hru.cell (j := j) (by omega)
                    have k1 := hru.cell (j := a) (by omega)
                    obtain ⟨r, hr⟩ : ∃ r, decide ((h j : Int) < (h a : Int)) = r := ⟨_, rfl⟩
                    have hle : ∀ W : World, Calls Try.prog 46 #[.int .u64 (h j : Int), .int .u64 (h a : Int)] W fun e w' => e = .returned (.bool r) ∧ ∃ n, w' = W.drewN n := fun W => (lessU_any W _ _ r hr).mono fun e w' h => ⟨h.1, 0, by rw [h.2]; rfl⟩
                    have HR : Hid (decide ((h j : Int) < (h a : Int)) = r ∧ jd + 1 = j) := ⟨hr, hjd⟩
                    clear hru hku hpt hr HJ hgj hjJ q1 q2 q3 hni hjd
                    go_upto_region 15 with fail
                    go_quiet (first | (go_at_call 46; refine Calls.quiet_of (hle _)) | fail)
                    cases r with
                    | false =>
                      have HN : Hid (∃ h, RU (wr.drewN nq) g n h ∧ KU g w (wr.drewN nq) ∧ PtI a b iN jd f h ∧ (iN ≤ jd → ¬ h iN < h a)) := by
                        obtain ⟨j1, j2, j3, j5, j4⟩ := HF.out
                        have := of_decide_eq_false HR.out.1
                        have h9 := HR.out.2
                        subst h9
                        exact ⟨h, j1.drewN _, j2.drewN _, j3.jdn hij (by omega), fun h8 => j5 (by omega)⟩
                      have HG : Hid (gk - 1 < gk ∧ gk - 1 + iN = jd + 1 ∧ jd ≤ jj) := by have := HF.out.2.2.2.2; have h9 := HR.out.2; exact ⟨by omega, by omega, by omega⟩
                      go_wp2_with fail
                      go_roundg (gk - 1)
                      case measure => exact HG.out.1
                      case rel => exact ⟨jd, HG.out.2.1, HG.out.2.2, by go_num, HN.out⟩
                    | true =>
                      have HN : Hid (∃ h, RU (wr.drewN nq) g n h ∧ KU g w (wr.drewN nq) ∧ PtI a b iN j f h ∧ j ≤ jj ∧ (iN ≤ j → h j < h a ∧ ¬ h iN < h a)) := by
                        obtain ⟨j1, j2, j3, j5, j4⟩ := HF.out
                        have := of_decide_eq_true HR.out.1
                        exact ⟨h, j1.drewN _, j2.drewN _, j3, j4.2, fun h8 => ⟨by omega, j5 h8⟩⟩
                      go_wp2_with fail
                      go_meet
                      exact ⟨j, rfl, HN.out⟩
                  · have hijI : ((iN : Int) ≤ (j : Int)) = False := eq_false (by omega)
                    clear hru hku hpt HJ hgj hjJ q1 q2 q3 hni
                    go_upto_region 15 with fail
                    go_quiet (fail)
                    have HN : Hid (∃ h, RU (wr.drewN nq) g n h ∧ KU g w (wr.drewN nq) ∧ PtI a b iN j f h ∧ j ≤ jj ∧ (iN ≤ j → h j < h a ∧ ¬ h iN < h a)) := by
                      obtain ⟨j1, j2, j3, j5, j4⟩ := HF.out
                      exact ⟨h, j1.drewN _, j2.drewN _, j3, j4.2, fun h9 => absurd h9 hij⟩
                    clear hijI
                    go_wp2_with fail
                    go_meet
                    exact ⟨j, rfl, HN.out⟩
              case rest =>
                obtain ⟨jN, rfl, HP2⟩ := hcut
                have HB2 : Hid (ii ≤ iN ∧ jN ≤ jj) := by
                  obtain ⟨h9, _, _, _, h8, _⟩ := HP1.out
                  obtain ⟨h7, _, _, _, h6, _⟩ := HP2.out
                  exact ⟨h8, h6⟩
                by_cases hIJ2 : jN < iN
                · obtain ⟨h, h1, h2, h3, h4, h5⟩ := HP2.out
                  have HF : Hid (RU wc g n h ∧ KU g w wc ∧ PtI a b iN jN f h ∧ jN < iN ∧ jN < n) := ⟨h1, h2, h3, by omega, by have := h3.jb; omega⟩
                  have k0 := h1.cell (j := a) (by omega)
                  have k1 := h1.cell (j := jN) (by have := h3.jb; omega)
                  have z0 := h1.froz a
                  have z1 := h1.froz jN
                  have hJn : (jN : Int) < (n : Int) := by have := h3.jb; omega
                  have hij2 : (jN : Int) < (iN : Int) := by omega
                  clear h1 h2 h3 h4 h5
                  by_cases e : a = jN
                  · subst e
                    go_upto_region 21 with fail
                    go_region
                    have HE : Hid (∃ f', RU ((((wc.setCell ⟨g, a, none⟩ (.int .u64 (h a : Int))).setCell ⟨g, a, none⟩ (.int .u64 (h a : Int))).drew)) g n f' ∧ KU g w ((((wc.setCell ⟨g, a, none⟩ (.int .u64 (h a : Int))).setCell ⟨g, a, none⟩ (.int .u64 (h a : Int))).drew)) ∧ PtP a b a f f') :=
                      ⟨swpF h a a, ((HF.out.1.set (by have := HF.out.2.2; omega) _).set (by omega) _).drewN 1, ((HF.out.2.1.set _ _).set _ _).drewN 1, HF.out.2.2.1.fin (by have := HF.out.2.2; omega)⟩
                    go_wp2
                    try simp only [Exit.inBlock, Exit.then]
                    refine bodyPost_ret (results_tmp2 rfl _ _ _) rfl ?_
                    obtain ⟨f', x1, x2, x3⟩ := HE.out
                    exact ⟨a, false, f', rfl, x1, x2, x3⟩
                  · have n1 : ¬ jN = a := fun h => e h.symm
                    go_upto_region 21 with fail
                    go_region
                    have HE : Hid (∃ f', RU ((((wc.setCell ⟨g, jN, none⟩ (.int .u64 (h a : Int))).setCell ⟨g, a, none⟩ (.int .u64 (h jN : Int))).drew)) g n f' ∧ KU g w ((((wc.setCell ⟨g, jN, none⟩ (.int .u64 (h a : Int))).setCell ⟨g, a, none⟩ (.int .u64 (h jN : Int))).drew)) ∧ PtP a b jN f f') :=
                      ⟨swpF h jN a, ((HF.out.1.set (by have := HF.out.2.2; omega) _).set (by omega) _).drewN 1, ((HF.out.2.1.set _ _).set _ _).drewN 1, HF.out.2.2.1.fin (by have := HF.out.2.2; omega)⟩
                    go_wp2
                    try simp only [Exit.inBlock, Exit.then]
                    refine bodyPost_ret (results_tmp2 rfl _ _ _) rfl ?_
                    obtain ⟨f', x1, x2, x3⟩ := HE.out
                    exact ⟨jN, false, f', rfl, x1, x2, x3⟩
                · obtain ⟨h, h1, h2, h3, h4, h5⟩ := HP2.out
                  have h6 := h5 (by omega)
                  have h7 := h3.swp (by omega) h6.2 h6.1
                  obtain ⟨Je, hJd⟩ : ∃ Jd, jN - 1 = Jd := ⟨_, rfl⟩
                  rw [hJd] at h7
                  have HF : Hid (RU wc g n h ∧ KU g w wc ∧ iN < jN ∧ PtI a b (iN + 1) Je f (swpF h iN jN) ∧ Je + 1 = jN ∧ jN < n) := ⟨h1, h2, h7.1, h7.2, by omega, by have := h3.jb; omega⟩
                  have e5 : (jN : Int) - 1 = (Je : Int) := by omega
                  have k0 := h1.cell (j := iN) (by have := h3.jb; omega)
                  have k1 := h1.cell (j := jN) (by have := h3.jb; omega)
                  have z0 := h1.froz iN
                  have z1 := h1.froz jN
                  have hJn : (jN : Int) < (n : Int) := by have := h3.jb; omega
                  have hIn : (iN : Int) < (n : Int) := by have := h3.jb; omega
                  have hij2 : (iN : Int) < (jN : Int) := by omega
                  have n1 : ¬ iN = jN := by omega
                  have n2 : ¬ jN = iN := by omega
                  clear h1 h2 h3 h4 h5 h6 h7 hJd
                  go_upto_region 18 with fail
                  go_region
                  have HN : Hid (RU ((((wc.setCell ⟨g, iN, none⟩ (.int .u64 (h jN : Int))).setCell ⟨g, jN, none⟩ (.int .u64 (h iN : Int))).drew)) g n (swpF h iN jN) ∧ KU g w ((((wc.setCell ⟨g, iN, none⟩ (.int .u64 (h jN : Int))).setCell ⟨g, jN, none⟩ (.int .u64 (h iN : Int))).drew)) ∧ PtI a b (iN + 1) Je f (swpF h iN jN)) :=
                    ⟨((HF.out.1.set (by have := HF.out.2.2; omega) _).set (by have := HF.out.2.2; omega) _).drewN 1, ((HF.out.2.1.set _ _).set _ _).drewN 1, HF.out.2.2.2.1⟩
                  have HM : Hid (iN + 1 ≤ Je + 1 ∧ Je + 1 - (iN + 1) < G) := by
                    have h1 := HF.out.2.2
                    have h2 := HGG.out
                    have h3 := HB2.out
                    exact ⟨by omega, by omega⟩
                  go_wp2_with fail
                  go_roundg (Je + 1 - (iN + 1))
                  case measure => have := HM.out.2; omega
                  case rel => exact ⟨iN + 1, Je, by have := HM.out.1; omega, by go_num, rfl, _, HN.out⟩

end Go.Proofs.Ytgkgdbdapkgkgaa

/- siftDownOrdered of numbers. -/
namespace Go.Proofs.Ytgkgdbdapkgkgaa
set_option maxRecDepth 100000
open Go.RowKit
set_option linter.unusedVariables false
set_option linter.unusedSimpArgs false

/-- a heap from F on: no child is above its parent, from lo on, below hi -/
def HpU (F lo hi : Nat) (f : Nat → Nat) : Prop := ∀ k c, lo ≤ k → (c = 2 * k + 1 ∨ c = 2 * k + 2) → c < hi → f (F + c) ≤ f (F + k)

/-- a heap but at r -/
structure HpI (F lo hi r : Nat) (f : Nat → Nat) : Prop where
  oth : ∀ k c, lo ≤ k → k ≠ r → (c = 2 * k + 1 ∨ c = 2 * k + 2) → c < hi → f (F + c) ≤ f (F + k)
  gra : ∀ k c, lo ≤ k → (r = 2 * k + 1 ∨ r = 2 * k + 2) → (c = 2 * r + 1 ∨ c = 2 * r + 2) → c < hi → f (F + c) ≤ f (F + k)
  pos : lo ≤ r

theorem HpI.start {F lo hi : Nat} {f : Nat → Nat} (h : HpU F (lo + 1) hi f) : HpI F lo hi lo f :=
  ⟨fun k c h1 h2 h3 h4 => h k c (by omega) h3 h4, fun k c h1 h2 h3 h4 => by omega, Nat.le_refl _⟩

/-- c is a child of r, none greater -/
def MaxC (F hi r c : Nat) (f : Nat → Nat) : Prop := ∀ d, (d = 2 * r + 1 ∨ d = 2 * r + 2) → d < hi → f (F + d) ≤ f (F + c)

theorem HpI.step {F lo hi r c : Nat} {f : Nat → Nat} (h : HpI F lo hi r f) (hc : c = 2 * r + 1 ∨ c = 2 * r + 2) (hh : c < hi) (hm : MaxC F hi r c f) (hl : f (F + r) < f (F + c)) : HpI F lo hi c (swpF f (F + r) (F + c)) := by
  have e1 : swpF f (F + r) (F + c) (F + r) = f (F + c) := swpF_l f (by omega)
  have e2 : swpF f (F + r) (F + c) (F + c) = f (F + r) := swpF_r f _ _
  have e3 : ∀ k, k ≠ r → k ≠ c → swpF f (F + r) (F + c) (F + k) = f (F + k) := fun k h1 h2 => swpF_o f (by omega) (by omega)
  have hp := h.pos
  refine ⟨fun k d h1 h2 h3 h4 => ?_, fun k d h1 h2 h3 h4 => ?_, by omega⟩
  · by_cases hk : k = r
    · subst hk
      rw [e1]
      by_cases hd : d = c
      · subst hd; rw [e2]; omega
      · rw [e3 d (by omega) hd]
        exact hm d h3 h4
    · rw [e3 k hk h2]
      by_cases hd : d = r
      · subst hd
        rw [e1]
        exact h.gra k c h1 h3 hc hh
      · rw [e3 d hd (by omega)]
        exact h.oth k d h1 hk h3 h4
  · have hk : k = r := by omega
    subst hk
    rw [e1, e3 d (by omega) (by omega)]
    exact h.oth c d (by omega) (by omega) h3 h4

theorem HpI.stop {F lo hi r : Nat} {f : Nat → Nat} (h : HpI F lo hi r f) (hs : hi ≤ 2 * r + 1 ∨ ∃ c, (c = 2 * r + 1 ∨ c = 2 * r + 2) ∧ c < hi ∧ MaxC F hi r c f ∧ ¬ f (F + r) < f (F + c)) : HpU F lo hi f := by
  intro k d h1 h2 h3
  by_cases hk : k = r
  · subst hk
    rcases hs with hs | ⟨c, _, _, hm, hl⟩
    · omega
    · have := hm d h2 h3
      omega
  · exact h.oth k d h1 hk h2 h3

set_option maxHeartbeats 2000000 in
theorem siftU_any (w : World) (g n cap lo hi F : Nat) (f : Nat → Nat) (h : RU w g n f) (hlo : lo ≤ hi) (hhi : F + hi ≤ n) (hn : n < 1152921504606846976) :
    Calls Try.prog 51 #[.slice (some ⟨g, 0, none⟩) n cap, .int .i64 (lo : Int), .int .i64 (hi : Int), .int .i64 (F : Int)] w fun e w' => e = .returned (.tuple #[]) ∧ ∃ f', RU w' g n f' ∧ KU g w w' ∧ SwP (F + lo) (F + hi) f f' ∧ (HpU F (lo + 1) hi f → HpU F lo hi f') := by
  have H : Hid (RU w g n f) := h
  clear h
  go_enter Try.func51, Try.ntmps51
  go_wp2_with fail
  go_loopg [8] (hi - lo) (fun gk rv wr => ∃ r : Nat, gk + r = hi ∧ lo ≤ r ∧ rv = .int .i64 (r : Int) ∧ Hid (∃ f', RU wr g n f' ∧ KU g w wr ∧ SwP (F + lo) (F + hi) f f' ∧ (HpU F (lo + 1) hi f → HpI F lo hi r f')))
  case atStart => exact ⟨lo, by omega, Nat.le_refl _, rfl, f, H.out, KU.refl _ _, SwP.refl _ _ _, HpI.start⟩
  case round =>
    obtain ⟨r, hr, hlr, rfl, HJ⟩ := hrel
    obtain ⟨f', hru, hku, hsw, hin⟩ := HJ.out
    obtain ⟨d, hd⟩ : ∃ d : Nat, 2 * r = d := ⟨_, rfl⟩
    obtain ⟨c, hc⟩ : ∃ c : Nat, d + 1 = c := ⟨_, rfl⟩
    have e1 : 2 * (r : Int) = (d : Int) := by omega
    have e2 : (d : Int) + 1 = (c : Int) := by omega
    have hdb : d < 4611686018427387904 := by omega
    have HF : Hid (RU wr g n f' ∧ KU g w wr ∧ SwP (F + lo) (F + hi) f f' ∧ (HpU F (lo + 1) hi f → HpI F lo hi r f')) := ⟨hru, hku, hsw, hin⟩
    by_cases hch : c < hi
    · obtain ⟨P, hP⟩ : ∃ P : Nat, F + r = P := ⟨_, rfl⟩
      obtain ⟨C, hC⟩ : ∃ C : Nat, F + c = C := ⟨_, rfl⟩
      have e3 : (F : Int) + (r : Int) = (P : Int) := by omega
      have e4 : (F : Int) + (c : Int) = (C : Int) := by omega
      have hPn : (P : Int) < (n : Int) := by omega
      have hCn : (C : Int) < (n : Int) := by omega
      have k0 := hru.cell (j := P) (by omega)
      have k1 := hru.cell (j := C) (by omega)
      have z0 := hru.froz P
      have z1 := hru.froz C
      have n1 : ¬ P = C := by omega
      have n2 : ¬ C = P := by omega
      by_cases hc1 : c + 1 < hi
      · obtain ⟨c', hc'⟩ : ∃ c' : Nat, c + 1 = c' := ⟨_, rfl⟩
        obtain ⟨D, hD⟩ : ∃ D : Nat, C + 1 = D := ⟨_, rfl⟩
        have e5 : (c : Int) + 1 = (c' : Int) := by omega
        have e6 : (C : Int) + 1 = (D : Int) := by omega
        have e7 : (F : Int) + (c' : Int) = (D : Int) := by omega
        have hDn : (D : Int) < (n : Int) := by omega
        have k2 := hru.cell (j := D) (by omega)
        have z2 := hru.froz D
        have n3 : ¬ P = D := by omega
        have n4 : ¬ D = P := by omega
        have hci : (c' : Int) < (hi : Int) := by omega
        obtain ⟨q, hq⟩ : ∃ q, decide ((f' C : Int) < (f' D : Int)) = q := ⟨_, rfl⟩
        have hle : ∀ W : World, Calls Try.prog 46 #[.int .u64 (f' C : Int), .int .u64 (f' D : Int)] W fun e w' => e = .returned (.bool q) ∧ ∃ n, w' = W.drewN n := fun W => (lessU_any W _ _ q hq).mono fun e w' h => ⟨h.1, 0, by rw [h.2]; rfl⟩
        have HQ : Hid (decide ((f' C : Int) < (f' D : Int)) = q) := hq
        have HX : Hid (gk + r = hi ∧ lo ≤ r ∧ 2 * r = d ∧ d + 1 = c ∧ F + r = P ∧ F + c = C ∧ c + 1 = c' ∧ C + 1 = D ∧ c < hi ∧ c' < hi) := ⟨hr, hlr, hd, hc, hP, hC, hc', hD, hch, by omega⟩
        have hchI : ¬ (hi : Int) ≤ (c : Int) := by omega
        clear hru hku hsw hin hq hr hlr hd hc hP hC hc' hD hch hc1
        go_upto_region 3 with fail
        go_quiet (first | (go_at_call 46; refine Calls.quiet_of (hle _)) | fail)
        cases q with
        | true =>
          have HM : Hid (MaxC F hi r c' f') := by
            have hx := HX.out
            have h9 := of_decide_eq_true HQ.out
            have e8 : F + c' = D := by omega
            intro d9 h1 h2
            rw [e8]
            rcases h1 with h1 | h1
            · have e9 : F + d9 = C := by omega
              rw [e9]; omega
            · have e9 : F + d9 = D := by omega
              rw [e9]; exact Nat.le_refl _
          clear hle
          have HF1 : Hid (RU (wr.drewN nq) g n f' ∧ KU g w (wr.drewN nq) ∧ SwP (F + lo) (F + hi) f f' ∧ (HpU F (lo + 1) hi f → HpI F lo hi r f')) := ⟨HF.out.1.drewN _, HF.out.2.1.drewN _, HF.out.2.2⟩
          clear k0 k1 k2 z0 z1 z2
          generalize wr.drewN nq = W1 at HF1 ⊢
          have k0 := HF1.out.1.cell (j := P) (by have := HX.out; omega)
          have k1 := HF1.out.1.cell (j := D) (by have := HX.out; omega)
          have z0 := HF1.out.1.froz P
          have z1 := HF1.out.1.froz D
          obtain ⟨s, hs⟩ : ∃ s, decide ((f' P : Int) < (f' D : Int)) = s := ⟨_, rfl⟩
          have hle2 : ∀ W : World, Calls Try.prog 46 #[.int .u64 (f' P : Int), .int .u64 (f' D : Int)] W fun e w' => e = .returned (.bool s) ∧ ∃ n, w' = W.drewN n := fun W => (lessU_any W _ _ s hs).mono fun e w' h => ⟨h.1, 0, by rw [h.2]; rfl⟩
          have HS : Hid (decide ((f' P : Int) < (f' D : Int)) = s) := hs
          clear hs
          go_upto_region 5 with fail
          go_quiet (first | (go_at_call 46; refine Calls.quiet_of (hle2 _)) | fail)
          cases s with
          | true =>
            have hlt9 : f' P < f' D := by have := of_decide_eq_true HS.out; omega
            go_upto_region 6 with fail
            go_region
            go_wp2_with fail
            obtain ⟨h1, h2, h3, h4⟩ := HF1.out
            have hx := HX.out
            go_roundg (hi - c')
            case measure => omega
            case rel =>
              refine ⟨c', by omega, by omega, by go_num, ⟨swpF f' P D, ((h1.drewN _).set (by omega) _).set (by omega) _, ((h2.drewN _).set _ _).set _ _, h3.trans (SwP.swp f' (by omega) (by omega)), fun hh => ?_⟩⟩
              have e9 : f' (F + r) < f' (F + c') := by
                rw [show F + r = P by omega, show F + c' = D by omega]
                exact hlt9
              have h5 := (h4 hh).step (c := c') (by omega) (by omega) HM.out e9
              have e1 : F + r = P := by omega
              have e2 : F + c' = D := by omega
              rw [e1, e2] at h5
              exact h5
          | false =>
            have HE : Hid (∃ f', RU (W1.drewN nq) g n f' ∧ KU g w (W1.drewN nq) ∧ SwP (F + lo) (F + hi) f f' ∧ (HpU F (lo + 1) hi f → HpU F lo hi f')) := by
              obtain ⟨h1, h2, h3, h4⟩ := HF1.out
              have hx := HX.out
              refine ⟨f', h1.drewN _, h2.drewN _, h3, fun hh => (h4 hh).stop (.inr ⟨c', by omega, by omega, HM.out, ?_⟩)⟩
              have e1 : F + r = P := by omega
              have e2 : F + c' = D := by omega
              rw [e1, e2]
              have := of_decide_eq_false HS.out
              omega
            go_wp2
            try simp only [Exit.inBlock, Exit.then]
            refine bodyPost_ret (results_none rfl _ _ _) rfl ?_
            exact ⟨rfl, HE.out⟩
        | false =>
          have HM : Hid (MaxC F hi r c f') := by
            have hx := HX.out
            have h9 := of_decide_eq_false HQ.out
            have e8 : F + c = C := by omega
            intro d9 h1 h2
            rw [e8]
            rcases h1 with h1 | h1
            · have e9 : F + d9 = C := by omega
              rw [e9]; exact Nat.le_refl _
            · have e9 : F + d9 = D := by omega
              rw [e9]; omega
          clear hle
          have HF1 : Hid (RU (wr.drewN nq) g n f' ∧ KU g w (wr.drewN nq) ∧ SwP (F + lo) (F + hi) f f' ∧ (HpU F (lo + 1) hi f → HpI F lo hi r f')) := ⟨HF.out.1.drewN _, HF.out.2.1.drewN _, HF.out.2.2⟩
          clear k0 k1 k2 z0 z1 z2
          generalize wr.drewN nq = W1 at HF1 ⊢
          have k0 := HF1.out.1.cell (j := P) (by have := HX.out; omega)
          have k1 := HF1.out.1.cell (j := C) (by have := HX.out; omega)
          have z0 := HF1.out.1.froz P
          have z1 := HF1.out.1.froz C
          obtain ⟨s, hs⟩ : ∃ s, decide ((f' P : Int) < (f' C : Int)) = s := ⟨_, rfl⟩
          have hle2 : ∀ W : World, Calls Try.prog 46 #[.int .u64 (f' P : Int), .int .u64 (f' C : Int)] W fun e w' => e = .returned (.bool s) ∧ ∃ n, w' = W.drewN n := fun W => (lessU_any W _ _ s hs).mono fun e w' h => ⟨h.1, 0, by rw [h.2]; rfl⟩
          have HS : Hid (decide ((f' P : Int) < (f' C : Int)) = s) := hs
          clear hs
          go_upto_region 5 with fail
          go_quiet (first | (go_at_call 46; refine Calls.quiet_of (hle2 _)) | fail)
          cases s with
          | true =>
            have hlt9 : f' P < f' C := by have := of_decide_eq_true HS.out; omega
            go_upto_region 6 with fail
            go_region
            go_wp2_with fail
            obtain ⟨h1, h2, h3, h4⟩ := HF1.out
            have hx := HX.out
            go_roundg (hi - c)
            case measure => omega
            case rel =>
              refine ⟨c, by omega, by omega, by go_num, ⟨swpF f' P C, ((h1.drewN _).set (by omega) _).set (by omega) _, ((h2.drewN _).set _ _).set _ _, h3.trans (SwP.swp f' (by omega) (by omega)), fun hh => ?_⟩⟩
              have e9 : f' (F + r) < f' (F + c) := by
                rw [show F + r = P by omega, show F + c = C by omega]
                exact hlt9
              have h5 := (h4 hh).step (c := c) (by omega) (by omega) HM.out e9
              have e1 : F + r = P := by omega
              have e2 : F + c = C := by omega
              rw [e1, e2] at h5
              exact h5
          | false =>
            have HE : Hid (∃ f', RU (W1.drewN nq) g n f' ∧ KU g w (W1.drewN nq) ∧ SwP (F + lo) (F + hi) f f' ∧ (HpU F (lo + 1) hi f → HpU F lo hi f')) := by
              obtain ⟨h1, h2, h3, h4⟩ := HF1.out
              have hx := HX.out
              refine ⟨f', h1.drewN _, h2.drewN _, h3, fun hh => (h4 hh).stop (.inr ⟨c, by omega, by omega, HM.out, ?_⟩)⟩
              have e1 : F + r = P := by omega
              have e2 : F + c = C := by omega
              rw [e1, e2]
              have := of_decide_eq_false HS.out
              omega
            go_wp2
            try simp only [Exit.inBlock, Exit.then]
            refine bodyPost_ret (results_none rfl _ _ _) rfl ?_
            exact ⟨rfl, HE.out⟩
      · have e5 : ((c : Int) + 1 < (hi : Int)) = False := eq_false (by omega)
        have HM : Hid (MaxC F hi r c f') := by
          intro d9 h1 h2
          have e9 : d9 = c := by omega
          rw [e9]; exact Nat.le_refl _
        have HX : Hid (gk + r = hi ∧ lo ≤ r ∧ 2 * r = d ∧ d + 1 = c ∧ F + r = P ∧ F + c = C ∧ c < hi) := ⟨hr, hlr, hd, hc, hP, hC, hch⟩
        have hchI : ¬ (hi : Int) ≤ (c : Int) := by omega
        have hcb : (c : Int) + 1 < 9223372036854775807 := by omega
        clear hru hku hsw hin hr hlr hd hc hP hC hch hc1
        go_upto_region 3 with fail
        go_quiet (fail)
        have HF1 : Hid (RU (wr.drewN nq) g n f' ∧ KU g w (wr.drewN nq) ∧ SwP (F + lo) (F + hi) f f' ∧ (HpU F (lo + 1) hi f → HpI F lo hi r f')) := ⟨HF.out.1.drewN _, HF.out.2.1.drewN _, HF.out.2.2⟩
        clear k0 k1 z0 z1 e5 hcb
        generalize wr.drewN nq = W1 at HF1 ⊢
        have k0 := HF1.out.1.cell (j := P) (by have := HX.out; omega)
        have k1 := HF1.out.1.cell (j := C) (by have := HX.out; omega)
        have z0 := HF1.out.1.froz P
        have z1 := HF1.out.1.froz C
        obtain ⟨s, hs⟩ : ∃ s, decide ((f' P : Int) < (f' C : Int)) = s := ⟨_, rfl⟩
        have hle2 : ∀ W : World, Calls Try.prog 46 #[.int .u64 (f' P : Int), .int .u64 (f' C : Int)] W fun e w' => e = .returned (.bool s) ∧ ∃ n, w' = W.drewN n := fun W => (lessU_any W _ _ s hs).mono fun e w' h => ⟨h.1, 0, by rw [h.2]; rfl⟩
        have HS : Hid (decide ((f' P : Int) < (f' C : Int)) = s) := hs
        clear hs
        go_upto_region 5 with fail
        go_quiet (first | (go_at_call 46; refine Calls.quiet_of (hle2 _)) | fail)
        cases s with
        | true =>
          have hlt9 : f' P < f' C := by have := of_decide_eq_true HS.out; omega
          go_upto_region 6 with fail
          go_region
          go_wp2_with fail
          obtain ⟨h1, h2, h3, h4⟩ := HF1.out
          have hx := HX.out
          go_roundg (hi - c)
          case measure => omega
          case rel =>
            refine ⟨c, by omega, by omega, by go_num, ⟨swpF f' P C, ((h1.drewN _).set (by omega) _).set (by omega) _, ((h2.drewN _).set _ _).set _ _, h3.trans (SwP.swp f' (by omega) (by omega)), fun hh => ?_⟩⟩
            have e9 : f' (F + r) < f' (F + c) := by
              rw [show F + r = P by omega, show F + c = C by omega]
              exact hlt9
            have h5 := (h4 hh).step (c := c) (by omega) (by omega) HM.out e9
            have e1 : F + r = P := by omega
            have e2 : F + c = C := by omega
            rw [e1, e2] at h5
            exact h5
        | false =>
          have HE : Hid (∃ f', RU (W1.drewN nq) g n f' ∧ KU g w (W1.drewN nq) ∧ SwP (F + lo) (F + hi) f f' ∧ (HpU F (lo + 1) hi f → HpU F lo hi f')) := by
            obtain ⟨h1, h2, h3, h4⟩ := HF1.out
            have hx := HX.out
            refine ⟨f', h1.drewN _, h2.drewN _, h3, fun hh => (h4 hh).stop (.inr ⟨c, by omega, by omega, HM.out, ?_⟩)⟩
            have e1 : F + r = P := by omega
            have e2 : F + c = C := by omega
            rw [e1, e2]
            have := of_decide_eq_false HS.out
            omega
          go_wp2
          try simp only [Exit.inBlock, Exit.then]
          refine bodyPost_ret (results_none rfl _ _ _) rfl ?_
          exact ⟨rfl, HE.out⟩
    · have hchI : (hi : Int) ≤ (c : Int) := by omega
      have HE : Hid (∃ f', RU wr g n f' ∧ KU g w wr ∧ SwP (F + lo) (F + hi) f f' ∧ (HpU F (lo + 1) hi f → HpU F lo hi f')) := ⟨f', hru, hku, hsw, fun hh => (hin hh).stop (.inl (by omega))⟩
      clear hru hku hsw hin HJ HF
      go_wp2
      go_end0
      exact ⟨rfl, HE.out⟩

end Go.Proofs.Ytgkgdbdapkgkgaa

/- heapSortOrdered of numbers. -/
namespace Go.Proofs.Ytgkgdbdapkgkgaa
set_option maxRecDepth 100000
open Go.RowKit
set_option linter.unusedVariables false
set_option linter.unusedSimpArgs false

theorem HpU.max {F m : Nat} {f : Nat → Nat} (h : HpU F 0 m f) : ∀ p, p < m → f (F + p) ≤ f (F + 0) := by
  intro p
  induction p using Nat.strongRecOn with
  | _ p ih =>
    intro hp
    by_cases h0 : p = 0
    · subst h0; exact Nat.le_refl _
    · have h1 := h ((p - 1) / 2) p (Nat.zero_le _) (by omega) hp
      have h2 := ih ((p - 1) / 2) (by omega) (by omega)
      exact Nat.le_trans h1 h2

/-- the first m are a heap, the others stand in order above them -/
structure PopI (F hi m : Nat) (f : Nat → Nat) : Prop where
  hp : HpU F 0 m f
  st : SrtP (F + m) (F + hi) f
  ab : ∀ p q, p < m → m ≤ q → q < hi → f (F + p) ≤ f (F + q)

theorem PopI.start {F hi : Nat} {f : Nat → Nat} (h : HpU F 0 hi f) : PopI F hi hi f :=
  ⟨h, fun i j h1 h2 h3 => by omega, fun p q h1 h2 h3 => by omega⟩

theorem PopI.swp {F hi i : Nat} {f : Nat → Nat} (h : PopI F hi (i + 1) f) (hi2 : i < hi) : HpU F 1 i (swpF f F (F + i)) ∧ SrtP (F + i) (F + hi) (swpF f F (F + i)) ∧ (∀ p q, p < i → i ≤ q → q < hi → swpF f F (F + i) (F + p) ≤ swpF f F (F + i) (F + q)) := by
  have hmx := h.hp.max
  have e1 : swpF f F (F + i) (F + i) = f F := swpF_r f _ _
  have e3 : ∀ k, k ≠ 0 → k ≠ i → swpF f F (F + i) (F + k) = f (F + k) := fun k h1 h2 => swpF_o f (by omega) (by omega)
  have e0 : i ≠ 0 → swpF f F (F + i) F = f (F + i) := fun h0 => swpF_l f (by omega)
  have hroot : ∀ q, i + 1 ≤ q → q < hi → f F ≤ f (F + q) := fun q h1 h2 => h.ab 0 q (by omega) h1 h2
  refine ⟨fun k c h1 h2 h3 => ?_, fun p q h1 h2 h3 => ?_, fun p q h1 h2 h3 => ?_⟩
  · rw [e3 c (by omega) (by omega), e3 k (by omega) (by omega)]
    exact h.hp k c (Nat.zero_le _) h2 (by omega)
  · obtain ⟨p', rfl⟩ : ∃ p', p = F + p' := ⟨p - F, by omega⟩
    obtain ⟨q', rfl⟩ : ∃ q', q = F + q' := ⟨q - F, by omega⟩
    by_cases hq : q' = i
    · have : p' = i := by omega
      subst hq; subst this; exact Nat.le_refl _
    · rw [e3 q' (by omega) hq]
      by_cases hp : p' = i
      · subst hp
        rw [e1]
        exact hroot q' (by omega) (by omega)
      · rw [e3 p' (by omega) hp]
        exact h.st (F + p') (F + q') (by omega) (by omega) (by omega)
  · have hle : swpF f F (F + i) (F + p) ≤ f F := by
      by_cases hp : p = 0
      · subst hp
        rw [Nat.add_zero, e0 (by omega)]
        exact hmx i (by omega)
      · rw [e3 p hp (by omega)]
        exact hmx p (by omega)
    by_cases hq : q = i
    · subst hq; rw [e1]; exact hle
    · rw [e3 q (by omega) hq]
      exact Nat.le_trans hle (hroot q (by omega) h3)

theorem PopI.sift {F hi i : Nat} {f g : Nat → Nat} (h1 : HpU F 0 i g) (h2 : SwP F (F + i) f g) (hs : SrtP (F + i) (F + hi) f) (ha : ∀ p q, p < i → i ≤ q → q < hi → f (F + p) ≤ f (F + q)) : PopI F hi i g := by
  refine ⟨h1, fun p q h3 h4 h5 => ?_, fun p q h3 h4 h5 => ?_⟩
  · rw [h2.out p (.inr h3), h2.out q (.inr (by omega))]
    exact hs p q h3 h4 h5
  · rw [h2.out (F + q) (.inr (by omega))]
    obtain ⟨l, l1, l2, l3⟩ := h2.src (k := F + p) (by omega) (by omega)
    rw [← l3]
    obtain ⟨l', rfl⟩ : ∃ l', l = F + l' := ⟨l - F, by omega⟩
    exact ha l' q (by omega) h4 h5

set_option maxHeartbeats 2000000 in
theorem heapU_any (w : World) (g n cap a b : Nat) (f : Nat → Nat) (h : RU w g n f) (hab : a < b) (hbn : b ≤ n) (hn : n < 1152921504606846976) :
    Calls Try.prog 41 #[.slice (some ⟨g, 0, none⟩) n cap, .int .i64 (a : Int), .int .i64 (b : Int)] w fun e w' => e = .returned (.tuple #[]) ∧ ∃ f', RU w' g n f' ∧ KU g w w' ∧ SwP a b f f' ∧ SrtP a b f' := by
  have H : Hid (RU w g n f) := h
  obtain ⟨hi, hhi⟩ : ∃ hi, a + hi = b := ⟨b - a, by omega⟩
  have e1 : (b : Int) - (a : Int) = (hi : Int) := by omega
  have HB : Hid (a + hi = b ∧ 1 ≤ hi) := ⟨hhi, by omega⟩
  clear h
  go_enter Try.func41, Try.ntmps41
  go_wp2_with fail
  go_loopg [9] ((hi - 1) / 2 + 1) (fun gk iv wr => ∃ m : Nat, gk = m ∧ m ≤ hi ∧ iv = .int .i64 ((m : Int) - 1) ∧ Hid (∃ f', RU wr g n f' ∧ KU g w wr ∧ SwP a b f f' ∧ HpU a m hi f'))
  case atStart =>
    have hb := HB.out
    refine ⟨(hi - 1) / 2 + 1, rfl, by omega, congrArg (Value.int .i64) (by omega), f, H.out, KU.refl _ _, SwP.refl _ _ _, fun k c h1 h2 h3 => by omega⟩
  case round =>
    obtain ⟨m, rfl, hmh, rfl, HJ⟩ := hrel
    by_cases hm0 : gk = 0
    · subst hm0
      obtain ⟨f', h1, h2, h3, h4⟩ := HJ.out
      have HS : Hid (∃ f', RU wr g n f' ∧ KU g w wr ∧ SwP a b f f' ∧ PopI a hi hi f') := ⟨f', h1, h2, h3, PopI.start h4⟩
      clear h1 h2 h3 h4 HJ
      go_wp2_with fail
      go_loopg [10] hi (fun gk iv wr => ∃ m : Nat, gk = m ∧ m ≤ hi ∧ iv = .int .i64 ((m : Int) - 1) ∧ Hid (∃ f', RU wr g n f' ∧ KU g w wr ∧ SwP a b f f' ∧ PopI a hi m f'))
      case atStart => exact ⟨hi, rfl, Nat.le_refl _, rfl, HS.out⟩
      case round =>
        obtain ⟨m, rfl, hmh, rfl, HJ⟩ := hrel
        by_cases hm0 : gk = 0
        · subst hm0
          obtain ⟨f', h1, h2, h3, h4⟩ := HJ.out
          have HE : Hid (∃ f', RU wr g n f' ∧ KU g w wr ∧ SwP a b f f' ∧ SrtP a b f') := ⟨f', h1, h2, h3, by have h5 := h4.st; have hb := HB.out; rw [Nat.add_zero, hb.1] at h5; exact h5⟩
          clear h1 h2 h3 h4 HJ
          go_wp2
          go_end0
          exact ⟨rfl, HE.out⟩
        · obtain ⟨i, hi1⟩ : ∃ i, i + 1 = gk := ⟨gk - 1, by omega⟩
          obtain ⟨C, hC⟩ : ∃ C, a + i = C := ⟨_, rfl⟩
          obtain ⟨f', h1, h2, h3, h4⟩ := HJ.out
          have HF : Hid (RU wr g n f' ∧ KU g w wr ∧ SwP a b f f' ∧ PopI a hi gk f') := ⟨h1, h2, h3, h4⟩
          have HX : Hid (i + 1 = gk ∧ a + i = C ∧ gk ≤ hi ∧ C < n) := ⟨hi1, hC, hmh, by have := HB.out; omega⟩
          have e2 : (gk : Int) - 1 = (i : Int) := by omega
          have e3 : (a : Int) + (i : Int) = (C : Int) := by omega
          have hb := HB.out
          have hCn : (C : Int) < (n : Int) := by omega
          have han : (a : Int) < (n : Int) := by omega
          have k0 := h1.cell (j := a) (by omega)
          have k1 := h1.cell (j := C) (by omega)
          have z0 := h1.froz a
          have z1 := h1.froz C
          clear h1 h2 h3 h4 HJ hi1 hC hm0 hb
          by_cases hi0 : i = 0
          · have hCa : a = C := by have := HX.out; omega
            subst hCa
            clear hi0
            go_upto_region 10 with fail
            go_region
            have HW : Hid (RU (((wr.setCell ⟨g, a, none⟩ (.int .u64 (f' a : Int))).setCell ⟨g, a, none⟩ (.int .u64 (f' a : Int))).drew) g n (swpF f' a a) ∧ KU g w (((wr.setCell ⟨g, a, none⟩ (.int .u64 (f' a : Int))).setCell ⟨g, a, none⟩ (.int .u64 (f' a : Int))).drew) ∧ SwP a b f (swpF f' a a) ∧ HpU a 1 i (swpF f' a a) ∧ SrtP a b (swpF f' a a) ∧ ∀ p q, p < i → i ≤ q → q < hi → swpF f' a a (a + p) ≤ swpF f' a a (a + q)) := by
              obtain ⟨j1, j2, j3, j4⟩ := HF.out
              have hx := HX.out
              have hb := HB.out
              have e9 : a + i = a := by omega
              rw [← hx.1] at j4
              have j5 := j4.swp (by omega)
              rw [e9, hb.1] at j5
              exact ⟨((j1.set (by omega) _).set (by omega) _).drewN 1, ((j2.set _ _).set _ _).drewN 1, j3.trans (SwP.swp f' (by omega) (by omega)), j5⟩
            generalize (((wr.setCell ⟨g, a, none⟩ (.int .u64 (f' a : Int))).setCell ⟨g, a, none⟩ (.int .u64 (f' a : Int))).drew) = W1 at HW ⊢
            have hsf := siftU_any W1 g n cap 0 i a _ HW.out.1 (Nat.zero_le _) (by have hx := HX.out; have hb := HB.out; omega) hn
            rw [show ((0 : Nat) : Int) = 0 from rfl] at hsf
            clear k0 k1 z0 z1
            go_wp2_with fail
            first
              | refine Calls.mono hsf ?_
              | (rw [← e2] at hsf; refine Calls.mono hsf ?_)
            rintro e w5 ⟨rfl, f2, k1, k2, k3, k4⟩
            have HN : Hid (∃ f', RU w5 g n f' ∧ KU g w w5 ∧ SwP a b f f' ∧ PopI a hi i f') := by
              obtain ⟨j1, j2, j3, j4, j5, j6⟩ := HW.out
              have hx := HX.out
              have hb := HB.out
              have e9 : a + i = a := by omega
              refine ⟨f2, k1, j2.trans k2, j3.trans (k3.wide (by omega) (by omega)), PopI.sift (k4 (by rw [Nat.zero_add]; exact j4)) (by rw [Nat.add_zero] at k3; exact k3) (by rw [e9, hb.1]; exact j5) j6⟩
            clear hsf k1 k2 k3 k4
            go_wp2_with fail
            go_roundg i
            case measure => have := HX.out; omega
            case rel => exact ⟨i, rfl, by have := HX.out; omega, by go_num, HN.out⟩
          · have n1 : ¬ a = C := by have := HX.out; omega
            have n2 : ¬ C = a := fun e => n1 e.symm
            go_upto_region 10 with fail
            go_region
            have HW : Hid (RU (((wr.setCell ⟨g, a, none⟩ (.int .u64 (f' C : Int))).setCell ⟨g, C, none⟩ (.int .u64 (f' a : Int))).drew) g n (swpF f' a C) ∧ KU g w (((wr.setCell ⟨g, a, none⟩ (.int .u64 (f' C : Int))).setCell ⟨g, C, none⟩ (.int .u64 (f' a : Int))).drew) ∧ SwP a b f (swpF f' a C) ∧ HpU a 1 i (swpF f' a C) ∧ SrtP C b (swpF f' a C) ∧ ∀ p q, p < i → i ≤ q → q < hi → swpF f' a C (a + p) ≤ swpF f' a C (a + q)) := by
              obtain ⟨j1, j2, j3, j4⟩ := HF.out
              have hx := HX.out
              have hb := HB.out
              have e9 : a + i = C := by omega
              rw [← hx.1] at j4
              have j5 := j4.swp (by omega)
              rw [e9, hb.1] at j5
              exact ⟨((j1.set (by omega) _).set (by omega) _).drewN 1, ((j2.set _ _).set _ _).drewN 1, j3.trans (SwP.swp f' (by omega) (by omega)), j5⟩
            generalize (((wr.setCell ⟨g, a, none⟩ (.int .u64 (f' C : Int))).setCell ⟨g, C, none⟩ (.int .u64 (f' a : Int))).drew) = W1 at HW ⊢
            have hsf := siftU_any W1 g n cap 0 i a _ HW.out.1 (Nat.zero_le _) (by have hx := HX.out; have hb := HB.out; omega) hn
            rw [show ((0 : Nat) : Int) = 0 from rfl] at hsf
            clear k0 k1 z0 z1
            go_wp2_with fail
            first
              | refine Calls.mono hsf ?_
              | (rw [← e2] at hsf; refine Calls.mono hsf ?_)
            rintro e w5 ⟨rfl, f2, k1, k2, k3, k4⟩
            have HN : Hid (∃ f', RU w5 g n f' ∧ KU g w w5 ∧ SwP a b f f' ∧ PopI a hi i f') := by
              obtain ⟨j1, j2, j3, j4, j5, j6⟩ := HW.out
              have hx := HX.out
              have hb := HB.out
              have e9 : a + i = C := by omega
              refine ⟨f2, k1, j2.trans k2, j3.trans (k3.wide (by omega) (by omega)), PopI.sift (k4 (by rw [Nat.zero_add]; exact j4)) (by rw [Nat.add_zero] at k3; exact k3) (by rw [e9, hb.1]; exact j5) j6⟩
            clear hsf k1 k2 k3 k4
            go_wp2_with fail
            go_roundg i
            case measure => have := HX.out; omega
            case rel => exact ⟨i, rfl, by have := HX.out; omega, by go_num, HN.out⟩
    · obtain ⟨i, hi1⟩ : ∃ i, i + 1 = gk := ⟨gk - 1, by omega⟩
      obtain ⟨f', h1, h2, h3, h4⟩ := HJ.out
      have e2 : (gk : Int) - 1 = (i : Int) := by omega
      have HF : Hid (KU g w wr ∧ SwP a b f f' ∧ HpU a gk hi f' ∧ i + 1 = gk ∧ gk ≤ hi) := ⟨h2, h3, h4, hi1, hmh⟩
      have hsf := siftU_any wr g n cap i hi a f' h1 (by omega) (by have := HB.out; omega) hn
      clear h1 h2 h3 h4 HJ hm0
      go_wp2_with fail
      refine hsf.mono ?_
      rintro e w5 ⟨rfl, f2, k1, k2, k3, k4⟩
      have HN : Hid (∃ f', RU w5 g n f' ∧ KU g w w5 ∧ SwP a b f f' ∧ HpU a i hi f') := by
        obtain ⟨j1, j2, j3, j4, j5⟩ := HF.out
        have hb := HB.out
        exact ⟨f2, k1, j1.trans k2, j2.trans (k3.wide (by omega) (by omega)), k4 (by rw [j4]; exact j3)⟩
      clear hsf k1 k2 k3 k4
      go_wp2_with fail
      go_roundg i
      case measure => omega
      case rel => exact ⟨i, rfl, by omega, by go_num, HN.out⟩

end Go.Proofs.Ytgkgdbdapkgkgaa

/- choosePivotOrdered of numbers. -/
namespace Go.Proofs.Ytgkgdbdapkgkgaa
set_option maxRecDepth 100000
open Go.RowKit
set_option linter.unusedVariables false
set_option linter.unusedSimpArgs false

set_option maxHeartbeats 1000000 in
theorem ord2U_any (w : World) (g n cap a b q s : Nat) (f : Nat → Nat) (h : RU w g n f) (ha : a < n) (hb : b < n) (hn : n < 1152921504606846976) (hs : w.cell? ⟨q, 0, none⟩ = some (.int .i64 (s : Int))) (hz : w.frozen? ⟨q, 0, none⟩ = false) (hsl : s < 1000) (hq : g ≠ q) :
    Calls Try.prog 57 #[.slice (some ⟨g, 0, none⟩) n cap, .int .i64 (a : Int), .int .i64 (b : Int), .pointer (some ⟨q, 0, none⟩)] w fun e w' => ∃ c d s' : Nat, e = .returned (.tuple #[.int .i64 (c : Int), .int .i64 (d : Int)]) ∧ (c = a ∨ c = b) ∧ (d = a ∨ d = b) ∧ RU w' g n f ∧ KU q w w' ∧ w'.cell? ⟨q, 0, none⟩ = some (.int .i64 (s' : Int)) ∧ w'.frozen? ⟨q, 0, none⟩ = false ∧ s ≤ s' ∧ s' ≤ s + 1 := by
  have H : Hid (RU w g n f) := h
  have k0 := h.cell (j := a) ha
  have k1 := h.cell (j := b) hb
  have han : (a : Int) < (n : Int) := by omega
  have hbn : (b : Int) < (n : Int) := by omega
  obtain ⟨r, hr⟩ : ∃ r, decide ((f b : Int) < (f a : Int)) = r := ⟨_, rfl⟩
  have hle : ∀ W : World, Calls Try.prog 46 #[.int .u64 (f b : Int), .int .u64 (f a : Int)] W fun e w' => e = .returned (.bool r) ∧ ∃ n, w' = W.drewN n := fun W => (lessU_any W _ _ r hr).mono fun e w' h => ⟨h.1, 0, by rw [h.2]; rfl⟩
  clear h hr
  go_enter Try.func57, Try.ntmps57
  go_wp2_with fail
  go_quiet (first | (go_at_call 46; refine Calls.quiet_of (hle _)) | fail)
  have HW : Hid (RU (w.drewN nq) g n f ∧ KU q w (w.drewN nq)) := ⟨H.out.drewN _, (KU.refl q w).drewN _⟩
  have hs1 : (w.drewN nq).cell? ⟨q, 0, none⟩ = some (.int .i64 (s : Int)) := hs
  have hz1 : (w.drewN nq).frozen? ⟨q, 0, none⟩ = false := hz
  clear hs hz k0 k1
  generalize w.drewN nq = W1 at HW hs1 hz1 ⊢
  cases r with
  | true =>
    obtain ⟨S1, hS1⟩ : ∃ S1, s + 1 = S1 := ⟨_, rfl⟩
    have es : (s : Int) + 1 = (S1 : Int) := by omega
    have hlo : (-9223372036854775808 : Int) ≤ (S1 : Int) := by omega
    have hhi : (S1 : Int) < 9223372036854775808 := by omega
    go_wp2
    try simp only [Exit.inBlock, Exit.then]
    refine bodyPost_ret (results_tmp2 rfl _ _ _) rfl ?_
    refine ⟨b, a, S1, rfl, .inr rfl, .inl rfl, ?_, ?_, ?_, ?_, by omega, by omega⟩
    · exact HW.out.1.keeps ((KU.refl q W1).set 0 _) hq
    · exact HW.out.2.set 0 _
    · simp [go_sem, hs1]
    · simp [go_sem, hz1]
  | false =>
    go_wp2
    try simp only [Exit.inBlock, Exit.then]
    refine bodyPost_ret (results_tmp2 rfl _ _ _) rfl ?_
    exact ⟨a, b, s, rfl, .inl rfl, .inr rfl, HW.out.1, HW.out.2, hs1, hz1, Nat.le_refl _, Nat.le_succ _⟩

set_option maxHeartbeats 1000000 in
theorem medU_any (w : World) (g n cap a b c q s : Nat) (f : Nat → Nat) (h : RU w g n f) (ha : a < n) (hb : b < n) (hc : c < n) (hn : n < 1152921504606846976) (hs : w.cell? ⟨q, 0, none⟩ = some (.int .i64 (s : Int))) (hz : w.frozen? ⟨q, 0, none⟩ = false) (hsl : s < 900) (hq : g ≠ q) :
    Calls Try.prog 55 #[.slice (some ⟨g, 0, none⟩) n cap, .int .i64 (a : Int), .int .i64 (b : Int), .int .i64 (c : Int), .pointer (some ⟨q, 0, none⟩)] w fun e w' => ∃ m s' : Nat, e = .returned (.int .i64 (m : Int)) ∧ (m = a ∨ m = b ∨ m = c) ∧ RU w' g n f ∧ KU q w w' ∧ w'.cell? ⟨q, 0, none⟩ = some (.int .i64 (s' : Int)) ∧ w'.frozen? ⟨q, 0, none⟩ = false ∧ s ≤ s' ∧ s' ≤ s + 3 := by
  have h1 := ord2U_any w g n cap a b q s f h ha hb hn hs hz (by omega) hq
  have HB : Hid (a < n ∧ b < n ∧ c < n ∧ n < 1152921504606846976 ∧ s < 900 ∧ g ≠ q) := ⟨ha, hb, hc, hn, hsl, hq⟩
  clear h ha hb hc hn hs hz hsl hq
  go_enter Try.func55, Try.ntmps55
  go_wp2_with fail
  refine h1.mono ?_
  clear h1
  rintro e w1 ⟨c1, d1, s1, rfl, p1, p2, r1, k1, x1, z1, l1, m1⟩
  have HB1 : Hid ((c1 = a ∨ c1 = b) ∧ (d1 = a ∨ d1 = b) ∧ KU q w w1 ∧ s ≤ s1 ∧ s1 ≤ s + 1) := ⟨p1, p2, k1, l1, m1⟩
  have hd1 : d1 < n := by have := HB.out; omega
  have h2 := ord2U_any w1 g n cap d1 c q s1 f r1 hd1 HB.out.2.2.1 HB.out.2.2.2.1 x1 z1 (by have := HB.out; omega) HB.out.2.2.2.2.2
  clear p1 p2 r1 k1 x1 z1 l1 m1 hd1
  go_wp2_with fail
  refine h2.mono ?_
  clear h2
  rintro e w2 ⟨c2, d2, s2, rfl, p1, p2, r1, k1, x1, z1, l1, m1⟩
  have HB2 : Hid ((c2 = d1 ∨ c2 = c) ∧ KU q w w2 ∧ s ≤ s2 ∧ s2 ≤ s + 2) := ⟨p1, HB1.out.2.2.1.trans k1, by have := HB1.out; omega, by have := HB1.out; omega⟩
  have hc1 : c1 < n := by have := HB.out; have := HB1.out; omega
  have hc2 : c2 < n := by have := HB.out; have := HB1.out; omega
  have h3 := ord2U_any w2 g n cap c1 c2 q s2 f r1 hc1 hc2 HB.out.2.2.2.1 x1 z1 (by have := HB.out; have := HB2.out; omega) HB.out.2.2.2.2.2
  clear p1 p2 r1 k1 x1 z1 l1 m1 hc1 hc2
  go_wp2_with fail
  refine h3.mono ?_
  clear h3
  rintro e w3 ⟨c3, d3, s3, rfl, p1, p2, r1, k1, x1, z1, l1, m1⟩
  have HE : Hid ((d3 = a ∨ d3 = b ∨ d3 = c) ∧ RU w3 g n f ∧ KU q w w3 ∧ w3.cell? ⟨q, 0, none⟩ = some (.int .i64 (s3 : Int)) ∧ w3.frozen? ⟨q, 0, none⟩ = false ∧ s ≤ s3 ∧ s3 ≤ s + 3) := by
    have q1 := HB1.out
    have q2 := HB2.out
    exact ⟨by omega, r1, q2.2.1.trans k1, x1, z1, by omega, by omega⟩
  clear p1 p2 r1 k1 x1 z1 l1 m1
  go_wp2
  go_ret
  exact ⟨d3, s3, rfl, HE.out⟩

set_option maxHeartbeats 1000000 in
theorem adjU_any (w : World) (g n cap a q s : Nat) (f : Nat → Nat) (h : RU w g n f) (ha : 1 ≤ a ∧ a + 1 < n) (hn : n < 1152921504606846976) (hs : w.cell? ⟨q, 0, none⟩ = some (.int .i64 (s : Int))) (hz : w.frozen? ⟨q, 0, none⟩ = false) (hsl : s < 900) (hq : g ≠ q) :
    Calls Try.prog 54 #[.slice (some ⟨g, 0, none⟩) n cap, .int .i64 (a : Int), .pointer (some ⟨q, 0, none⟩)] w fun e w' => ∃ m s' : Nat, e = .returned (.int .i64 (m : Int)) ∧ (a ≤ m + 1 ∧ m ≤ a + 1) ∧ RU w' g n f ∧ KU q w w' ∧ w'.cell? ⟨q, 0, none⟩ = some (.int .i64 (s' : Int)) ∧ w'.frozen? ⟨q, 0, none⟩ = false ∧ s ≤ s' ∧ s' ≤ s + 3 := by
  obtain ⟨al, hal⟩ : ∃ al, al + 1 = a := ⟨a - 1, by omega⟩
  obtain ⟨au, hau⟩ : ∃ au, a + 1 = au := ⟨_, rfl⟩
  have e1 : (a : Int) - 1 = (al : Int) := by omega
  have e2 : (a : Int) + 1 = (au : Int) := by omega
  have h1 := medU_any w g n cap al a au q s f h (by omega) (by omega) (by omega) hn hs hz hsl hq
  have HB : Hid (al + 1 = a ∧ a + 1 = au) := ⟨hal, hau⟩
  have y1 : al < 1152921504606846976 := by omega
  have y2 : au < 1152921504606846976 := by omega
  clear h ha hs hz hsl hq hal hau
  go_enter Try.func54, Try.ntmps54
  go_wp2_with fail
  refine h1.mono ?_
  clear h1
  rintro e w3 ⟨d3, s3, rfl, p1, r1⟩
  have HE : Hid ((a ≤ d3 + 1 ∧ d3 ≤ a + 1) ∧ RU w3 g n f ∧ KU q w w3 ∧ w3.cell? ⟨q, 0, none⟩ = some (.int .i64 (s3 : Int)) ∧ w3.frozen? ⟨q, 0, none⟩ = false ∧ s ≤ s3 ∧ s3 ≤ s + 3) := by
    have q1 := HB.out
    exact ⟨by omega, r1⟩
  clear p1 r1
  go_wp2
  go_ret
  exact ⟨d3, s3, rfl, HE.out⟩

end Go.Proofs.Ytgkgdbdapkgkgaa

/- choosePivotOrdered of numbers. -/
namespace Go.Proofs.Ytgkgdbdapkgkgaa
set_option maxRecDepth 100000
open Go.RowKit
set_option linter.unusedVariables false
set_option linter.unusedSimpArgs false

theorem KU.alloc {g : Nat} {a w : World} (h : KU g a w) (b : Obj) : KU g a (w.alloc b) :=
  h.trans ⟨⟨rfl, rfl, rfl, by simp, fun i hi _ => Below.heap_alloc _ _ _ hi⟩, fun cs t fr h0 => ⟨cs, (Below.heap_alloc _ _ _ (Array.getElem?_eq_some_iff.1 h0).1).trans h0, rfl⟩⟩

theorem KU.late {g q : Nat} {a w w' : World} (h : KU g a w) (k : KU q w w') (hq : a.heap.size ≤ q) : KU g a w' :=
  ⟨⟨k.os.trans h.os, k.tape.trans h.tape, k.output.trans h.output, Nat.le_trans h.size k.size, fun i hi hn => (k.block i (Nat.lt_of_lt_of_le hi h.size) (by omega)).trans (h.block i hi hn)⟩, fun cs t fr h0 => by
    obtain ⟨c1, h1, e1⟩ := h.rs cs t fr h0
    have hg := (Array.getElem?_eq_some_iff.1 h0).1
    exact ⟨c1, (k.block g (Nat.lt_of_lt_of_le hg h.size) (by omega)).trans h1, e1⟩⟩

theorem RU.alloc {w : World} {g n : Nat} {f : Nat → Nat} (h : RU w g n f) (b : Obj) : RU (w.alloc b) g n f := by
  obtain ⟨cs, h1, h2⟩ := h
  have hlt := (Array.getElem?_eq_some_iff.1 h1).1
  exact ⟨cs, (Below.heap_alloc _ _ _ hlt).trans h1, h2⟩

set_option maxHeartbeats 1000000 in
theorem chooseU_any (w : World) (g n cap a b : Nat) (f : Nat → Nat) (h : RU w g n f) (hab : a + 8 ≤ b) (hbn : b ≤ n) (hn : n < 1152921504606846976) :
    Calls Try.prog 43 #[.slice (some ⟨g, 0, none⟩) n cap, .int .i64 (a : Int), .int .i64 (b : Int)] w fun e w' => ∃ p k : Nat, e = .returned (.tuple #[.int .i64 (p : Int), .int .i64 (k : Int)]) ∧ a ≤ p ∧ p < b ∧ k ≤ 2 ∧ RU w' g n f ∧ KU g w w' := by
  obtain ⟨l, hl⟩ : ∃ l, b = a + l := ⟨b - a, by omega⟩
  have el : (b : Int) - (a : Int) = (l : Int) := by omega
  have hl8 : (8 : Int) ≤ (l : Int) := by omega
  obtain ⟨m, hm⟩ : ∃ m, l / 4 = m := ⟨_, rfl⟩
  have em : (l : Int) / 4 = (m : Int) := by omega
  obtain ⟨m2, hm2⟩ : ∃ m2, m * 2 = m2 := ⟨_, rfl⟩
  have em2 : (m : Int) * 2 = (m2 : Int) := by omega
  obtain ⟨m3, hm3⟩ : ∃ m3, m * 3 = m3 := ⟨_, rfl⟩
  have em3 : (m : Int) * 3 = (m3 : Int) := by omega
  obtain ⟨I, hI⟩ : ∃ I, a + m = I := ⟨_, rfl⟩
  have eI : (a : Int) + (m : Int) = (I : Int) := by omega
  obtain ⟨J, hJ⟩ : ∃ J, a + m2 = J := ⟨_, rfl⟩
  have eJ : (a : Int) + (m2 : Int) = (J : Int) := by omega
  obtain ⟨K, hK⟩ : ∃ K, a + m3 = K := ⟨_, rfl⟩
  have eK : (a : Int) + (m3 : Int) = (K : Int) := by omega
  have y1 : l < 1152921504606846976 := by omega
  have y2 : m < 1152921504606846976 := by omega
  have y3 : m2 < 1152921504606846976 := by omega
  have y4 : m3 < 1152921504606846976 := by omega
  have y5 : I < 1152921504606846976 := by omega
  have y6 : J < 1152921504606846976 := by omega
  have y7 : K < 1152921504606846976 := by omega
  have HB : Hid (a + 8 ≤ b ∧ b ≤ n ∧ n < 1152921504606846976 ∧ a + 2 ≤ I ∧ I + 2 ≤ J ∧ J + 2 ≤ K ∧ K + 2 ≤ b) := ⟨hab, hbn, hn, by omega, by omega, by omega, by omega⟩
  obtain ⟨Q, hQ⟩ : ∃ Q, w.heap.size = Q := ⟨_, rfl⟩
  have HQ : Hid (w.heap.size ≤ Q ∧ g ≠ Q) := ⟨Nat.le_of_eq hQ, by have := h.lt; omega⟩
  have r1 : RU (w.alloc (.cells #[.int .i64 0] 3)) g n f := h.alloc _
  have KKv : KU g w (w.alloc (.cells #[.int .i64 0] 3)) := (KU.refl g w).alloc _
  have x1 : (w.alloc (.cells #[.int .i64 0] 3)).cell? ⟨w.heap.size, 0, none⟩ = some (.int .i64 ((0 : Nat) : Int)) := by simp [go_sem]
  have z1 : (w.alloc (.cells #[.int .i64 0] 3)).frozen? ⟨w.heap.size, 0, none⟩ = false := by simp [go_sem]
  have hl50 : (50 : Int) ≤ (l : Int) ∨ ¬ (50 : Int) ≤ (l : Int) := Classical.em _
  clear h hab hbn hn hl hm hm2 hm3 hI hJ hK
  go_enter Try.func43, Try.ntmps43
  go_upto_region 3 with fail
  rw [hQ] at x1 z1
  generalize (w.alloc (.cells #[.int .i64 0] 3)) = v at r1 KKv x1 z1 ⊢
  clear hQ
  have k1 := True.intro
  rcases hl50 with hl50 | hl50
  · skip
    have h1 := adjU_any v g n cap I Q 0 f r1 (by have := HB.out; omega) HB.out.2.2.1 x1 z1 (by omega) HQ.out.2
    clear r1 k1 x1 z1
    go_wp2_with fail
    refine h1.mono ?_
    clear h1
    rintro e w1 ⟨m1, s1, rfl, p1, r1, k1, x1, z1, l1, u1⟩
    have HX1 : Hid ((I ≤ m1 + 1 ∧ m1 ≤ I + 1) ∧ s1 ≤ 3) := ⟨p1, by omega⟩
    have KKw1 := KU.late KKv k1 HQ.out.1
    clear KKv p1 l1 u1
    have h2 := adjU_any w1 g n cap J Q s1 f r1 (by have := HB.out; omega) HB.out.2.2.1 x1 z1 (by have := HX1.out; omega) HQ.out.2
    clear r1 k1 x1 z1
    go_wp2_with fail
    refine h2.mono ?_
    clear h2
    rintro e w2 ⟨m2', s2, rfl, p1, r1, k1, x1, z1, l1, u1⟩
    have HX2 : Hid ((J ≤ m2' + 1 ∧ m2' ≤ J + 1) ∧ s2 ≤ 6) := ⟨p1, by have := HX1.out; omega⟩
    have KKw2 := KU.late KKw1 k1 HQ.out.1
    clear KKw1 p1 l1 u1
    have h3 := adjU_any w2 g n cap K Q s2 f r1 (by have := HB.out; omega) HB.out.2.2.1 x1 z1 (by have := HX2.out; omega) HQ.out.2
    clear r1 k1 x1 z1
    go_wp2_with fail
    refine h3.mono ?_
    clear h3
    rintro e w3 ⟨m3', s3, rfl, p1, r1, k1, x1, z1, l1, u1⟩
    have HX3 : Hid ((K ≤ m3' + 1 ∧ m3' ≤ K + 1) ∧ s3 ≤ 9) := ⟨p1, by have := HX2.out; omega⟩
    have KKw3 := KU.late KKw2 k1 HQ.out.1
    clear KKw2 p1 l1 u1
    have HX : Hid ((I ≤ m1 + 1 ∧ m1 ≤ I + 1) ∧ (J ≤ m2' + 1 ∧ m2' ≤ J + 1) ∧ (K ≤ m3' + 1 ∧ m3' ≤ K + 1) ∧ s3 ≤ 9) := ⟨HX1.out.1, HX2.out.1, HX3.out.1, HX3.out.2⟩
    have h4 := medU_any w3 g n cap m1 m2' m3' Q s3 f r1 (by have := HX.out; have := HB.out; omega) (by have := HX.out; have := HB.out; omega) (by have := HX.out; have := HB.out; omega) HB.out.2.2.1 x1 z1 (by have := HX.out; omega) HQ.out.2
    clear r1 k1 x1 z1
    go_wp2_with fail
    refine h4.mono ?_
    clear h4
    rintro e w4 ⟨m4, s4, rfl, p4, r4, k4, x4, z4, l4, u4⟩
    have HE : Hid (a ≤ m4 ∧ m4 < b ∧ RU w4 g n f ∧ KU g w w4) := by
      have q1 := HX.out
      have q2 := HB.out
      exact ⟨by omega, by omega, r4, KU.late (KKw3) k4 HQ.out.1⟩
    clear p4 r4 k4 l4 u4 KKw3
    by_cases e0 : s4 = 0
    · subst e0
      go_wp2
      try simp only [Exit.inBlock, Exit.then]
      refine bodyPost_ret (results_tmp2 rfl _ _ _) rfl ?_
      exact ⟨m4, 1, rfl, HE.out.1, HE.out.2.1, by omega, HE.out.2.2⟩
    · by_cases e12 : s4 = 12
      · subst e12
        go_wp2
        try simp only [Exit.inBlock, Exit.then]
        refine bodyPost_ret (results_tmp2 rfl _ _ _) rfl ?_
        exact ⟨m4, 2, rfl, HE.out.1, HE.out.2.1, by omega, HE.out.2.2⟩
      · have e0' : ¬ (s4 : Int) = 0 := by omega
        have e12' : ¬ (s4 : Int) = 12 := by omega
        go_wp2
        try simp only [Exit.inBlock, Exit.then]
        refine bodyPost_ret (results_tmp2 rfl _ _ _) rfl ?_
        exact ⟨m4, 0, rfl, HE.out.1, HE.out.2.1, by omega, HE.out.2.2⟩
  · have HX : Hid True := trivial
    have h4 := medU_any v g n cap I J K Q 0 f r1 (by have := HX.out; have := HB.out; omega) (by have := HX.out; have := HB.out; omega) (by have := HX.out; have := HB.out; omega) HB.out.2.2.1 x1 z1 (by have := HX.out; omega) HQ.out.2
    clear r1 k1 x1 z1
    go_wp2_with fail
    refine h4.mono ?_
    clear h4
    rintro e w4 ⟨m4, s4, rfl, p4, r4, k4, x4, z4, l4, u4⟩
    have HE : Hid (a ≤ m4 ∧ m4 < b ∧ RU w4 g n f ∧ KU g w w4) := by
      have q1 := HX.out
      have q2 := HB.out
      exact ⟨by omega, by omega, r4, KU.late (KKv) k4 HQ.out.1⟩
    clear p4 r4 k4 l4 u4 KKv
    by_cases e0 : s4 = 0
    · subst e0
      go_wp2
      try simp only [Exit.inBlock, Exit.then]
      refine bodyPost_ret (results_tmp2 rfl _ _ _) rfl ?_
      exact ⟨m4, 1, rfl, HE.out.1, HE.out.2.1, by omega, HE.out.2.2⟩
    · by_cases e12 : s4 = 12
      · subst e12
        go_wp2
        try simp only [Exit.inBlock, Exit.then]
        refine bodyPost_ret (results_tmp2 rfl _ _ _) rfl ?_
        exact ⟨m4, 2, rfl, HE.out.1, HE.out.2.1, by omega, HE.out.2.2⟩
      · have e0' : ¬ (s4 : Int) = 0 := by omega
        have e12' : ¬ (s4 : Int) = 12 := by omega
        go_wp2
        try simp only [Exit.inBlock, Exit.then]
        refine bodyPost_ret (results_tmp2 rfl _ _ _) rfl ?_
        exact ⟨m4, 0, rfl, HE.out.1, HE.out.2.1, by omega, HE.out.2.2⟩

end Go.Proofs.Ytgkgdbdapkgkgaa

/- bits.Len, the next power of two, xorshift.Next. -/
namespace Go.Proofs.Ytgkgdbdapkgkgaa
set_option maxRecDepth 100000
open Go.RowKit
set_option linter.unusedVariables false
set_option linter.unusedSimpArgs false

theorem blen_any (n : Nat) (hn : n < 4611686018427387904) (w : World) :
    Calls Try.prog 39 #[.int .u64 (n : Int)] w fun e w' => e = .returned (.int .i64 (Lib.bitLen n : Int)) ∧ w' = w := by
  have h : Calls Try.prog 50 #[.int .u64 (n : Int)] w fun e w' => e = .returned (.int .i64 (Lib.bitLen n : Int)) ∧ w' = w := by
    refine (Any.bits_Len64 lays27 (n : Int) w (by omega) (by omega)).mono ?_
    rintro e w' ⟨rfl, rfl⟩
    exact ⟨by simp, rfl⟩
  generalize (Lib.bitLen n : Int) = t at h ⊢
  go_enter Try.func39, Try.ntmps39
  go_wp2_with fail
  refine h.mono ?_
  rintro e w1 ⟨rfl, rfl⟩
  go_wp2
  go_ret
  exact ⟨rfl, rfl⟩

theorem npow_any (n : Nat) (h0 : 0 < n) (hn : n < 4611686018427387904) (w : World) :
    Calls Try.prog 52 #[.int .i64 (n : Int)] w fun e w' => ∃ M : Nat, e = .returned (.int .u64 (M : Int)) ∧ 1 ≤ M ∧ M ≤ 2 * n ∧ w' = w := by
  obtain ⟨t, ht⟩ : ∃ t, Lib.bitLen n = t := ⟨_, rfl⟩
  have h := blen_any n hn w
  rw [ht] at h
  have hb : Lib.bitLen n = Go.Sort.bitsLen n := bitLen_eq n (by omega)
  have hk : t ≤ 62 := by rw [← ht, hb]; exact (Go.Sort.bitsLen_le_iff n 62).2 (by omega)
  have hM : 2 ^ t ≤ 2 * n := by rw [← ht, hb]; exact Go.Sort.two_pow_bitsLen_le h0
  have h1 : 1 ≤ 2 ^ t := Nat.one_le_two_pow
  obtain ⟨M, hMM⟩ : ∃ M, 2 ^ t = M := ⟨_, rfl⟩
  have hp : IntKind.u64.wrap ((2 : Int) ^ t) = (M : Int) := by
    rw [IntKind.wrap_u64, show ((2 : Int) ^ t) = ((2 ^ t : Nat) : Int) by push_cast; rfl, hMM]
    omega
  have HM : Hid (1 ≤ M ∧ M ≤ 2 * n) := ⟨by omega, by omega⟩
  have hn2 : n < 4611686018427387904 := hn
  clear hb hM h1 hMM ht
  go_enter Try.func52, Try.ntmps52
  go_wp2_with fail
  refine h.mono ?_
  rintro e w1 ⟨rfl, rfl⟩
  clear h
  go_wp2
  go_ret
  exact ⟨M, rfl, HM.out.1, HM.out.2, rfl⟩

end Go.Proofs.Ytgkgdbdapkgkgaa

/- xorshift.Next. -/
namespace Go.Proofs.Ytgkgdbdapkgkgaa
set_option maxRecDepth 100000
open Go.RowKit Go.Sort
set_option linter.unusedVariables false
set_option linter.unusedSimpArgs false

theorem twice_set (w : World) (blk off : Nat) (v v' : Value) : (w.setCell ⟨blk, off, none⟩ v).setCell ⟨blk, off, none⟩ v' = w.setCell ⟨blk, off, none⟩ v' := by
  rw [setCell_eq, setCell_eq, mapBlock_mapBlock, setCell_eq]
  congr 1
  funext c
  simp

theorem xor_ex (X Y : Nat) (hX : X < 18446744073709551616) (hY : Y < 18446744073709551616) : ∃ A : Nat, bits .xor .u64 (X : Int) (Y : Int) = (A : Int) ∧ A < 18446744073709551616 :=
  ⟨X ^^^ Y, bits_xor_u64_nat _ _ hX hY, Nat.xor_lt_two_pow (n := 64) hX hY⟩

theorem wrap_ex (Z : Nat) : ∃ Y : Nat, IntKind.u64.wrap (Z : Int) = (Y : Int) ∧ Y < 18446744073709551616 :=
  ⟨Z % 18446744073709551616, by rw [IntKind.wrap_u64]; omega, by omega⟩

set_option maxHeartbeats 1000000 in
theorem next_any (q X : Nat) (hX : X < 18446744073709551616) (w : World) (hc : w.cell? ⟨q, 0, none⟩ = some (.int .u64 (X : Int))) (hf : w.frozen? ⟨q, 0, none⟩ = false) :
    Calls Try.prog 53 #[.pointer (some ⟨q, 0, none⟩)] w fun e w' => ∃ v n : Nat, e = .returned (.int .u64 (v : Int)) ∧ v < 18446744073709551616 ∧ w' = (w.setCell ⟨q, 0, none⟩ (.int .u64 (v : Int))).drewN n := by
  obtain ⟨Y, e0, lY⟩ := wrap_ex (X * 8192)
  obtain ⟨A, e1, lA⟩ := xor_ex X Y hX lY
  obtain ⟨B, e2, lB⟩ := xor_ex A (A / 128) lA (by omega)
  obtain ⟨Z, e3, lZ⟩ := wrap_ex (B * 131072)
  obtain ⟨C, e4, lC⟩ := xor_ex B Z lB lZ
  have e0' : IntKind.u64.wrap ((X : Int) * 8192) = (Y : Int) := by rw [← e0]; congr 1
  have e2' : (A : Int) / 128 = ((A / 128 : Nat) : Int) := by omega
  have e3' : IntKind.u64.wrap ((B : Int) * 131072) = (Z : Int) := by rw [← e3]; congr 1
  rw [← e2'] at e2
  have f1 : bits .xor .u64 (X : Int) (IntKind.u64.wrap ((X : Int) * 8192)) = (A : Int) := by rw [e0']; exact e1
  have f3 : bits .xor .u64 (B : Int) (IntKind.u64.wrap ((B : Int) * 131072)) = (C : Int) := by rw [e3']; exact e4
  have hss : ∀ v v', (w.setCell ⟨q, 0, none⟩ v).setCell ⟨q, 0, none⟩ v' = w.setCell ⟨q, 0, none⟩ v' := twice_set w q 0
  clear e0 e0' e1 e2' e3 e3' e4 lY lZ
  go_enter Try.func53, Try.ntmps53
  go_wp2
  go_region
  all_goals go_wp2
  all_goals go_region
  all_goals go_wp2
  all_goals go_region
  all_goals go_wp2
  go_ret
  exact ⟨C, 3, rfl, lC, rfl⟩

end Go.Proofs.Ytgkgdbdapkgkgaa

/- breakPatternsOrdered of numbers. -/
namespace Go.Proofs.Ytgkgdbdapkgkgaa
set_option maxRecDepth 100000
open Go.RowKit
set_option linter.unusedVariables false
set_option linter.unusedSimpArgs false

set_option maxHeartbeats 1000000 in
theorem brkU_any (w : World) (g n cap a b : Nat) (f : Nat → Nat) (h : RU w g n f) (hab : a + 8 ≤ b) (hbn : b ≤ n) (hn : n < 1152921504606846976) :
    Calls Try.prog 42 #[.slice (some ⟨g, 0, none⟩) n cap, .int .i64 (a : Int), .int .i64 (b : Int)] w fun e w' => e = .returned (.tuple #[]) ∧ ∃ f', RU w' g n f' ∧ KU g w w' ∧ SwP a b f f' := by
  have H : Hid (RU w g n f) := h
  obtain ⟨l, hl⟩ : ∃ l, b = a + l := ⟨b - a, by omega⟩
  have el : (b : Int) - (a : Int) = (l : Int) := by omega
  have hl8 : (8 : Int) ≤ (l : Int) := by omega
  obtain ⟨m, hm⟩ : ∃ m, l / 4 = m := ⟨_, rfl⟩
  have em : (l : Int) / 4 = (m : Int) := by omega
  obtain ⟨m2, hm2⟩ : ∃ m2, m * 2 = m2 := ⟨_, rfl⟩
  have em2 : (m : Int) * 2 = (m2 : Int) := by omega
  obtain ⟨J, hJ⟩ : ∃ J, a + m2 = J := ⟨_, rfl⟩
  have eJ : (a : Int) + (m2 : Int) = (J : Int) := by omega
  obtain ⟨I, hI⟩ : ∃ I, I + 1 = J := ⟨J - 1, by omega⟩
  have eI : (J : Int) - 1 = (I : Int) := by omega
  obtain ⟨K, hK⟩ : ∃ K, J + 1 = K := ⟨_, rfl⟩
  have eK : (J : Int) + 1 = (K : Int) := by omega
  have y1 : l < 1152921504606846976 := by omega
  have y2 : m < 1152921504606846976 := by omega
  have y3 : m2 < 1152921504606846976 := by omega
  have y5 : I < 1152921504606846976 := by omega
  have y6 : J < 1152921504606846976 := by omega
  have y7 : K < 1152921504606846976 := by omega
  have HB : Hid (a + l = b ∧ b ≤ n ∧ n < 1152921504606846976 ∧ a + 2 ≤ I ∧ I + 2 = K ∧ K + 2 ≤ b) := ⟨by omega, hbn, hn, by omega, by omega, by omega⟩
  have hnp := fun W => npow_any l (by omega) (by omega) W
  obtain ⟨Q, hQ⟩ : ∃ Q, w.heap.size = Q := ⟨_, rfl⟩
  have HQ : Hid (w.heap.size ≤ Q ∧ g ≠ Q) := ⟨Nat.le_of_eq hQ, by have := h.lt; omega⟩
  clear h hab hbn hn hl hm hm2 hI hJ hK
  go_enter Try.func42, Try.ntmps42
  go_wp2_with fail
  refine (hnp _).mono ?_
  rintro e w1 ⟨M, rfl, M1, M2, rfl⟩
  obtain ⟨Md, hMd⟩ : ∃ Md, Md + 1 = M := ⟨M - 1, by omega⟩
  have eM : (M : Int) - 1 = (Md : Int) := by omega
  have HM : Hid (Md + 1 ≤ 2 * l ∧ l < 1152921504606846976) := ⟨by omega, y1⟩
  have y8 : Md < 4611686018427387904 := by omega
  have y9 : M < 4611686018427387904 := by omega
  have HV : Hid (RU (w.alloc (.cells #[.int .u64 (l : Int)] 86)) g n f ∧ KU g w (w.alloc (.cells #[.int .u64 (l : Int)] 86)) ∧ (w.alloc (.cells #[.int .u64 (l : Int)] 86)).cell? ⟨Q, 0, none⟩ = some (.int .u64 (l : Int)) ∧ (w.alloc (.cells #[.int .u64 (l : Int)] 86)).frozen? ⟨Q, 0, none⟩ = false) := by
    refine ⟨H.out.alloc _, (KU.refl g w).alloc _, ?_, ?_⟩
    · rw [← hQ]; simp [go_sem]
    · rw [← hQ]; simp [go_sem]
  clear M1 M2 hMd hnp
  generalize (w.alloc (.cells #[.int .u64 (l : Int)] 86)) = v at HV ⊢
  clear hQ
  go_wp2_with fail
  go_loopg [9] (K + 1 - I) (fun gk iv wr => ∃ i : Nat, gk + i = K + 1 ∧ I ≤ i ∧ iv = .int .i64 (i : Int) ∧ Hid (∃ f' x, x < 18446744073709551616 ∧ wr.cell? ⟨Q, 0, none⟩ = some (.int .u64 ((x : Nat) : Int)) ∧ wr.frozen? ⟨Q, 0, none⟩ = false ∧ RU wr g n f' ∧ KU g w wr ∧ SwP a b f f'))
  case atStart => exact ⟨I, by have := HB.out; omega, Nat.le_refl _, rfl, f, l, by omega, HV.out.2.2.1, HV.out.2.2.2, HV.out.1, HV.out.2.1, SwP.refl _ _ _⟩
  case round =>
    obtain ⟨i, hgi, hIi, rfl, HJ⟩ := hrel
    by_cases hik : i ≤ K
    · have hikI : (i : Int) ≤ (K : Int) := by omega
      have HG : Hid (gk + i = K + 1 ∧ I ≤ i ∧ i ≤ K) := ⟨hgi, hIi, hik⟩
      obtain ⟨h, x, x1, x2, x3, x4, x5, x6⟩ := HJ.out
      have hnx := next_any Q x x1 wr x2 x3
      have HX : Hid (RU wr g n h ∧ KU g w wr ∧ SwP a b f h ∧ wr.cell? ⟨Q, 0, none⟩ = some (.int .u64 ((x : Nat) : Int)) ∧ wr.frozen? ⟨Q, 0, none⟩ = false) := ⟨x4, x5, x6, x2, x3⟩
      clear x1 x2 x3 x4 x5 x6 HJ hgi hIi hik
      go_wp2_with fail
      refine hnx.mono ?_
      clear hnx
      rintro e wn' ⟨v9, nd, rfl, hv9, rfl⟩
      obtain ⟨o, ho, ho2⟩ : ∃ o : Nat, bits .and .u64 (v9 : Int) (Md : Int) = (o : Int) ∧ o ≤ Md := ⟨v9 &&& Md, bits_and_u64_nat _ _ hv9 (by omega), Nat.and_le_right⟩
      have y9o : o < 4611686018427387904 := by omega
      have HF0 : Hid (v9 < 18446744073709551616 ∧ ((wr.setCell ⟨Q, 0, none⟩ (.int .u64 (v9 : Int))).drewN nd).cell? ⟨Q, 0, none⟩ = some (.int .u64 (v9 : Int)) ∧ ((wr.setCell ⟨Q, 0, none⟩ (.int .u64 (v9 : Int))).drewN nd).frozen? ⟨Q, 0, none⟩ = false ∧ RU ((wr.setCell ⟨Q, 0, none⟩ (.int .u64 (v9 : Int))).drewN nd) g n h ∧ KU g w ((wr.setCell ⟨Q, 0, none⟩ (.int .u64 (v9 : Int))).drewN nd)) := by
        obtain ⟨q1, q2, q3, q4, q5⟩ := HX.out
        refine ⟨hv9, ?_, ?_, (q1.keeps ((KU.refl Q wr).set 0 _) HQ.out.2).drewN _, (q2.late ((KU.refl Q wr).set 0 _) HQ.out.1).drewN _⟩
        · show World.cell? (wr.setCell _ _) _ = _
          simp [go_sem, q4]
        · show World.frozen? (wr.setCell _ _) _ = _
          simp [q5]
      generalize ((wr.setCell ⟨Q, 0, none⟩ (.int .u64 (v9 : Int))).drewN nd) = wn at HF0 ⊢
      have HF : Hid (v9 < 18446744073709551616 ∧ wn.cell? ⟨Q, 0, none⟩ = some (.int .u64 (v9 : Int)) ∧ wn.frozen? ⟨Q, 0, none⟩ = false ∧ RU wn g n h ∧ KU g w wn ∧ SwP a b f h ∧ (gk + i = K + 1 ∧ I ≤ i ∧ i ≤ K) ∧ gk - 1 < gk) := by
        obtain ⟨q1, q2, q3, q4, q5⟩ := HF0.out
        exact ⟨q1, q2, q3, q4, q5, HX.out.2.2.1, HG.out, by have := HG.out; omega⟩
      clear HF0 HX hv9
      have k0 := HF.out.2.2.2.1.cell (j := i) (by have := HG.out; have := HB.out; omega)
      have z0 := HF.out.2.2.2.1.froz i
      have hin : (i : Int) < (n : Int) := by have := HG.out; have := HB.out; omega
      have HO : Hid (o ≤ Md) := ho2
      clear ho2
      by_cases hlo : l ≤ o
      · have hloI : (l : Int) ≤ (o : Int) := by omega
        obtain ⟨d, hd⟩ : ∃ d, l + d = o := ⟨o - l, by omega⟩
        have ed : (o : Int) - (l : Int) = (d : Int) := by omega
        obtain ⟨P, hP⟩ : ∃ P, a + d = P := ⟨_, rfl⟩
        have eP : (a : Int) + (d : Int) = (P : Int) := by omega
        have HP : Hid (a ≤ P ∧ P < b) := by have := HM.out; have := HB.out; have := HO.out; exact ⟨by omega, by omega⟩
        have k1 := HF.out.2.2.2.1.cell (j := P) (by have := HP.out; have := HB.out; omega)
        have z1 := HF.out.2.2.2.1.froz P
        have hPn : (P : Int) < (n : Int) := by have := HP.out; have := HB.out; omega
        have y10 : d < 1152921504606846976 := by have := HM.out; have := HO.out; omega
        have y11 : P < 1152921504606846976 := by have := HP.out; have := HB.out; omega
        clear hlo hd hP
        go_upto_region 11 with fail
        by_cases e : i = P
        · have HPi := HP
          rw [← e] at k1 z1 HP eP
          clear e hPn
          go_region
          have HN : Hid (∃ f' x : _, (x : Nat) < 18446744073709551616 ∧ (((wn.setCell ⟨g, i, none⟩ (.int .u64 (h i : Int))).setCell ⟨g, i, none⟩ (.int .u64 (h i : Int))).drew).cell? ⟨Q, 0, none⟩ = some (.int .u64 (x : Int)) ∧ (((wn.setCell ⟨g, i, none⟩ (.int .u64 (h i : Int))).setCell ⟨g, i, none⟩ (.int .u64 (h i : Int))).drew).frozen? ⟨Q, 0, none⟩ = false ∧ RU (((wn.setCell ⟨g, i, none⟩ (.int .u64 (h i : Int))).setCell ⟨g, i, none⟩ (.int .u64 (h i : Int))).drew) g n f' ∧ KU g w (((wn.setCell ⟨g, i, none⟩ (.int .u64 (h i : Int))).setCell ⟨g, i, none⟩ (.int .u64 (h i : Int))).drew) ∧ SwP a b f f') := by
            obtain ⟨q1, q2, q3, q4, q5, q6, q7⟩ := HF.out
            have q8 := HP.out
            have q9 := HB.out
            refine ⟨_, v9, q1, ?_, ?_, ((q4.set (by omega) _).set (by omega) _).drewN 1, ((q5.set _ _).set _ _).drewN 1, q6.trans (SwP.swp h (by omega) (by omega))⟩
            · show World.cell? ((wn.setCell _ _).setCell _ _) _ = _
              rw [World.cell?_of_block (w := wn.setCell _ _) (Below.heap_setCell _ _ _ _ (fun e => HQ.out.2 e.symm)), World.cell?_of_block (w := wn) (Below.heap_setCell _ _ _ _ (fun e => HQ.out.2 e.symm))]
              exact q2
            · show World.frozen? ((wn.setCell _ _).setCell _ _) _ = _
              simp [q3]
          go_wp2_with fail
          go_roundg (gk - 1)
          case measure => exact HF.out.2.2.2.2.2.2.2
          case rel => exact ⟨i + 1, by have := HF.out.2.2.2.2.2.2.1; omega, by have := HF.out.2.2.2.2.2.2.1; omega, by go_num, HN.out⟩
        · have e2 : ¬ P = i := fun h => e h.symm
          go_region
          have HN : Hid (∃ f' x : _, (x : Nat) < 18446744073709551616 ∧ (((wn.setCell ⟨g, i, none⟩ (.int .u64 (h P : Int))).setCell ⟨g, P, none⟩ (.int .u64 (h i : Int))).drew).cell? ⟨Q, 0, none⟩ = some (.int .u64 (x : Int)) ∧ (((wn.setCell ⟨g, i, none⟩ (.int .u64 (h P : Int))).setCell ⟨g, P, none⟩ (.int .u64 (h i : Int))).drew).frozen? ⟨Q, 0, none⟩ = false ∧ RU (((wn.setCell ⟨g, i, none⟩ (.int .u64 (h P : Int))).setCell ⟨g, P, none⟩ (.int .u64 (h i : Int))).drew) g n f' ∧ KU g w (((wn.setCell ⟨g, i, none⟩ (.int .u64 (h P : Int))).setCell ⟨g, P, none⟩ (.int .u64 (h i : Int))).drew) ∧ SwP a b f f') := by
            obtain ⟨q1, q2, q3, q4, q5, q6, q7⟩ := HF.out
            have q8 := HP.out
            have q9 := HB.out
            refine ⟨_, v9, q1, ?_, ?_, ((q4.set (by omega) _).set (by omega) _).drewN 1, ((q5.set _ _).set _ _).drewN 1, q6.trans (SwP.swp h (by omega) (by omega))⟩
            · show World.cell? ((wn.setCell _ _).setCell _ _) _ = _
              rw [World.cell?_of_block (w := wn.setCell _ _) (Below.heap_setCell _ _ _ _ (fun e => HQ.out.2 e.symm)), World.cell?_of_block (w := wn) (Below.heap_setCell _ _ _ _ (fun e => HQ.out.2 e.symm))]
              exact q2
            · show World.frozen? ((wn.setCell _ _).setCell _ _) _ = _
              simp [q3]
          go_wp2_with fail
          go_roundg (gk - 1)
          case measure => exact HF.out.2.2.2.2.2.2.2
          case rel => exact ⟨i + 1, by have := HF.out.2.2.2.2.2.2.1; omega, by have := HF.out.2.2.2.2.2.2.1; omega, by go_num, HN.out⟩
      · have hloI : ¬ (l : Int) ≤ (o : Int) := by omega
        obtain ⟨P, hP⟩ : ∃ P, a + o = P := ⟨_, rfl⟩
        have eP : (a : Int) + (o : Int) = (P : Int) := by omega
        have HP : Hid (a ≤ P ∧ P < b) := by have := HM.out; have := HB.out; have := HO.out; exact ⟨by omega, by omega⟩
        have k1 := HF.out.2.2.2.1.cell (j := P) (by have := HP.out; have := HB.out; omega)
        have z1 := HF.out.2.2.2.1.froz P
        have hPn : (P : Int) < (n : Int) := by have := HP.out; have := HB.out; omega
        have y11 : P < 1152921504606846976 := by have := HP.out; have := HB.out; omega
        clear hlo hP
        go_upto_region 11 with fail
        by_cases e : i = P
        · have HPi := HP
          rw [← e] at k1 z1 HP eP
          clear e hPn
          go_region
          have HN : Hid (∃ f' x : _, (x : Nat) < 18446744073709551616 ∧ (((wn.setCell ⟨g, i, none⟩ (.int .u64 (h i : Int))).setCell ⟨g, i, none⟩ (.int .u64 (h i : Int))).drew).cell? ⟨Q, 0, none⟩ = some (.int .u64 (x : Int)) ∧ (((wn.setCell ⟨g, i, none⟩ (.int .u64 (h i : Int))).setCell ⟨g, i, none⟩ (.int .u64 (h i : Int))).drew).frozen? ⟨Q, 0, none⟩ = false ∧ RU (((wn.setCell ⟨g, i, none⟩ (.int .u64 (h i : Int))).setCell ⟨g, i, none⟩ (.int .u64 (h i : Int))).drew) g n f' ∧ KU g w (((wn.setCell ⟨g, i, none⟩ (.int .u64 (h i : Int))).setCell ⟨g, i, none⟩ (.int .u64 (h i : Int))).drew) ∧ SwP a b f f') := by
            obtain ⟨q1, q2, q3, q4, q5, q6, q7⟩ := HF.out
            have q8 := HP.out
            have q9 := HB.out
            refine ⟨_, v9, q1, ?_, ?_, ((q4.set (by omega) _).set (by omega) _).drewN 1, ((q5.set _ _).set _ _).drewN 1, q6.trans (SwP.swp h (by omega) (by omega))⟩
            · show World.cell? ((wn.setCell _ _).setCell _ _) _ = _
              rw [World.cell?_of_block (w := wn.setCell _ _) (Below.heap_setCell _ _ _ _ (fun e => HQ.out.2 e.symm)), World.cell?_of_block (w := wn) (Below.heap_setCell _ _ _ _ (fun e => HQ.out.2 e.symm))]
              exact q2
            · show World.frozen? ((wn.setCell _ _).setCell _ _) _ = _
              simp [q3]
          go_wp2_with fail
          go_roundg (gk - 1)
          case measure => exact HF.out.2.2.2.2.2.2.2
          case rel => exact ⟨i + 1, by have := HF.out.2.2.2.2.2.2.1; omega, by have := HF.out.2.2.2.2.2.2.1; omega, by go_num, HN.out⟩
        · have e2 : ¬ P = i := fun h => e h.symm
          go_region
          have HN : Hid (∃ f' x : _, (x : Nat) < 18446744073709551616 ∧ (((wn.setCell ⟨g, i, none⟩ (.int .u64 (h P : Int))).setCell ⟨g, P, none⟩ (.int .u64 (h i : Int))).drew).cell? ⟨Q, 0, none⟩ = some (.int .u64 (x : Int)) ∧ (((wn.setCell ⟨g, i, none⟩ (.int .u64 (h P : Int))).setCell ⟨g, P, none⟩ (.int .u64 (h i : Int))).drew).frozen? ⟨Q, 0, none⟩ = false ∧ RU (((wn.setCell ⟨g, i, none⟩ (.int .u64 (h P : Int))).setCell ⟨g, P, none⟩ (.int .u64 (h i : Int))).drew) g n f' ∧ KU g w (((wn.setCell ⟨g, i, none⟩ (.int .u64 (h P : Int))).setCell ⟨g, P, none⟩ (.int .u64 (h i : Int))).drew) ∧ SwP a b f f') := by
            obtain ⟨q1, q2, q3, q4, q5, q6, q7⟩ := HF.out
            have q8 := HP.out
            have q9 := HB.out
            refine ⟨_, v9, q1, ?_, ?_, ((q4.set (by omega) _).set (by omega) _).drewN 1, ((q5.set _ _).set _ _).drewN 1, q6.trans (SwP.swp h (by omega) (by omega))⟩
            · show World.cell? ((wn.setCell _ _).setCell _ _) _ = _
              rw [World.cell?_of_block (w := wn.setCell _ _) (Below.heap_setCell _ _ _ _ (fun e => HQ.out.2 e.symm)), World.cell?_of_block (w := wn) (Below.heap_setCell _ _ _ _ (fun e => HQ.out.2 e.symm))]
              exact q2
            · show World.frozen? ((wn.setCell _ _).setCell _ _) _ = _
              simp [q3]
          go_wp2_with fail
          go_roundg (gk - 1)
          case measure => exact HF.out.2.2.2.2.2.2.2
          case rel => exact ⟨i + 1, by have := HF.out.2.2.2.2.2.2.1; omega, by have := HF.out.2.2.2.2.2.2.1; omega, by go_num, HN.out⟩
    · have hikI : ¬ (i : Int) ≤ (K : Int) := by omega
      have HE : Hid (∃ f', RU wr g n f' ∧ KU g w wr ∧ SwP a b f f') := by
        obtain ⟨h, x, x1, x2, x3, x4, x5, x6⟩ := HJ.out
        exact ⟨h, x4, x5, x6⟩
      clear HJ hgi hIi hik
      go_wp2
      go_end0
      exact ⟨rfl, HE.out⟩

end Go.Proofs.Ytgkgdbdapkgkgaa

/- reverseRangeOrdered of numbers. -/
namespace Go.Proofs.Ytgkgdbdapkgkgaa
set_option maxRecDepth 100000
open Go.RowKit
set_option linter.unusedVariables false
set_option linter.unusedSimpArgs false

set_option maxHeartbeats 1000000 in
theorem revU_any (w : World) (g n cap a b : Nat) (f : Nat → Nat) (h : RU w g n f) (hab : a + 1 ≤ b) (hbn : b ≤ n) (hn : n < 1152921504606846976) :
    Calls Try.prog 44 #[.slice (some ⟨g, 0, none⟩) n cap, .int .i64 (a : Int), .int .i64 (b : Int)] w fun e w' => e = .returned (.tuple #[]) ∧ ∃ f', RU w' g n f' ∧ KU g w w' ∧ SwP a b f f' := by
  have H : Hid (RU w g n f) := h
  clear h
  obtain ⟨B, hB⟩ : ∃ B, B + 1 = b := ⟨b - 1, by omega⟩
  have eB : (b : Int) - 1 = (B : Int) := by omega
  have HB : Hid (B + 1 = b) := hB
  clear hB
  go_enter Try.func44, Try.ntmps44
  go_wp2_with fail
  go_loopg [6, 7] (B + 1 - a) (fun gk iv jv wr => ∃ i j : Nat, gk = j + 1 - i ∧ a ≤ i ∧ j < b ∧ i ≤ j + 1 ∧ iv = .int .i64 (i : Int) ∧ jv = .int .i64 (j : Int) ∧ Hid (∃ f', RU wr g n f' ∧ KU g w wr ∧ SwP a b f f'))
  case atStart => exact ⟨a, B, rfl, Nat.le_refl _, by have := HB.out; omega, by have := HB.out; omega, rfl, rfl, f, H.out, KU.refl _ _, SwP.refl _ _ _⟩
  case round =>
    obtain ⟨i, j, hgk, hai, hjb, hij, rfl, rfl, HJ⟩ := hrel
    obtain ⟨G, hG⟩ : ∃ G, gk = G := ⟨_, rfl⟩
    by_cases hlt : i < j
    · obtain ⟨h, h1, h2, h3⟩ := HJ.out
      obtain ⟨Jd, hJd⟩ : ∃ Jd, Jd + 1 = j := ⟨j - 1, by omega⟩
      have e5 : (j : Int) - 1 = (Jd : Int) := by omega
      have HF : Hid (RU wr g n h ∧ KU g w wr ∧ SwP a b f h ∧ Jd + 1 = j ∧ i < j ∧ gk = j + 1 - i ∧ a ≤ i ∧ j < b) := ⟨h1, h2, h3, hJd, hlt, hgk, hai, hjb⟩
      have k0 := h1.cell (j := i) (by omega)
      have k1 := h1.cell (j := j) (by omega)
      have z0 := h1.froz i
      have z1 := h1.froz j
      have hJn : (j : Int) < (n : Int) := by omega
      have hIn : (i : Int) < (n : Int) := by omega
      have hij2 : (i : Int) < (j : Int) := by omega
      have n1 : ¬ i = j := by omega
      have n2 : ¬ j = i := by omega
      clear h1 h2 h3 hJd hgk hai hjb hij HJ hlt
      go_upto_region 4 with fail
      go_region
      have HN : Hid (RU ((((wr.setCell ⟨g, i, none⟩ (.int .u64 (h j : Int))).setCell ⟨g, j, none⟩ (.int .u64 (h i : Int))).drew)) g n (swpF h i j) ∧ KU g w ((((wr.setCell ⟨g, i, none⟩ (.int .u64 (h j : Int))).setCell ⟨g, j, none⟩ (.int .u64 (h i : Int))).drew)) ∧ SwP a b f (swpF h i j)) := by
        obtain ⟨q1, q2, q3, q4, q5, q6, q7, q8⟩ := HF.out
        exact ⟨((q1.set (by omega) _).set (by omega) _).drewN 1, ((q2.set _ _).set _ _).drewN 1, q3.trans (SwP.swp h (by omega) (by omega))⟩
      have HM : Hid (Jd + 1 - (i + 1) < G ∧ i + 1 ≤ Jd + 1 ∧ a ≤ i + 1 ∧ Jd < b) := by
        obtain ⟨q1, q2, q3, q4, q5, q6, q7, q8⟩ := HF.out
        exact ⟨by omega, by omega, by omega, by omega⟩
      go_wp2_with fail
      go_roundg (Jd + 1 - (i + 1))
      case measure => have := HM.out.1; omega
      case rel => exact ⟨i + 1, Jd, rfl, HM.out.2.2.1, HM.out.2.2.2, HM.out.2.1, by go_num, rfl, _, HN.out⟩
    · have hbi : ¬ (i : Int) < (j : Int) := by omega
      have HE := HJ
      clear HJ hgk
      go_wp2
      go_end0
      exact ⟨rfl, HE.out⟩

end Go.Proofs.Ytgkgdbdapkgkgaa

/- pdqsortOrdered of numbers. -/
namespace Go.Proofs.Ytgkgdbdapkgkgaa
set_option maxRecDepth 100000
open Go.RowKit
set_option linter.unusedVariables false
set_option linter.unusedSimpArgs false

/-- sorted from a to b but for what stands from A to B, which stands between what is ahead and what is behind -/
structure PdI (a b A B : Nat) (h : Nat → Nat) : Prop where
  srt : ∀ p q, a ≤ p → p ≤ q → q < b → (p < A ∨ B ≤ q) → h p ≤ h q
  pos : a ≤ A ∧ A ≤ B ∧ B ≤ b

theorem PdI.first {a b : Nat} (f : Nat → Nat) (h : a ≤ b) : PdI a b a b f := ⟨fun p q h1 h2 h3 h4 => by omega, Nat.le_refl _, h, Nat.le_refl _⟩

theorem PdI.sw {a b A B : Nat} {h h' : Nat → Nat} (H : PdI a b A B h) (hs : SwP A B h h') : PdI a b A B h' := by
  have hp := H.pos
  refine ⟨fun p q h1 h2 h3 h4 => ?_, hp⟩
  by_cases c1 : A ≤ p ∧ p < B
  · obtain ⟨l, l1, l2, l3⟩ := hs.src c1.1 c1.2
    rw [← l3]
    by_cases c2 : A ≤ q ∧ q < B
    · omega
    · rw [hs.out q (by omega)]
      exact H.srt l q (by omega) (by omega) h3 (by omega)
  · rw [hs.out p (by omega)]
    by_cases c2 : A ≤ q ∧ q < B
    · obtain ⟨l, l1, l2, l3⟩ := hs.src c2.1 c2.2
      rw [← l3]
      exact H.srt p l h1 (by omega) (by omega) (by omega)
    · rw [hs.out q (by omega)]
      exact H.srt p q h1 h2 h3 h4

theorem PdI.fin {a b A B : Nat} {h : Nat → Nat} (H : PdI a b A B h) (hs : SrtP A B h) : SrtP a b h := by
  intro p q h1 h2 h3
  by_cases c : p < A ∨ B ≤ q
  · exact H.srt p q h1 h2 h3 c
  · exact hs p q (by omega) h2 (by omega)

theorem PdI.low {a b A B : Nat} {f h : Nat → Nat} (H : PdI a b A B h) (hlow : ∀ k, 1 ≤ a → a ≤ k → k < b → f (a - 1) ≤ f k) (hs : SwP a b f h) : ∀ k, 1 ≤ A → A ≤ k → k < B → h (A - 1) ≤ h k := by
  intro k h1 h2 h3
  have hp := H.pos
  by_cases e : A = a
  · have := low_sw hlow hs k (by omega) (by omega) (by omega)
    rw [e]; exact this
  · exact H.srt (A - 1) k (by omega) (by omega) (by omega) (by omega)

theorem SwP.in {a b A B : Nat} {f h h' : Nat → Nat} (H : SwP a b f h) (hs : SwP A B h h') (ha : a ≤ A) (hb : B ≤ b) : SwP a b f h' := H.trans (hs.wide ha hb)

/-- behind partitionEqual what is left lies from m on -/
theorem PdI.eql {a b A B pv m : Nat} {h h' : Nat → Nat} (H : PdI a b A B h) (hp : PeP A B pv m h h') (hA : 1 ≤ A) (hl : ∀ k, 1 ≤ A → A ≤ k → k < B → h' (A - 1) ≤ h' k) (hq : h pv ≤ h' (A - 1)) : PdI a b m B h' := by
  have hpos := H.pos
  obtain ⟨h1, h2, h3, h4, h5, h6⟩ := hp
  have hs := (H.sw h1).srt
  refine ⟨fun p q p1 p2 p3 p4 => ?_, by omega, by omega, by omega⟩
  by_cases c : p < A ∨ B ≤ q
  · exact hs p q p1 p2 p3 c
  · have e1 := h5 p (by omega) (by omega)
    have e2 := hl q hA (by omega) (by omega)
    omega

/-- behind a partition and a sort of what lies below -/
theorem PdI.left {a b A B m : Nat} {h h1 h2 : Nat → Nat} (H : PdI a b A B h) (hp : PtP A B m h h1) (hs : SwP A m h1 h2) (ht : SrtP A m h2) : PdI a b (m + 1) B h2 := by
  have hpos := H.pos
  obtain ⟨p1, p2, p3, p4, p5⟩ := hp
  have hi := (H.sw (p1.trans (hs.wide (Nat.le_refl _) (Nat.le_of_lt p3)))).srt
  refine ⟨fun p q q1 q2 q3 q4 => ?_, by omega, by omega, by omega⟩
  by_cases c : p < A ∨ B ≤ q
  · exact hi p q q1 q2 q3 c
  · have hm : h2 m = h1 m := hs.out m (by omega)
    have hlo : ∀ k, A ≤ k → k < m → h2 k < h2 m := fun k k1 k2 => by
      obtain ⟨l, l1, l2, l3⟩ := hs.src k1 k2
      rw [← l3, hm]
      exact p4 l l1 l2
    have hup : ∀ k, m ≤ k → k < B → h2 m ≤ h2 k := fun k k1 k2 => by
      by_cases e : k = m
      · subst e; exact Nat.le_refl _
      · rw [hm, hs.out k (by omega)]
        exact p5 k (by omega) k2
    by_cases c1 : q < m
    · exact ht p q (by omega) q2 c1
    · by_cases c2 : p < m
      · exact Nat.le_trans (Nat.le_of_lt (hlo p (by omega) c2)) (hup q (by omega) (by omega))
      · have : p = m := by omega
        subst this
        exact hup q (by omega) (by omega)

/-- behind a partition and a sort of what lies above -/
theorem PdI.right {a b A B m : Nat} {h h1 h2 : Nat → Nat} (H : PdI a b A B h) (hp : PtP A B m h h1) (hs : SwP (m + 1) B h1 h2) (ht : SrtP (m + 1) B h2) : PdI a b A m h2 := by
  have hpos := H.pos
  obtain ⟨p1, p2, p3, p4, p5⟩ := hp
  have hi := (H.sw (p1.trans (hs.wide (by omega) (Nat.le_refl _)))).srt
  refine ⟨fun p q q1 q2 q3 q4 => ?_, by omega, by omega, by omega⟩
  by_cases c : p < A ∨ B ≤ q
  · exact hi p q q1 q2 q3 c
  · have hm : h2 m = h1 m := hs.out m (by omega)
    have hlo : ∀ k, A ≤ k → k < m → h2 k < h2 m := fun k k1 k2 => by
      rw [hs.out k (by omega), hm]
      exact p4 k k1 k2
    have hup : ∀ k, m ≤ k → k < B → h2 m ≤ h2 k := fun k k1 k2 => by
      by_cases e : k = m
      · subst e; exact Nat.le_refl _
      · obtain ⟨l, l1, l2, l3⟩ := hs.src (show m + 1 ≤ k by omega) k2
        rw [← l3, hm]
        exact p5 l (by omega) l2
    by_cases c1 : m + 1 ≤ p
    · exact ht p q c1 q2 (by omega)
    · by_cases c2 : p < m
      · exact Nat.le_trans (Nat.le_of_lt (hlo p (by omega) c2)) (hup q (by omega) (by omega))
      · have : p = m := by omega
        subst this
        exact hup q (by omega) (by omega)

set_option maxHeartbeats 2000000 in
theorem pdqU_step (g n cap K : Nat) (hn : n < 1152921504606846976) (HIH : Hid (∀ (w : World) (a b l : Nat) (f : Nat → Nat), RU w g n f → b - a < K → a ≤ b → b ≤ n → l < 1152921504606846976 → (∀ k, 1 ≤ a → a ≤ k → k < b → f (a - 1) ≤ f k) →
    Calls Try.prog 38 #[.slice (some ⟨g, 0, none⟩) n cap, .int .i64 (a : Int), .int .i64 (b : Int), .int .i64 (l : Int)] w fun e w' => e = .returned (.tuple #[]) ∧ ∃ f', RU w' g n f' ∧ KU g w w' ∧ SwP a b f f' ∧ SrtP a b f')) :
    ∀ (w : World) (a b l : Nat) (f : Nat → Nat), RU w g n f → b - a < K + 1 → a ≤ b → b ≤ n → l < 1152921504606846976 → (∀ k, 1 ≤ a → a ≤ k → k < b → f (a - 1) ≤ f k) →
    Calls Try.prog 38 #[.slice (some ⟨g, 0, none⟩) n cap, .int .i64 (a : Int), .int .i64 (b : Int), .int .i64 (l : Int)] w fun e w' => e = .returned (.tuple #[]) ∧ ∃ f', RU w' g n f' ∧ KU g w w' ∧ SwP a b f f' ∧ SrtP a b f' := by
  intro w a b l f h hK hab hbn hl hlow
  have H : Hid (RU w g n f) := h
  have HL : Hid (∀ k, 1 ≤ a → a ≤ k → k < b → f (a - 1) ≤ f k) := hlow
  have HA : Hid (b - a < K + 1 ∧ a ≤ b ∧ b ≤ n ∧ n < 1152921504606846976) := ⟨hK, hab, hbn, hn⟩
  clear h hlow
  go_enter Try.func38, Try.ntmps38
  go_wp2_with fail
  go_loopg [1, 2, 3, 8, 9] (b - a) (fun gk av bv lv xv yv wr => ∃ (A B L : Nat) (x y : Bool), gk + A = B ∧ L < 1152921504606846976 ∧ av = .int .i64 (A : Int) ∧ bv = .int .i64 (B : Int) ∧ lv = .int .i64 (L : Int) ∧ xv = .bool x ∧ yv = .bool y ∧ Hid (∃ h, RU wr g n h ∧ KU g w wr ∧ SwP a b f h ∧ PdI a b A B h))
  case atStart => exact ⟨a, b, l, true, true, by omega, hl, rfl, rfl, rfl, rfl, rfl, f, H.out, KU.refl _ _, SwP.refl _ _ _, PdI.first f hab⟩
  case round =>
    obtain ⟨A, B, L, x, y, hgk, hL, rfl, rfl, rfl, rfl, rfl, HI⟩ := hrel
    have HP : Hid (a ≤ A ∧ A ≤ B ∧ B ≤ b ∧ gk + A = B) := by
      obtain ⟨h, h1, h2, h3, h4⟩ := HI.out
      exact ⟨h4.pos.1, h4.pos.2.1, h4.pos.2.2, hgk⟩
    obtain ⟨N, hN⟩ : ∃ N, B - A = N := ⟨_, rfl⟩
    have eN : (B : Int) - (A : Int) = (N : Int) := by have := HP.out; omega
    have yN : N < 1152921504606846976 := by have := HP.out; omega
    have HN : Hid (B - A = N) := hN
    clear hgk hN hK hab
    by_cases h12 : N ≤ 12
    · have h12I : (N : Int) ≤ 12 := by omega
      obtain ⟨h, h1, h2, h3, h4⟩ := HI.out
      have hc := insU_any wr g n cap A B h h1 h4.pos.2.1 (by have := HP.out; omega) (by omega)
      have HF : Hid (KU g w wr ∧ SwP a b f h ∧ PdI a b A B h) := ⟨h2, h3, h4⟩
      clear h1 h2 h3 h4 HI h12
      go_wp2_with fail
      refine hc.mono ?_
      rintro e w1 ⟨rfl, f', f1, f2, f3, f4⟩
      have HE : Hid (∃ f', RU w1 g n f' ∧ KU g w w1 ∧ SwP a b f f' ∧ SrtP a b f') := by
        obtain ⟨q1, q2, q3⟩ := HF.out
        exact ⟨f', f1, q1.trans f2, q2.in f3 q3.pos.1 q3.pos.2.2, (q3.sw f3).fin f4⟩
      clear hc f1 f2 f3 f4
      go_wp2
      try simp only [Exit.inBlock, Exit.then]
      refine bodyPost_ret (results_none rfl _ _ _) rfl ?_
      exact ⟨rfl, HE.out⟩
    · have h12I : ¬ (N : Int) ≤ 12 := by omega
      have h13 : 13 ≤ N := by omega
      have HN13 : Hid (13 ≤ N) := h13
      clear h13
      by_cases hL0 : L = 0
      · have hL0I : (L : Int) = 0 := by omega
        obtain ⟨h, h1, h2, h3, h4⟩ := HI.out
        have hc := heapU_any wr g n cap A B h h1 (by have := HN.out; have := HN13.out; omega) (by have := HP.out; omega) (by omega)
        have HF : Hid (KU g w wr ∧ SwP a b f h ∧ PdI a b A B h) := ⟨h2, h3, h4⟩
        subst hL0
        clear h1 h2 h3 h4 HI h12 
        go_wp2_with fail
        refine hc.mono ?_
        rintro e w1 ⟨rfl, f', f1, f2, f3, f4⟩
        have HE : Hid (∃ f', RU w1 g n f' ∧ KU g w w1 ∧ SwP a b f f' ∧ SrtP a b f') := by
          obtain ⟨q1, q2, q3⟩ := HF.out
          exact ⟨f', f1, q1.trans f2, q2.in f3 q3.pos.1 q3.pos.2.2, (q3.sw f3).fin f4⟩
        clear hc f1 f2 f3 f4
        go_wp2
        try simp only [Exit.inBlock, Exit.then]
        refine bodyPost_ret (results_none rfl _ _ _) rfl ?_
        exact ⟨rfl, HE.out⟩
      · have hL0I : ¬ (L : Int) = 0 := by omega
        obtain ⟨L1, hL1⟩ : ∃ L1, L - 1 = L1 := ⟨_, rfl⟩
        have eL1 : (L : Int) - 1 = (L1 : Int) := by omega
        have yL1 : L1 < 1152921504606846976 := by omega
        clear hL0 hL1 h12
        go_upto_if 35 with fail
        go_cut [3] from 19 to 133 (fun lv wx => ∃ L : Nat, L < 1152921504606846976 ∧ lv = .int .i64 (L : Int) ∧ Hid (∃ h, RU wx g n h ∧ KU g w wx ∧ SwP a b f h ∧ PdI a b A B h))
        case first =>
          cases x with
          | true =>
            go_wp2_with fail
            go_meet
            exact ⟨L, hL, rfl, HI.out⟩
          | false =>
            obtain ⟨h, h1, h2, h3, h4⟩ := HI.out
            have hc := brkU_any wr g n cap A B h h1 (by have := HN.out; have := HN13.out; omega) (by have := HP.out; omega) (by omega)
            have HF : Hid (KU g w wr ∧ SwP a b f h ∧ PdI a b A B h) := ⟨h2, h3, h4⟩
            clear h1 h2 h3 h4 HI
            go_wp2_with fail
            refine hc.mono ?_
            rintro e w1 ⟨rfl, f', f1, f2, f3⟩
            have HE : Hid (∃ h, RU w1 g n h ∧ KU g w w1 ∧ SwP a b f h ∧ PdI a b A B h) := by
              obtain ⟨q1, q2, q3⟩ := HF.out
              exact ⟨f', f1, q1.trans f2, q2.in f3 q3.pos.1 q3.pos.2.2, q3.sw f3⟩
            clear hc f1 f2 f3
            go_wp2_with fail
            go_meet
            exact ⟨L1, yL1, rfl, HE.out⟩
        case rest =>
          obtain ⟨L2, yL2, rfl, HI2⟩ := hcut
          clear HI eL1 yL1 hL0I
          obtain ⟨h, h1, h2, h3, h4⟩ := HI2.out
          have hc := chooseU_any wc g n cap A B h h1 (by have := HN.out; have := HN13.out; omega) (by have := HP.out; omega) (by omega)
          have HF : Hid (KU g w wc ∧ SwP a b f h ∧ PdI a b A B h) := ⟨h2, h3, h4⟩
          clear h1 h2 h3 h4 HI2
          go_wp2_with fail
          refine hc.mono ?_
          rintro e w1 ⟨p, k, rfl, p1, p2, p3, p4, p5⟩
          have HI3 : Hid (∃ h, RU w1 g n h ∧ KU g w w1 ∧ SwP a b f h ∧ PdI a b A B h) := by
            obtain ⟨q1, q2, q3⟩ := HF.out
            exact ⟨h, p4, q1.trans p5, q2, q3⟩
          have Hp : Hid (A ≤ p ∧ p < B) := ⟨p1, p2⟩
          clear hc p1 p2 p4 p5 HF
          go_upto_if 50 with fail
          go_cut [11, 12] from 19 to 133 (fun pv kv wx => ∃ p k : Nat, pv = .int .i64 (p : Int) ∧ kv = .int .i64 (k : Int) ∧ A ≤ p ∧ p < B ∧ Hid (∃ h, RU wx g n h ∧ KU g w wx ∧ SwP a b f h ∧ PdI a b A B h))
          case first =>
            by_cases hk2 : k = 2
            · obtain ⟨h, h1, h2, h3, h4⟩ := HI3.out
              have hc := revU_any w1 g n cap A B h h1 (by have := HN.out; have := HN13.out; omega) (by have := HP.out; omega) (by omega)
              have HF : Hid (KU g w w1 ∧ SwP a b f h ∧ PdI a b A B h) := ⟨h2, h3, h4⟩
              have hk2I : (k : Int) = 2 := by omega
              obtain ⟨B1, hB1⟩ : ∃ B1, B - 1 = B1 := ⟨_, rfl⟩
              have eB1 : (B : Int) - 1 = (B1 : Int) := by have := Hp.out; omega
              have yB1 : B1 < 1152921504606846976 := by have := HP.out; omega
              obtain ⟨P1, hP1⟩ : ∃ P1, p - A = P1 := ⟨_, rfl⟩
              have eP1 : (p : Int) - (A : Int) = (P1 : Int) := by have := Hp.out; omega
              have yP1 : P1 < 1152921504606846976 := by have := HP.out; have := Hp.out; omega
              obtain ⟨P2, hP2⟩ : ∃ P2, B1 - P1 = P2 := ⟨_, rfl⟩
              have eP2 : (B1 : Int) - (P1 : Int) = (P2 : Int) := by have := Hp.out; omega
              have yP2 : P2 < 1152921504606846976 := by omega
              have HP2 : Hid (A ≤ P2 ∧ P2 < B) := by have := Hp.out; exact ⟨by omega, by omega⟩
              subst hk2
              clear h1 h2 h3 h4 HI3 hB1 hP1 hP2
              go_wp2_with fail
              refine hc.mono ?_
              rintro e w2 ⟨rfl, f', f1, f2, f3⟩
              have HE : Hid (∃ h, RU w2 g n h ∧ KU g w w2 ∧ SwP a b f h ∧ PdI a b A B h) := by
                obtain ⟨q1, q2, q3⟩ := HF.out
                exact ⟨f', f1, q1.trans f2, q2.in f3 q3.pos.1 q3.pos.2.2, q3.sw f3⟩
              clear hc f1 f2 f3 HF
              go_wp2_with fail
              go_meet
              exact ⟨P2, 1, rfl, rfl, HP2.out.1, HP2.out.2, HE.out⟩
            · have hk2I : ¬ (k : Int) = 2 := by omega
              clear hk2
              go_wp2_with fail
              go_meet
              exact ⟨p, k, rfl, rfl, Hp.out.1, Hp.out.2, HI3.out⟩
          case rest =>
            clear HI3 Hp
            obtain ⟨p, k, rfl, rfl, p1, p2, HI4⟩ := hcut
            have Hp : Hid (A ≤ p ∧ p < B) := ⟨p1, p2⟩
            clear p1 p2
            go_upto_region 15 with fail
            go_cut [68] from 19 to 133 (fun tv wx => ∃ c : Bool, tv = .bool c ∧ Hid (∃ h, RU wx g n h ∧ KU g w wx ∧ SwP a b f h ∧ PdI a b A B h))
            case first =>
              cases x with
              | false =>
                go_wp2_with fail
                go_meet
                exact ⟨_, rfl, HI4.out⟩
              | true =>
                cases y with
                | false =>
                  go_wp2_with fail
                  go_meet
                  exact ⟨_, rfl, HI4.out⟩
                | true =>
                  go_wp2_with fail
                  go_meet
                  exact ⟨_, rfl, HI4.out⟩
            case rest =>
              obtain ⟨c, rfl, HI5⟩ := hcut
              clear HI4
              go_upto_if 68 with fail
              go_cut [] from 19 to 133 (fun wx => Hid (∃ h, RU wx g n h ∧ KU g w wx ∧ SwP a b f h ∧ PdI a b A B h))
              case first =>
                cases c with
                | false =>
                  go_wp2_with fail
                  go_meet
                  exact HI5.out
                | true =>
                  obtain ⟨h, h1, h2, h3, h4⟩ := HI5.out
                  have hc := pisU_any wc g n cap A B h h1 (by have := HN.out; have := HN13.out; omega) (by have := HP.out; omega) hn (h4.low HL.out h3)
                  have HF : Hid (KU g w wc ∧ SwP a b f h ∧ PdI a b A B h) := ⟨h2, h3, h4⟩
                  clear h1 h2 h3 h4 HI5
                  go_wp2_with fail
                  refine hc.mono ?_
                  rintro e w2 ⟨r, f', rfl, f1, f2, f3, f4⟩
                  clear hc
                  cases r with
                  | true =>
                    have HE : Hid (∃ f', RU w2 g n f' ∧ KU g w w2 ∧ SwP a b f f' ∧ SrtP a b f') := by
                      obtain ⟨q1, q2, q3⟩ := HF.out
                      exact ⟨f', f1, q1.trans f2, q2.in f3 q3.pos.1 q3.pos.2.2, (q3.sw f3).fin (f4 rfl)⟩
                    clear f1 f2 f3 f4
                    go_wp2
                    try simp only [Exit.inBlock, Exit.then]
                    refine bodyPost_ret (results_none rfl _ _ _) rfl ?_
                    exact ⟨rfl, HE.out⟩
                  | false =>
                    have HE : Hid (∃ h, RU w2 g n h ∧ KU g w w2 ∧ SwP a b f h ∧ PdI a b A B h) := by
                      obtain ⟨q1, q2, q3⟩ := HF.out
                      exact ⟨f', f1, q1.trans f2, q2.in f3 q3.pos.1 q3.pos.2.2, q3.sw f3⟩
                    clear f1 f2 f3 f4
                    go_wp2_with fail
                    go_meet
                    exact HE.out
              case rest =>
                clear HI5
                have HI6 := hcut
                clear hcut
                go_upto_region 17 with fail
                go_cut [87] from 19 to 133 (fun tv wx => ∃ c : Bool, tv = .bool c ∧ Hid (∃ h, RU wx g n h ∧ KU g w wx ∧ SwP a b f h ∧ PdI a b A B h ∧ (c = true → 1 ≤ A ∧ h p ≤ h (A - 1))))
                case first =>
                  obtain ⟨h, h1, h2, h3, h4⟩ := HI6.out
                  have HF : Hid (RU wc g n h ∧ KU g w wc ∧ SwP a b f h ∧ PdI a b A B h) := ⟨h1, h2, h3, h4⟩
                  by_cases hA0 : 0 < A
                  · have hA0I : (0 : Int) < (A : Int) := by omega
                    obtain ⟨A1, hA1⟩ : ∃ A1, A - 1 = A1 := ⟨_, rfl⟩
                    have eA1 : (A : Int) - 1 = (A1 : Int) := by omega
                    have hA1n : (A1 : Int) < (n : Int) := by have := HP.out; have := Hp.out; omega
                    have hpn : (p : Int) < (n : Int) := by have := HP.out; have := Hp.out; omega
                    have yA1 : A1 < 1152921504606846976 := by omega
                    have k0 := h1.cell (j := A1) (by omega)
                    have k1 := h1.cell (j := p) (by omega)
                    obtain ⟨r, hr⟩ : ∃ r, decide ((h A1 : Int) < (h p : Int)) = r := ⟨_, rfl⟩
                    have hle : ∀ W : World, Calls Try.prog 46 #[.int .u64 (h A1 : Int), .int .u64 (h p : Int)] W fun e w' => e = .returned (.bool r) ∧ ∃ n, w' = W.drewN n := fun W => (lessU_any W _ _ r hr).mono fun e w' h => ⟨h.1, 0, by rw [h.2]; rfl⟩
                    have HR : Hid (decide ((h A1 : Int) < (h p : Int)) = r ∧ A - 1 = A1 ∧ 1 ≤ A) := ⟨hr, hA1, hA0⟩
                    clear h1 h2 h3 h4 HI6 hr hA1
                    go_quiet (first | (go_at_call 46; refine Calls.quiet_of (hle _)) | fail)
                    have HE : Hid (∃ h, RU (wc.drewN nq) g n h ∧ KU g w (wc.drewN nq) ∧ SwP a b f h ∧ PdI a b A B h ∧ (r = false → 1 ≤ A ∧ h p ≤ h (A - 1))) := by
                      obtain ⟨q1, q2, q3, q4⟩ := HF.out
                      obtain ⟨p1, p2, p3⟩ := HR.out
                      refine ⟨h, q1.drewN _, q2.drewN _, q3, q4, fun hf => ⟨p3, ?_⟩⟩
                      rw [hf] at p1
                      have := of_decide_eq_false p1
                      rw [p2]
                      omega
                    cases r with
                    | true =>
                      go_wp2_with fail
                      go_meet
                      refine ⟨false, rfl, ?_⟩
                      obtain ⟨h, q1, q2, q3, q4, q5⟩ := HE.out
                      exact ⟨h, q1, q2, q3, q4, fun h => absurd h (by decide)⟩
                    | false =>
                      go_wp2_with fail
                      go_meet
                      refine ⟨true, rfl, ?_⟩
                      obtain ⟨h, q1, q2, q3, q4, q5⟩ := HE.out
                      exact ⟨h, q1, q2, q3, q4, fun _ => q5 (by first | rfl | trivial)⟩
                  · have hA0I : ((0 : Int) < (A : Int)) = False := eq_false (by omega)
                    have hA0N : (0 < A) = False := eq_false hA0
                    clear h1 h2 h3 h4 HI6
                    go_quiet (fail)
                    go_wp2_with fail
                    go_meet
                    refine ⟨false, rfl, ?_⟩
                    obtain ⟨q1, q2, q3, q4⟩ := HF.out
                    exact ⟨h, q1.drewN _, q2.drewN _, q3, q4, fun h => absurd h (by decide)⟩
                case rest =>
                  clear HI6
                  obtain ⟨c, rfl, HI7⟩ := hcut
                  cases c with
                  | true =>
                    obtain ⟨h, h1, h2, h3, h4, h5⟩ := HI7.out
                    have h5 := h5 rfl
                    have hc := peqU_any wc g n cap A B p h h1 (by have := HN.out; have := HN13.out; omega) Hp.out (by have := HP.out; omega) hn
                    have HF : Hid (KU g w wc ∧ SwP a b f h ∧ PdI a b A B h ∧ 1 ≤ A ∧ h p ≤ h (A - 1)) := ⟨h2, h3, h4, h5⟩
                    clear h1 h2 h3 h4 h5 HI7
                    go_wp2_with fail
                    refine hc.mono ?_
                    rintro e w2 ⟨m, f', rfl, f1, f2, f3⟩
                    have HE : Hid ((∃ h, RU w2 g n h ∧ KU g w w2 ∧ SwP a b f h ∧ PdI a b m B h) ∧ B - m < gk ∧ B - m + m = B) := by
                      obtain ⟨q1, q2, q3, q4, q5⟩ := HF.out
                      have q6 := q2.in f3.1 q3.pos.1 q3.pos.2.2
                      have q7 := (q3.sw f3.1).low HL.out q6
                      have q8 := f3.1.out (A - 1) (.inl (by omega))
                      have q9 := HP.out
                      have q10 := f3.2.1
                      have q11 := f3.2.2.1
                      exact ⟨⟨f', f1, q1.trans f2, q6, q3.eql f3 q4 q7 (by rw [q8]; exact q5)⟩, by omega, by omega⟩
                    clear hc f1 f2 f3 HF
                    go_wp2_with fail
                    go_roundg (B - m)
                    case measure => exact HE.out.2.1
                    case rel => exact ⟨m, B, L2, x, y, HE.out.2.2, yL2, rfl, rfl, rfl, rfl, rfl, HE.out.1⟩
                  | false =>
                    obtain ⟨h, h1, h2, h3, h4, h5⟩ := HI7.out
                    have hc := partU_any wc g n cap A B p h h1 (by have := HN.out; have := HN13.out; omega) Hp.out (by have := HP.out; omega) hn
                    have HF : Hid (KU g w wc ∧ SwP a b f h ∧ PdI a b A B h) := ⟨h2, h3, h4⟩
                    clear h1 h2 h3 h4 h5 HI7
                    go_wp2_with fail
                    refine hc.mono ?_
                    rintro e w2 ⟨m, y', f', rfl, f1, f2, f3⟩
                    have Hm : Hid (A ≤ m ∧ m < B) := ⟨f3.2.1, f3.2.2.1⟩
                    have HF2 : Hid (RU w2 g n f' ∧ KU g w w2 ∧ SwP a b f f' ∧ PdI a b A B h ∧ PdI a b A B f' ∧ PtP A B m h f') := by
                      obtain ⟨q1, q2, q3⟩ := HF.out
                      exact ⟨f1, q1.trans f2, q2.in f3.1 q3.pos.1 q3.pos.2.2, q3, q3.sw f3.1, f3⟩
                    clear hc f1 f2 f3 HF
                    obtain ⟨X, hX⟩ : ∃ X, m - A = X := ⟨_, rfl⟩
                    have eX : (m : Int) - (A : Int) = (X : Int) := by have := Hm.out; omega
                    have yX : X < 1152921504606846976 := by have := Hm.out; have := HP.out; omega
                    obtain ⟨Y, hY⟩ : ∃ Y, B - m = Y := ⟨_, rfl⟩
                    have eY : (B : Int) - (m : Int) = (Y : Int) := by have := Hm.out; omega
                    have yY : Y < 1152921504606846976 := by have := Hm.out; have := HP.out; omega
                    obtain ⟨T8, hT8⟩ : ∃ T8, N / 8 = T8 := ⟨_, rfl⟩
                    have eT8 : (N : Int) / 8 = (T8 : Int) := by omega
                    have yT8 : T8 < 1152921504606846976 := by omega
                    obtain ⟨M1, hM1⟩ : ∃ M1, m + 1 = M1 := ⟨_, rfl⟩
                    have eM1 : (m : Int) + 1 = (M1 : Int) := by omega
                    have yM1 : M1 < 1152921504606846976 := by have := Hm.out; have := HP.out; omega
                    have HM1 : Hid (m + 1 = M1) := hM1
                    clear hX hY hT8
                    by_cases hXY : X < Y
                    · have hXYI : (X : Int) < (Y : Int) := by omega
                      have hc := HIH.out w2 A m L2 f' HF2.out.1 (by have := Hm.out; have := HP.out; have := HA.out; omega) Hm.out.1 (by have := Hm.out; have := HP.out; have := HA.out; omega) yL2 (fun k k1 k2 k3 => HF2.out.2.2.2.2.1.low HL.out HF2.out.2.2.1 k k1 k2 (by have := Hm.out; omega))
                      clear hXY hM1
                      go_wp2_with fail
                      refine hc.mono ?_
                      rintro e w3 ⟨rfl, f'', e1, e2, e3, e4⟩
                      have HE : Hid ((∃ h, RU w3 g n h ∧ KU g w w3 ∧ SwP a b f h ∧ PdI a b M1 B h) ∧ B - M1 < gk ∧ B - M1 + M1 = B) := by
                        obtain ⟨q1, q2, q3, q4, q5, q6⟩ := HF2.out
                        have q7 := Hm.out
                        have q8 := HP.out
                        have q9 := HM1.out
                        rw [← q9]
                        exact ⟨⟨f'', e1, q2.trans e2, q3.in e3 (by omega) (by omega), q4.left q6 e3 e4⟩, by omega, by omega⟩
                      clear hc e1 e2 e3 e4 HF2
                      go_wp2_with fail
                      go_roundg (B - M1)
                      case measure => exact HE.out.2.1
                      case rel => exact ⟨M1, B, L2, _, _, HE.out.2.2, yL2, rfl, rfl, rfl, rfl, rfl, HE.out.1⟩
                    · have hXYI : ¬ (X : Int) < (Y : Int) := by omega
                      have hc := HIH.out w2 (m + 1) B L2 f' HF2.out.1 (by have := Hm.out; have := HP.out; have := HA.out; omega) (by have := Hm.out; omega) (by have := Hm.out; have := HP.out; have := HA.out; omega) yL2 (fun k k1 k2 k3 => HF2.out.2.2.2.2.2.2.2.2.2 k (by omega) k3)
                      rw [hM1] at hc
                      clear hXY hM1
                      go_wp2_with fail
                      refine hc.mono ?_
                      rintro e w3 ⟨rfl, f'', e1, e2, e3, e4⟩
                      have HE : Hid ((∃ h, RU w3 g n h ∧ KU g w w3 ∧ SwP a b f h ∧ PdI a b A m h) ∧ m - A < gk ∧ m - A + A = m) := by
                        obtain ⟨q1, q2, q3, q4, q5, q6⟩ := HF2.out
                        have q7 := Hm.out
                        have q8 := HP.out
                        have q9 := HM1.out
                        rw [← q9] at e3 e4
                        exact ⟨⟨f'', e1, q2.trans e2, q3.in e3 (by omega) (by omega), q4.right q6 e3 e4⟩, by omega, by omega⟩
                      clear hc e1 e2 e3 e4 HF2
                      go_wp2_with fail
                      go_roundg (m - A)
                      case measure => exact HE.out.2.1
                      case rel => exact ⟨A, m, L2, _, _, HE.out.2.2, yL2, rfl, rfl, rfl, rfl, rfl, HE.out.1⟩

theorem pdqU_any (w : World) (g n cap a b l : Nat) (f : Nat → Nat) (h : RU w g n f) (hab : a ≤ b) (hbn : b ≤ n) (hn : n < 1152921504606846976) (hl : l < 1152921504606846976) (hlow : ∀ k, 1 ≤ a → a ≤ k → k < b → f (a - 1) ≤ f k) :
    Calls Try.prog 38 #[.slice (some ⟨g, 0, none⟩) n cap, .int .i64 (a : Int), .int .i64 (b : Int), .int .i64 (l : Int)] w fun e w' => e = .returned (.tuple #[]) ∧ ∃ f', RU w' g n f' ∧ KU g w w' ∧ SwP a b f f' ∧ SrtP a b f' := by
  have hall : ∀ K, ∀ (w : World) (a b l : Nat) (f : Nat → Nat), RU w g n f → b - a < K → a ≤ b → b ≤ n → l < 1152921504606846976 → (∀ k, 1 ≤ a → a ≤ k → k < b → f (a - 1) ≤ f k) →
    Calls Try.prog 38 #[.slice (some ⟨g, 0, none⟩) n cap, .int .i64 (a : Int), .int .i64 (b : Int), .int .i64 (l : Int)] w fun e w' => e = .returned (.tuple #[]) ∧ ∃ f', RU w' g n f' ∧ KU g w w' ∧ SwP a b f f' ∧ SrtP a b f' := by
    intro K
    induction K with
    | zero => intro w a b l f h hK; omega
    | succ K ih => exact pdqU_step g n cap K hn ih
  exact hall (b - a + 1) w a b l f h (by omega) hab hbn hl hlow

end Go.Proofs.Ytgkgdbdapkgkgaa
