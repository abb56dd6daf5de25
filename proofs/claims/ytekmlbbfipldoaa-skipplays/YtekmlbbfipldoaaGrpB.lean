/- Several texts in one. -/
import Derived.Test.YtekmlbbfipldoaaSmall2
import Derived.Deep.AppendLies
import Derived.Deep.AppendSrc
import Derived.Test.YtekmlbbfipldoaaBase
import Derived.Deep.RegionHeld3
import Derived.Test.YtekmlbbfipldoaaGrpP
import Derived.Test.YtekmlbbfipldoaaEnTwin
import Derived.Test.YtekmlbbfipldoaaLists

/- append of a row, nil or empty or not, to a row of one's own that is not nil: as a step of a region that draws its order. -/
namespace Go.Proofs.Ytekmlbbfipldoaa
set_option maxRecDepth 20000
open Go.RowKit
set_option linter.unusedVariables false

theorem grown_refl (w : World) (row : Option Nat) : w.grownBy w row := ⟨rfl, rfl, rfl, Nat.le_refl _, fun _ _ _ => rfl⟩

/-- what is appended: m elements, the cells news -/
def SrcOf (w : World) (size : Nat) (vx : Value) (m : Nat) (news : List Value) : Prop := (vx = .slice none 0 0 ∧ m = 0 ∧ news = []) ∨ ∃ ad c, vx = .slice (some ad) m c ∧ news.length = m * size ∧ ∀ j u, news[j]? = some u → w.cell? (ad.add j) = some u

theorem step_append_src {P : Program} {w : World} {ops : Array Oper} {o : Oper} {a : Act} {K : Act → World → Prop} {Q : Exit → Act → World → Prop} {E : Prop} (hgd : o.guard = none) (s x : Operand) (t : TypeId)
    (ho : o.op = .call { callee := .builtin .append, args := #[s, x], argTypes := #[t, t] })
    (base : Nat) (e : TypeId) (i : TypeInfo) (z : Value) (size bytes : Nat) (ht : P.underlying t = some (.slice e)) (hi : P.info? e = some i) (hz : i.zero = some z)
    (hsize : i.size = size) (hby : i.bytes = bytes) (hzs : z.cells.size = size) (hsz : 0 < size)
    (g0 n c0 : Nat) (xs : List Value) (hs : a.eval s = .slice (some ⟨g0, 0, none⟩) n c0) (hown : w.ownsRow base e size (.slice (some ⟨g0, 0, none⟩) n c0) n xs)
    (vx : Value) (hx : a.eval x = vx) (m : Nat) (news : List Value) (hsrc : SrcOf w size vx m news) (h1 : ∀ u ∈ news, u.oneCell' = true)
    (h63 : n + m ≤ maxLen) (hbytes : (n + m) * bytes ≤ 140737488355328) (hbase : base ≤ w.heap.size) (H : Nat) (hH : w.heap.size = H) (N : Nat) (hN : n + m = N)
    (h : ∀ g c w', w'.ownsRow base e size (.slice (some ⟨g, 0, none⟩) N c) N (xs ++ news) → w.grownBy w' (some g0) → (g0 = g ∨ g = H) → K (a.put o.dst (.slice (some ⟨g, 0, none⟩) N c)) w') :
    if Region.wanted o (yielded ops a.tmps) = true then Oper.wp P o a w K Q else E := by
  subst hN
  have hw : Region.wanted o (yielded ops a.tmps) = true := by simp [Region.wanted, hgd]
  by_cases hm : m = 0
  · subst hm
    have hnn : news = [] := by
      rcases hsrc with ⟨_, _, h⟩ | ⟨ad, c, _, hl, _⟩
      · exact h
      · exact List.eq_nil_of_length_eq_zero (by omega)
    subst hnn
    have hsr : Src P i.size t vx 0 [] w := by
      rcases hsrc with ⟨rfl, _, _⟩ | ⟨ad, c, rfl, hl, hnews⟩
      · exact Src.ofNil w ht 0
      · exact Src.ofSlice w ht ad 0 c [] (by simp) hnews h1
    have hcap : n ≤ c0 := by
      rcases hown.2 with ⟨e', _⟩ | ⟨g, cap, cur, e', _, _, h1, _⟩
      · cases e'
      · cases e'; exact h1
    have hrun := run_append_room_src w t t o.type e i ht hi g0 0 n c0 vx 0 [] hsr (by omega) (fun j hj => absurd hj (by simp)) (fun j hj => absurd hj (by simp))
    rw [if_pos hw]
    unfold Oper.wp
    simp [execOp, ho, resolve, invoke, builtin, hs, hx, hrun, Result.andThen]
    have hsc : w.setCells g0 (0 + n * i.size) [] = w := by simp [World.setCells]
    rw [Nat.zero_add] at hsc
    rw [hsc]
    exact h g0 c0 w (by simpa using hown) (grown_refl w _) (.inl rfl)
  · rcases hsrc with ⟨_, h0, _⟩ | ⟨ad, c, rfl, hl, hnews⟩
    · exact absurd h0 hm
    · exact step_append_lies w hgd s x t ho base e i z size bytes ht hi hz hsize hby hzs hsz _ n xs hs hown ad m c news hx hl hnews h1 (by omega) h63 hbytes hbase H hH (fun g c w' h2 h3 h4 h5 => h g c w' h2 h3 (by
        rcases h4 with h4 | h4
        · simp only [Value.ownBlock, Option.some.injEq] at h4; exact .inl h4
        · exact .inr h4))

theorem row_mono {B C : Nat} {w : World} {e : TypeId} {s n : Nat} {v : Value} {cs : List Value} (h : w.ownsRow B e s v n cs) (hC : C ≤ B) : w.ownsRow C e s v n cs := by
  refine ⟨h.1, ?_⟩
  rcases h.2 with hr | ⟨g, cap, cur, e, hb, hg⟩
  · exact .inl hr
  · exact .inr ⟨g, cap, cur, e, Nat.le_trans hC hb, hg⟩

end Go.Proofs.Ytekmlbbfipldoaa

/- A drawn region whose last operation (a store) writes what others of it have loaded: what is held must be shown anew behind all operations but that one. -/
namespace Go.Proofs.Ytekmlbbfipldoaa
open Go Go.RowKit
set_option linter.unusedVariables false

section
variable {P : Program} {ops : Array Oper} {Q : Exit → Act → World → Prop} {md : Region.Mode} {S : World → Prop}

/-- whatever has come up, what it waits for has come up -/
def Sunk (md : Region.Mode) (ops : Array Oper) (listed : Array Bool) : Prop :=
  ∀ k o, ops[k]? = some o → listed.getD k false = true → ∀ e ∈ o.after, Region.binds md e = true → listed.getD e.on false = true

def sunkB (md : Region.Mode) (ops : Array Oper) (listed : Array Bool) : Bool :=
  (List.range ops.size).all fun k => !listed.getD k false || ((ops[k]?).map (·.after.all fun e => !Region.binds md e || listed.getD e.on false)).getD true

theorem sunk_of {listed : Array Bool} (h : sunkB md ops listed = true) : Sunk md ops listed := by
  intro k o ho hk e he hb
  have hlt : k < ops.size := (Array.getElem?_eq_some_iff.1 ho).1
  have h1 := List.all_eq_true.1 h k (List.mem_range.2 hlt)
  rw [hk, ho] at h1
  simp only [Bool.not_true, Bool.false_or, Option.map_some, Option.getD_some] at h1
  have h2 := Array.all_eq_true_iff_forall_mem.1 h1 e he
  rw [hb] at h2
  simpa using h2

theorem Sunk.set {listed : Array Bool} {i : Nat} (h : Sunk md ops listed) (hi : i ∈ Region.ready md ops listed) : Sunk md ops (listed.setIfInBounds i true) := by
  obtain ⟨_, oi, hoi, hall⟩ := mem_ready.1 hi
  intro k o ho hk e he hb
  by_cases e1 : i = k
  · subst e1
    rw [hoi] at ho
    cases ho
    exact getD_set_true (hall e he hb)
  · rw [getD_set_ne false e1] at hk
    exact getD_set_true (h k o ho hk e he hb)

/-- each one but f is waited for by a later one -/
def usedB (md : Region.Mode) (ops : Array Oper) (f : Nat) : Bool :=
  (List.range ops.size).all fun i => i == f || (List.range ops.size).any fun j => decide (i < j) && ((ops[j]?).map (fun o => o.after.any fun e => Region.binds md e && e.on == i)).getD false

/-- f comes up behind all the others -/
theorem late_all {f : Nat} {listed : Array Bool} (hu : usedB md ops f = true) (h : Sunk md ops listed) (hf : f ∈ Region.ready md ops listed) :
    ∀ i, i < ops.size → i ≠ f → listed.getD i false = true := by
  obtain ⟨_, ofo, hof, hfall⟩ := mem_ready.1 hf
  have key : ∀ d i, ops.size - i ≤ d → i < ops.size → i ≠ f → listed.getD i false = true := by
    intro d
    induction d with
    | zero => intro i h1 h2; omega
    | succ d ih =>
      intro i h1 h2 hne
      have h3 := List.all_eq_true.1 hu i (List.mem_range.2 h2)
      simp only [Bool.or_eq_true, beq_iff_eq, hne, false_or] at h3
      obtain ⟨j, hj, h4⟩ := List.any_eq_true.1 h3
      rw [List.mem_range] at hj
      simp only [Bool.and_eq_true, decide_eq_true_eq] at h4
      obtain ⟨hij, h5⟩ := h4
      have hoj : ops[j]? = some ops[j] := Array.getElem?_eq_getElem hj
      rw [hoj] at h5
      simp only [Option.map_some, Option.getD_some] at h5
      obtain ⟨e, he, h6⟩ := Array.any_eq_true'.1 h5
      simp only [Bool.and_eq_true, beq_iff_eq] at h6
      obtain ⟨hb, rfl⟩ := h6
      by_cases hjf : j = f
      · subst hjf
        rw [hoj] at hof
        cases hof
        exact hfall e he hb
      · exact h j _ hoj (ih j (by omega) hj hjf) e he hb
  exact fun i hi hne => key _ i (Nat.le_refl _) hi hne

/-- in whatever order; behind each one but f the world meets S -/
def wpTill (P : Program) (md : Region.Mode) (ops : Array Oper) (Q : Exit → Act → World → Prop) (S : World → Prop) (f : Nat) : Nat → Array Bool → Act → World → Prop
  | 0, listed, a, w => Region.ready md ops listed = [] ∧ Q .normal a w
  | n + 1, listed, a, w => (Region.ready md ops listed = [] → Q .normal a w) ∧ ∀ i ∈ Region.ready md ops listed, wpOp P ops Q i (fun a' w' => (i ≠ f → S w') ∧ wpTill P md ops Q S f n (listed.setIfInBounds i true) a' w') a w

theorem till_any {f : Nat} : ∀ (n : Nat) (listed : Array Bool) (a : Act) (w : World), wpTill P md ops Q S f n listed a w → wpAny P md ops Q n listed a w := by
  intro n
  induction n with
  | zero => exact fun _ _ _ h => h
  | succ n ih => exact fun _ _ _ h => ⟨h.1, fun i hi => wpOp_mono (fun a' w' h' => ih _ a' w' h'.2) (h.2 i hi)⟩

theorem till_front {f i : Nat} {oi : Oper} {v : Value} (hi : ops[i]? = some oi) (hif : i ≠ f) (hu : usedB md ops f = true) (hsel : ∀ (j : Nat) (o : Oper) cs b, ops[j]? = some o → o.op ≠ .select cs b)
    (hQ : ∀ c a w, Q (.panic c) (a.put oi.dst v) w → Q (.panic c) a w) :
    ∀ (n : Nat) (listed : Array Bool) (a : Act) (w : World), Sunk md ops listed →
      (∀ j oj, ops[j]? = some oj → j ≠ i → listed.getD j true = false → (∀ e ∈ oj.after, Region.binds md e = true → e.on ≠ i) → oi.apart ops oj = true) →
      i ∈ Region.ready md ops listed → YieldsIf P ops S oi v a → S w →
      wpTill P md ops Q S f n (listed.setIfInBounds i true) (a.put oi.dst v) w → wpTill P md ops Q S f (n + 1) listed a w := by
  have hil : i < ops.size := (Array.getElem?_eq_some_iff.1 hi).1
  intro n
  induction n with
  | zero =>
    intro listed a w hd _ hr hy hS hH
    refine ⟨fun h => absurd (h ▸ hr) (by simp), fun j hj => ?_⟩
    by_cases e : j = i
    · subst e
      exact hy.wpOp hi hS ⟨fun _ => hS, hH⟩
    · have h9 := ready_mono hj e
      rw [hH.1] at h9
      exact absurd h9 (by simp)
  | succ n ih =>
    intro listed a w hd hap hr hy hS hH
    refine ⟨fun h => absurd (h ▸ hr) (by simp), fun j hj => ?_⟩
    by_cases e : j = i
    · subst e
      exact hy.wpOp hi hS ⟨fun _ => hS, hH⟩
    · have hun := (mem_ready.1 hr).1
      -- f can't come up as long as i hasn't
      have hjf : j ≠ f := fun e2 => by
        subst e2
        have h9 := late_all hu hd hj i hil hif
        simp only [Array.getD_eq_getD_getElem?] at hun h9
        cases hg : listed[i]? with
        | none => rw [hg] at hun; cases hun
        | some b => rw [hg] at hun h9; simp at hun h9; rw [hun] at h9; cases h9
      obtain ⟨hju, oj, hoj, hal⟩ := mem_ready.1 hj
      have hnw : ∀ e ∈ oj.after, Region.binds md e = true → e.on ≠ i := fun e9 he hb heq => by
        have h9 := hal e9 he hb
        rw [heq] at h9
        simp only [Array.getD_eq_getD_getElem?] at hun h9
        cases hg : listed[i]? with
        | none => rw [hg] at hun; cases hun
        | some b => rw [hg] at hun h9; simp at hun h9; rw [hun] at h9; cases h9
      have h2 := wpOp_putIf hoj (hap j oj hoj e hju hnw) (fun cs b => hsel i oi cs b hi) (fun cs b => hsel j oj cs b hoj) hQ hy (hH.2 j (ready_mono hj e))
      refine wpOp_mono (fun a' w' h3 => ?_) h2
      obtain ⟨hy3, hS3, hT3⟩ := h3
      refine ⟨fun _ => hS3 hjf, ih _ a' w' (hd.set hj) (fun k ok hk hki hku hkn => hap k ok hk hki ?_ hkn) (ready_mono hr (fun e2 => e e2.symm)) hy3 (hS3 hjf) ?_⟩
      · by_cases hjk : j = k
        · subst hjk; exact hju
        · rwa [getD_set_ne true hjk] at hku
      · rw [Array.setIfInBounds_comm _ _ e]
        exact hT3

/-- take one first -/
theorem till_take {f i : Nat} {oi : Oper} {v : Value} {n : Nat} {listed : Array Bool} {a : Act} {w : World} (hi : ops[i]? = some oi) (hif : (i == f) = false) (hu : usedB md ops f = true) (hd : sunkB md ops listed = true)
    (hs : Region.noSelect ops = true) (hf : Region.free md ops listed i = true) (hr : (Region.ready md ops listed).contains i = true)
    (hQ : ∀ c a w, Q (.panic c) (a.put oi.dst v) w → Q (.panic c) a w) (hy : YieldsIf P ops S oi v a) (hS : S w)
    (h : wpTill P md ops Q S f n (listed.setIfInBounds i true) (a.put oi.dst v) w) : wpTill P md ops Q S f (n + 1) listed a w :=
  till_front hi (by simpa using hif) hu (Region.noSelect_spec hs) hQ n listed a w (sunk_of hd) (Region.free_spec hi hf) (by simpa using hr) hy hS h

/-- the only one that may come up -/
theorem till_one {f i : Nat} {o : Oper} {n : Nat} {listed : Array Bool} {a : Act} {w : World} (hr : Region.ready md ops listed = [i]) (ho : ops[i]? = some o)
    (h : ∀ K : Act → World → Prop, Shut (∀ a w, (i ≠ f → S w) → wpTill P md ops Q S f n (listed.setIfInBounds i true) a w → K a w) → if Region.wanted o (yielded ops a.tmps) = true then Oper.wp P o a w K Q else K (a.put o.dst undef) w) :
    wpTill P md ops Q S f (n + 1) listed a w :=
  ⟨fun h0 => absurd (hr ▸ h0) (by simp), fun j hj => by
    rw [hr, List.mem_singleton] at hj
    subst hj
    exact wpOp_step ho (fun K hK => h K (fun a w h1 h2 => hK a w ⟨h1, h2⟩))⟩

/-- one of two -/
theorem till_two {f i j : Nat} {o o2 : Oper} {n : Nat} {listed : Array Bool} {a : Act} {w : World} (hr : Region.ready md ops listed = [i, j]) (ho : ops[i]? = some o) (ho2 : ops[j]? = some o2)
    (h : ∀ K : Act → World → Prop, Shut (∀ a w, (i ≠ f → S w) → wpTill P md ops Q S f n (listed.setIfInBounds i true) a w → K a w) → if Region.wanted o (yielded ops a.tmps) = true then Oper.wp P o a w K Q else K (a.put o.dst undef) w)
    (h2 : ∀ K : Act → World → Prop, Shut (∀ a w, (j ≠ f → S w) → wpTill P md ops Q S f n (listed.setIfInBounds j true) a w → K a w) → if Region.wanted o2 (yielded ops a.tmps) = true then Oper.wp P o2 a w K Q else K (a.put o2.dst undef) w) :
    wpTill P md ops Q S f (n + 1) listed a w :=
  ⟨fun h0 => absurd (hr ▸ h0) (by simp), fun k hk => by
    rw [hr, List.mem_cons, List.mem_singleton] at hk
    rcases hk with rfl | rfl
    · exact wpOp_step ho (fun K hK => h K (fun a w h1 h2 => hK a w ⟨h1, h2⟩))
    · exact wpOp_step ho2 (fun K hK => h2 K (fun a w h1 h2 => hK a w ⟨h1, h2⟩))⟩

theorem till_done {f : Nat} {listed : Array Bool} {a : Act} {w : World} (hr : Region.ready md ops listed = []) (h : Q .normal a w) : ∀ n, wpTill P md ops Q S f n listed a w
  | 0 => ⟨hr, h⟩
  | _ + 1 => ⟨fun _ => h, by rw [hr]; simp⟩

/-- the beginning -/
theorem wp_region_till (f : Nat) {id : Nat} {a : Act} {w : World} (hm : P.follows .mixedOrders = true) (h : wpTill P .any ops Q S f ops.size (Array.replicate ops.size false) a w.drew) : (Code.region id ops true).wp P Q a w :=
  wp_region_any hm (till_any _ _ _ _ h)

end

end Go.Proofs.Ytekmlbbfipldoaa

/- skip.apart and (*skip.List).From: what they hand out is the caller's own. -/
namespace Go.Proofs.Ytekmlbbfipldoaa
open Go.RowKit Go.Shelf
set_option linter.unusedVariables false

theorem ownN_st {B : Nat} {w : World} {v : Value} {l : List UInt8} (h : OwnN B w v l) (p : Addr) (hp : p.block < B) (u : Value) : OwnN B (w.setCell p u) v l := by
  rcases h with h | h
  · exact .inl h
  · obtain ⟨g, k, e⟩ := h.shape
    subst e
    exact .inr (h.other p (by have := h.lt.1; omega) u)

theorem ownN_st3 {B : Nat} {w : World} {v : Value} {l : List UInt8} (h : OwnN B w v l) {b : Nat} (hb : b < B) (u0 u1 u2 : Value) : OwnN B (((w.setCell ⟨b, 0, none⟩ u0).setCell ⟨b, 1, none⟩ u1).setCell ⟨b, 2, none⟩ u2) v l :=
  ownN_st (ownN_st (ownN_st h ⟨b, 0, none⟩ hb u0) ⟨b, 1, none⟩ hb u1) ⟨b, 2, none⟩ hb u2

theorem ownN_st4 {B : Nat} {w : World} {v : Value} {l : List UInt8} (h : OwnN B w v l) {b : Nat} (hb : b < B) (u0 u1 u2 u3 : Value) : OwnN B ((((w.setCell ⟨b, 0, none⟩ u0).setCell ⟨b, 1, none⟩ u1).setCell ⟨b, 2, none⟩ u2).setCell ⟨b, 3, none⟩ u3) v l :=
  ownN_st (ownN_st3 h hb u0 u1 u2) ⟨b, 3, none⟩ hb u3

theorem clone_keepO {W w2 : World} {o : Obj} {x : Value} {l : List UInt8} (h : OwnN (W.alloc o).drew.heap.size w2 x l) (u0 u1 u2 : Value) : Rd (((w2.setCell ⟨W.heap.size, 0, none⟩ u0).setCell ⟨W.heap.size, 1, none⟩ u1).setCell ⟨W.heap.size, 2, none⟩ u2) x l ∧ OwnN W.heap.size (((w2.setCell ⟨W.heap.size, 0, none⟩ u0).setCell ⟨W.heap.size, 1, none⟩ u1).setCell ⟨W.heap.size, 2, none⟩ u2) x l ∧ LtB (((w2.setCell ⟨W.heap.size, 0, none⟩ u0).setCell ⟨W.heap.size, 1, none⟩ u1).setCell ⟨W.heap.size, 2, none⟩ u2) x := by
  have hs : (W.alloc o).drew.heap.size = W.heap.size + 1 := by simp
  rw [hs] at h
  have h3 := ownN_st3 h (Nat.lt_succ_self _) u0 u1 u2
  exact ⟨h3.rd, h3.mono (Nat.le_succ _), ltB_ownN h3⟩

set_option maxHeartbeats 4000000 in
theorem skapart_own (w : World) (xv yv : Value) (l m : List UInt8) (s k : Int) (hx : Rd w xv l) (hy : Rd w yv m) (hl : l.length ≤ 1000000) (hm : m.length ≤ 1000000) :
    Calls Try.prog 34 #[enV xv s k yv] w fun e w' => ∃ x y, e = .returned (enV x s k y) ∧ (Rd w' x l ∧ OwnN (w.heap.size + 2) w' x l) ∧ (Rd w' y m ∧ OwnN (w.heap.size + 2) w' y m) ∧ (LtB w' x ∧ LtB w' y) ∧ Below w.heap.size w w' := by
  obtain ⟨xa, xc, rfl⟩ := hx.len
  obtain ⟨ya, yc, rfl⟩ := hy.len
  obtain ⟨nl, hnl⟩ : ∃ z, l.length = z := ⟨_, rfl⟩
  obtain ⟨ml, hml⟩ : ∃ z, m.length = z := ⟨_, rfl⟩
  have HNL : Hid (l.length = nl ∧ m.length = ml ∧ nl ≤ 1000000 ∧ ml ≤ 1000000) := ⟨hnl, hml, by omega, by omega⟩
  rw [hnl] at hx ⊢
  rw [hml] at hy ⊢
  have hb0 := below_box4 w (.cells #[.slice xa nl xc, .int .u64 s, .int .u8 k, .slice ya ml yc] 38)
  have hb1 := below_box4 (w.alloc (.cells #[.slice xa nl xc, .int .u64 s, .int .u8 k, .slice ya ml yc] 38)) (.cells #[.slice none 0 0, .int .u64 0, .int .u8 0, .slice none 0 0] 38)
  have s1 : (w.alloc (.cells #[.slice xa nl xc, .int .u64 s, .int .u8 k, .slice ya ml yc] 38)).heap.size = w.heap.size + 1 := by simp
  have s2 : ((w.alloc (.cells #[.slice xa nl xc, .int .u64 s, .int .u8 k, .slice ya ml yc] 38)).alloc (.cells #[.slice none 0 0, .int .u64 0, .int .u8 0, .slice none 0 0] 38)).heap.size = w.heap.size + 2 := by simp
  have BE := (box4_new w (.slice xa nl xc) (.int .u64 s) (.int .u8 k) (.slice ya ml yc) 38).below hb1 (Nat.le_refl _)
  have BR := box4f_new (w.alloc (.cells #[.slice xa nl xc, .int .u64 s, .int .u8 k, .slice ya ml yc] 38)) (.slice none 0 0) (.int .u64 0) (.int .u8 0) (.slice none 0 0) 38
  rw [s1] at BR
  obtain ⟨W, hW⟩ : ∃ W, (w.alloc (.cells #[.slice xa nl xc, .int .u64 s, .int .u8 k, .slice ya ml yc] 38)).alloc (.cells #[.slice none 0 0, .int .u64 0, .int .u8 0, .slice none 0 0] 38) = W := ⟨_, rfl⟩
  have hBW := bsplit hb0 hb1
  rw [hW] at BE BR hBW s2
  have HBW : Hid (Below w.heap.size w W) := hBW
  have HSZ : Hid (W.heap.size = w.heap.size + 2) := s2
  have HX : Hid (∀ V, Below W.heap.size W V → Arg V (.slice xa nl xc) l) := fun V hV => ((hx.below hBW (Nat.le_refl _)).below hV (Nat.le_refl _)).arg
  have HY : Hid (∀ V, Below W.heap.size W V → Arg V (.slice ya ml yc) m) := fun V hV => ((hy.below hBW (Nat.le_refl _)).below hV (Nat.le_refl _)).arg
  have pW0 : Below W.heap.size W W.drew := (Below.refl _ _).drew
  have pW1 : Below W.heap.size W (W.alloc (.cells #[.slice none 0 0, .int .u64 0, .int .u8 0] 36)).drew := (below_box4 W _).drew
  have BK1 := (box_new W (.slice none 0 0) (.int .u64 0) (.int .u8 0) 36).drew
  have BE0 := BE.below pW0 (Nat.le_refl _)
  have BE1 := BE.below pW1 (Nat.le_refl _)
  clear hx hy hl hm hnl hml hb0 hb1 s1 s2 hBW
  go_enter Try.func34, Try.ntmps34
  go_upto_region 1 with fail
  clear hW
  go_cut [3] (fun kv wx => ∃ (bk : Nat) (xa2 : Option Addr) (xc2 : Nat), kv = .pointer (some ⟨bk, 0, none⟩) ∧ W.heap.size ≤ bk ∧ Hid (Box wx bk (.slice xa2 nl xc2) (.int .u64 s) (.int .u8 k)) ∧ Hid (Rd wx (.slice xa2 nl xc2) l ∧ OwnN W.heap.size wx (.slice xa2 nl xc2) l ∧ LtB wx (.slice xa2 nl xc2)) ∧ Hid (Below W.heap.size W wx))
  case first =>
    go_region_held3 (fun w' => w'.cell? ⟨w.heap.size, 0, none⟩ = some (.slice xa nl xc) ∧ w'.cell? ⟨w.heap.size, 1, none⟩ = some (.int .u64 s) ∧ w'.cell? ⟨w.heap.size, 2, none⟩ = some (.int .u8 k))
      (first | with_reducible exact ⟨BE4.c0, BE4.c1, BE4.c2⟩ | with_reducible exact ⟨BE3.c0, BE3.c1, BE3.c2⟩ | with_reducible exact ⟨BE2s.c0, BE2s.c1, BE2s.c2⟩ | with_reducible exact ⟨BE2.c0, BE2.c1, BE2.c2⟩ | with_reducible exact ⟨BE1.c0, BE1.c1, BE1.c2⟩ | exact ⟨BE0.c0, BE0.c1, BE0.c2⟩)
      (first
        | (go_at_call 45
           refine (clone_any _ _ l (by first | with_reducible exact HX.out _ pW0 | with_reducible exact HX.out _ pW1) (by have := HNL.out; omega)).mono ?_
           rintro e w2 ⟨x2, rfl, o2, hb2⟩
           obtain ⟨xa2, xc2, ex2⟩ := o2.rd.len
           rw [HNL.out.1] at ex2
           subst ex2
           have HB2 : Hid (Below W.heap.size W w2) := by first | exact bsplit pW0 hb2 | exact bsplit pW1 hb2
           have BE2 := BE.below HB2.out (Nat.le_refl _)
           have BE4 := BE2.below (below_box4 w2 (.cells #[.slice none 0 0, .int .u64 0, .int .u8 0] 36)) (Nat.le_refl _)
           have BE3 := BE2.below (below_box4 w2 (.cells #[.slice xa2 nl xc2, .int .u64 s, .int .u8 k] 36)) (Nat.le_refl _)
           have BE2s : Box4 (((w2.setCell ⟨W.heap.size, 0, none⟩ (.slice xa2 nl xc2)).setCell ⟨W.heap.size, 1, none⟩ (.int .u64 s)).setCell ⟨W.heap.size, 2, none⟩ (.int .u8 k)) w.heap.size (.slice xa nl xc) (.int .u64 s) (.int .u8 k) (.slice ya ml yc) := by
             have hne : w.heap.size ≠ W.heap.size := by rw [HSZ.out]; omega
             exact ((BE2.other ⟨W.heap.size, 0, none⟩ hne _).other ⟨W.heap.size, 1, none⟩ hne _).other ⟨W.heap.size, 2, none⟩ hne _
           first
             | (have BK2 := BK1.below hb2 (Nat.le_refl _)
                obtain ⟨c0, c1, c2, f0, f1, f2⟩ := BK2)
             | skip)
        | fail)
    all_goals (go_wp2_with fail; go_meet; first
      | exact ⟨_, xa2, xc2, rfl, HB2.out.size, box_new w2 _ _ _ _, ⟨o2.rd.below (below_box4 w2 _) (Nat.le_refl _), OwnN.below (show OwnN W.heap.size w2 _ l from o2) (below_box4 w2 _) (Nat.le_refl _), (ltB_ownN o2).grow (below_box4 w2 _).size⟩, bsplit HB2.out (below_box4 w2 _)⟩
      | exact ⟨_, xa2, xc2, rfl, Nat.le_refl _, box_stored (BK1.below hb2 (Nat.le_refl _)) _ _ _, clone_keepO o2 _ _ _, below_store3 HB2.out (Nat.le_refl _) _ _ _⟩)
  case rest =>
    obtain ⟨bk, xa2, xc2, rfl, hbk, BK, HX2, HB2⟩ := hcut
    have hcl := clone_any wc.drew _ m (arg_drew (HY.out _ HB2.out)) (by have := HNL.out; omega)
    have BEc := (BE.below HB2.out (Nat.le_refl _)).drew
    have BKc := BK.out.drew
    have BRc := BR.below HB2.out (Nat.le_refl _)
    have HBX : Hid (Below w.heap.size w wc) := bsplit HBW.out HB2.out
    have HWC : Hid (w.heap.size + 2 ≤ wc.heap.size) := by have := HB2.out.size; rw [HSZ.out] at this; exact this
    have HNE : Hid (w.heap.size ≠ w.heap.size + 1 ∧ bk ≠ w.heap.size + 1) := ⟨by omega, by rw [HSZ.out] at hbk; omega⟩
    clear pW0 pW1 BK1 BE0 BE1
    obtain ⟨d0, d1, d2, d3⟩ := BEc
    have BEc := (BE.below HB2.out (Nat.le_refl _)).drew
    obtain ⟨e0, e1, e2, _⟩ := BK.out
    go_wp2_with fail
    go_region_held3 (fun w' => (w'.cell? ⟨bk, 0, none⟩ = some (.slice xa2 nl xc2) ∧ w'.cell? ⟨bk, 1, none⟩ = some (.int .u64 s) ∧ w'.cell? ⟨bk, 2, none⟩ = some (.int .u8 k)) ∧ w'.cell? ⟨w.heap.size, 3, none⟩ = some (.slice ya ml yc))
      (first | with_reducible exact ⟨⟨b7.c0, b7.c1, b7.c2⟩, E7.c3⟩ | with_reducible exact ⟨⟨b6.c0, b6.c1, b6.c2⟩, E6.c3⟩ | exact ⟨⟨BKc.c0, BKc.c1, BKc.c2⟩, BEc.c3⟩)
      (first
        | (go_at_call 45; refine hcl.mono ?_; rintro e w6 ⟨y, rfl, oy, hb6⟩
           obtain ⟨ya2, yc2, ey2⟩ := oy.rd.len
           rw [HNL.out.2.1] at ey2
           subst ey2
           have HB6 : Hid (Below w.heap.size w w6) := bsplit HBX.out.drew hb6
           obtain ⟨⟨c0, c1, c2, c3⟩, f0, f1, f2, f3⟩ := BRc.below (bsplit (Below.refl _ _).drew hb6) (Nat.le_refl _)
           have b6 := BKc.below hb6 (Nat.le_refl _)
           have E6 := BEc.below hb6 (Nat.le_refl _)
           have b7 := box_other4 b6 HNE.out.2 (.slice xa2 nl xc2) (.int .u64 s) (.int .u8 k) (.slice ya2 ml yc2)
           have E7 := E6.stored (w.heap.size + 1) HNE.out.1 (.slice xa2 nl xc2) (.int .u64 s) (.int .u8 k) (.slice ya2 ml yc2)
           have HX6 : Hid (Rd w6 (.slice xa2 nl xc2) l ∧ OwnN (w.heap.size + 2) w6 (.slice xa2 nl xc2) l) := ⟨HX2.out.1.drew.below hb6 (Nat.le_refl _), by rw [← HSZ.out]; exact OwnN.below (w := wc.drew) HX2.out.2.1 hb6 (Nat.le_refl _)⟩
           have HLB : Hid (LtB w6 (.slice xa2 nl xc2) ∧ LtB w6 (.slice ya2 ml yc2)) := ⟨HX2.out.2.2.grow hb6.size, ltB_ownN oy⟩
           have HY6 : Hid (Rd w6 (.slice ya2 ml yc2) m ∧ OwnN (w.heap.size + 2) w6 (.slice ya2 ml yc2) m) := ⟨oy.rd, oy.mono HWC.out⟩
           clear hb6 oy)
        | fail)
    clear hcl d0 d1 d2 d3 e0 e1 e2 BKc BEc b6 b7 E6 E7
    go_wp2
    refine bodyPost_ret (v := enV (.slice xa2 nl xc2) s k (.slice ya2 ml yc2)) (by simp [results, Try.results34, go_sem, c0, c1, c2, c3]) rfl ⟨_, _, rfl, ⟨rd_store4 HX6.out.1 (from_ne (from_ownN HX6.out.2) (by omega)) _ _ _ _, ownN_st4 HX6.out.2 (by omega) _ _ _ _⟩, ⟨rd_store4 HY6.out.1 (from_ne (from_ownN HY6.out.2) (by omega)) _ _ _ _, ownN_st4 HY6.out.2 (by omega) _ _ _ _⟩, ⟨HLB.out.1.grow (by simp), HLB.out.2.grow (by simp)⟩, below_store4 HB6.out (Nat.le_succ _) _ _ _ _⟩

def FoundO (q : Option EnB) (w w' : World) (o : Ending) : Prop :=
  Below w.heap.size w w' ∧ match q with
    | none => o = .returned (.tuple #[enV (.slice none 0 0) 0 0 (.slice none 0 0), .bool false])
    | some e => ∃ x y, o = .returned (.tuple #[enV x (e.2.1 : Int) (e.2.2.1.toNat : Int) y, .bool true]) ∧ (Rd w' x e.1 ∧ OwnN w.heap.size w' x e.1) ∧ (Rd w' y e.2.2.2 ∧ OwnN w.heap.size w' y e.2.2.2)

set_option maxHeartbeats 4000000 in
theorem skfrom_own (w : World) (l : Nat) (ts : List Tow) (kv : Value) (K : EnB) (hS : SkAt w l ts) (hk : Rd w kv K.1) (hsm : ∀ t ∈ ts, t.e.1.length ≤ 1000000 ∧ t.e.2.2.2.length ≤ 1000000) :
    Calls Try.prog 23 #[.pointer (some ⟨l, 0, none⟩), .agg #[kv, .int .u64 (K.2.1 : Int), .int .u8 (K.2.2.1.toNat : Int)]] w fun o w' => FoundO ((esT ts)[cntE (esT ts) K]?) w w' o := by
  have HS : Hid (SkAt w l ts) := hS
  have HSM : Hid (∀ t ∈ ts, t.e.1.length ≤ 1000000 ∧ t.e.2.2.2.length ≤ 1000000) := hsm
  obtain ⟨ka, kc, rfl⟩ := hk.len
  obtain ⟨kn, hkn⟩ : ∃ n, K.1.length = n := ⟨_, rfl⟩
  obtain ⟨ks, hks⟩ : ∃ z : Int, (K.2.1 : Int) = z := ⟨_, rfl⟩
  obtain ⟨kk, hkk⟩ : ∃ z : Int, (K.2.2.1.toNat : Int) = z := ⟨_, rfl⟩
  have hb0 := below_box w #[.slice ka kn kc, .int .u64 ks, .int .u8 kk] 36
  have hb1 := below_box4 (w.alloc (.cells #[.slice ka kn kc, .int .u64 ks, .int .u8 kk] 36)) (.cells #[.slice none 0 0, .int .u64 0, .int .u8 0, .slice none 0 0] 38)
  have s1 : (w.alloc (.cells #[.slice ka kn kc, .int .u64 ks, .int .u8 kk] 36)).heap.size = w.heap.size + 1 := by simp
  have s2 : ((w.alloc (.cells #[.slice ka kn kc, .int .u64 ks, .int .u8 kk] 36)).alloc (.cells #[.slice none 0 0, .int .u64 0, .int .u8 0, .slice none 0 0] 38)).heap.size = w.heap.size + 2 := by simp
  have BK := (box_new w (.slice ka kn kc) (.int .u64 ks) (.int .u8 kk) 36).below hb1 (Nat.le_refl _)
  have BR := box4f_new (w.alloc (.cells #[.slice ka kn kc, .int .u64 ks, .int .u8 kk] 36)) (.slice none 0 0) (.int .u64 0) (.int .u8 0) (.slice none 0 0) 38
  rw [s1] at BR
  obtain ⟨W, hW⟩ : ∃ W, (w.alloc (.cells #[.slice ka kn kc, .int .u64 ks, .int .u8 kk] 36)).alloc (.cells #[.slice none 0 0, .int .u64 0, .int .u8 0, .slice none 0 0] 38) = W := ⟨_, rfl⟩
  have hBW := bsplit hb0 hb1
  rw [hW] at BK BR hBW s2
  have HBW : Hid (Below w.heap.size w W) := hBW
  have HSZ : Hid (W.heap.size = w.heap.size + 2) := s2
  have hah := ahead_any W l ts (.slice ka K.1.length kc) K (hS.below hBW) (hk.below hBW (Nat.le_refl _))
  rw [hkn, hks, hkk] at hah
  rw [hkn, hks, hkk]
  obtain ⟨Q, hQ⟩ : ∃ Q, ((esT ts)[cntE (esT ts) K]?) = Q := ⟨_, rfl⟩
  have HQ : Hid (((esT ts)[cntE (esT ts) K]?) = Q) := hQ
  rw [hQ]
  obtain ⟨d0, d1, d2, _⟩ := BK
  clear hS hk hkn hks hkk hb0 hb1 s1 s2 hBW hsm hQ
  go_enter Try.func23, Try.ntmps23
  go_wp2_with fail
  clear hW
  refine hah.mono ?_
  rintro o w1 ⟨A, rfl, hA, hb1⟩
  have HB1 : Hid (Below w.heap.size w w1) := bsplit HBW.out hb1
  have BR1 := BR.below hb1 (Nat.le_refl _)
  have h0 := hA 0 (by omega)
  have hcnt := h0.cnt HS.out.ht
  have hcl := h0.le
  obtain ⟨c, hc⟩ : ∃ c, A 0 = c := ⟨_, rfl⟩
  rw [hc] at hcnt hcl
  simp only [hc]
  have i0 : ∀ V : World, (Instr.index 65 (.agg #[ndP l ts c, ndP l ts (A 1), ndP l ts (A 2), ndP l ts (A 3), ndP l ts (A 4), ndP l ts (A 5), ndP l ts (A 6), ndP l ts (A 7)]) (.int .i64 0)).run Try.prog V = .ok (ndP l ts c) V := fun _ => by kernel_rfl
  have hS1 := HS.out.below HB1.out
  clear hah hA h0 BR d0 d1 d2
  have hcel := (hS1.nod c hcl).cel 0 (by omega)
  rw [fst_low HS.out.ht, if_pos (by have := HS.out.ht; unfold nh; split <;> first | omega | (split <;> first | (rename_i t ht; have := this t (List.mem_of_getElem? ht); omega) | (rename_i ht; have := List.getElem?_eq_none_iff.1 ht; omega))), Nat.add_zero] at hcel
  by_cases hlt : c < ts.length
  · obtain ⟨t, ht⟩ : ∃ t, ts[c] = t := ⟨_, rfl⟩
    have htm : t ∈ ts := by rw [← ht]; exact List.getElem_mem hlt
    rw [List.getElem?_eq_getElem hlt, ht] at hcel
    simp only [Option.map_some, ptrT] at hcel
    have HQE : Hid (Q = some t.e) := by show Q = _; rw [← HQ.out, hcnt, List.getElem?_eq_getElem (by rw [esT_len]; exact hlt), esT_get hlt, ht]
    have hent := hS1.ent t htm
    obtain ⟨⟨c0, c1, c2, c3⟩, rx, ry⟩ := hent
    obtain ⟨x1, xc, ex⟩ := rx.len
    obtain ⟨y1, yc, ey⟩ := ry.len
    rw [ex] at c0 rx
    rw [ey] at c3 ry
    obtain ⟨tb, htb⟩ : ∃ z, t.b = z := ⟨_, rfl⟩
    obtain ⟨sq, hsq⟩ : ∃ z : Int, (t.e.2.1 : Int) = z := ⟨_, rfl⟩
    obtain ⟨ek, hek⟩ : ∃ z : Int, (t.e.2.2.1.toNat : Int) = z := ⟨_, rfl⟩
    have HSE : Hid ((t.e.2.1 : Int) = sq ∧ (t.e.2.2.1.toNat : Int) = ek) := ⟨hsq, hek⟩
    rw [hsq] at c1
    rw [hek] at c2
    have hap := skapart_own w1 (.slice x1 t.e.1.length xc) (.slice y1 t.e.2.2.2.length yc) t.e.1 t.e.2.2.2 sq ek rx ry (HSM.out t htm).1 (HSM.out t htm).2
    have HW1 : Hid (w.heap.size + 2 ≤ w1.heap.size + 2) := by show _ ≤ _; have := HB1.out.size; omega
    rw [htb] at hcel c0 c1 c2 c3
    clear rx ry ex ey hsq hek ht hS1 hcnt htm hlt
    go_wp2_with fail
    refine hap.mono ?_
    rintro o w2 ⟨x, y, rfl, rx2, ry2, _, hb2⟩
    obtain ⟨⟨r0, r1, r2, r3⟩, f0, f1, f2, f3⟩ := BR1.below hb2 (Nat.le_refl _)
    have HB2 : Hid (Below w.heap.size w w2) := bsplit HB1.out hb2
    have HX : Hid ((Rd w2 x t.e.1 ∧ OwnN (w.heap.size + 2) w2 x t.e.1) ∧ (Rd w2 y t.e.2.2.2 ∧ OwnN (w.heap.size + 2) w2 y t.e.2.2.2)) := ⟨⟨rx2.1, rx2.2.mono HW1.out⟩, ⟨ry2.1, ry2.2.mono HW1.out⟩⟩
    obtain ⟨xa, xc2, rfl⟩ := rx2.1.len
    obtain ⟨ya, yc2, rfl⟩ := ry2.1.len
    clear hap hb2 rx2 ry2 c0 c1 c2 c3
    go_wp2
    refine bodyPost_ret (v := .tuple #[enV (.slice xa t.e.1.length xc2) sq ek (.slice ya t.e.2.2.2.length yc2), .bool true]) (by simp [results, Try.results23, go_sem, r0, r1, r2, r3]) rfl ?_
    refine ⟨below_store4 HB2.out (Nat.le_succ _) _ _ _ _, ?_⟩
    rw [HQE.out]
    exact ⟨_, _, by rw [HSE.out.1, HSE.out.2], ⟨rd_store4 HX.out.1.1 (from_ne (from_ownN HX.out.1.2) (by omega)) _ _ _ _, (ownN_st4 HX.out.1.2 (by omega) _ _ _ _).mono (by omega)⟩, ⟨rd_store4 HX.out.2.1 (from_ne (from_ownN HX.out.2.2) (by omega)) _ _ _ _, (ownN_st4 HX.out.2.2 (by omega) _ _ _ _).mono (by omega)⟩⟩
  · rw [List.getElem?_eq_none (by omega)] at hcel
    simp only [Option.map_none, ptrT] at hcel
    have HQE : Hid (Q = none) := by show Q = _; rw [← HQ.out, hcnt, List.getElem?_eq_none (by rw [esT_len]; omega)]
    clear hS1 hcnt hlt
    obtain ⟨⟨r0, r1, r2, r3⟩, f0, f1, f2, f3⟩ := BR1
    go_wp2
    refine bodyPost_ret (v := .tuple #[enV (.slice none 0 0) 0 0 (.slice none 0 0), .bool false]) (by simp [results, Try.results23, go_sem, r0, r1, r2, r3]) rfl ?_
    refine ⟨below_store4 HB1.out (Nat.le_succ _) _ _ _ _, ?_⟩
    rw [HQE.out]

end Go.Proofs.Ytekmlbbfipldoaa

/- bartizanref03.Twin: what it answers is the caller's own. -/
namespace Go.Proofs.Ytekmlbbfipldoaa
open Go.RowKit Go.Shelf
set_option linter.unusedVariables false

set_option maxRecDepth 20000 in
set_option maxHeartbeats 4000000 in
theorem twin_own (w : World) (xv yv : Value) (l m : List UInt8) (s k : Int) (hx : Arg w xv l) (hy : Arg w yv m) (hl : l.length ≤ 1000000) (hm : m.length ≤ 1000000) :
    Calls Try.prog 12 #[enV xv s k yv] w fun e w' => ∃ x y, e = .returned (enV x s k y) ∧ OwnN (w.heap.size + 2) w' x l ∧ OwnN (w.heap.size + 2) w' y m ∧ Below w.heap.size w w' := by
  obtain ⟨x1, x2, ex⟩ := Arg.shape hx
  obtain ⟨y1, y2, ey⟩ := Arg.shape hy
  subst ex ey
  obtain ⟨nl, hnl⟩ : ∃ nl, l.length = nl := ⟨_, rfl⟩
  obtain ⟨ml, hml⟩ : ∃ ml, m.length = ml := ⟨_, rfl⟩
  rw [hnl] at hx ⊢
  rw [hml] at hy ⊢
  have HLM : Hid (l.length ≤ 1000000 ∧ m.length ≤ 1000000) := ⟨hl, hm⟩
  have hb0 := below_box4 w (.cells #[.slice x1 nl x2, .int .u64 s, .int .u8 k, .slice y1 ml y2] 38)
  have hb1 := below_box4 (w.alloc (.cells #[.slice x1 nl x2, .int .u64 s, .int .u8 k, .slice y1 ml y2] 38)) (.cells #[.slice none 0 0, .int .u64 0, .int .u8 0, .slice none 0 0] 38)
  have bx := ((box4_new w (.slice x1 nl x2) (.int .u64 s) (.int .u8 k) (.slice y1 ml y2) 38).below hb1 (Nat.le_refl _)).drew
  have br := box4f_new (w.alloc (.cells #[.slice x1 nl x2, .int .u64 s, .int .u8 k, .slice y1 ml y2] 38)) (.slice none 0 0) (.int .u64 0) (.int .u8 0) (.slice none 0 0) 38
  rw [show (w.alloc (.cells #[.slice x1 nl x2, .int .u64 s, .int .u8 k, .slice y1 ml y2] 38)).heap.size = w.heap.size + 1 by simp] at br
  have rx0 := arg_drew ((hx.below hb0 (Nat.le_refl _)).below hb1 (Nat.le_refl _))
  have ry0 := arg_drew ((hy.below hb0 (Nat.le_refl _)).below hb1 (Nat.le_refl _))
  have HB1 : Hid (Below w.heap.size w ((w.alloc (.cells #[.slice x1 nl x2, .int .u64 s, .int .u8 k, .slice y1 ml y2] 38)).alloc (.cells #[.slice none 0 0, .int .u64 0, .int .u8 0, .slice none 0 0] 38)).drew) := (hb0.trans (hb1.mono hb0.size)).drew
  have HSZ : Hid (((w.alloc (.cells #[.slice x1 nl x2, .int .u64 s, .int .u8 k, .slice y1 ml y2] 38)).alloc (.cells #[.slice none 0 0, .int .u64 0, .int .u8 0, .slice none 0 0] 38)).drew.heap.size = w.heap.size + 2) := by show _ = _; simp
  have HBR : Hid (Box4f ((w.alloc (.cells #[.slice x1 nl x2, .int .u64 s, .int .u8 k, .slice y1 ml y2] 38)).alloc (.cells #[.slice none 0 0, .int .u64 0, .int .u8 0, .slice none 0 0] 38)).drew (w.heap.size + 1) (.slice none 0 0) (.int .u64 0) (.int .u8 0) (.slice none 0 0)) := ⟨br.bx.drew, br.f0, br.f1, br.f2, br.f3⟩
  clear hx hy hl hm hnl hml hb0 hb1 br
  go_enter Try.func12, Try.ntmps12
  go_wp2_with fail
  go_region_held3 (fun w' => w'.cell? ⟨w.heap.size, 0, none⟩ = some (.slice x1 nl x2) ∧ w'.cell? ⟨w.heap.size, 1, none⟩ = some (.int .u64 s) ∧ w'.cell? ⟨w.heap.size, 2, none⟩ = some (.int .u8 k) ∧ w'.cell? ⟨w.heap.size, 3, none⟩ = some (.slice y1 ml y2))
    (first | with_reducible exact ⟨bs.c0, bs.c1, bs.c2, bs.c3⟩ | with_reducible exact ⟨by2.c0, by2.c1, by2.c2, by2.c3⟩ | with_reducible exact ⟨bx2.c0, bx2.c1, bx2.c2, bx2.c3⟩ | with_reducible exact ⟨bx.c0, bx.c1, bx.c2, bx.c3⟩)
    (first
      | (go_at_call 30; refine (copy_any _ _ l rx0 (by have := HLM.out.1; omega)).mono ?_; rintro e wx ⟨x, rfl, ox, hbx⟩; obtain ⟨gx, kx, hx⟩ := ox.shape; subst hx; have bx2 := bx.below hbx (Nat.le_refl _); clear rx0)
      | (go_at_call 30; refine (copy_any _ _ m (ry0.below hbx (Nat.le_refl _)) (by have := HLM.out.2; omega)).mono ?_; rintro e wy ⟨y, rfl, oy, hby⟩; obtain ⟨gy, ky, hy⟩ := oy.shape; subst hy; have by2 := bx2.below hby (Nat.le_refl _)
         have HBY : Hid (Below w.heap.size w wy) := bsplit (bsplit HB1.out hbx) hby
         have HOX : Hid (OwnN (w.heap.size + 2) wy (.slice (some ⟨gx, 0, none⟩) l.length kx) l) := .inr ((ox.below hby (Nat.le_refl _)).mono (by rw [HSZ.out]; exact Nat.le_refl _))
         have HOY : Hid (OwnN (w.heap.size + 2) wy (.slice (some ⟨gy, 0, none⟩) m.length ky) m) := .inr (oy.mono (by have h8 := hbx.size; rw [HSZ.out] at h8; exact h8))
         have bs := by2.stored (w.heap.size + 1) (by omega) (.slice (some ⟨gx, 0, none⟩) l.length kx) (.int .u64 s) (.int .u8 k) (.slice (some ⟨gy, 0, none⟩) m.length ky)
         obtain ⟨⟨c0, c1, c2, c3⟩, f0, f1, f2, f3⟩ := (HBR.out.below hbx (Nat.le_refl _)).below hby (Nat.le_refl _))
      | fail)
  go_wp2
  refine bodyPost_ret (v := enV (.slice (some ⟨gx, 0, none⟩) l.length kx) s k (.slice (some ⟨gy, 0, none⟩) m.length ky)) (by simp [results, Try.results12, go_sem, c0, c1, c2, c3]) rfl ⟨_, _, rfl, ownN_st4 HOX.out (Nat.lt_succ_self _) _ _ _ _, ownN_st4 HOY.out (Nat.lt_succ_self _) _ _ _ _, below_store4 HBY.out (Nat.le_succ _) _ _ _ _⟩

end Go.Proofs.Ytekmlbbfipldoaa

/- (*skip.List).Insert. -/
namespace Go.Proofs.Ytekmlbbfipldoaa
set_option maxRecDepth 20000
open Go.RowKit
set_option linter.unusedVariables false
set_option linter.unusedSimpArgs false

theorem arr8_of (w : World) (v0 v1 v2 v3 v4 v5 v6 v7 : Value) (t : TypeId) (V : Nat → Value) (h0 : V 0 = v0) (h1 : V 1 = v1) (h2 : V 2 = v2) (h3 : V 3 = v3) (h4 : V 4 = v4) (h5 : V 5 = v5) (h6 : V 6 = v6) (h7 : V 7 = v7) : Arr8 (w.alloc (.cells #[v0, v1, v2, v3, v4, v5, v6, v7] t)) w.heap.size V := by
  have h := heap_alloc_new w (.cells #[v0, v1, v2, v3, v4, v5, v6, v7] t)
  subst h0 h1 h2 h3 h4 h5 h6 h7
  refine ⟨fun r hr => ?_, fun r hr => frozen_of_row _ w.heap.size r _ t h⟩
  have c := cell_of_row _ w.heap.size r _ t (0, 0) h
  have : r = 0 ∨ r = 1 ∨ r = 2 ∨ r = 3 ∨ r = 4 ∨ r = 5 ∨ r = 6 ∨ r = 7 := by omega
  rcases this with rfl | rfl | rfl | rfl | rfl | rfl | rfl | rfl <;> exact c.trans rfl

theorem blk_set {w : World} {b : Nat} (h : ∃ ca ty, w.heap[b]? = some (.cells ca ty (0, 0))) (p : Addr) (u : Value) : ∃ ca ty, (w.setCell p u).heap[b]? = some (.cells ca ty (0, 0)) := by
  obtain ⟨ca, ty, h⟩ := h
  by_cases e : b = p.block
  · subst e
    simp only [World.setCell, Array.getElem?_modify, h, if_true, Option.map_some]
    exact ⟨_, _, rfl⟩
  · exact ⟨ca, ty, by rw [Below.heap_setCell _ _ _ _ e]; exact h⟩

/-- so many of the new tower's rows are done -/
structure InsI (w wr : World) (l tb : Nat) (ts : List Tow) (A : Nat → Nat) (j : Nat) : Prop where
  kp : Keeps (fun i => (∃ a, a ≤ ts.length ∧ i = nb l ts a) ∨ i = tb) w wr
  nc : ∀ a, a ≤ ts.length → ∀ r, r < 8 → wr.cell? ⟨nb l ts a, 4 + r, none⟩ = (if r < j ∧ a = A r then some (ptrT (some tb)) else w.cell? ⟨nb l ts a, 4 + r, none⟩)
  nz : ∀ a, a ≤ ts.length → ∀ r, r < 8 → wr.frozen? ⟨nb l ts a, 4 + r, none⟩ = false
  ne : ∀ a, a ≤ ts.length → ∀ i, i < 4 → wr.cell? ⟨nb l ts a, i, none⟩ = w.cell? ⟨nb l ts a, i, none⟩
  nk : ∀ a, a ≤ ts.length → ∃ ca ty, wr.heap[nb l ts a]? = some (.cells ca ty (0, 0))
  tc : ∀ r, r < 8 → wr.cell? ⟨tb, 4 + r, none⟩ = some (if r < j then ptrT (fstT (ts.drop (A r)) r) else .pointer none)
  tz : ∀ r, r < 8 → wr.frozen? ⟨tb, 4 + r, none⟩ = false
  te : ∀ i, i < 4 → wr.cell? ⟨tb, i, none⟩ = w.cell? ⟨tb, i, none⟩
  tk : ∃ ca ty, wr.heap[tb]? = some (.cells ca ty (0, 0))

theorem cell_same (w : World) (b i j : Nat) (u v : Value) (h : w.cell? ⟨b, i, none⟩ = some v) (hij : j ≠ i) : (w.setCell ⟨b, i, none⟩ u).cell? ⟨b, j, none⟩ = w.cell? ⟨b, j, none⟩ := by
  simp [go_sem, h, hij]

theorem cell_here (w : World) (b i : Nat) (u v : Value) (h : w.cell? ⟨b, i, none⟩ = some v) : (w.setCell ⟨b, i, none⟩ u).cell? ⟨b, i, none⟩ = some u := by
  simp [go_sem, h]

theorem InsI.drew {w wr : World} {l tb : Nat} {ts : List Tow} {A : Nat → Nat} {j : Nat} (h : InsI w wr l tb ts A j) : InsI w wr.drew l tb ts A j := ⟨h.kp.drew, h.nc, h.nz, h.ne, h.nk, h.tc, h.tz, h.te, h.tk⟩

/-- one row more -/
theorem InsI.step {w wr : World} {l tb : Nat} {ts : List Tow} {A : Nat → Nat} {j : Nat} (h : InsI w wr l tb ts A j) (hS : SkAt w l ts) (hj : j < 8) (hA : A j ≤ ts.length) (hnew : ∀ a, a ≤ ts.length → tb ≠ nb l ts a) (hc : w.cell? ⟨nb l ts (A j), 4 + j, none⟩ = some (ptrT (fstT (ts.drop (A j)) j))) :
    InsI w ((wr.setCell ⟨tb, 4 + j, none⟩ (ptrT (fstT (ts.drop (A j)) j))).setCell ⟨nb l ts (A j), 4 + j, none⟩ (ptrT (some tb))) l tb ts A (j + 1) := by
  have htc := h.tc j hj
  have hnc := h.nc (A j) hA j hj
  rw [if_neg (by omega), hc] at hnc
  have hnj := hnew (A j) hA
  have hnc2 : (wr.setCell ⟨tb, 4 + j, none⟩ (ptrT (fstT (ts.drop (A j)) j))).cell? ⟨nb l ts (A j), 4 + j, none⟩ = some (ptrT (fstT (ts.drop (A j)) j)) := by
    rw [cell_other wr ⟨tb, 4 + j, none⟩ ⟨nb l ts (A j), 4 + j, none⟩ _ (Ne.symm hnj)]; exact hnc
  refine ⟨?_, fun a ha r hr => ?_, fun a ha r hr => ?_, fun a ha i hi => ?_, fun a ha => ?_, fun r hr => ?_, fun r hr => ?_, fun i hi => ?_, ?_⟩
  · exact (h.kp.setCell (p := ⟨tb, 4 + j, none⟩) (.inr rfl) _).setCell (p := ⟨nb l ts (A j), 4 + j, none⟩) (.inl ⟨A j, hA, rfl⟩) _
  · by_cases e : a = A j
    · subst e
      by_cases er : r = j
      · subst er
        rw [cell_here _ _ _ _ _ hnc2, if_pos ⟨by omega, rfl⟩]
      · rw [cell_same _ _ _ _ _ _ hnc2 (by omega), cell_other wr ⟨tb, 4 + j, none⟩ ⟨nb l ts (A j), 4 + r, none⟩ _ (Ne.symm hnj), h.nc (A j) ha r hr]
        by_cases h1 : r < j ∧ A j = A r
        · rw [if_pos h1, if_pos ⟨by omega, h1.2⟩]
        · rw [if_neg h1, if_neg (fun h2 => h1 ⟨by omega, h2.2⟩)]
    · have hne : nb l ts a ≠ nb l ts (A j) := fun e2 => e (hS.inj a (A j) ha hA e2)
      rw [cell_other _ ⟨nb l ts (A j), 4 + j, none⟩ ⟨nb l ts a, 4 + r, none⟩ _ hne, cell_other wr ⟨tb, 4 + j, none⟩ ⟨nb l ts a, 4 + r, none⟩ _ (Ne.symm (hnew a ha)), h.nc a ha r hr]
      by_cases h1 : r < j ∧ a = A r
      · rw [if_pos h1, if_pos ⟨by omega, h1.2⟩]
      · rw [if_neg h1, if_neg (fun h2 => h1 ⟨by
          by_cases er : r = j
          · subst er; exact absurd h2.2 e
          · omega, h2.2⟩)]
  · rw [World.frozen?_setCell, World.frozen?_setCell]; exact h.nz a ha r hr
  · by_cases e : a = A j
    · subst e
      rw [cell_same _ _ _ _ _ _ hnc2 (by omega), cell_other wr ⟨tb, 4 + j, none⟩ ⟨nb l ts (A j), i, none⟩ _ (Ne.symm hnj)]
      exact h.ne _ ha i hi
    · have hne : nb l ts a ≠ nb l ts (A j) := fun e2 => e (hS.inj a (A j) ha hA e2)
      rw [cell_other _ ⟨nb l ts (A j), 4 + j, none⟩ ⟨nb l ts a, i, none⟩ _ hne, cell_other wr ⟨tb, 4 + j, none⟩ ⟨nb l ts a, i, none⟩ _ (Ne.symm (hnew a ha))]
      exact h.ne a ha i hi
  · exact blk_set (blk_set (h.nk a ha) _ _) _ _
  · rw [cell_other _ ⟨nb l ts (A j), 4 + j, none⟩ ⟨tb, 4 + r, none⟩ _ hnj]
    by_cases er : r = j
    · subst er
      rw [cell_here _ _ _ _ _ htc, if_pos (by omega)]
    · rw [cell_same _ _ _ _ _ _ htc (by omega), h.tc r hr]
      by_cases h1 : r < j
      · rw [if_pos h1, if_pos (by omega)]
      · rw [if_neg h1, if_neg (by omega)]
  · rw [World.frozen?_setCell, World.frozen?_setCell]; exact h.tz r hr
  · rw [cell_other _ ⟨nb l ts (A j), 4 + j, none⟩ ⟨tb, i, none⟩ _ hnj, cell_same _ _ _ _ _ _ htc (by omega)]
    exact h.te i hi
  · exact blk_set (blk_set h.tk _ _) _ _

/-- what is like a version stands where one looks for it, or nowhere -/
theorem any_at {ts : List Tow} {K : EnB} {c : Nat} (h : PredT ts K 0 c) (hh : ∀ t ∈ ts, 1 ≤ t.h ∧ t.h ≤ 8) (hr : riseB (ts.map (·.e)) = true) : anyE (esT ts) K = true ↔ ∃ hc : c < ts.length, cmpE ts[c].e K = 0 := by
  unfold anyE
  rw [List.any_eq_true]
  constructor
  · rintro ⟨x, hx, hs⟩
    obtain ⟨i, hi, rfl⟩ := List.getElem_of_mem hx
    rw [esT_len] at hi
    rw [esT_get hi] at hs
    have h0 := sameE_iff.1 hs
    by_cases hic : i < c
    · have := h.lt i hi hic
      unfold ltE at this
      rw [decide_eq_true_eq] at this
      omega
    · by_cases e : i = c
      · subst e; exact ⟨hi, h0⟩
      · exfalso
        have hcl : c < ts.length := by omega
        have h1 := h.no c hcl (Nat.le_refl _) (by have := (hh _ (List.getElem_mem hcl)).1; omega)
        unfold ltE at h1
        rw [decide_eq_false_iff_not] at h1
        have h2 := rise_lt (es := esT ts) hr c i (by rw [esT_len]; exact hi) (by omega)
        rw [esT_get hcl, esT_get hi] at h2
        have h3 := cmpE_neg ts[c].e K
        have h4 : cmpE ts[c].e K < 0 := by
          have h5 : cmpE ts[c].e K = cmpE ts[c].e ts[i].e := by
            obtain ⟨e1, e2, e3⟩ := Mth.cmpK_zero.1 h0
            unfold cmpE
            rw [e1, e2, e3]
          omega
        omega
  · rintro ⟨hc, h0⟩
    exact ⟨ts[c].e, by unfold esT; exact List.mem_map.2 ⟨_, List.getElem_mem hc, rfl⟩, sameE_iff.2 h0⟩

theorem chkSk_ok {e : EnB} {h : Int} (hc : chkSk e h = 0) : 1 ≤ h ∧ h ≤ 8 := by
  unfold chkSk at hc
  split at hc
  · split at hc
    · assumption
    · cases hc
  · rename_i h0; exact absurd hc h0

structure Box3 (w : World) (b : Nat) (v0 v1 v2 : Value) : Prop where
  c0 : w.cell? ⟨b, 0, none⟩ = some v0
  c1 : w.cell? ⟨b, 1, none⟩ = some v1
  c2 : w.cell? ⟨b, 2, none⟩ = some v2

theorem Box3.below {w w' : World} {b : Nat} {v0 v1 v2 : Value} (h : Box3 w b v0 v1 v2) (hb : Below w.heap.size w w') : Box3 w' b v0 v1 v2 :=
  ⟨(hb.cell (World.block_lt_of_cell? w _ h.c0)).trans h.c0, (hb.cell (World.block_lt_of_cell? w _ h.c1)).trans h.c1, (hb.cell (World.block_lt_of_cell? w _ h.c2)).trans h.c2⟩

/-- what Insert answers -/
def InsPost (l : Nat) (ts : List Tow) (e : EnB) (hh : Int) (w w' : World) (o : Ending) : Prop :=
  (¬ chkSk e hh = 0 ∧ o = .returned (.int .i64 (chkSk e hh)) ∧ Below w.heap.size w w') ∨
  (chkSk e hh = 0 ∧ anyE (esT ts) e = true ∧ o = .returned (.int .i64 7) ∧ Below w.heap.size w w') ∨
  (chkSk e hh = 0 ∧ anyE (esT ts) e = false ∧ o = .returned (.int .i64 0) ∧ ∃ T : Tow, T.e = e ∧ (T.h : Int) = hh ∧ w.heap.size ≤ T.b ∧ SkAt w' l (insT ts (cntE (esT ts) e) T) ∧ Keeps (fun i => ∃ a, a ≤ ts.length ∧ i = nb l ts a) w w')

/-- what it holds lies behind all that was there -/
def InsPost2 (l : Nat) (ts : List Tow) (e : EnB) (hh : Int) (w w' : World) (o : Ending) : Prop :=
  (¬ chkSk e hh = 0 ∧ o = .returned (.int .i64 (chkSk e hh)) ∧ Below w.heap.size w w') ∨
  (chkSk e hh = 0 ∧ anyE (esT ts) e = true ∧ o = .returned (.int .i64 7) ∧ Below w.heap.size w w') ∨
  (chkSk e hh = 0 ∧ anyE (esT ts) e = false ∧ o = .returned (.int .i64 0) ∧ ∃ T : Tow, T.e = e ∧ (T.h : Int) = hh ∧ (w.heap.size ≤ T.b ∧ From w.heap.size T.x ∧ From w.heap.size T.y) ∧ SkAt w' l (insT ts (cntE (esT ts) e) T) ∧ Keeps (fun i => ∃ a, a ≤ ts.length ∧ i = nb l ts a) w w')

theorem InsPost2.post {l : Nat} {ts : List Tow} {e : EnB} {hh : Int} {w w' : World} {o : Ending} (h : InsPost2 l ts e hh w w' o) : InsPost l ts e hh w w' o := by
  rcases h with h | h | ⟨h1, h2, h3, T, h4, h5, h6, h7⟩
  · exact .inl h
  · exact .inr (.inl h)
  · exact .inr (.inr ⟨h1, h2, h3, T, h4, h5, h6.1, h7⟩)


set_option maxHeartbeats 8000000 in
theorem skinsert_own (w : World) (l : Nat) (ts : List Tow) (xv yv : Value) (e : EnB) (hh : Int) (hS : SkAt w l ts) (hx : Rd w xv e.1) (hy : Rd w yv e.2.2.2) (hl1 : e.1.length ≤ 1000000) (hl2 : e.2.2.2.length ≤ 1000000) (hlen : ts.length + 1 ≤ 1000) :
    Calls Try.prog 13 #[.pointer (some ⟨l, 0, none⟩), enV xv (e.2.1 : Int) (e.2.2.1.toNat : Int) yv, .int .i64 hh] w fun o w' => InsPost2 l ts e hh w w' o := by
  have HS : Hid (SkAt w l ts) := hS
  have HLEN : Hid (ts.length + 1 ≤ 1000) := hlen
  obtain ⟨xa, xc, rfl⟩ := hx.len
  obtain ⟨ya, yc, rfl⟩ := hy.len
  obtain ⟨nl, hnl⟩ : ∃ z, e.1.length = z := ⟨_, rfl⟩
  obtain ⟨ml, hml⟩ : ∃ z, e.2.2.2.length = z := ⟨_, rfl⟩
  obtain ⟨s, hs⟩ : ∃ z : Int, (e.2.1 : Int) = z := ⟨_, rfl⟩
  obtain ⟨k, hk⟩ : ∃ z : Int, (e.2.2.1.toNat : Int) = z := ⟨_, rfl⟩
  have HE : Hid ((e.2.1 : Int) = s ∧ (e.2.2.1.toNat : Int) = k ∧ e.1.length = nl ∧ e.2.2.2.length = ml) := ⟨hs, hk, hnl, hml⟩
  have HLL : Hid (e.1.length ≤ 1000000 ∧ e.2.2.2.length ≤ 1000000) := ⟨hl1, hl2⟩
  have HX : Hid (Rd w (.slice xa nl xc) e.1 ∧ Rd w (.slice ya ml yc) e.2.2.2) := by rw [← hnl, ← hml]; exact ⟨hx, hy⟩
  obtain ⟨c, hc⟩ : ∃ c, chkSk e hh = c := ⟨_, rfl⟩
  have HC : Hid (chkSk e hh = c) := hc
  have hb0 := below_box4 w (.cells #[.slice xa nl xc, .int .u64 s, .int .u8 k, .slice ya ml yc] 38)
  have HB0 : Hid (Below w.heap.size w (w.alloc (.cells #[.slice xa nl xc, .int .u64 s, .int .u8 k, .slice ya ml yc] 38))) := hb0
  have B0 := box4_new w (.slice xa nl xc) (.int .u64 s) (.int .u8 k) (.slice ya ml yc) 38
  have hck := skcheck_any (w.alloc (.cells #[.slice xa nl xc, .int .u64 s, .int .u8 k, .slice ya ml yc] 38)) xa ya xc yc e hh c hc
  rw [hnl, hml, hs, hk] at hck
  rw [hnl, hml, hs, hk]
  obtain ⟨c0, c1, c2, c3⟩ := B0
  have B0 := box4_new w (.slice xa nl xc) (.int .u64 s) (.int .u8 k) (.slice ya ml yc) 38
  clear hS hx hy hl1 hl2 hlen hnl hml hs hk hc hb0
  go_enter Try.func13, Try.ntmps13
  go_wp2_with fail
  refine hck.mono ?_
  rintro o w1 ⟨rfl, hb1⟩
  have HB1 : Hid (Below w.heap.size w w1) := bsplit HB0.out hb1
  have B1 := B0.below hb1 (Nat.le_refl _)
  clear hck hb1 c0 c1 c2 c3 B0
  by_cases h0 : c = 0
  case neg =>
    have h0b : (c == 0) = false := by simpa using h0
    go_wp2
    go_ret
    exact .inl ⟨by rw [HC.out]; exact h0, by rw [HC.out]; rfl, HB1.out⟩
  subst h0
  have hS1 := HS.out.below HB1.out
  have hah := ahead_any w1 l ts (.slice xa nl xc) e hS1 (HX.out.1.below HB1.out (Nat.le_refl _))
  rw [HE.out.1, HE.out.2.1] at hah
  obtain ⟨c0, c1, c2, c3⟩ := B1
  have B1 : Box4 w1 w.heap.size (.slice xa nl xc) (.int .u64 s) (.int .u8 k) (.slice ya ml yc) := ⟨c0, c1, c2, c3⟩
  clear hS1
  go_wp2_with fail
  refine hah.mono ?_
  rintro o w2 ⟨A, rfl, hA, hb2⟩
  clear c0 c1 c2 c3
  have HA : Hid (∀ r, r < 8 → PredT ts e r (A r)) := hA
  have HB2 : Hid (Below w.heap.size w w2) := bsplit HB1.out hb2
  have hba := below_box4 w2 (.cells #[ndP l ts (A 0), ndP l ts (A 1), ndP l ts (A 2), ndP l ts (A 3), ndP l ts (A 4), ndP l ts (A 5), ndP l ts (A 6), ndP l ts (A 7)] 65)
  have AR2 := arr8_of w2 (ndP l ts (A 0)) (ndP l ts (A 1)) (ndP l ts (A 2)) (ndP l ts (A 3)) (ndP l ts (A 4)) (ndP l ts (A 5)) (ndP l ts (A 6)) (ndP l ts (A 7)) 65 (fun r => ndP l ts (A r)) rfl rfl rfl rfl rfl rfl rfl rfl
  have B2 := (B1.below hb2 (Nat.le_refl _)).below hba (Nat.le_refl _)
  obtain ⟨W, hW⟩ : ∃ W, w2.alloc (.cells #[ndP l ts (A 0), ndP l ts (A 1), ndP l ts (A 2), ndP l ts (A 3), ndP l ts (A 4), ndP l ts (A 5), ndP l ts (A 6), ndP l ts (A 7)] 65) = W := ⟨_, rfl⟩
  obtain ⟨ab, hab⟩ : ∃ b, w2.heap.size = b := ⟨_, rfl⟩
  rw [hW] at hba AR2 B2
  rw [hab] at AR2
  have HBW : Hid (Below w.heap.size w W) := bsplit HB2.out hba
  have hSW := HS.out.below HBW.out
  have hP0 := hA 0 (by omega)
  have hcnt := hP0.cnt HS.out.ht
  have hany := any_at hP0 HS.out.ht HS.out.ris
  have a0 := AR2.cel 0 (by omega)
  have n0 := (hSW.nod (A 0) hP0.le).cel 0 (by omega)
  rw [if_pos hP0.hi, fst_low HS.out.ht, Nat.add_zero] at n0
  have HAR : Hid (Arr8 W ab (fun r => ndP l ts (A r))) := AR2
  have HABN : Hid (ab ≠ w.heap.size ∧ w.heap.size < ab ∧ ab < W.heap.size) := ⟨by have := (B1.below hb2 (Nat.le_refl _)).lt; omega, by have := (B1.below hb2 (Nat.le_refl _)).lt; omega, AR2.lt⟩
  clear hah hA hb2 hba B1 AR2
  obtain ⟨AY, hAY⟩ : ∃ r, anyE (esT ts) e = r := ⟨_, rfl⟩
  have HAY : Hid (anyE (esT ts) e = AY) := hAY
  rw [hAY] at hany
  have HANY : Hid (AY = true ↔ ∃ hc : A 0 < ts.length, cmpE ts[A 0].e e = 0) := hany
  have HCNT : Hid (cntE (esT ts) e = A 0) := hcnt
  have HB2h : Hid (Box4 W w.heap.size (.slice xa nl xc) (.int .u64 s) (.int .u8 k) (.slice ya ml yc)) := B2
  have HSW : Hid (SkAt W l ts) := hSW
  obtain ⟨cc, hcc⟩ : ∃ z, nb l ts (A 0) = z := ⟨_, rfl⟩
  have a0' : W.cell? ⟨ab, 0, none⟩ = some (.pointer (some ⟨cc, 0, none⟩)) := by rw [a0]; show some (Value.pointer (some ⟨nb l ts (A 0), 0, none⟩)) = _; rw [hcc]
  rw [hcc] at n0
  obtain ⟨nx, hnx⟩ : ∃ v, ptrT ((ts[A 0]?).map (·.b)) = v := ⟨_, rfl⟩
  rw [hnx] at n0
  have HNX : Hid (ptrT ((ts[A 0]?).map (·.b)) = nx) := hnx
  have HCC : Hid (nb l ts (A 0) = cc) := hcc
  clear a0 hAY hany hcnt hSW hP0 hnx hcc B2
  go_upto_region 8 with fail
  clear hW a0' n0
  go_cut [42] (fun bv wx => bv = .bool AY ∧ Hid (Below W.heap.size W wx))
  case first =>
    by_cases hlt : A 0 < ts.length
    · obtain ⟨t, ht⟩ : ∃ t, ts[A 0] = t := ⟨_, rfl⟩
      obtain ⟨tq, htq⟩ : ∃ z, t.b = z := ⟨_, rfl⟩
      have hnx : nx = .pointer (some ⟨tq, 0, none⟩) := by rw [← HNX.out, List.getElem?_eq_getElem hlt, ht, ← htq]; rfl
      subst hnx
      have hent := HSW.out.ent t (by rw [← ht]; exact List.getElem_mem hlt)
      obtain ⟨⟨c0, c1, c2, c3⟩, rx, ry⟩ := hent
      obtain ⟨x1, x2, ex⟩ := rx.len
      rw [ex] at c0 rx
      obtain ⟨tn, htn⟩ : ∃ z, t.e.1.length = z := ⟨_, rfl⟩
      obtain ⟨sq, hsq⟩ : ∃ z : Int, (t.e.2.1 : Int) = z := ⟨_, rfl⟩
      obtain ⟨ek, hek⟩ : ∃ z : Int, (t.e.2.2.1.toNat : Int) = z := ⟨_, rfl⟩
      rw [htq] at c0 c1 c2
      rw [htn] at c0 rx
      rw [hsq] at c1
      rw [hek] at c2
      obtain ⟨cr, hcr⟩ : ∃ r, cmpE t.e e = r := ⟨_, rfl⟩
      have hcm := compare_any W.drew (.slice x1 tn x2) (.slice xa nl xc) t.e.1 e.1 sq ek s k cr rx.drew (HX.out.1.below HBW.out (Nat.le_refl _)).drew (by rw [← hcr, ← hsq, ← hek, ← HE.out.1, ← HE.out.2.1]; rfl)
      have HAE : Hid (AY = true ↔ cr = 0) := ⟨fun h => by obtain ⟨_, h2⟩ := HANY.out.1 h; rw [ht, hcr] at h2; exact h2, fun h => HANY.out.2 ⟨hlt, by rw [ht, hcr]; exact h⟩⟩
      obtain ⟨b0, b1, b2, b3⟩ := HB2h.out
      have A0 : Box3 W.drew tq (.slice x1 tn x2) (.int .u64 sq) (.int .u8 ek) := ⟨c0, c1, c2⟩
      have E0 := HB2h.out.drew
      clear rx ry ex htn hsq hek hcr ht htq c3 hlt
      go_region_held3 (fun w' => (w'.cell? ⟨tq, 0, none⟩ = some (.slice x1 tn x2) ∧ w'.cell? ⟨tq, 1, none⟩ = some (.int .u64 sq) ∧ w'.cell? ⟨tq, 2, none⟩ = some (.int .u8 ek)) ∧ (w'.cell? ⟨w.heap.size, 0, none⟩ = some (.slice xa nl xc) ∧ w'.cell? ⟨w.heap.size, 1, none⟩ = some (.int .u64 s) ∧ w'.cell? ⟨w.heap.size, 2, none⟩ = some (.int .u8 k)))
        (first | with_reducible exact ⟨⟨A6.c0, A6.c1, A6.c2⟩, ⟨E6.c0, E6.c1, E6.c2⟩⟩ | exact ⟨⟨A0.c0, A0.c1, A0.c2⟩, ⟨E0.c0, E0.c1, E0.c2⟩⟩)
        (first
          | (go_at_call 33; refine hcm.mono ?_; rintro o w6 ⟨rfl, hb6⟩
             have A6 := A0.below hb6
             have E6 := E0.below hb6 (Nat.le_refl _)
             have HB6 : Hid (Below W.heap.size W w6) := bsplit (Below.refl _ _).drew hb6
             clear hcm hb6)
          | fail)
      go_wp2_with fail
      go_meet
      refine ⟨?_, HB6⟩
      congr 1
      rw [Bool.eq_iff_iff, HAE.out]
      simp
    · have hnx : nx = .pointer none := by rw [← HNX.out, List.getElem?_eq_none (by omega)]; rfl
      subst hnx
      have HF : Hid (AY = false) := by
        show AY = false
        cases ha : AY with
        | false => rfl
        | true => obtain ⟨h1, _⟩ := HANY.out.1 ha; exact absurd h1 hlt
      clear hlt
      go_quiet (fail)
      go_wp2_with fail
      go_meet
      exact ⟨by rw [HF.out], below_drewN (Below.refl _ _) _⟩
  case rest =>
    obtain ⟨rfl, HBX⟩ := hcut
    have HBWX : Hid (Below w.heap.size w wc) := bsplit HBW.out HBX.out
    cases AY with
    | true =>
      go_wp2
      go_ret
      exact .inr (.inl ⟨HC.out, HAY.out, rfl, HBWX.out⟩)
    | false =>
      have hap := skapart_any wc (.slice xa nl xc) (.slice ya ml yc) e.1 e.2.2.2 s k (HX.out.1.below HBWX.out (Nat.le_refl _)) (HX.out.2.below HBWX.out (Nat.le_refl _)) HLL.out.1 HLL.out.2
      obtain ⟨b0, b1, b2, b3⟩ := HB2h.out.below HBX.out (Nat.le_refl _)
      go_wp2_with fail
      refine hap.mono ?_
      rintro o w4 ⟨x, y, rfl, rx, ry, lb, hb4⟩
      obtain ⟨x2, xc2, ex⟩ := rx.1.len
      obtain ⟨y2, yc2, ey⟩ := ry.1.len
      rw [HE.out.2.2.1] at ex
      rw [HE.out.2.2.2] at ey
      subst ex ey
      have HXY : Hid ((Rd w4 (.slice x2 nl xc2) e.1 ∧ From (wc.heap.size + 2) (.slice x2 nl xc2)) ∧ (Rd w4 (.slice y2 ml yc2) e.2.2.2 ∧ From (wc.heap.size + 2) (.slice y2 ml yc2)) ∧ (LtB w4 (.slice x2 nl xc2) ∧ LtB w4 (.slice y2 ml yc2))) := ⟨rx, ry, lb⟩
      have HB4 : Hid (Below w.heap.size w w4) := bsplit HBWX.out hb4
      have hbt := below_box4 w4 (.cells #[.slice x2 nl xc2, .int .u64 s, .int .u8 k, .slice y2 ml yc2, .pointer none, .pointer none, .pointer none, .pointer none, .pointer none, .pointer none, .pointer none, .pointer none] 67)
      have hnw := heap_alloc_new w4 (.cells #[.slice x2 nl xc2, .int .u64 s, .int .u8 k, .slice y2 ml yc2, .pointer none, .pointer none, .pointer none, .pointer none, .pointer none, .pointer none, .pointer none, .pointer none] 67)
      have ht4 : Box4 (w4.alloc (.cells #[.slice x2 nl xc2, .int .u64 s, .int .u8 k, .slice y2 ml yc2, .pointer none, .pointer none, .pointer none, .pointer none, .pointer none, .pointer none, .pointer none, .pointer none] 67)) w4.heap.size (.slice x2 nl xc2) (.int .u64 s) (.int .u8 k) (.slice y2 ml yc2) := by
        have c := fun i => cell_of_row (w4.alloc (.cells #[.slice x2 nl xc2, .int .u64 s, .int .u8 k, .slice y2 ml yc2, .pointer none, .pointer none, .pointer none, .pointer none, .pointer none, .pointer none, .pointer none, .pointer none] 67)) w4.heap.size i _ _ (0, 0) hnw
        exact ⟨(c 0).trans rfl, (c 1).trans rfl, (c 2).trans rfl, (c 3).trans rfl⟩
      have htc : ∀ r, r < 8 → (w4.alloc (.cells #[.slice x2 nl xc2, .int .u64 s, .int .u8 k, .slice y2 ml yc2, .pointer none, .pointer none, .pointer none, .pointer none, .pointer none, .pointer none, .pointer none, .pointer none] 67)).cell? ⟨w4.heap.size, 4 + r, none⟩ = some (.pointer none) := fun r hr => by
        have c := cell_of_row (w4.alloc (.cells #[.slice x2 nl xc2, .int .u64 s, .int .u8 k, .slice y2 ml yc2, .pointer none, .pointer none, .pointer none, .pointer none, .pointer none, .pointer none, .pointer none, .pointer none] 67)) w4.heap.size (4 + r) _ _ (0, 0) hnw
        have : r = 0 ∨ r = 1 ∨ r = 2 ∨ r = 3 ∨ r = 4 ∨ r = 5 ∨ r = 6 ∨ r = 7 := by omega
        rcases this with rfl | rfl | rfl | rfl | rfl | rfl | rfl | rfl <;> exact c.trans rfl
      have htz : ∀ r, r < 8 → (w4.alloc (.cells #[.slice x2 nl xc2, .int .u64 s, .int .u8 k, .slice y2 ml yc2, .pointer none, .pointer none, .pointer none, .pointer none, .pointer none, .pointer none, .pointer none, .pointer none] 67)).frozen? ⟨w4.heap.size, 4 + r, none⟩ = false := fun r hr => frozen_of_row _ w4.heap.size (4 + r) _ _ hnw
      obtain ⟨w5, hw5⟩ : ∃ V, w4.alloc (.cells #[.slice x2 nl xc2, .int .u64 s, .int .u8 k, .slice y2 ml yc2, .pointer none, .pointer none, .pointer none, .pointer none, .pointer none, .pointer none, .pointer none, .pointer none] 67) = V := ⟨_, rfl⟩
      obtain ⟨tb, htb⟩ : ∃ z, w4.heap.size = z := ⟨_, rfl⟩
      rw [hw5] at hbt hnw ht4 htc htz
      rw [htb] at hnw ht4 htc htz
      have HB5 : Hid (Below w.heap.size w w5) := bsplit HB4.out hbt
      have HS5 : Hid (SkAt w5 l ts) := HS.out.below HB5.out
      have HTB : Hid (w.heap.size ≤ tb ∧ ab < tb ∧ (∀ a, a ≤ ts.length → nb l ts a < w.heap.size)) := by
        refine ⟨by rw [← htb]; exact HB4.out.size, ?_, fun a ha => (HS.out.nod a ha).lt⟩
        have := HABN.out.2.2
        have := HBX.out.size
        have := hb4.size
        omega
      have HAR5 : Hid (∀ r, r < 8 → w5.cell? ⟨ab, r, none⟩ = some (ndP l ts (A r))) := fun r hr => (((HAR.out.below HBX.out).below hb4).below hbt).cel r hr
      have HI0 : Hid (InsI w5 w5 l tb ts A 0) := ⟨Keeps.refl _ _, fun a ha r hr => by rw [if_neg (by omega)], fun a ha r hr => (HS5.out.nod a ha).frz r hr, fun a ha i hi => rfl, fun a ha => (HS5.out.nod a ha).blk, fun r hr => by rw [if_neg (by omega)]; exact htc r hr, htz, fun i hi => rfl, ⟨_, _, hnw⟩⟩
      have HT4 : Hid (Box4 w5 tb (.slice x2 nl xc2) (.int .u64 s) (.int .u8 k) (.slice y2 ml yc2)) := ht4
      have HXY5 : Hid (Rd w5 (.slice x2 nl xc2) e.1 ∧ Rd w5 (.slice y2 ml yc2) e.2.2.2 ∧ LtB w5 (.slice x2 nl xc2) ∧ LtB w5 (.slice y2 ml yc2)) := ⟨rx.1.below hbt (Nat.le_refl _), ry.1.below hbt (Nat.le_refl _), lb.1.grow hbt.size, lb.2.grow hbt.size⟩
      have HTL : Hid (w4.heap.size = tb) := htb
      obtain ⟨hh1, hh8⟩ := chkSk_ok HC.out
      obtain ⟨hn, rfl⟩ : ∃ n : Nat, hh = (n : Int) := ⟨hh.toNat, by omega⟩
      have hn8 : hn ≤ 8 := by omega
      have hn1 : 1 ≤ hn := by omega
      clear hap hb4 rx ry lb hbt hnw ht4 htc htz b0 b1 b2 b3
      go_wp2_with fail
      clear hw5 htb
      go_loopg [48] hn (fun gk iv wr => ∃ j : Nat, gk + j = hn ∧ iv = .int .i64 (j : Int) ∧ Hid (InsI w5 wr l tb ts A j))
      case atStart => exact ⟨0, by omega, rfl, HI0⟩
      case round =>
        obtain ⟨j, hj, rfl, HI⟩ := hrel
        by_cases hlt : j < hn
        · obtain ⟨q1, q2⟩ := gk_nxt hj hlt
          have hPj := HA.out j (by omega)
          have a1 : wr.cell? ⟨ab, j, none⟩ = some (ndP l ts (A j)) := HI.out.kp.cell (p := ⟨ab, j, none⟩) (by
            rintro (⟨a, ha, he⟩ | he)
            · have h1 := HTB.out.2.2 a ha
              have h2 := HABN.out.2.1
              have : ab = nb l ts a := he
              omega
            · have h1 := HTB.out.2.1
              have : ab = tb := he
              omega) (HAR5.out j (by omega))
          have hc5 := (HS5.out.nod (A j) hPj.le).cel j (by omega)
          rw [if_pos hPj.hi] at hc5
          have n1 := HI.out.nc (A j) hPj.le j (by omega)
          rw [if_neg (by omega), hc5] at n1
          have z1 := HI.out.nz (A j) hPj.le j (by omega)
          have t1 := HI.out.tc j (by omega)
          rw [if_neg (by omega)] at t1
          have y1 := HI.out.tz j (by omega)
          have HST : Hid (InsI w5 ((wr.setCell ⟨tb, 4 + j, none⟩ (ptrT (fstT (ts.drop (A j)) j))).setCell ⟨nb l ts (A j), 4 + j, none⟩ (ptrT (some tb))) l tb ts A (j + 1)) := HI.out.step HS5.out (by omega) hPj.le (fun a ha e => by have h1 := HTB.out.2.2 a ha; have h2 := HTB.out.1; omega) hc5
          have e1 : ¬ ab = tb := by have := HTB.out.2.1; omega
          have e2 : ¬ nb l ts (A j) = tb := by have h1 := HTB.out.2.2 (A j) hPj.le; have h2 := HTB.out.1; omega
          obtain ⟨na, hna⟩ : ∃ z, nb l ts (A j) = z := ⟨_, rfl⟩
          have a1' : wr.cell? ⟨ab, j, none⟩ = some (.pointer (some ⟨na, 0, none⟩)) := by rw [a1, ← hna]
          rw [hna] at n1 z1 HST e2
          have j0 : (0 : Int) ≤ (j : Int) := by omega
          have j8 : (j : Int) < 8 := by omega
          have jn : (j : Int) < (hn : Int) := by omega
          clear a1 hc5 hPj hna
          cases hfs : fstT (ts.drop (A j)) j with
          | none =>
            rw [hfs] at n1 HST
            simp only [ptrT] at n1 HST
            clear hfs
            go_wp2_with fail
            go_region
            go_wp2_with fail
            go_roundg (gk - 1)
            case measure => exact q1
            case rel => exact ⟨j + 1, q2, by go_num, HST.out.drew⟩
          | some fb =>
            rw [hfs] at n1 HST
            simp only [ptrT] at n1 HST
            clear hfs
            go_wp2_with fail
            go_region
            go_wp2_with fail
            go_roundg (gk - 1)
            case measure => exact q1
            case rel => exact ⟨j + 1, q2, by go_num, HST.out.drew⟩
        · have hjn : j = hn := by omega
          subst hjn
          have hni : ¬ (j : Int) < (j : Int) := by omega
          have HFIN : Hid (SkAt wr l (insT ts (A 0) ⟨tb, .slice x2 nl xc2, .slice y2 ml yc2, e, j⟩)) := by
            have kp := HI.out.kp
            have hnode : ∀ a, a ≤ ts.length → tb ≠ nb l ts a := fun a ha e => by have h1 := HTB.out.2.2 a ha; have h2 := HTB.out.1; omega
            have hfx : ∀ {v : Value}, From (wc.heap.size + 2) v → ∀ a, a ≤ ts.length → ∀ q, v.ownBlock = some q → q ≠ nb l ts a := fun {v} hf a ha => from_ne hf (by have h1 := HTB.out.2.2 a ha; have h2 := HBWX.out.size; omega)
            have hlx : ∀ {v : Value}, LtB w4 v → ∀ q, v.ownBlock = some q → q ≠ tb := fun {v} hv q hq e => by have h1 := hv q hq; rw [HTL.out] at h1; omega
            have hrd : ∀ {v : Value} {lst : List UInt8}, Rd w5 v lst → From (wc.heap.size + 2) v → LtB w4 v → Rd wr v lst := fun {v lst} hr hf hv => by
              rcases hr with hr | ⟨b, off, cap, rfl, k1, k2, k3⟩
              · exact .inl hr
              · refine .inr ⟨b, off, cap, rfl, k1, k2, fun i u hu => kp.cell (p := ⟨b, off + i, none⟩) ?_ (k3 i u hu)⟩
                rintro (⟨a, ha, he⟩ | he)
                · exact hfx hf a ha b rfl he
                · exact hlx hv b rfl he
            refine sk_insert (T := ⟨tb, .slice x2 nl xc2, .slice y2 ml yc2, e, j⟩) HS5.out HA.out ⟨hn1, hn8⟩ hnode kp HI.out.nc HI.out.nz HI.out.nk HI.out.tk (fun t ht i hi => ?_) HI.out.tc HI.out.tz ⟨⟨?_, ?_, ?_, ?_⟩, hrd HXY5.out.1 HXY.out.1.2 HXY.out.2.2.1, hrd HXY5.out.2.1 HXY.out.2.1.2 HXY.out.2.2.2⟩ (fun a ha => ⟨hfx HXY.out.1.2 a ha, hfx HXY.out.2.1.2 a ha⟩) ⟨hlx HXY.out.2.2.1, hlx HXY.out.2.2.2⟩ (fun t ht => ?_) ⟨HXY5.out.2.2.1.grow kp.size, HXY5.out.2.2.2.grow kp.size⟩ HAY.out HLEN.out
            · obtain ⟨i0, hi0, rfl⟩ := List.getElem_of_mem ht
              have h1 := HI.out.ne (i0 + 1) (by omega) i hi
              rw [nb_succ l hi0] at h1
              exact h1
            · show wr.cell? ⟨tb, 0, none⟩ = _; rw [HI.out.te 0 (by omega)]; exact HT4.out.c0
            · show wr.cell? ⟨tb, 1, none⟩ = some (.int .u64 (e.2.1 : Int)); rw [HI.out.te 1 (by omega), HE.out.1]; exact HT4.out.c1
            · show wr.cell? ⟨tb, 2, none⟩ = some (.int .u8 (e.2.2.1.toNat : Int)); rw [HI.out.te 2 (by omega), HE.out.2.1]; exact HT4.out.c2
            · show wr.cell? ⟨tb, 3, none⟩ = _; rw [HI.out.te 3 (by omega)]; exact HT4.out.c3
            · have h1 := HS.out.inn t ht
              exact ⟨fun q hq e => by have h2 := h1.1 q hq; have h3 := HTB.out.1; have e' : q = tb := e; omega, fun q hq e => by have h2 := h1.2 q hq; have h3 := HTB.out.1; have e' : q = tb := e; omega⟩
          have HKP : Hid (Keeps (fun i => ∃ a, a ≤ ts.length ∧ i = nb l ts a) w wr) := by
            have kp := HI.out.kp
            refine ⟨kp.os.trans HB5.out.os, kp.tape.trans HB5.out.tape, kp.output.trans HB5.out.output, Nat.le_trans HB5.out.size kp.size, fun i hi hno => ?_⟩
            rw [kp.block i (Nat.lt_of_lt_of_le hi HB5.out.size) (fun h => by
              rcases h with h | h
              · exact hno h
              · have h3 := HTB.out.1; omega)]
            exact HB5.out.block i hi
          go_wp2
          go_ret
          exact .inr (.inr ⟨HC.out, HAY.out, rfl, ⟨tb, .slice x2 nl xc2, .slice y2 ml yc2, e, j⟩, rfl, rfl, ⟨HTB.out.1, fun a n c e => by have h1 := HXY.out.1.2 a n c e; have h2 := HBWX.out.size; omega, fun a n c e => by have h1 := HXY.out.2.1.2 a n c e; have h2 := HBWX.out.size; omega⟩, by rw [HCNT.out]; exact HFIN.out, HKP.out⟩)

theorem skinsert_any (w : World) (l : Nat) (ts : List Tow) (xv yv : Value) (e : EnB) (hh : Int) (hS : SkAt w l ts) (hx : Rd w xv e.1) (hy : Rd w yv e.2.2.2) (hl1 : e.1.length ≤ 1000000) (hl2 : e.2.2.2.length ≤ 1000000) (hlen : ts.length + 1 ≤ 1000) :
    Calls Try.prog 13 #[.pointer (some ⟨l, 0, none⟩), enV xv (e.2.1 : Int) (e.2.2.1.toNat : Int) yv, .int .i64 hh] w fun o w' => InsPost l ts e hh w w' o :=
  (skinsert_own w l ts xv yv e hh hS hx hy hl1 hl2 hlen).mono (fun _ _ h => h.post)

end Go.Proofs.Ytekmlbbfipldoaa

/- append to a row of the call's own: the row stays where it is, or lies in a block that wasn't there. -/
namespace Go.Proofs.Ytekmlbbfipldoaa
open Go.RowKit

/-- v' lies where v lay, or in a block from n on -/
def Stays (n : Nat) (v v' : Value) : Prop := v'.ownBlock = v.ownBlock ∨ ∃ g, v'.ownBlock = some g ∧ n ≤ g

theorem run_append_new {P : Program} (w : World) (base : Nat) (t ty e : TypeId) (i : TypeInfo) (z : Value) (size bytes : Nat) (ht : P.underlying t = some (.slice e)) (hi : P.info? e = some i) (hz : i.zero = some z)
    (hsize : i.size = size) (hby : i.bytes = bytes) (hzs : z.cells.size = size) (hsz : 0 < size)
    (v : Value) (n : Nat) (xs : List Value) (hown : w.ownsRow base e size v n xs)
    (a : Addr) (m c : Nat) (news : List Value) (hl : news.length = m * size) (hnews : ∀ j u, news[j]? = some u → w.cell? (a.add j) = some u) (h1 : ∀ u ∈ news, u.oneCell' = true)
    (h63 : n + m ≤ maxLen) (hbytes : (n + m) * bytes ≤ 140737488355328) (hbase : base ≤ w.heap.size) :
    ∃ v' w', (Builtin.append_ #[t, t] ty #[v, .slice (some a) m c]).run P w = .ok v' w' ∧ w'.ownsRow base e size v' (n + m) (xs ++ news) ∧ w.grownBy w' v.ownBlock ∧
      (v' = .slice none 0 0 ↔ v = .slice none 0 0 ∧ m = 0) ∧ Stays w.heap.size v v' := by
  obtain ⟨v', w', hr, ho, hg, hn⟩ := run_append_own (P := P) w base t ty e i z size bytes ht hi hz hsize hby hzs hsz v n xs hown a m c news hl hnews h1 h63 hbytes hbase
  refine ⟨v', w', hr, ho, hg, hn, ?_⟩
  subst hsize
  subst hby
  have hsmall : n + m ≤ 9223372036854775807 := by simp only [maxLen] at h63; omega
  rcases hown.2 with ⟨rfl, rfl⟩ | ⟨g, cap, cur, rfl, hbg, hgg, hnc, hcm, hcs, htake⟩
  · by_cases hm : m = 0
    · exact .inl (by rw [hn.2 ⟨rfl, hm⟩])
    · have hr2 := run_append_nil (P := P) w t ty e i z ht hi hz a m c news hl hnews (by omega) (by omega) (by have hb := hbytes; simp only [Nat.zero_add] at hb; omega)
      rw [hr2] at hr
      simp only [Result.ok.injEq] at hr
      exact .inr ⟨w.heap.size, by rw [← hr.1]; rfl, Nat.le_refl _⟩
  · by_cases hroom : n + m ≤ cap
    · have hfit : n * i.size + news.length ≤ cur.size := by rw [hl, hcs, ← Nat.add_mul]; exact Nat.mul_le_mul_right _ hroom
      have hr2 := run_append_room (P := P) w t ty e i ht hi g n cap cur hgg a m c news hl hnews h1 hroom hfit
      rw [hr2] at hr
      simp only [Result.ok.injEq] at hr
      exact .inl (by rw [← hr.1]; rfl)
    · have holds : ∀ j u, xs[j]? = some u → w.cell? ((⟨g, 0, none⟩ : Addr).add j) = some u := hown.cells (g := g) rfl
      have hr2 := run_append_grow (P := P) w t ty e i z ht hi hz ⟨g, 0, none⟩ n cap xs hown.1 holds a m c news hl hnews (by omega) (by omega) (growslice_fits (by omega) hbytes)
      rw [hr2] at hr
      simp only [Result.ok.injEq] at hr
      exact .inr ⟨w.heap.size, by rw [← hr.1]; rfl, Nat.le_refl _⟩

theorem wpList_append_new {P : Program} (w : World) {ops : Array Oper} {rest : List Oper} {o : Oper} {a : Act} {Q : Exit → Act → World → Prop} (hgd : o.guard = none) (s x : Operand) (t : TypeId)
    (ho : o.op = .call { callee := .builtin .append, args := #[s, x], argTypes := #[t, t] })
    (base : Nat) (e : TypeId) (i : TypeInfo) (z : Value) (size bytes : Nat) (ht : P.underlying t = some (.slice e)) (hi : P.info? e = some i) (hz : i.zero = some z)
    (hsize : i.size = size) (hby : i.bytes = bytes) (hzs : z.cells.size = size) (hsz : 0 < size)
    (v : Value) (n : Nat) (xs : List Value) (hs : a.eval s = v) (hown : w.ownsRow base e size v n xs)
    (ad : Addr) (m c : Nat) (news : List Value) (hx : a.eval x = .slice (some ad) m c) (hl : news.length = m * size) (hnews : ∀ j u, news[j]? = some u → w.cell? (ad.add j) = some u) (h1 : ∀ u ∈ news, u.oneCell' = true)
    (h63 : n + m ≤ maxLen) (hbytes : (n + m) * bytes ≤ 140737488355328) (hbase : base ≤ w.heap.size)
    (h : ∀ v' w', w'.ownsRow base e size v' (n + m) (xs ++ news) → w.grownBy w' v.ownBlock → (v' = .slice none 0 0 ↔ v = .slice none 0 0 ∧ m = 0) → Stays w.heap.size v v' → wpList P ops Q rest (a.put o.dst v') w') : wpList P ops Q (o :: rest) a w := by
  refine wpList_plain hgd fun K hK => ?_
  obtain ⟨v', w', hr, h2, h3, h4, h5⟩ := run_append_new (P := P) w base t o.type e i z size bytes ht hi hz hsize hby hzs hsz v n xs hown ad m c news hl hnews h1 h63 hbytes hbase
  unfold Oper.wp execOp
  simp only [ho, resolve, invoke, builtin, Sem.run_bind, Sem.run_pure, Result.andThen_ok, List.map_toArray, List.map_cons, List.map_nil, hs, hx, hr]
  exact hK _ _ (h v' w' h2 h3 h4 h5)

end Go.Proofs.Ytekmlbbfipldoaa

/- Parts that are gathered: each in a row of its own, apart from what is wanted. -/
namespace Go.Proofs.Ytekmlbbfipldoaa
open Go.RowKit

theorem info24 : (Try.prog.info? 33).map (fun i => (i.zero, i.size, i.bytes)) = some (some (.slice none 0 0), 1, 24) := by kernel_rfl

/-- a row of slices and a row of bytes lie in two blocks -/
theorem rows_apart {w : World} {B B' n n' : Nat} {v v' : Value} {xs ys : List Value} (h : w.ownsRow B 33 1 v n xs) (h' : w.ownsRow B' 5 1 v' n' ys) : v.ownBlock = none ∨ v.ownBlock ≠ v'.ownBlock := by
  rcases h.2 with ⟨rfl, _⟩ | ⟨g, cap, cur, rfl, _, hg, _⟩
  · exact .inl rfl
  · right
    intro e
    rcases h'.2 with ⟨rfl, _⟩ | ⟨g', cap', cur', rfl, _, hg', _⟩
    · cases e
    · simp only [Value.ownBlock, Option.some.injEq] at e
      subst e
      rw [hg] at hg'
      simp at hg'

theorem rows_apart' {w : World} {B B' n n' : Nat} {v v' : Value} {xs ys : List Value} (h : w.ownsRow B 33 1 v n xs) (h' : w.ownsRow B' 5 1 v' n' ys) : v'.ownBlock = none ∨ v'.ownBlock ≠ v.ownBlock := by
  rcases rows_apart h h' with e | e
  · cases hb : v'.ownBlock with
    | none => exact .inl rfl
    | some k => right; rw [e]; intro h; cases h
  · exact .inr (fun h => e h.symm)

/-- each of the first k parts has a row of its own, apart from wv -/
def PartsOK (B : Nat) (w : World) (vs : List Value) (C : List (List UInt8)) (k : Nat) (wv : Value) : Prop :=
  ∀ j, j < k → ∃ g c l, C[j]? = some l ∧ vs[j]? = some (.slice (some ⟨g, 0, none⟩) l.length c) ∧ Own B w (.slice (some ⟨g, 0, none⟩) l.length c) l ∧ some g ≠ wv.ownBlock

theorem parts_zero (B : Nat) (w : World) (vs : List Value) (C : List (List UInt8)) (wv : Value) : PartsOK B w vs C 0 wv := fun _ h => absurd h (Nat.not_lt_zero _)

/-- behind a round: w0 the round's world, w2 behind the cut, w3 behind the parts' append, w4 behind the second cut, w5 behind the append to what is wanted -/
theorem parts_step {B k : Nat} {w0 w2 w3 w4 w5 : World} {vs : List Value} {C : List (List UInt8)} {pv wv wv' : Value} {c : List UInt8} {gc kc : Nat} {ps : List Value} {W : List UInt8} {n0 : Nat}
    (hp : PartsOK B w0 vs C k wv) (hvs : vs.length = k) (hC : C[k]? = some c) (hpv : w0.ownsRow B 33 1 pv n0 ps) (hwv : w0.ownsRow B 5 1 wv W.length (bv W))
    (oc : Own w0.heap.size w2 (.slice (some ⟨gc, 0, none⟩) c.length kc) c) (hb2 : Below w0.heap.size w0 w2) (hBs : B ≤ w0.heap.size)
    (hgr3 : (w2.alloc (.cells #[.slice (some ⟨gc, 0, none⟩) c.length kc] 33)).grownBy w3 pv.ownBlock)
    (hb4 : Below w3.heap.size w3 w4) (hgr5 : w4.grownBy w5 wv.ownBlock) (hst : Stays w4.heap.size wv wv') :
    PartsOK B w5 (vs ++ [.slice (some ⟨gc, 0, none⟩) c.length kc]) C (k + 1) wv' := by
  have hs2 := hb2.size
  have hs3 : w2.heap.size + 1 ≤ w3.heap.size := by have := hgr3.size; simpa using this
  have hs4 := hb4.size
  have hwlt : ∀ q, wv.ownBlock = some q → q < w0.heap.size := fun q hq => (hwv.lt q hq).2
  have hnew : ∀ g, g < w4.heap.size → some g ≠ wv.ownBlock → some g ≠ wv'.ownBlock := by
    intro g hg hne
    rcases hst with e | ⟨q, e, hq⟩
    · rw [e]; exact hne
    · rw [e]; intro h; simp only [Option.some.injEq] at h; omega
  -- a row of bytes of world w2 lives on
  have live : ∀ (g n q : Nat) (l : List UInt8), Own B w2 (.slice (some ⟨g, 0, none⟩) n q) l → some g ≠ wv.ownBlock → Own B w5 (.slice (some ⟨g, 0, none⟩) n q) l ∧ g < w4.heap.size := by
    intro g n q l ho hne
    have ha : Own B (w2.alloc (.cells #[.slice (some ⟨gc, 0, none⟩) c.length kc] 33)) (.slice (some ⟨g, 0, none⟩) n q) l := ho.below ((Below.refl _ _).alloc (Nat.le_refl _) _) (Nat.le_refl _)
    have hpv2 : (w2.alloc (.cells #[.slice (some ⟨gc, 0, none⟩) c.length kc] 33)).ownsRow B 33 1 pv n0 ps := by
      have hgg : w0.grownBy w2 none := ⟨hb2.os, hb2.tape, hb2.output, hb2.size, fun i hi _ => hb2.block i hi⟩
      exact (hpv.kept hgg (by cases pv.ownBlock <;> simp)).alloc _
    have hne3 : some g ≠ pv.ownBlock := by
      rcases rows_apart hpv2 ha.row with e | e
      · rw [e]; simp
      · exact fun h => e h.symm
    have h3 := own_kept ha hgr3 hne3
    have h4 := h3.below hb4 (Nat.le_refl _)
    exact ⟨own_kept h4 hgr5 hne, h4.row.lt g rfl |>.2⟩
  intro j hj
  by_cases hjk : j < k
  · obtain ⟨g, q, l, e1, e2, ho, hne⟩ := hp j hjk
    have hl := live g _ q l (ho.below hb2 (Nat.le_refl _)) hne
    refine ⟨g, q, l, e1, ?_, hl.1, hnew g hl.2 hne⟩
    rw [List.getElem?_append_left (by omega)]; exact e2
  · have hje : j = k := by omega
    subst hje
    have hgc := oc.row.lt gc rfl
    have hne : some gc ≠ wv.ownBlock := by
      intro h
      have := hwlt gc h.symm
      omega
    have hl := live gc _ kc c (oc.mono hBs) hne
    refine ⟨gc, kc, c, hC, ?_, hl.1, hnew gc hl.2 hne⟩
    rw [List.getElem?_append_right (by omega), hvs]; simp

/-- the parts' own row, and what is wanted, behind a round -/
theorem parts_rows {B n0 m0 : Nat} {w3 w4 w5 : World} {pv' wv : Value} {ps : List Value} {W : List UInt8} (hp : w3.ownsRow B 33 1 pv' n0 ps) (hw : w3.ownsRow B 5 1 wv m0 (bv W))
    (hb4 : Below w3.heap.size w3 w4) (hgr5 : w4.grownBy w5 wv.ownBlock) : w5.ownsRow B 33 1 pv' n0 ps := by
  have hgg : w3.grownBy w4 none := ⟨hb4.os, hb4.tape, hb4.output, hb4.size, fun i hi _ => hb4.block i hi⟩
  have h4 := hp.kept hgg (by cases pv'.ownBlock <;> simp)
  have hw4 := hw.kept hgg (by cases wv.ownBlock <;> simp)
  exact h4.kept hgr5 (rows_apart h4 hw4)

end Go.Proofs.Ytekmlbbfipldoaa

/- Bytes of one's own are turned. -/
namespace Go.Proofs.Ytekmlbbfipldoaa
open Go.RowKit

/-- block g begins with n bytes, whichever -/
def U8 (w : World) (g n : Nat) : Prop := ∃ (cur : Array Value) (l : List UInt8), w.heap[g]? = some (.cells cur 5 (0, 0)) ∧ l.length = n ∧ cur.toList.take n = bv l ∧ n ≤ cur.size

theorem bv_set (l : List UInt8) (i : Nat) (b : UInt8) : (bv l).set i (.int .u8 (b.toNat : Int)) = bv (l.set i b) := by simp [bv, List.map_set]

theorem u8_set {w : World} {g n : Nat} (h : U8 w g n) (g' i : Nat) (b : UInt8) : U8 (w.setCell ⟨g', i, none⟩ (.int .u8 (b.toNat : Int))) g n := by
  obtain ⟨cur, l, hg, hl, ht, hn⟩ := h
  by_cases e : g = g'
  · subst e
    refine ⟨_, l.set i b, heap_setCell_same w g i cur 5 _ hg, by simpa using hl, ?_, by simpa using hn⟩
    rw [Array.toList_setIfInBounds, List.take_set, ht, bv_set]
  · exact ⟨cur, l, by rw [Below.heap_setCell _ _ _ _ (by simpa using e)]; exact hg, hl, ht, hn⟩

theorem u8_cell {w : World} {g n : Nat} (h : U8 w g n) (i : Nat) (hi : i < n) : ∃ b : UInt8, w.cell? ⟨g, i, none⟩ = some (.int .u8 (b.toNat : Int)) ∧ w.frozen? ⟨g, i, none⟩ = false := by
  obtain ⟨cur, l, hg, hl, ht, hn⟩ := h
  refine ⟨l[i]'(by omega), ?_, frozen_of_row w g i cur 5 hg⟩
  rw [cell_of_row w g i cur 5 (0, 0) hg]
  have h1 : (cur.toList.take n)[i]? = some (.int .u8 ((l[i]'(by omega)).toNat : Int)) := by rw [ht]; exact bv_get l i (by omega)
  rw [List.getElem?_take, if_pos hi] at h1
  simpa using h1

theorem u8_of_own {B : Nat} {w : World} {g n c : Nat} {l : List UInt8} (h : Own B w (.slice (some ⟨g, 0, none⟩) n c) l) : U8 w g n ∧ n ≤ c ∧ c ≤ maxLen ∧ B ≤ g := by
  obtain ⟨g', cap, cur, e, hB, hh, h1, h2, h3, h4⟩ := h
  simp only [Value.slice.injEq, Option.some.injEq, Addr.mk.injEq, and_true] at e
  obtain ⟨rfl, rfl, rfl⟩ := e
  exact ⟨⟨cur, l, hh, rfl, h4, by omega⟩, h1, h2, hB⟩

theorem u8_below {w w' : World} {g n : Nat} (h : U8 w g n) (hb : Below w.heap.size w w') : U8 w' g n := by
  obtain ⟨cur, l, hg, r⟩ := h
  exact ⟨cur, l, by rw [hb.block g (Array.getElem?_eq_some_iff.1 hg).1]; exact hg, r⟩

theorem rd_set {w : World} {v : Value} {l : List UInt8} {g i : Nat} {u : Value} (h : Rd w v l) (hne : some g ≠ v.ownBlock) : Rd (w.setCell ⟨g, i, none⟩ u) v l := by
  rcases h with h | ⟨b, off, cap, rfl, h1, h2, h3⟩
  · exact .inl h
  · refine .inr ⟨b, off, cap, rfl, h1, h2, fun j x hx => ?_⟩
    have hb : b ≠ g := fun e => hne (by rw [e]; rfl)
    rw [World.cell?_of_block (w := w) (a := ⟨b, off + j, none⟩) (Below.heap_setCell _ _ _ _ (by simpa using hb))]
    exact h3 j x hx

theorem row_set {w : World} {B n g i m : Nat} {v u : Value} {xs : List Value} (h : w.ownsRow B 33 1 v n xs) (hu : U8 w g m) : (w.setCell ⟨g, i, none⟩ u).ownsRow B 33 1 v n xs := by
  rcases h with ⟨h1, h2⟩
  refine ⟨h1, ?_⟩
  rcases h2 with h2 | ⟨q, cap, cur, rfl, hB, hq, r⟩
  · exact .inl h2
  · refine .inr ⟨q, cap, cur, rfl, hB, ?_, r⟩
    have hne : q ≠ g := by
      rintro rfl
      obtain ⟨cur', l, hg, _⟩ := hu
      rw [hq] at hg
      simp at hg
    rw [Below.heap_setCell _ _ _ _ (by simpa using hne)]
    exact hq

/-- what holds while the parts are turned -/
def Inv (B m : Nat) (w : World) (vs : List Value) (pv wv : Value) : Prop :=
  ∀ j, j < m → ∃ g c n, vs[j]? = some (.slice (some ⟨g, 0, none⟩) n c) ∧ n ≤ 100 ∧ n ≤ c ∧ c ≤ maxLen ∧ U8 w g n ∧ some g ≠ pv.ownBlock ∧ some g ≠ wv.ownBlock ∧ B ≤ g

theorem inv_set {B m : Nat} {w : World} {vs : List Value} {pv wv : Value} (h : Inv B m w vs pv wv) (g i : Nat) (b : UInt8) : Inv B m (w.setCell ⟨g, i, none⟩ (.int .u8 (b.toNat : Int))) vs pv wv := by
  intro j hj
  obtain ⟨g', c, n, e, h1, h2, h3, h4, h5, h6, h7⟩ := h j hj
  exact ⟨g', c, n, e, h1, h2, h3, u8_set h4 g i b, h5, h6, h7⟩

theorem xor_one (b : UInt8) : Value.int .u8 (bits BinOp.xor IntKind.u8 (b.toNat : Int) 1) = .int .u8 ((b ^^^ 1).toNat : Int) := by
  have h := u8_xor_nat b.toNat 1 b.toNat_lt (by omega)
  have e : ((1 : Nat) : Int) = 1 := rfl
  rw [e] at h
  rw [h]
  congr 1

end Go.Proofs.Ytekmlbbfipldoaa
