/- Several texts in one. -/
import Derived.Test.YtgkgdbdapkgkgaaGrpS
import Derived.Maps.OwnSet
import Derived.RangeFuncBox
import Derived.OpenShut
import Derived.RangeFuncKeeps
import Derived.Shelf.SlIterI.Stops
import Derived.RangeFuncNested
import Derived.RangeFuncLeaves
import Derived.Maps.AppendAt
import Derived.Maps.RangeWalk
import Derived.ArgAppend
import Derived.Deep.CutBlock

/- set.Of, Add: a set of numbers. -/
namespace Go.Proofs.Ytgkgdbdapkgkgaa
set_option maxRecDepth 20000
open Go.RowKit Go.Maps
set_option linter.unusedVariables false
set_option linter.unusedSimpArgs false

def litU (n : Nat) : Lit := .int .u64 (n : Int)

/-- a set of numbers in memory: those of a list -/
def MapU (w : World) (b : Nat) (xs : List Nat) : Prop := w.ownsMap Try.prog 30 (unitElem (H := Unit)) b xs.length (setOf (.agg []) (xs.map litU))

theorem keyU {n : Nat} (h : n < 18446744073709551616) : keyOf Try.prog 30 (.int .u64 (n : Int)) = some (litU n) :=
  keyOf_int_mk Try.underlying30 (WalkArith.wf_u64 (by omega))

theorem MapU.below {w w' : World} {b : Nat} {xs : List Nat} (h : MapU w b xs) (hb : Below w.heap.size w w') : MapU w' b xs := by
  have hlt := World.ownsMap.lt h
  obtain ⟨es, clock, hb2, r⟩ := h
  exact ⟨es, clock, by rw [hb.block b hlt]; exact hb2, r⟩

theorem setadd_any (w : World) (b a : Nat) (xs : List Nat) (n : Nat) (hm : MapU w b xs) (hc : w.cell? ⟨a, 0, none⟩ = some (.int .u64 (n : Int))) (hn : n < 18446744073709551616) (hl : xs.length ≤ 1000000) :
    Calls Try.prog 30 #[.map (some b), .slice (some ⟨a, 0, none⟩) 1 1] w fun e w' => e = .returned (.tuple #[]) ∧ MapU w' b (xs ++ [n]) ∧ w.grownBy w' (some b) := by
  have HM : Hid (MapU w b xs) := hm
  have HK : Hid (keyOf Try.prog 30 (.int .u64 (n : Int)) = some (litU n)) := keyU hn
  have HL : Hid (xs.length ≤ 1000000) := hl
  have HC : Hid (w.cell? ⟨a, 0, none⟩ = some (.int .u64 (n : Int))) := hc
  clear hm hn hl hc
  go_enter Try.func30, Try.ntmps30
  go_wp2_with fail
  go_loopg [8] 1 (fun gk iv wr => ∃ j : Nat, gk + j = 1 ∧ iv = .int .i64 (j : Int) ∧ Hid (j = 0 → wr = w) ∧ Hid (j = 1 → MapU wr b (xs ++ [n]) ∧ w.grownBy wr (some b)))
  case atStart => exact ⟨0, by omega, rfl, fun _ => rfl, fun h => by omega⟩
  case round =>
    obtain ⟨j, hj, rfl, H0, H1⟩ := hrel
    by_cases hlt : j < 1
    · have hj0 : j = 0 := by omega
      subst hj0
      have hw := H0.out rfl
      subst hw
      have hc := HC.out
      have hgk : gk = 1 := by omega
      subst hgk
      clear H0 H1
      go_wp2_with (first | (at_mapUpdate; refine wpList_mapUpdate_own _ rfl _ _ _ 56 rfl 30 68 (int_keyed Try.underlying30) Try.underlying56 _ b xs.length _ rfl HM.out (by have := HL.out; unfold maxLen; omega) _ _ _ rfl rfl HK.out (.agg []) [] unitElem_mk ?_; intro w5 hown5 hgrow5) | fail)
      have HF : Hid (MapU w5 b (xs ++ [n]) ∧ wr.grownBy w5 (some b)) := by
        refine ⟨?_, hgrow5⟩
        unfold MapU
        rw [List.map_append, List.length_append]
        simp only [List.map_cons, List.map_nil]
        rw [setOf_snoc]
        exact hown5
      clear hown5 hgrow5
      go_roundg 0
      case measure => omega
      case rel => exact ⟨1, by omega, by go_num, fun h => by omega, fun _ => HF.out⟩
    · have hj1 : j = 1 := by omega
      subst hj1
      have HF := H1.out rfl
      have HF2 : Hid (MapU wr b (xs ++ [n]) ∧ w.grownBy wr (some b)) := HF
      clear HF
      go_wp2
      refine bodyPost_end (results_none Try.results30 _ _ _) rfl ?_
      exact ⟨rfl, HF2.out.1, HF2.out.2⟩

theorem setof_any (w : World) : Calls Try.prog 27 #[.slice none 0 0] w fun e w' => e = .returned (.map (some w.heap.size)) ∧ MapU w' w.heap.size [] ∧ Below w.heap.size w w' := by
  have hmk : ∀ w : World, (Instr.makeMap 56 none).run Try.prog w = .ok (.map (some w.heap.size)) (w.alloc (.map #[] 0)) := fun w => run_makeMap _ w
  have hadd : ∀ W : World, ∀ b, Calls Try.prog 30 #[.map (some b), .slice none 0 0] W fun e w' => e = .returned (.tuple #[]) ∧ w' = W := by
    intro W b
    go_enter Try.func30, Try.ntmps30
    go_wp2_with fail
    go_loopg [8] 0 (fun gk iv wr => iv = .int .i64 0 ∧ wr = W)
    case atStart => exact ⟨rfl, rfl⟩
    case round =>
      obtain ⟨rfl, rfl⟩ := hrel
      go_wp2
      refine bodyPost_end (results_none Try.results30 _ _ _) rfl ?_
      exact ⟨rfl, rfl⟩
  have hh := hadd (w.alloc (.map #[] 0)) w.heap.size
  have HM : Hid (MapU (w.alloc (.map #[] 0)) w.heap.size [] ∧ Below w.heap.size w (w.alloc (.map #[] 0))) := ⟨World.ownsMap_made _ _ _ _, below_box4 w _⟩
  clear hadd
  go_enter Try.func27, Try.ntmps27
  go_wp2_with fail
  refine hh.mono ?_
  rintro e w1 ⟨rfl, rfl⟩
  go_wp2
  go_ret
  exact ⟨rfl, HM.out.1, HM.out.2⟩

theorem MapU.lt {w : World} {b : Nat} {xs : List Nat} (h : MapU w b xs) : b < w.heap.size := World.ownsMap.lt h

end Go.Proofs.Ytgkgdbdapkgkgaa

/- Sets of numbers in memory, by what they have. -/
namespace Go.Proofs.Ytgkgdbdapkgkgaa
open Go.RowKit Go.Maps
set_option maxRecDepth 100000
set_option linter.unusedVariables false
set_option linter.unusedSimpArgs false

theorem litU_same (a b : Nat) : (litU a).sameKey (litU b) = decide (a = b) := by
  unfold litU
  by_cases h : a = b
  · subst h; simp [Lit.sameKey]
  · simp only [Lit.sameKey, h, decide_false]
    simp
    omega

theorem has_setU (xs : List Nat) (x : Nat) : has (setOf (.agg []) (xs.map litU) : DataW Unit) (litU x) = true ↔ x ∈ xs := by
  rw [has_setOf _ _ _ (fun l hl => by
    obtain ⟨k, _, rfl⟩ := List.mem_map.1 hl
    simp [WideAt.IsKeyLit, litU])]
  rw [List.any_map, List.any_eq_true]
  constructor
  · rintro ⟨k, hk, he⟩
    simp only [Function.comp, litU_same, decide_eq_true_eq] at he
    subst he
    exact hk
  · intro h
    exact ⟨x, h, by simp [litU_same]⟩

/-- a set of numbers in memory: what it has -/
def MapS (w : World) (b n : Nat) (xs : List Nat) : Prop := ∃ D : DataW Unit, w.ownsMap Try.prog 30 (unitElem (H := Unit)) b n D ∧ ∀ k, has D (litU k) = true ↔ k ∈ xs

theorem MapU.s {w : World} {b : Nat} {xs : List Nat} (h : MapU w b xs) : MapS w b xs.length xs := ⟨_, h, has_setU xs⟩
theorem MapS.lt {w : World} {b n : Nat} {xs : List Nat} (h : MapS w b n xs) : b < w.heap.size := by
  obtain ⟨D, h, _⟩ := h
  exact World.ownsMap.lt h
theorem ownsS_block {w w' : World} {kt : TypeId} {R : Value → Option (DataW Unit × List MemPlace)} {b n : Nat} {D : DataW Unit} (h : w.ownsMap Try.prog kt R b n D) (hb : w'.heap[b]? = w.heap[b]?) : w'.ownsMap Try.prog kt R b n D := by
  obtain ⟨es, clock, hb2, r⟩ := h
  exact ⟨es, clock, hb.trans hb2, r⟩
theorem MapS.same {w w' : World} {b n : Nat} {xs : List Nat} (h : MapS w b n xs) (hb : w'.heap[b]? = w.heap[b]?) : MapS w' b n xs := by
  obtain ⟨D, h1, h2⟩ := h
  exact ⟨D, ownsS_block h1 hb, h2⟩
theorem MapS.below {w w' : World} {b n : Nat} {xs : List Nat} (h : MapS w b n xs) (hb : Below w.heap.size w w') : MapS w' b n xs := h.same (hb.block b h.lt)
theorem MapS.mono {w : World} {b n m : Nat} {xs : List Nat} (h : MapS w b n xs) (hm : n ≤ m) : MapS w b m xs := by
  obtain ⟨D, h1, h2⟩ := h
  exact ⟨D, h1.mono hm, h2⟩
theorem MapS.eqv {w : World} {b n : Nat} {xs ys : List Nat} (h : MapS w b n xs) (e : ∀ k, k ∈ ys ↔ k ∈ xs) : MapS w b n ys := by
  obtain ⟨D, h1, h2⟩ := h
  exact ⟨D, h1, fun k => by rw [h2, e]⟩

theorem litS_ne {a b : Nat} (h : a ≠ b) : litU a ≠ litU b := by
  unfold litU
  intro e
  simp only [Lit.int.injEq, true_and] at e
  omega
theorem litS_key (a : Nat) : WideAt.IsKeyLit (litU a) := by simp [WideAt.IsKeyLit, litU]

theorem MapS.put {w w' : World} {b n x : Nat} {xs : List Nat} {D : DataW Unit} (h1 : w.ownsMap Try.prog 30 (unitElem (H := Unit)) b n D) (h2 : ∀ k, has D (litU k) = true ↔ k ∈ xs) (h : w'.ownsMap Try.prog 30 (unitElem (H := Unit)) b (n + 1) (D.put (litU x) (.agg []))) : MapS w' b (n + 1) (xs ++ [x]) := by
  refine ⟨_, h, fun k => ?_⟩
  by_cases e : k = x
  · subst e
    rw [has_put_same h1.isMap (litS_key k)]
    simp
  · rw [has_put_other (litS_ne e), h2]
    simp [e]

end Go.Proofs.Ytgkgdbdapkgkgaa

/- maps.Keys of a set of numbers: what its iterator hands out. -/
namespace Go.Proofs.Ytgkgdbdapkgkgaa
open Go.RowKit Go.Maps Go.Sort Go.Shelf
set_option maxRecDepth 100000
set_option linter.unusedVariables false
set_option linter.unusedSimpArgs false

theorem keyQ_inv : ∀ (key : Value) (kl : Lit), keyOf Try.prog 30 key = some kl → ∃ x, key = Value.int .u64 x := by
  intro key kl h
  obtain ⟨x, e, _⟩ := Maps.keyOf_int_inv Try.underlying30 h
  exact ⟨x, e⟩

theorem keyQ_lit {x : Int} {kl : Lit} (h : keyOf Try.prog 30 (.int .u64 x) = some kl) : ∃ k : Nat, x = (k : Int) ∧ kl = litU k ∧ k < 18446744073709551616 := by
  obtain ⟨y, e, r⟩ := Maps.keyOf_int_inv Try.underlying30 h
  cases e
  obtain ⟨rfl, hw⟩ := r
  have h1 := bounds_u64 hw
  obtain ⟨k, rfl⟩ : ∃ k : Nat, x = (k : Int) := ⟨x.toNat, by omega⟩
  exact ⟨k, rfl, rfl, by omega⟩

theorem unitQ_inv : ∀ (v : Value) (y : DataW Unit × List MemPlace), unitElem v = some y → ∃ c : Unit, v = (fun _ => Value.agg #[]) c := by
  intro v y h
  exact ⟨(), (unitElem_inv h).1⟩

/-- those that have come: each once, each a key that is no longer to come -/
def CollU (D : DataW Unit) (left : Lit → Bool) (ss : List Nat) : Prop := ss.Nodup ∧ ∀ x, x ∈ ss ↔ (has D (litU x) = true ∧ left (litU x) = false)

theorem CollU.start (D : DataW Unit) : CollU D (has D) [] := ⟨List.nodup_nil, fun x => by cases has D (litU x) <;> simp⟩

theorem CollU.step {D : DataW Unit} {left : Lit → Bool} {ss : List Nat} (h : CollU D left ss) {x : Nat} {y : DataW Unit} (hl : left (litU x) = true) (hat : ∀ zd, D.atKey (litU x) zd = y) : CollU D (fun z => left z && !z.sameKey (litU x)) (ss ++ [x]) := by
  have h1 : has D (litU x) = true := has_true_of_atKey hat
  have h2 : x ∉ ss := fun hx => by
    have := ((h.2 x).1 hx).2
    rw [hl] at this
    cases this
  refine ⟨?_, fun z => ?_⟩
  · rw [List.nodup_append]
    refine ⟨h.1, by simp, fun a ha b hb e => ?_⟩
    rw [List.mem_singleton] at hb
    subst hb; subst e
    exact h2 ha
  · rw [List.mem_append, List.mem_singleton, h.2 z]
    simp only [litU_same]
    by_cases e : z = x
    · subst e; simp [h1]
    · simp [e]

set_option maxHeartbeats 2000000 in
theorem keysU_stops (n : Nat) (hn : 1 ≤ n) (w : World) (Bl b N : Nat) (xs : List Nat) (hm : MapS w b N xs) (cl : w.cell? ⟨Bl, 0, none⟩ = some (.map (some b))) :
    SeqStopsK Fence.wide n Try.prog 36 #[.pointer (some ⟨Bl, 0, none⟩)] (fun k : Nat => #[.int .u64 (k : Int)]) KeepsWalks (fun ys => ys.Nodup ∧ ∀ x, x ∈ ys ↔ x ∈ xs) (fun _ => True) N w := fun yl J Jx W hW hJ hJx hY h0 => by
  have clW : W.cell? ⟨Bl, 0, none⟩ = some (.map (some b)) := by rw [hW.cell (p := ⟨Bl, 0, none⟩) (World.block_lt_of_cell? w _ cl)]; exact cl
  obtain ⟨D, hmW, hD⟩ := hm.below hW
  have hsz : Maps.size D ≤ N := hmW.size_le
  have HH : Hid (∀ x, has D (litU x) = true ↔ x ∈ xs) := hD
  have HJ : Hid (AbidesFrom W.heap.size J) := hJ
  have HY : Hid _ := hY
  have HMW : Hid (W.ownsMap Try.prog 30 (unitElem (H := Unit)) b N D) := hmW
  clear hD hm cl hJ hJx hW hY
  refine callsIn_of_wp Try.func36 rfl trivial ?_ rfl
  try simp only [Try.ntmps36, List.size_toArray, List.length_cons, List.length_nil, Nat.reduceAdd, Nat.reduceSub, Array.replicate_succ, Array.replicate_zero, List.push_toArray, List.append_toArray, List.nil_append, List.cons_append]

  gi_wp2_with (first
    | (gi_at_range; refine wpListIn_range_own _ rfl _ 56 rfl 30 68 (int_keyed Try.underlying30) Try.underlying56 (unitElem (H := Unit)) b N D rfl hmW ?_; intro w0 hrg0 hg0 hs0)
    | gi_in)
  try go_frame
  gi_loopw [3] (fun _ wr => ∃ (left : Lit → Bool) (cnt : Nat) (ss : List Nat), wr.ranges Try.prog 30 (unitElem (H := Unit)) b W.heap.size N D left cnt ∧ ss.length + cnt ≤ N ∧ CollU D left ss ∧ J ss wr)
    (fun _ wr => wr.rangeLeft b W.heap.size)
  case atStart =>
    exact ⟨_, _, [], hrg0, by simpa using hsz, CollU.start D, HJ.out [] W w0 none h0 hg0 (fun r e => by cases e)⟩
  case round =>
    obtain ⟨left, cnt, ss, hrg, hcs, hC, hJs⟩ := hrel
    gi_wp2_with (first
      | (gi_at_next; refine wpListIn_next_ranges _ rfl _ rfl 30 (int_keyed Try.underlying30) (unitElem (H := Unit)) (Value.int .u64) (fun _ : Unit => Value.agg #[]) keyQ_inv unitQ_inv b W.heap.size N _ _ _ rfl hrg ?_ ?_)
      | gi_in)
    · intro hc0 hl0
      have HE : Hid (∃ ys : List Nat, (ys.Nodup ∧ ∀ x, x ∈ ys ↔ x ∈ xs) ∧ J ys wr) := ⟨ss, ⟨hC.1, fun x => by rw [hC.2 x, hl0, HH.out x]; simp⟩, hJs⟩
      gi_wp2
      go_end0
      exact ⟨⟨_, rfl⟩, .inl HE.out⟩
    · intro x c kl yd w2 cnt2 hkey hlk hv hat hrg2 hlt hg2 hs2 hen
      obtain ⟨k, rfl, rfl, hk⟩ := keyQ_lit hkey
      have hJ2 : J ss w2 := HJ.out ss wr w2 (some W.heap.size) hJs hg2 (fun r e => by cases e; exact ⟨Nat.le_refl _, hrg.iter_walk⟩)
      obtain ⟨fn, tmps, assign, body, hy, hR⟩ := HY.out ss k w2 hJ2 (by omega)
      clear hs2
      have hC2 := hC.step hlk hat
      gi_wp2
      refine hR.mono ?_
      rintro e W3 (⟨rfl, hJ3, hk3⟩ | ⟨rfl, hJx3⟩)
      · gi_wp2
        have hrg3 := hrg2.of_walks hk3
        go_roundw
        case rel => exact ⟨_, cnt2, ss ++ [k], hrg3, by simp; omega, hC2, hJ3⟩
        case measure => rw [hrg3.left_eq, hrg.left_eq]; exact hlt
      · gi_wp2
        refine bodyPost_ret (results_none rfl _ _ _) rfl ?_
        exact ⟨⟨_, rfl⟩, .inr ⟨ss ++ [k], trivial, hJx3⟩⟩

/-- a set, or nil -/
def MapO (w : World) (o : Option Nat) (xs : List Nat) : Prop := match o with | none => xs = [] | some b => ∃ n, n ≤ 100000 ∧ MapS w b n xs

theorem MapO.below {w w' : World} {o : Option Nat} {xs : List Nat} (h : MapO w o xs) (hb : Below w.heap.size w w') : MapO w' o xs := by
  cases o with
  | none => exact h
  | some b =>
    obtain ⟨n, h1, h2⟩ := h
    exact ⟨n, h1, h2.below hb⟩

set_option maxHeartbeats 1000000 in
theorem keysN_stops (n : Nat) (hn : 1 ≤ n) (w : World) (Bl : Nat) (cl : w.cell? ⟨Bl, 0, none⟩ = some (.map none)) :
    SeqStopsK Fence.wide n Try.prog 36 #[.pointer (some ⟨Bl, 0, none⟩)] (fun k : Nat => #[.int .u64 (k : Int)]) KeepsWalks (fun ys => ys.Nodup ∧ ∀ x, x ∈ ys ↔ x ∈ ([] : List Nat)) (fun _ => True) ([] : List Nat).length w := fun yl J Jx W hW hJ hJx hY h0 => by
  have clW : W.cell? ⟨Bl, 0, none⟩ = some (.map none) := by rw [hW.cell (p := ⟨Bl, 0, none⟩) (World.block_lt_of_cell? w _ cl)]; exact cl
  have HJ : Hid (∃ ys : List Nat, (ys.Nodup ∧ ∀ x, x ∈ ys ↔ x ∈ ([] : List Nat)) ∧ J ys (W.alloc (.mapIter none 0 #[] 0))) := ⟨[], ⟨List.nodup_nil, fun _ => Iff.rfl⟩, hJ [] W _ none h0 (World.grownBy_alloc W _ none) (fun r e => by cases e)⟩
  clear cl hJ hJx hW hY h0
  have hrg := run_range_nilMap (P := Try.prog) W 56 30 68 Try.underlying56
  have hnx : ∀ ty, (Instr.next (.pointer (some ⟨W.heap.size, 0, none⟩)) false ty).run Try.prog (W.alloc (.mapIter none 0 #[] 0)) = _ := fun ty => run_next_nilMap _ ty 0 0 #[]
  refine callsIn_of_wp Try.func36 rfl trivial ?_ rfl
  try simp only [Try.ntmps36, List.size_toArray, List.length_cons, List.length_nil, Nat.reduceAdd, Nat.reduceSub, Array.replicate_succ, Array.replicate_zero, List.push_toArray, List.append_toArray, List.nil_append, List.cons_append]
  gi_wp2
  refine wpIn_loop_rounds 1 ?_
  rw [roundsIn_succ]
  gi_wp2
  go_end0
  exact ⟨⟨_, rfl⟩, .inl HJ.out⟩

theorem keysO_stops (n : Nat) (hn : 1 ≤ n) (w : World) (Bl : Nat) (o : Option Nat) (xs : List Nat) (hm : MapO w o xs) (cl : w.cell? ⟨Bl, 0, none⟩ = some (.map o)) :
    ∃ N, N ≤ 100000 ∧ SeqStopsK Fence.wide n Try.prog 36 #[.pointer (some ⟨Bl, 0, none⟩)] (fun k : Nat => #[.int .u64 (k : Int)]) KeepsWalks (fun ys => ys.Nodup ∧ ∀ x, x ∈ ys ↔ x ∈ xs) (fun _ => True) N w := by
  cases o with
  | some b =>
    obtain ⟨N, h1, h2⟩ := hm
    exact ⟨N, h1, keysU_stops n hn w Bl b N xs h2 cl⟩
  | none =>
    have e : xs = [] := hm
    subst e
    exact ⟨0, by omega, keysN_stops n hn w Bl cl⟩

end Go.Proofs.Ytgkgdbdapkgkgaa

/- slices.AppendSeq, Collect over maps.Keys of a set of numbers. -/
namespace Go.Proofs.Ytgkgdbdapkgkgaa
open Go.RowKit Go.Maps Go.Shelf
set_option maxRecDepth 100000
set_option linter.unusedVariables false
set_option linter.unusedSimpArgs false

attribute [local go_sem] Oper.semAt_some

def AnyQ (v : Value) : Prop := v = v
theorem anyQ (v : Value) : AnyQ v := rfl
/-- the numbers of a list, each once -/
def Each (xs ys : List Nat) : Prop := ys.Nodup ∧ ∀ x, x ∈ ys ↔ x ∈ xs

theorem sub_len : ∀ (ys xs : List Nat), ys.Nodup → (∀ x ∈ ys, x ∈ xs) → ys.length ≤ xs.length
  | [], _, _, _ => Nat.zero_le _
  | y :: r, xs, hn, hs => by
    have h1 := List.nodup_cons.1 hn
    have h2 := sub_len r (xs.erase y) h1.2 (fun x hx => (List.mem_erase_of_ne (fun e => h1.1 (by rw [← e]; exact hx))).2 (hs x (by simp [hx])))
    have h3 := hs y (by simp)
    rw [List.length_erase_of_mem h3] at h2
    have h4 := List.length_pos_of_mem h3
    rw [List.length_cons]
    omega

theorem Each.len {xs ys : List Nat} (h : Each xs ys) : ys.length ≤ xs.length := sub_len ys xs h.1 (fun x hx => (h.2 x).1 hx)

set_option maxHeartbeats 4000000 in
theorem appU_any (w : World) (Bl : Nat) (o : Option Nat) (xs : List Nat) (hm : MapO w o xs) (cl : w.cell? ⟨Bl, 0, none⟩ = some (.map o)) (hn : xs.length ≤ 100000) :
    Calls Try.prog 37 #[.slice none 0 0, .func (.func 36) #[] #[.pointer (some ⟨Bl, 0, none⟩)]] w fun e w' => ∃ v' ys, e = .returned v' ∧ Each xs ys ∧ OwnU w.heap.size w' v' ys ∧ Below w.heap.size w w' := by
  obtain ⟨i0, hi, hz0, hz1, hz2⟩ := info_parts infoU64
  obtain ⟨N, hn, hsq⟩ := keysO_stops 3 (by omega) w Bl o xs hm cl
  have bO := Boxed.new w 28 (.slice none 0 0)
  have hB0 : Below w.heap.size w (w.alloc (.cells #[.slice none 0 0] 28)) := (Below.refl _ w).alloc (Nat.le_refl _) _
  refine (callsIn_wide (n := 4)).1 ?_
  refine callsIn_of_wp_marks Try.func37 rfl trivial ?_ rfl
  try simp only [Try.ntmps37, List.size_toArray, List.length_cons, List.length_nil, Nat.reduceAdd, Nat.reduceSub, Array.replicate_succ, Array.replicate_zero, List.push_toArray, List.append_toArray, List.nil_append, List.cons_append]
  clear hm cl
  gi_wp2_with fail
  refine wpIn_rangeFunc_ownH rfl (by omega) (gf := 36) (lb := #[.pointer (some ⟨Bl, 0, none⟩)]) rfl trivial (enters_of Try.func36 (by kernel_rfl) rfl)
    hsq walksK_t walksK_b hB0 (fun _ => rfl)
    (fun (pre : List Nat) W => (∃ v, Boxed W w.heap.size 28 v ∧ W.ownsRow w.heap.size 30 1 v pre.length (pre.map encN) ∧ AnyQ v) ∧ Below w.heap.size w W)
    (fun c (pre : List Nat) W => False)
    (OwnFrom.and (Go.Own.from (holdsRow_own w.heap.size w.heap.size 28 30 1 (fun pre : List Nat => pre.length) (fun pre => pre.map encN) (fun pre v => AnyQ v)) _) (ownFrom_below (Nat.le_refl _) (by simp)))
    (fun c s A B row hs hg hr => hs)
    ⟨⟨_, bO, World.ownsRow_nil _ _ _ _, anyQ _⟩, hB0⟩
    (fun (x : Nat) a' W => a' = { tmps := #[.slice none 0 0, .func (.func 36) #[] #[.pointer (some ⟨Bl, 0, none⟩)], .pointer (some ⟨w.heap.size, 0, none⟩), undef, .slice none 0 0, .int .u64 (x : Int), .func (.func 36) #[] #[.pointer (some ⟨Bl, 0, none⟩)], .int .u64 (x : Int), undef, undef, undef, undef, undef], defers := [] })
    (fun x a' _ X Y row hs hg hr => hs)
    ?assign ?body ?done ?stop
  case assign =>
    rintro l pre x W K ⟨⟨v, hv, hrow, _⟩, hBW⟩ hK
    have HK : Hid _ := hK
    have HROW : Hid (W.ownsRow w.heap.size 30 1 v pre.length (pre.map encN)) := hrow
    clear hK hrow
    gi_wp2
    exact HK.out _ _ ((KeepsOthers.refl _).from _) (KeepsWalks.refl _) ⟨⟨v, hv, HROW.out, anyQ _⟩, hBW⟩ rfl
  case body =>
    rintro l pre x a' W hl hlr ⟨⟨v, hv, hrow, _⟩, hBW⟩ rfl hpl
    have hlit : ∀ j u, [Value.int .u64 (x : Int)][j]? = some u → (W.alloc (.cells #[.int .u64 (x : Int)] 30)).cell? ((⟨W.heap.size, 0, none⟩ : Addr).add j) = some u := fun j u hu => by
      match j, hu with
      | 0, hu => simp at hu; subst hu; simp [Addr.add]
      | j + 1, hu => simp at hu
    have HSN : Hid ((pre ++ [x]).map encN = pre.map encN ++ [.int .u64 (x : Int)]) := by
      show _ = _
      simp [encN]
    have HLN : Hid ((pre ++ [x]).length = pre.length + 1) := by show _ = _; simp
    have HMX : Hid (pre.length ≤ 100000) := by show _ ≤ _; omega
    have hc := hv.cell
    gi_wp2_with (gi_at_builtin; refine wpListIn_append_own _ rfl _ _ 28 rfl w.heap.size 30 i0 (.int .u64 0) 1 8 Try.underlying28 hi hz0 hz1 hz2 rfl (by decide) _ _ _ rfl (hrow.alloc _) ⟨W.heap.size, 0, none⟩ 1 1 [.int .u64 (x : Int)] rfl rfl hlit (by intro u hu; simp at hu; subst hu; rfl) (by have := HMX.out; simp only [maxLen]; omega) (by have := HMX.out; omega) (by have := hBW.size; simp; omega) ?_; intro v' w1 hown' hgrow _; obtain ⟨g', cap', rfl⟩ := ownsRow_succ hown'; obtain ⟨hv1, hv2, hr2, hk2, hb2⟩ := hv.appended (by decide) hrow hBW.size (Nat.le_refl _) hown' hgrow; have hc1 := hv1.cell; have hf1 := hv1.frozen)
    refine ⟨hk2.from _, hk2.walks, ⟨_, hv2, ?_, anyQ _⟩, hBW.trans hb2⟩
    rw [HSN.out, HLN.out]
    exact hr2
  case done =>
    rintro D ys W hD hys ⟨⟨v, hv, hrow, _⟩, hB⟩ hK
    have hc := hv.cell
    have HROW : Hid (W.ownsRow w.heap.size 30 1 v ys.length (ys.map encN)) := hrow
    clear hrow
    gi_wp2
    refine ⟨by simp, .inl ⟨_, _, rfl, run_takeDeferred hK, ?_⟩⟩
    exact ⟨_, results_tmp rfl _ _ _, v, ys, rfl, hys, ownsRow_putObj HROW.out _ hK rfl, hB.trans (belowK_b (w := w) (Nat.le_refl _) W D _ _ (by simp at hD; omega) hK rfl rfl)⟩
  case stop =>
    rintro D c pre W _ _ h _
    exact h.elim

theorem collU_any (w : World) (Bl : Nat) (o : Option Nat) (xs : List Nat) (hm : MapO w o xs) (cl : w.cell? ⟨Bl, 0, none⟩ = some (.map o)) (hn : xs.length ≤ 100000) :
    Calls Try.prog 34 #[.func (.func 36) #[] #[.pointer (some ⟨Bl, 0, none⟩)]] w fun e w' => ∃ v' ys, e = .returned v' ∧ Each xs ys ∧ OwnU w.heap.size w' v' ys ∧ Below w.heap.size w w' := by
  have h := appU_any w Bl o xs hm cl hn
  clear hm cl
  go_enter Try.func34, Try.ntmps34
  go_wp2_with fail
  refine h.mono ?_
  rintro e w' ⟨v', ys, rfl, h0, h1, h2⟩
  have H1 : Hid (Each xs ys ∧ OwnU w.heap.size w' v' ys ∧ Below w.heap.size w w') := ⟨h0, h1, h2⟩
  clear h h0 h1 h2
  go_wp2
  go_ret
  exact ⟨v', ys, rfl, H1.out.1, H1.out.2.1, H1.out.2.2⟩

/-- maps.Keys: a function value over one new block, which holds the map -/
theorem keysU_any (w : World) (o : Option Nat) :
    Calls Try.prog 33 #[.map o] w fun e w' => e = .returned (.func (.func 36) #[] #[.pointer (some ⟨w.heap.size, 0, none⟩)]) ∧ w' = w.alloc (.cells #[.map o] 56) := by
  go_enter Try.func33, Try.ntmps33
  go_wp2
  go_ret
  exact ⟨rfl, rfl⟩

end Go.Proofs.Ytgkgdbdapkgkgaa

/- slices.Sort, Sorted of numbers; set.Rising. -/
namespace Go.Proofs.Ytgkgdbdapkgkgaa
open Go.RowKit
set_option maxRecDepth 100000
set_option linter.unusedVariables false
set_option linter.unusedSimpArgs false

/-- what stands in a row, as a function -/
def fnL (ns : List Nat) : Nat → Nat := fun k => (ns[k]?).getD 0
/-- and back -/
def lsF (n : Nat) (f : Nat → Nat) : List Nat := (List.range n).map f

theorem lsF_len (n : Nat) (f : Nat → Nat) : (lsF n f).length = n := by simp [lsF]
theorem lsF_at {n : Nat} {f : Nat → Nat} {j : Nat} (h : j < n) : (lsF n f)[j]? = some (f j) := by simp [lsF, h]
theorem lsF_succ (n : Nat) (f : Nat → Nat) : lsF (n + 1) f = lsF n f ++ [f n] := by simp [lsF, List.range_succ]
theorem lsF_fnL (ns : List Nat) : lsF ns.length (fnL ns) = ns := by
  refine List.ext_getElem? fun j => ?_
  by_cases h : j < ns.length
  · rw [lsF_at h]; simp [fnL, h]
  · rw [List.getElem?_eq_none (by rw [lsF_len]; omega), List.getElem?_eq_none (by omega)]

theorem count_lsF (f : Nat → Nat) (v : Nat) : ∀ n, (lsF n f).count v = cntF f v n := by
  intro n
  induction n with
  | zero => rfl
  | succ n ih =>
    rw [lsF_succ, List.count_append, ih]
    show _ = cntF f v n + _
    rw [List.count_singleton]
    by_cases e : f n = v
    · simp [e]
    · simp [e]

theorem lsF_perm {n : Nat} {f g : Nat → Nat} (h : SwP 0 n f g) : (lsF n g).Perm (lsF n f) := by
  rw [List.perm_iff_count]
  intro v
  rw [count_lsF, count_lsF]
  exact h.cnt n v (Nat.le_refl _)

theorem lsF_sorted {n : Nat} {f : Nat → Nat} (h : SrtP 0 n f) : (lsF n f).Pairwise (· ≤ ·) := by
  rw [List.pairwise_iff_getElem]
  intro i j hi hj hij
  rw [lsF_len] at hi hj
  have h1 := lsF_at (f := f) hi
  have h2 := lsF_at (f := f) hj
  rw [List.getElem?_eq_getElem (by rw [lsF_len]; exact hi)] at h1
  rw [List.getElem?_eq_getElem (by rw [lsF_len]; exact hj)] at h2
  simp only [Option.some.injEq] at h1 h2
  rw [h1, h2]
  exact h i j (Nat.zero_le _) (by omega) hj

/-- a row of one's own, as a function -/
theorem OwnU.ru {B : Nat} {w : World} {g n c : Nat} {ns : List Nat} (h : OwnU B w (.slice (some ⟨g, 0, none⟩) n c) ns) (hn : ns.length = n) (h0 : 0 < n) : RU w g n (fnL ns) := by
  unfold OwnU at h
  rcases h.2 with ⟨_, h9⟩ | ⟨g', c', cur, e, _, hb, _, _, hsz, hcs⟩
  · omega
  · cases e
    refine ⟨cur, hb, fun j hj => ?_⟩
    have e1 : (cur.toList.take (ns.length * 1))[j]? = (ns.map encN)[j]? := by rw [hcs]
    rw [List.getElem?_take, if_pos (by omega), Array.getElem?_toList] at e1
    rw [e1]
    have hj2 : j < ns.length := by omega
    simp [fnL, hj2, encN]

/-- and back -/
theorem OwnU.back {B : Nat} {w w' : World} {g n c : Nat} {ns : List Nat} {f : Nat → Nat} (h : OwnU B w (.slice (some ⟨g, 0, none⟩) n c) ns) (hn : ns.length = n) (h0 : 0 < n) (hr : RU w' g n f) (hs : ∀ cur cur', w.heap[g]? = some (.cells cur 30 (0, 0)) → w'.heap[g]? = some (.cells cur' 30 (0, 0)) → cur'.size = cur.size) : OwnU B w' (.slice (some ⟨g, 0, none⟩) n c) (lsF n f) := by
  unfold OwnU at h ⊢
  obtain ⟨h1, h2⟩ := h
  rw [lsF_len]
  rcases h2 with ⟨_, h9⟩ | ⟨g', c', cur, e, hb0, hb, hc1, hc2, hsz, hcs⟩
  · omega
  · have e1 : g' = g := by cases e; rfl
    have e2 : c' = c := by cases e; rfl
    subst e1 e2
    obtain ⟨cs, k1, k2⟩ := hr
    have hz := hs cur cs hb k1
    refine ⟨by rw [List.length_map, lsF_len, Nat.mul_one], .inr ⟨g', c', cs, rfl, hb0, k1, by omega, hc2, by omega, ?_⟩⟩
    refine List.ext_getElem? fun j => ?_
    rw [List.getElem?_take]
    by_cases hj : j < n * 1
    · rw [if_pos hj, Array.getElem?_toList, k2 j (by omega), List.getElem?_map, lsF_at (by omega)]
      rfl
    · rw [if_neg hj, List.getElem?_eq_none]
      rw [List.length_map, lsF_len]
      omega

theorem KU.own {B : Nat} {w w' : World} {g n c : Nat} {ns : List Nat} {f : Nat → Nat} (h : OwnU B w (.slice (some ⟨g, 0, none⟩) n c) ns) (hn : ns.length = n) (h0 : 0 < n) (hk : KU g w w') (hr : RU w' g n f) : OwnU B w' (.slice (some ⟨g, 0, none⟩) n c) (lsF n f) :=
  h.back hn h0 hr fun cur cur' e1 e2 => by
    obtain ⟨c2, e3, e4⟩ := hk.rs _ _ _ e1
    rw [e2] at e3
    cases e3
    exact e4

theorem ins0_any (w : World) (a : Option Addr) (c : Nat) : Calls Try.prog 40 #[.slice a 0 c, .int .i64 0, .int .i64 0] w fun e w' => e = .returned (.tuple #[]) ∧ w' = w := by
  go_enter Try.func40, Try.ntmps40
  go_wp2_with fail
  go_loopg [6] 0 (fun gk iv wr => iv = .int .i64 1 ∧ wr = w)
  case atStart => exact ⟨rfl, rfl⟩
  case round =>
    obtain ⟨rfl, rfl⟩ := hrel
    go_wp2
    go_end0
    exact ⟨rfl, rfl⟩

theorem pdq0_any (w : World) (a : Option Addr) (c : Nat) (l : Int) : Calls Try.prog 38 #[.slice a 0 c, .int .i64 0, .int .i64 0, .int .i64 l] w fun e w' => e = .returned (.tuple #[]) ∧ w' = w := by
  have hi := ins0_any w a c
  go_enter Try.func38, Try.ntmps38
  go_wp2_with fail
  go_loopg [1, 2] 0 (fun gk av bv wr => av = .int .i64 0 ∧ bv = .int .i64 0 ∧ wr = w)
  case atStart => exact ⟨rfl, rfl, rfl⟩
  case round =>
    obtain ⟨rfl, rfl, rfl⟩ := hrel
    go_wp2_with fail
    refine hi.mono ?_
    rintro e w1 ⟨rfl, rfl⟩
    clear hi
    go_wp2
    try simp only [Exit.inBlock, Exit.then]
    refine bodyPost_ret (results_none rfl _ _ _) rfl ?_
    exact ⟨rfl, rfl⟩

/-- slices.Sort of numbers in a row of one's own -/
theorem sortU_any (B : Nat) (w : World) (v : Value) (ns : List Nat) (h : OwnU B w v ns) (hn : ns.length ≤ 1000000) :
    Calls Try.prog 35 #[v] w fun e w' => e = .returned (.tuple #[]) ∧ ∃ ys : List Nat, ys.Perm ns ∧ ys.Pairwise (· ≤ ·) ∧ OwnU B w' v ys ∧ (∀ k, k < w.heap.size → v.ownBlock ≠ some k → w'.heap[k]? = w.heap[k]?) ∧ w.heap.size ≤ w'.heap.size ∧ w'.os = w.os ∧ w'.tape = w.tape ∧ w'.output = w.output := by
  obtain ⟨N, hN⟩ : ∃ N, ns.length = N := ⟨_, rfl⟩
  obtain ⟨t, ht⟩ : ∃ t, Lib.bitLen N = t := ⟨_, rfl⟩
  have hb := blen_any N (by omega) w
  rw [ht] at hb
  have ht2 : t ≤ 62 := by rw [← ht, bitLen_eq N (by omega)]; exact (Go.Sort.bitsLen_le_iff N 62).2 (by omega)
  by_cases h0 : N = 0
  · subst h0
    have e0 : ns = [] := List.eq_nil_of_length_eq_zero hN
    subst e0
    obtain ⟨a, c, rfl, _⟩ := row_slice9 h
    have hp := pdq0_any w a c (t : Int)
    have H : Hid (OwnU B w (.slice a 0 c) []) := h
    clear h hN ht ht2
    go_enter Try.func35, Try.ntmps35
    go_wp2_with fail
    refine hb.mono ?_
    rintro e w1 ⟨rfl, rfl⟩
    clear hb
    go_wp2_with fail
    refine hp.mono ?_
    rintro e w2 ⟨rfl, rfl⟩
    clear hp
    go_wp2
    go_end0
    exact ⟨rfl, [], List.Perm.refl _, List.Pairwise.nil, H.out, fun _ _ _ => rfl, Nat.le_refl _, rfl, rfl, rfl⟩
  · obtain ⟨g, c, hv⟩ : ∃ g c, v = .slice (some ⟨g, 0, none⟩) N c := by
      rcases h.2 with ⟨_, h9⟩ | ⟨g, c, _, e, _⟩
      · omega
      · exact ⟨g, c, by rw [e, hN]⟩
    subst hv
    have hp := pdqU_any w g N c 0 N t (fnL ns) (h.ru hN (by omega)) (Nat.zero_le _) (Nat.le_refl _) (by omega) (by omega) (fun k h1 _ _ => by omega)
    have H : Hid (OwnU B w (.slice (some ⟨g, 0, none⟩) N c) ns ∧ ns.length = N ∧ 0 < N) := ⟨h, hN, by omega⟩
    have yN : N < 1152921504606846976 := by omega
    clear h hN ht ht2 h0
    go_enter Try.func35, Try.ntmps35
    go_wp2_with fail
    refine hb.mono ?_
    rintro e w1 ⟨rfl, rfl⟩
    clear hb
    go_wp2_with fail
    refine hp.mono ?_
    rintro e w2 ⟨rfl, f', h1, h2, h3, h4⟩
    clear hp
    have HE : Hid (∃ ys : List Nat, ys.Perm ns ∧ ys.Pairwise (· ≤ ·) ∧ OwnU B w2 (.slice (some ⟨g, 0, none⟩) N c) ys ∧ (∀ k, k < w1.heap.size → (Value.slice (some ⟨g, 0, none⟩) N c).ownBlock ≠ some k → w2.heap[k]? = w1.heap[k]?) ∧ w1.heap.size ≤ w2.heap.size ∧ w2.os = w1.os ∧ w2.tape = w1.tape ∧ w2.output = w1.output) := by
      obtain ⟨k1, k2, k3⟩ := H.out
      refine ⟨lsF N f', ?_, lsF_sorted h4, h2.own k1 k2 k3 h1, fun k q1 q2 => h2.block k q1 (fun e => q2 (by rw [e]; rfl)), h2.size, h2.os, h2.tape, h2.output⟩
      have q := lsF_perm h3
      rw [show lsF N (fnL ns) = ns by rw [← k2]; exact lsF_fnL ns] at q
      exact q
    clear h1 h2 h3 h4
    go_wp2
    go_end0
    exact ⟨rfl, HE.out⟩

end Go.Proofs.Ytgkgdbdapkgkgaa

/- slices.Sorted over maps.Keys; set.Rising. -/
namespace Go.Proofs.Ytgkgdbdapkgkgaa
open Go.RowKit
set_option maxRecDepth 100000
set_option linter.unusedVariables false
set_option linter.unusedSimpArgs false

theorem Each.perm {xs ys zs : List Nat} (h : Each xs ys) (hp : zs.Perm ys) : Each xs zs := ⟨hp.nodup_iff.2 h.1, fun x => by rw [hp.mem_iff]; exact h.2 x⟩

/-- numbers that rise, each of a list's, once -/
def Rise (xs ys : List Nat) : Prop := Each xs ys ∧ ys.Pairwise (· ≤ ·)

theorem sortedU_any (w : World) (Bl : Nat) (o : Option Nat) (xs : List Nat) (hm : MapO w o xs) (cl : w.cell? ⟨Bl, 0, none⟩ = some (.map o)) (hn : xs.length ≤ 100000) :
    Calls Try.prog 32 #[.func (.func 36) #[] #[.pointer (some ⟨Bl, 0, none⟩)]] w fun e w' => ∃ v' ys, e = .returned v' ∧ Rise xs ys ∧ OwnU w.heap.size w' v' ys ∧ Below w.heap.size w w' := by
  have h := collU_any w Bl o xs hm cl hn
  clear hm cl
  go_enter Try.func32, Try.ntmps32
  go_wp2_with fail
  refine h.mono ?_
  rintro e w1 ⟨v', ys, rfl, h0, h1, h2⟩
  obtain ⟨va, vc, ev, _⟩ := row_slice9 h1
  have hs := sortU_any w.heap.size w1 v' ys h1 (by have := h0.len; omega)
  have H1 : Hid (Each xs ys ∧ OwnU w.heap.size w1 v' ys ∧ Below w.heap.size w w1) := ⟨h0, h1, h2⟩
  obtain ⟨vn, hvn⟩ : ∃ n, ys.length = n := ⟨_, rfl⟩
  rw [hvn] at ev
  subst ev
  clear h h0 h1 h2 hvn
  go_wp2_with fail
  refine hs.mono ?_
  rintro e w2 ⟨rfl, zs, p1, p2, p3, p4, p5, p6, p7, p8⟩
  have H2 : Hid (Rise xs zs ∧ OwnU w.heap.size w2 (.slice va vn vc) zs ∧ Below w.heap.size w w2) := by
    obtain ⟨q1, q2, q3⟩ := H1.out
    refine ⟨⟨q1.perm p1, p2⟩, p3, p6.trans q3.os, p7.trans q3.tape, p8.trans q3.output, Nat.le_trans q3.size p5, fun i hi => ?_⟩
    refine (p4 i (Nat.lt_of_lt_of_le hi q3.size) (fun e => ?_)).trans (q3.block i hi)
    have := (World.ownsRow.lt q2 i e).1
    omega
  clear hs p1 p2 p3 p4 p5 p6 p7 p8 H1
  go_wp2
  go_ret
  exact ⟨_, zs, rfl, H2.out.1, H2.out.2.1, H2.out.2.2⟩

theorem risingO_any (w : World) (o : Option Nat) (xs : List Nat) (hm : MapO w o xs) (hn : xs.length ≤ 100000) :
    Calls Try.prog 25 #[.map o] w fun e w' => ∃ v' ys, e = .returned v' ∧ Rise xs ys ∧ OwnU w.heap.size w' v' ys ∧ Below w.heap.size w w' := by
  have hk := keysU_any w o
  have hb : Below w.heap.size w (w.alloc (.cells #[.map o] 56)) := below_box4 w _
  have hs := sortedU_any (w.alloc (.cells #[.map o] 56)) w.heap.size o xs (hm.below hb) (by simp) hn
  have HB : Hid (Below w.heap.size w (w.alloc (.cells #[.map o] 56))) := hb
  clear hm hb
  go_enter Try.func25, Try.ntmps25
  go_wp2_with fail
  refine hk.mono ?_
  rintro e w1 ⟨rfl, rfl⟩
  clear hk
  go_wp2_with fail
  refine hs.mono ?_
  rintro e w2 ⟨v', ys, rfl, h1, h2, h3⟩
  have H : Hid (Rise xs ys ∧ OwnU w.heap.size w2 v' ys ∧ Below w.heap.size w w2) := ⟨h1, row_mono9 h2 HB.out.size, bsplit HB.out h3⟩
  clear hs h1 h2 h3
  go_wp2
  go_ret
  exact ⟨v', ys, rfl, H.out.1, H.out.2.1, H.out.2.2⟩

theorem rising_any (w : World) (b : Nat) (xs : List Nat) (hm : MapU w b xs) (hn : xs.length ≤ 100000) :
    Calls Try.prog 25 #[.map (some b)] w fun e w' => ∃ v' ys, e = .returned v' ∧ Rise xs ys ∧ OwnU w.heap.size w' v' ys ∧ Below w.heap.size w w' := risingO_any w (some b) xs ⟨xs.length, hn, hm.s⟩ hn

end Go.Proofs.Ytgkgdbdapkgkgaa

/- A graph's links in memory: a map from numbers to sets; New. -/
namespace Go.Proofs.Ytgkgdbdapkgkgaa
set_option maxRecDepth 20000
open Go.RowKit Go.Maps
set_option linter.unusedVariables false
set_option linter.unusedSimpArgs false

/-- how a set is read where another map holds it: by its block -/
def mapR (v : Value) : Option (DataW Unit × List MemPlace) :=
  match v with
  | .map none => some (.lit (.bool false), [])
  | .map (some b) => some (.lit (.int .i64 (b : Int)), [])
  | _ => none

def mapD (o : Option Nat) : DataW Unit := match o with | none => .lit (.bool false) | some b => .lit (.int .i64 (b : Int))

theorem mapR_inv {v : Value} {o : Option Nat} {ps : List MemPlace} (h : mapR v = some (mapD o, ps)) : v = .map o := by
  unfold mapR at h
  split at h
  · cases o with
    | none => rfl
    | some b => simp [mapD] at h
  · cases o with
    | none => simp [mapD] at h
    | some b =>
      simp only [mapD, Option.some.injEq, Prod.mk.injEq, DataW.lit.injEq, Lit.int.injEq, true_and] at h
      have := h.1
      congr 2
      omega
  · cases h

/-- the map of links: which block holds a number's set -/
def MapE (w : World) (m n : Nat) (h : Nat → Option Nat) : Prop :=
  ∃ D : DataW Unit, w.ownsMap Try.prog 30 mapR m n D ∧ ∀ k, has D (litU k) = (h k).isSome ∧ D.atKey (litU k) (.lit (.bool false)) = mapD (h k)

theorem MapE.lt {w : World} {m n : Nat} {h : Nat → Option Nat} (H : MapE w m n h) : m < w.heap.size := by
  obtain ⟨D, h, _⟩ := H
  exact World.ownsMap.lt h

theorem owns_block {w w' : World} {kt : TypeId} {R : Value → Option (DataW Unit × List MemPlace)} {b n : Nat} {D : DataW Unit} (h : w.ownsMap Try.prog kt R b n D) (hb : w'.heap[b]? = w.heap[b]?) : w'.ownsMap Try.prog kt R b n D := by
  obtain ⟨es, clock, hb2, r⟩ := h
  exact ⟨es, clock, hb.trans hb2, r⟩

theorem MapE.same {w w' : World} {m n : Nat} {h : Nat → Option Nat} (H : MapE w m n h) (hb : w'.heap[m]? = w.heap[m]?) : MapE w' m n h := by
  obtain ⟨D, h1, h2⟩ := H
  exact ⟨D, owns_block h1 hb, h2⟩
theorem MapU.same {w w' : World} {b : Nat} {xs : List Nat} (H : MapU w b xs) (hb : w'.heap[b]? = w.heap[b]?) : MapU w' b xs := owns_block H hb

theorem MapE.made (w : World) : MapE (w.alloc (.map #[] 0)) w.heap.size 0 (fun _ => none) :=
  ⟨.map [], World.ownsMap_made _ _ _ _, fun k => ⟨by simp [has], by simp [DataW.atKey, mapD]⟩⟩

theorem zero_setU (w : World) : (zeroValue 56).run Try.prog w = .ok (.map none) w := by kernel_rfl

theorem MapE.look {w : World} {m n : Nat} {h : Nat → Option Nat} (H : MapE w m n h) (k : Nat) (hk : k < 18446744073709551616) :
    (Instr.lookup 43 (.map (some m)) (.int .u64 (k : Int)) false).run Try.prog w = .ok (.map (h k)) w := by
  obtain ⟨D, hm, hat⟩ := H
  obtain ⟨v, ps, hrun, hv⟩ := hm.lookup (int_keyed Try.underlying30) Try.underlying43 (zero_setU w) (zd := .lit (.bool false)) (zp := []) rfl (key := .int .u64 (k : Int)) (kl := litU k) (keyU hk)
  rw [(hat k).2] at hv
  rw [hrun, mapR_inv hv]

theorem litU_ne9 {a b : Nat} (h : a ≠ b) : litU a ≠ litU b := by
  unfold litU
  intro e
  simp only [Lit.int.injEq, true_and] at e
  omega

theorem MapE.put {w w' : World} {m n k b : Nat} {h : Nat → Option Nat} {D : DataW Unit} (hm : w.ownsMap Try.prog 30 mapR m n D) (hat : ∀ k, has D (litU k) = (h k).isSome ∧ D.atKey (litU k) (.lit (.bool false)) = mapD (h k))
    (hw : w'.ownsMap Try.prog 30 mapR m (n + 1) (D.put (litU k) (.lit (.int .i64 (b : Int))))) : MapE w' m (n + 1) (fun x => if x = k then some b else h x) := by
  refine ⟨_, hw, fun x => ?_⟩
  by_cases e : x = k
  · subst e
    rw [has_put_same hm.isMap (litS_key x), atKey_put_same hm.isMap (k := litU x) (litS_key x)]
    simp [mapD]
  · rw [has_put_other (litU_ne9 e), atKey_put_other (litU_ne9 e), (hat x).1, (hat x).2]
    simp [e]

theorem MapE.upd {w : World} {m n : Nat} {h : Nat → Option Nat} (H : MapE w m n h) (k b : Nat) (hk : k < 18446744073709551616) (hn : n < maxLen) :
    ∃ w', (Instr.mapUpdate 43 (.map (some m)) (.int .u64 (k : Int)) (.map (some b))).run Try.prog w = .ok () w' ∧ MapE w' m (n + 1) (fun x => if x = k then some b else h x) ∧ Keeps (fun q => q = m) w w' := by
  obtain ⟨D, hm, hat⟩ := H
  obtain ⟨w', h1, h2, h3⟩ := hm.update (int_keyed Try.underlying30) Try.underlying43 hn (keyU hk) (val := .map (some b)) (d := .lit (.int .i64 (b : Int))) (ps := []) rfl
  exact ⟨w', h1, MapE.put hm hat h2, keeps_grown h3 (fun q e => by cases e; rfl)⟩

/-- a graph in memory, all of it in blocks from B on: for whom each waits; n: how much was ever put there -/
def GrQ (B : Nat) (w : World) (g n : Nat) (e : Nat → List Nat) : Prop :=
  ∃ m h, B ≤ g ∧ B ≤ m ∧ g ≠ m ∧ w.cell? ⟨g, 0, none⟩ = some (.map (some m)) ∧ MapE w m n h ∧
    (∀ k, h k = none → e k = []) ∧ (∀ k b, h k = some b → e k ≠ [] ∧ (e k).length ≤ n ∧ MapS w b n (e k) ∧ B ≤ b ∧ b ≠ m ∧ b ≠ g) ∧ (∀ k k' b, h k = some b → h k' = some b → k = k')

theorem GrQ.keeps {B : Nat} {F : Nat → Prop} {w w' : World} {g n : Nat} {e : Nat → List Nat} (H : GrQ B w g n e) (hk : Keeps F w w') (hF : ∀ b, B ≤ b → b < w.heap.size → ¬ F b) : GrQ B w' g n e := by
  obtain ⟨m, h, h1, h2, h3, h4, h5, h6, h7, h8⟩ := H
  have hg := World.block_lt_of_cell? w _ h4
  refine ⟨m, h, h1, h2, h3, hk.cell (hF g h1 hg) h4, h5.same (hk.block m h5.lt (hF m h2 h5.lt)), h6, fun k b hb => ?_, h8⟩
  obtain ⟨q1, q2, q3, q4, q5⟩ := h7 k b hb
  exact ⟨q1, q2, q3.same (hk.block b q3.lt (hF b q4 q3.lt)), q4, q5⟩

theorem GrQ.below {B : Nat} {w w' : World} {g n : Nat} {e : Nat → List Nat} (H : GrQ B w g n e) (hb : Below w.heap.size w w') : GrQ B w' g n e :=
  H.keeps (Below.keeps hb (fun _ => False)) (fun _ _ _ h => h)

theorem GrQ.lt {B : Nat} {w : World} {g n : Nat} {e : Nat → List Nat} (H : GrQ B w g n e) : B < w.heap.size := by
  obtain ⟨m, h, h1, h2, h3, h4, h5, _⟩ := H
  have := World.block_lt_of_cell? w _ h4
  have : g < w.heap.size := this
  omega

theorem grnew_any (w : World) : Calls Try.prog 8 #[] w fun e w' => ∃ g, e = .returned (.pointer (some ⟨g, 0, none⟩)) ∧ GrQ w.heap.size w' g 0 (fun _ => []) ∧ Below w.heap.size w w' := by
  have hmk : (Instr.makeMap 43 none).run Try.prog w = .ok (.map (some w.heap.size)) (w.alloc (.map #[] 0)) := run_makeMap _ w
  obtain ⟨W, hW⟩ : ∃ W, w.alloc (.map #[] 0) = W := ⟨_, rfl⟩
  have hs : W.heap.size = w.heap.size + 1 := by rw [← hW]; simp
  have hm : MapE W w.heap.size 0 (fun _ => none) := by rw [← hW]; exact MapE.made w
  have hb : Below w.heap.size w W := by rw [← hW]; exact below_box4 w _
  rw [hW] at hmk
  have HF : Hid (GrQ w.heap.size (W.alloc (.cells #[.map (some w.heap.size)] 45)) W.heap.size 0 (fun _ => []) ∧ Below w.heap.size w (W.alloc (.cells #[.map (some w.heap.size)] 45))) :=
    ⟨⟨w.heap.size, fun _ => none, by omega, Nat.le_refl _, by omega, by simp, hm.same (Below.heap_alloc _ _ _ (by omega)), (fun _ _ => rfl), (by intro k b hb; cases hb), (by intro k k' b hb; cases hb)⟩, bsplit hb (below_box4 W _)⟩
  clear hW hs hm hb
  go_enter Try.func8, Try.ntmps8
  go_wp2
  go_ret
  exact ⟨_, rfl, HF.out.1, HF.out.2⟩

end Go.Proofs.Ytgkgdbdapkgkgaa

/- set.Add of many; graph.Link. -/
namespace Go.Proofs.Ytgkgdbdapkgkgaa
set_option maxRecDepth 100000
open Go.RowKit Go.Maps
set_option linter.unusedVariables false
set_option linter.unusedSimpArgs false

theorem rdU_same {w w' : World} {v : Value} {ns : List Nat} (h : RdU w v ns) (hk : ∀ q, v.ownBlock = some q → w'.heap[q]? = w.heap[q]?) : RdU w' v ns := row_same9 h hk

theorem rdU_ne {w : World} {v : Value} {ns : List Nat} {b n : Nat} {xs : List Nat} (h : RdU w v ns) (hm : MapS w b n xs) : ∀ q, v.ownBlock = some q → q ≠ b := by
  intro q hq e
  subst e
  rcases h.2 with ⟨rfl, _⟩ | ⟨g, c, cur, rfl, _, hc, _⟩
  · cases hq
  · cases hq
    obtain ⟨D, ⟨es, clock, hb, _⟩, _⟩ := hm
    rw [hc] at hb
    cases hb

set_option maxHeartbeats 1000000 in
theorem setaddS_any (w : World) (b n : Nat) (v : Value) (xs ns : List Nat) (hm : MapS w b n xs) (hv : RdU w v ns) (hns : ∀ n ∈ ns, n < 18446744073709551616) (hl : n + ns.length ≤ 1000000) :
    Calls Try.prog 30 #[.map (some b), v] w fun e w' => e = .returned (.tuple #[]) ∧ MapS w' b (n + ns.length) (xs ++ ns) ∧ Keeps (fun q => q = b) w w' := by
  obtain ⟨va, vc, ev, hc1, hc2⟩ := row_slice9 hv
  obtain ⟨N, hN⟩ : ∃ N, ns.length = N := ⟨_, rfl⟩
  have HM : Hid (MapS w b n xs) := hm
  have HV : Hid (RdU w v ns ∧ ∀ q, v.ownBlock = some q → q ≠ b) := ⟨hv, rdU_ne hv hm⟩
  have HS : Hid (∀ n ∈ ns, n < 18446744073709551616) := hns
  have HL : Hid (n + N ≤ 1000000 ∧ ns.length = N) := ⟨by omega, hN⟩
  rw [hN] at ev hc1 ⊢
  subst ev
  clear hm hv hns hl hN
  go_enter Try.func30, Try.ntmps30
  go_wp2_with fail
  go_loopg [8] N (fun gk iv wr => ∃ j : Nat, gk + j = N ∧ iv = .int .i64 (j : Int) ∧ Hid (MapS wr b (n + j) (xs ++ ns.take j) ∧ Keeps (fun q => q = b) w wr))
  case atStart => exact ⟨0, by omega, rfl, by rw [List.take_zero, List.append_nil]; exact HM.out, Keeps.refl _ _⟩
  case round =>
    obtain ⟨j, hj, rfl, H1⟩ := hrel
    by_cases hlt : j < N
    · have hjl : j < ns.length := by rw [HL.out.2]; exact hlt
      have hrd : RdU wr (.slice va N vc) ns := rdU_same HV.out.1 fun q hq => by
        rcases HV.out.1.2 with ⟨e, _⟩ | ⟨g, c, cur, e, _, hc, _⟩
        · cases e; cases hq
        · cases e; cases hq
          exact H1.out.2.block _ (Array.getElem?_eq_some_iff.1 hc).1 (fun e => HV.out.2 _ rfl e)
      obtain ⟨q, c, e, _, c0⟩ := hrd.at j hjl
      rw [HL.out.2] at e
      cases e
      have hx := HS.out _ (List.getElem_mem hjl)
      have htk : xs ++ ns.take (j + 1) = xs ++ ns.take j ++ [ns[j]] := by rw [List.take_succ_eq_append_getElem hjl, List.append_assoc]
      obtain ⟨x, hxe⟩ : ∃ x, ns[j] = x := ⟨_, rfl⟩
      rw [hxe] at c0 hx htk
      obtain ⟨D, hmp, hD⟩ := H1.out.1
      have HMP : Hid (wr.ownsMap Try.prog 30 (unitElem (H := Unit)) b (n + j) D ∧ ∀ k, has D (litU k) = true ↔ k ∈ xs ++ ns.take j) := ⟨hmp, hD⟩
      have HT : Hid (xs ++ ns.take (j + 1) = xs ++ ns.take j ++ [x]) := htk
      have HK : Hid (keyOf Try.prog 30 (.int .u64 (x : Int)) = some (litU x)) := keyU hx
      have hltI : (j : Int) < (N : Int) := by omega
      obtain ⟨j1, hj1⟩ : ∃ j1, j + 1 = j1 := ⟨_, rfl⟩
      have ej1 : (j : Int) + 1 = (j1 : Int) := by omega
      have y1 : j1 < 1152921504606846976 := by have := HL.out; omega
      have HG : Hid (gk - 1 < gk ∧ gk - 1 + j1 = N ∧ j + 1 = j1) := ⟨by omega, by omega, hj1⟩
      have hnj : n + j < maxLen := by have := HL.out; unfold maxLen; omega
      have HNJ : Hid (n + j < maxLen) := hnj
      clear hrd hx htk hxe hmp hD hlt hj hjl hj1 hnj
      go_wp2_with (first | (at_mapUpdate; refine wpList_mapUpdate_own _ rfl _ _ _ 56 rfl 30 68 (int_keyed Try.underlying30) Try.underlying56 _ b (n + j) _ rfl HMP.out.1 HNJ.out _ _ _ rfl rfl HK.out (.agg []) [] unitElem_mk ?_; intro w5 hown5 hgrow5) | fail)
      have HF : Hid (MapS w5 b (n + j1) (xs ++ ns.take j1) ∧ Keeps (fun q => q = b) w w5) := by
        refine ⟨?_, H1.out.2.trans (keeps_grown hgrow5 (fun q e => by cases e; rfl))⟩
        rw [← HG.out.2.2, HT.out]
        exact MapS.put HMP.out.1 HMP.out.2 hown5
      clear hown5 hgrow5
      go_roundg (gk - 1)
      case measure => exact HG.out.1
      case rel => exact ⟨j1, HG.out.2.1, rfl, HF.out⟩
    · have hjN : j = N := by omega
      have hnI : ¬ (j : Int) < (N : Int) := by omega
      have HE : Hid (MapS wr b (n + N) (xs ++ ns) ∧ Keeps (fun q => q = b) w wr) := by
        refine ⟨?_, H1.out.2⟩
        have h := H1.out.1
        rw [List.take_of_length_le (by have := HL.out; omega), hjN] at h
        exact h
      clear H1 hj hlt hjN
      go_wp2
      refine bodyPost_end (results_none Try.results30 _ _ _) rfl ?_
      exact ⟨rfl, HE.out.1, HE.out.2⟩

/-- for whom each waits, with one's links more -/
def lnkE (e : Nat → List Nat) (k : Nat) (ns : List Nat) : Nat → List Nat := fun x => if x = k then e x ++ ns else e x

theorem eqG (g : Nat) : ∀ w : World, (binOp .eql 24 (.pointer (some ⟨g, 0, none⟩)) (.pointer none)).run Try.prog w = .ok (.bool false) w := fun _ => rfl
theorem eqS0 : ∀ w : World, (binOp .eql 56 (.map none) (.map none)).run Try.prog w = .ok (.bool true) w := fun _ => rfl
theorem eqS1 (b : Nat) : ∀ w : World, (binOp .eql 56 (.map (some b)) (.map none)).run Try.prog w = .ok (.bool false) w := fun _ => rfl

theorem rdU_keeps {F : Nat → Prop} {w w' : World} {v : Value} {ns : List Nat} (h : RdU w v ns) (hk : Keeps F w w') (hF : ∀ q, v.ownBlock = some q → ¬ F q) : RdU w' v ns := rdU_same h fun q hq => by
  have hlt := (World.ownsRow.lt h q hq).2
  exact hk.block q hlt (hF q hq)

theorem rdU_neE {w : World} {v : Value} {ns : List Nat} {m n : Nat} {h : Nat → Option Nat} (hv : RdU w v ns) (hm : MapE w m n h) : ∀ q, v.ownBlock = some q → q ≠ m := by
  intro q hq e
  subst e
  rcases hv.2 with ⟨rfl, _⟩ | ⟨g, c, cur, rfl, _, hc, _⟩
  · cases hq
  · cases hq
    obtain ⟨D, ⟨es, clock, hb, _⟩, _⟩ := hm
    rw [hc] at hb
    cases hb

theorem MapE.mono {w : World} {m n n' : Nat} {h : Nat → Option Nat} (H : MapE w m n h) (hn : n ≤ n') : MapE w m n' h := by
  obtain ⟨D, h1, h2⟩ := H
  exact ⟨D, h1.mono hn, h2⟩

theorem GrQ.mono {B : Nat} {w : World} {g n n' : Nat} {e : Nat → List Nat} (H : GrQ B w g n e) (hn : n ≤ n') : GrQ B w g n' e := by
  obtain ⟨m, h, h1, h2, h3, h4, h5, h6, h7, h8⟩ := H
  refine ⟨m, h, h1, h2, h3, h4, h5.mono hn, h6, fun k b hb => ?_, h8⟩
  obtain ⟨q1, q2, q3, q4, q5⟩ := h7 k b hb
  exact ⟨q1, by omega, q3.mono hn, q4, q5⟩

/-- what stands behind Link, of one that had a set -/
theorem GrQ.add {B : Nat} {w w' : World} {g n k b m : Nat} {e : Nat → List Nat} {h : Nat → Option Nat} {ns : List Nat}
    (h1 : B ≤ g) (h2 : B ≤ m) (h3 : g ≠ m) (h4 : w.cell? ⟨g, 0, none⟩ = some (.map (some m))) (h5 : MapE w m n h) (h6 : ∀ k, h k = none → e k = []) (h7 : ∀ k b, h k = some b → e k ≠ [] ∧ (e k).length ≤ n ∧ MapS w b n (e k) ∧ B ≤ b ∧ b ≠ m ∧ b ≠ g) (h8 : ∀ k k' b, h k = some b → h k' = some b → k = k')
    (hb : h k = some b) (hk : Keeps (fun q => q = b) w w') (hm : MapS w' b (n + ns.length) (e k ++ ns)) : GrQ B w' g (n + ns.length + 1) (lnkE e k ns) := by
  obtain ⟨q1, q2, q3, q4, q5, q6⟩ := h7 k b hb
  refine ⟨m, h, h1, h2, h3, hk.cell (fun e => q6 e.symm) h4, (h5.same (hk.block m h5.lt (fun e => q5 e.symm))).mono (by omega), fun x hx => ?_, fun x c hx => ?_, h8⟩
  · unfold lnkE
    by_cases e9 : x = k
    · subst e9; rw [hb] at hx; cases hx
    · rw [if_neg e9]; exact h6 x hx
  · unfold lnkE
    by_cases e9 : x = k
    · subst e9
      rw [hb] at hx
      cases hx
      rw [if_pos rfl]
      exact ⟨by simp [q1], by rw [List.length_append]; omega, hm.mono (by omega), q4, q5, q6⟩
    · rw [if_neg e9]
      obtain ⟨r1, r2, r3, r4, r5, r6⟩ := h7 x c hx
      exact ⟨r1, by omega, (r3.same (hk.block c r3.lt (fun e => e9 (h8 x k b (by rw [hx, e]) hb)))).mono (by omega), r4, r5, r6⟩

/-- of one that had none -/
theorem GrQ.new {B : Nat} {w w1 w2 w3 : World} {g n k m : Nat} {e : Nat → List Nat} {h : Nat → Option Nat} {ns : List Nat}
    (h1 : B ≤ g) (h2 : B ≤ m) (h3 : g ≠ m) (h4 : w.cell? ⟨g, 0, none⟩ = some (.map (some m))) (h5 : MapE w m n h) (h6 : ∀ k, h k = none → e k = []) (h7 : ∀ k b, h k = some b → e k ≠ [] ∧ (e k).length ≤ n ∧ MapS w b n (e k) ∧ B ≤ b ∧ b ≠ m ∧ b ≠ g) (h8 : ∀ k k' b, h k = some b → h k' = some b → k = k')
    (hk : h k = none) (hb1 : Below w.heap.size w w1) (hk2 : Keeps (fun q => q = m) w1 w2) (hm2 : MapE w2 m (n + 1) (fun x => if x = k then some w.heap.size else h x)) (hk3 : Keeps (fun q => q = w.heap.size) w2 w3) (hm3 : MapS w3 w.heap.size ns.length ns) (hns : ns ≠ []) (hBw : B ≤ w.heap.size) : GrQ B w3 g (n + ns.length + 1) (lnkE e k ns) := by
  have hg : g < w.heap.size := World.block_lt_of_cell? w _ h4
  have hml := h5.lt
  refine ⟨m, _, h1, h2, h3, hk3.cell (show ¬ g = _ by omega) (hk2.cell (show ¬ g = m from h3) ((hb1.cell (p := ⟨g, 0, none⟩) hg).trans h4)), (hm2.same (hk3.block m hm2.lt (by omega))).mono (by omega), fun x hx => ?_, fun x c hx => ?_, fun x y c hx hy => ?_⟩
  · unfold lnkE
    by_cases e9 : x = k
    · subst e9; simp at hx
    · rw [if_neg e9] at hx ⊢; exact h6 x hx
  · unfold lnkE
    by_cases e9 : x = k
    · subst e9
      rw [if_pos rfl] at hx ⊢
      cases hx
      rw [h6 x hk, List.nil_append]
      exact ⟨hns, by omega, hm3.mono (by omega), hBw, by omega, by omega⟩
    · rw [if_neg e9] at hx ⊢
      obtain ⟨r1, r2, r3, r4, r5, r6⟩ := h7 x c hx
      have hc := r3.lt
      have e1 : w1.heap[c]? = w.heap[c]? := hb1.block c hc
      have e2 : w2.heap[c]? = w1.heap[c]? := hk2.block c (Nat.lt_of_lt_of_le hc hb1.size) r5
      have e3 : w3.heap[c]? = w2.heap[c]? := hk3.block c (Nat.lt_of_lt_of_le (Nat.lt_of_lt_of_le hc hb1.size) hk2.size) (by omega)
      exact ⟨r1, by omega, (r3.same (by rw [e3, e2, e1])).mono (by omega), r4, r5, r6⟩
  · by_cases e9 : x = k
    · subst e9
      rw [if_pos rfl] at hx
      cases hx
      by_cases e8 : y = x
      · exact e8.symm
      · rw [if_neg e8] at hy
        have := (h7 y _ hy).2.2.1.lt
        omega
    · rw [if_neg e9] at hx
      by_cases e8 : y = k
      · subst e8
        rw [if_pos rfl] at hy
        cases hy
        have := (h7 x _ hx).2.2.1.lt
        omega
      · rw [if_neg e8] at hy
        exact h8 x y c hx hy

/-- a block that holds a map -/
def IsMp (w : World) (q : Nat) : Prop := ∃ es c, w.heap[q]? = some (.map es c)

theorem MapS.mp {w : World} {b n : Nat} {xs : List Nat} (h : MapS w b n xs) : IsMp w b := by
  obtain ⟨D, ⟨es, clock, hb, _⟩, _⟩ := h
  exact ⟨es, clock, hb⟩
theorem MapE.mp {w : World} {m n : Nat} {h : Nat → Option Nat} (H : MapE w m n h) : IsMp w m := by
  obtain ⟨D, ⟨es, clock, hb, _⟩, _⟩ := H
  exact ⟨es, clock, hb⟩

set_option maxHeartbeats 2000000 in
theorem link_any (B : Nat) (w : World) (g n k : Nat) (e : Nat → List Nat) (v : Value) (ns : List Nat) (h : GrQ B w g n e) (hv : RdU w v ns) (hk : k < 18446744073709551616) (hns : ∀ n ∈ ns, n < 18446744073709551616) (hl : n + ns.length + 1 ≤ 100000) :
    Calls Try.prog 20 #[.pointer (some ⟨g, 0, none⟩), .int .u64 (k : Int), v] w fun e' w' => e' = .returned (.tuple #[]) ∧ GrQ B w' g (n + ns.length + 1) (lnkE e k ns) ∧ Keeps (fun q => B ≤ q ∧ IsMp w q) w w' := by
  have he := eqG g
  obtain ⟨va, vc, ev, hc1, hc2⟩ := row_slice9 hv
  obtain ⟨N, hN⟩ : ∃ N, ns.length = N := ⟨_, rfl⟩
  have HV : Hid (RdU w v ns) := hv
  have HE : Hid (GrQ B w g n e) := h
  have HS : Hid (∀ n ∈ ns, n < 18446744073709551616) := hns
  have HL : Hid (n + N + 1 ≤ 100000 ∧ ns.length = N ∧ n ≤ 100000 ∧ k < 18446744073709551616) := ⟨by omega, hN, by omega, hk⟩
  obtain ⟨m, hh, h1, h2, h3, h4, h5, h6, h7, h8⟩ := h
  have HH : Hid (B ≤ g ∧ B ≤ m ∧ g ≠ m ∧ w.cell? ⟨g, 0, none⟩ = some (.map (some m)) ∧ MapE w m n hh ∧ (∀ k, hh k = none → e k = []) ∧ (∀ k b, hh k = some b → e k ≠ [] ∧ (e k).length ≤ n ∧ MapS w b n (e k) ∧ B ≤ b ∧ b ≠ m ∧ b ≠ g) ∧ (∀ k k' b, hh k = some b → hh k' = some b → k = k')) := ⟨h1, h2, h3, h4, h5, h6, h7, h8⟩
  have hlk := h5.look k hk
  rw [hN] at ev hc1
  subst ev
  clear hv hns hl hN h1 h2 h3 h5 h6 h7 h8
  by_cases h0 : N = 0
  · have hn0 : ns = [] := List.eq_nil_of_length_eq_zero (by have := HL.out; omega)
    subst hn0
    have hE : lnkE e k [] = e := by funext x; unfold lnkE; rw [List.append_nil]; split <;> rfl
    subst h0
    rw [hE]
    clear hlk h4 hE
    go_enter Try.func20, Try.ntmps20
    go_wp2
    refine bodyPost_ret (results_none rfl _ _ _) rfl ?_
    exact ⟨rfl, HE.out.mono (by simp), Keeps.refl _ _⟩
  · have h0I : ¬ (N : Int) = 0 := by omega
    have HN0 : Hid (ns ≠ []) := fun h => by have := HL.out.2.1; rw [h] at this; exact h0 this.symm
    cases hb : hh k with
    | some b =>
      rw [hb] at hlk
      have hs := eqS1 b
      have hadd := setaddS_any w b n (.slice va N vc) (e k) ns (HH.out.2.2.2.2.2.2.1 k b hb).2.2.1 HV.out HS.out (by have := HL.out; omega)
      have HB : Hid (hh k = some b) := hb
      clear hb h0
      go_enter Try.func20, Try.ntmps20
      go_wp2_with fail
      refine hadd.mono ?_
      rintro e' w1 ⟨rfl, hm1, hk1⟩
      have HF : Hid (GrQ B w1 g (n + ns.length + 1) (lnkE e k ns) ∧ Keeps (fun q => B ≤ q ∧ IsMp w q) w w1) := by
        obtain ⟨q1, q2, q3, q4, q5, q6, q7, q8⟩ := HH.out
        exact ⟨GrQ.add q1 q2 q3 q4 q5 q6 q7 q8 HB.out hk1 hm1, hk1.mono (fun i e => by rw [e]; exact ⟨(q7 k b HB.out).2.2.2.1, (q7 k b HB.out).2.2.1.mp⟩)⟩
      clear hadd hm1 hk1
      go_wp2
      go_end0
      exact ⟨rfl, HF.out.1, HF.out.2⟩
    | none =>
      rw [hb] at hlk
      have hs := eqS0
      have HB : Hid (hh k = none) := hb
      clear hb h0
      have hdr : Below w.heap.size w w.drew := (Below.refl _ _).drew
      have hof := setof_any w.drew
      go_enter Try.func20, Try.ntmps20
      go_upto_region 2 with fail
      go_region_with (first
        | (go_at_call 27; refine Calls.mono hof ?_; rintro e1 w1 ⟨rfl, hm1, hb1⟩
           have HB1 : Hid (MapU w1 w.heap.size [] ∧ Below w.heap.size w w1) := ⟨hm1, hdr.trans hb1⟩
           obtain ⟨w2, hrun, hm2, hk2⟩ := (HH.out.2.2.2.2.1.same (HB1.out.2.block m HH.out.2.2.2.2.1.lt)).upd k w.heap.size HL.out.2.2.2 (by have := HL.out; unfold maxLen; omega)
           have HM2 : Hid (MapE w2 m (n + 1) (fun x => if x = k then some w.heap.size else hh x) ∧ Keeps (fun q => q = m) w1 w2) := ⟨hm2, hk2⟩
           have c1 : w1.cell? ⟨g, 0, none⟩ = some (.map (some m)) := (HB1.out.2.cell (p := ⟨g, 0, none⟩) (World.block_lt_of_cell? w _ HH.out.2.2.2.1)).trans HH.out.2.2.2.1
           clear hm2 hk2 hm1 hb1)
        | fail)
      all_goals
        have hlk2 := HM2.out.1.look k HL.out.2.2.2
        rw [if_pos rfl] at hlk2
        have c2 : w2.cell? ⟨g, 0, none⟩ = some (.map (some m)) := HM2.out.2.cell (show ¬ g = m from HH.out.2.2.1) ((HB1.out.2.cell (p := ⟨g, 0, none⟩) (World.block_lt_of_cell? w _ HH.out.2.2.2.1)).trans HH.out.2.2.2.1)
        have hadd := setaddS_any w2 w.heap.size 0 (.slice va N vc) [] ns (HB1.out.1.s.same (HM2.out.2.block _ HB1.out.1.lt (by have := HH.out.2.2.2.2.1.lt; omega))) (rdU_keeps (rdU_keeps HV.out (Below.keeps HB1.out.2 (fun _ => False)) (fun _ _ h => h)) HM2.out.2 (rdU_neE HV.out HH.out.2.2.2.2.1)) HS.out (by have := HL.out; simp; omega)
        have hb12 : B ≤ w.heap.size := Nat.le_of_lt HE.out.lt
        clear hof hrun c1 hlk h4
        go_wp2_with fail
        refine hadd.mono ?_
        rintro e' w3 ⟨rfl, hm3, hk3⟩
        have HF : Hid (GrQ B w3 g (n + ns.length + 1) (lnkE e k ns) ∧ Keeps (fun q => B ≤ q ∧ IsMp w q) w w3) := by
          obtain ⟨q1, q2, q3, q4, q5, q6, q7, q8⟩ := HH.out
          refine ⟨GrQ.new q1 q2 q3 q4 q5 q6 q7 q8 HB.out HB1.out.2 HM2.out.2 HM2.out.1 hk3 (by simpa using hm3) HN0.out hb12, ?_⟩
          have a1 := (Below.keeps HB1.out.2 (fun q => B ≤ q ∧ IsMp w q)).then HM2.out.2 (fun i e => .inl (by rw [e]; exact ⟨q2, q5.mp⟩))
          exact a1.then hk3 (fun i e => .inr (by rw [e]; exact Nat.le_refl _))
        clear hadd hm3 hk3 hlk2 c2
        go_wp2
        go_end0
        exact ⟨rfl, HF.out.1, HF.out.2⟩


end Go.Proofs.Ytgkgdbdapkgkgaa

/- set.Has, set.Drop, set.Of of a row. -/
namespace Go.Proofs.Ytgkgdbdapkgkgaa
set_option maxRecDepth 100000
open Go.RowKit Go.Maps
set_option linter.unusedVariables false
set_option linter.unusedSimpArgs false

theorem zero_unit (w : World) : (zeroValue 68).run Try.prog w = .ok (.agg #[]) w := by kernel_rfl

theorem hasS_dec {D : DataW Unit} {xs : List Nat} (h : ∀ k, has D (litU k) = true ↔ k ∈ xs) (k : Nat) : Maps.has D (litU k) = decide (k ∈ xs) := by
  by_cases e : k ∈ xs
  · rw [(h k).2 e, decide_eq_true e]
  · rw [decide_eq_false e]
    cases h9 : Maps.has D (litU k)
    · rfl
    · exact absurd ((h k).1 h9) e

/-- set.Has -/
theorem sethas_any (w : World) (b n k : Nat) (xs : List Nat) (hm : MapS w b n xs) (hk : k < 18446744073709551616) :
    Calls Try.prog 29 #[.map (some b), .int .u64 (k : Int)] w fun e w' => e = .returned (.bool (decide (k ∈ xs))) ∧ Below w.heap.size w w' := by
  obtain ⟨D, hmp, hD⟩ := hm
  have HH : Hid (Maps.has D (litU k) = decide (k ∈ xs)) := hasS_dec hD k
  have HK : Hid (keyOf Try.prog 30 (.int .u64 (k : Int)) = some (litU k)) := keyU hk
  have HM : Hid (w.ownsMap Try.prog 30 (unitElem (H := Unit)) b n D) := hmp
  clear hmp hD hk
  go_enter Try.func29, Try.ntmps29
  go_wp2_with (first | (at_lookup; refine wpList_lookup_own_unit _ rfl _ _ 56 rfl 30 68 (int_keyed Try.underlying30) Try.underlying56 (zero_unit _) b n D rfl HM.out _ _ rfl HK.out ?_; rw [HH.out]) | fail)
  go_ret
  exact ⟨rfl, below_box4 w _⟩

theorem ranges_sameG {w w' : World} {b r n cnt : Nat} {R : Value → Option (DataW Unit × List MemPlace)} {D : DataW Unit} {left : Lit → Bool} (h : w.ranges Try.prog 30 R b r n D left cnt) (h1 : w'.heap[b]? = w.heap[b]?) (h2 : w'.heap[r]? = w.heap[r]?) : w'.ranges Try.prog 30 R b r n D left cnt := by
  obtain ⟨es, clock, since, seen, c0, hb, F, hs, hD, hr, rest⟩ := h
  exact ⟨es, clock, since, seen, c0, h1.trans hb, F, hs, hD, h2.trans hr, rest⟩

/-- what is left of a set while it is gone through -/
def DrpL (D : DataW Unit) (left : Lit → Bool) (xs ys : List Nat) : Prop := ∀ k, Maps.has D (litU k) = true ↔ k ∈ xs ∧ (left (litU k) = true ∨ k ∉ ys)

theorem DrpL.start {D : DataW Unit} {xs ys : List Nat} (h : ∀ k, Maps.has D (litU k) = true ↔ k ∈ xs) : DrpL D (Maps.has D) xs ys := fun k => by
  rw [h k]
  constructor
  · exact fun e => ⟨e, .inl e⟩
  · exact fun e => e.1

theorem DrpL.del {D : DataW Unit} {left : Lit → Bool} {xs ys : List Nat} (h : DrpL D left xs ys) {x : Nat} (hx : x ∈ ys) : DrpL (D.del (litU x)) (fun z => (left z && !z.sameKey (litU x)) && !z.sameKey (litU x)) xs ys := fun k => by
  by_cases e : k = x
  · subst e
    simp only [litU_same, decide_true, Bool.not_true, Bool.and_false]
    rw [Maps.has_del_same]
    constructor
    · intro h9; cases h9
    · rintro ⟨_, h9 | h9⟩
      · cases h9
      · exact absurd hx h9
  · simp only [litU_same, decide_eq_false e, Bool.not_false, Bool.and_true]
    rw [Maps.has_del_other (litS_ne e)]
    exact h k

theorem DrpL.stay {D : DataW Unit} {left : Lit → Bool} {xs ys : List Nat} (h : DrpL D left xs ys) {x : Nat} (hx : x ∉ ys) (hl : left (litU x) = true) : DrpL D (fun z => left z && !z.sameKey (litU x)) xs ys := fun k => by
  rw [h k]
  by_cases e : k = x
  · subst e
    exact ⟨fun a => ⟨a.1, .inr hx⟩, fun a => ⟨a.1, .inl hl⟩⟩
  · simp only [litU_same, decide_eq_false e, Bool.not_false, Bool.and_true]

theorem DrpL.done {D : DataW Unit} {left : Lit → Bool} {xs ys : List Nat} (h : DrpL D left xs ys) (hl : ∀ z, left z = false) (k : Nat) : Maps.has D (litU k) = true ↔ k ∈ xs.filter fun x => decide (x ∉ ys) := by
  rw [h k, hl, List.mem_filter]
  simp

set_option maxHeartbeats 2000000 in
/-- set.Drop -/
theorem setdrop_any (w : World) (b n c nc : Nat) (xs ys : List Nat) (hm : MapS w b n xs) (hc : MapS w c nc ys) (hne : c ≠ b) :
    Calls Try.prog 28 #[.map (some b), .map (some c)] w fun e w' => e = .returned (.tuple #[]) ∧ MapS w' b n (xs.filter fun x => decide (x ∉ ys)) ∧ Keeps (fun q => q = b) w w' := by
  have HC : Hid (MapS w c nc ys ∧ c ≠ b ∧ b < w.heap.size) := ⟨hc, hne, hm.lt⟩
  obtain ⟨D, hmp, hD⟩ := hm
  have HD : Hid (∀ k, Maps.has D (litU k) = true ↔ k ∈ xs) := hD
  clear hD hc hne
  go_enter Try.func28, Try.ntmps28
  go_wp2_with (first
    | (at_range; refine wpList_range_own _ rfl _ 56 rfl 30 68 (int_keyed Try.underlying30) Try.underlying56 (unitElem (H := Unit)) b n D rfl hmp ?_; intro w0 hrg0 hg0 hs0)
    | fail)
  try go_frame
  have HG0 : Hid (Keeps (fun q => q = b) w w0 ∧ w0.heap.size = w.heap.size + 1) := ⟨keeps_grown hg0 (fun q e => by cases e), hs0⟩
  clear hg0 hs0 hmp
  go_loopg [4] (Maps.size D) (fun gk av wr => ∃ left D', wr.ranges Try.prog 30 (unitElem (H := Unit)) b w.heap.size n D' left gk ∧ Hid (DrpL D' left xs ys ∧ Keeps (fun q => q = b) w wr ∧ w.heap.size < wr.heap.size))
  case atStart => exact ⟨_, _, hrg0, DrpL.start HD.out, HG0.out.1, by have := HG0.out.2; omega⟩
  case round =>
    obtain ⟨left, D', hrg, HR⟩ := hrel
    go_wp2_with (at_next; refine wpList_next_ranges _ rfl _ rfl 30 (int_keyed Try.underlying30) (unitElem (H := Unit)) (Value.int .u64) (fun _ : Unit => Value.agg #[]) keyQ_inv unitQ_inv b w.heap.size n D' left gk rfl hrg ?_ ?_; intro hc0 hl0; rotate_left; intro x cu kl y wn cnt1 hkey hlk hv hat hrg1 hlt9 hg1 hs1 hen; rotate_left)
    · have HE : Hid (MapS wr b n (xs.filter fun x => decide (x ∉ ys)) ∧ Keeps (fun q => q = b) w wr) := ⟨⟨D', hrg.owns, HR.out.1.done hl0⟩, HR.out.2.1⟩
      clear HR hrg
      go_wp2
      refine bodyPost_end (results_none Try.results28 _ _ _) rfl ?_
      exact ⟨rfl, HE.out.1, HE.out.2⟩
    · obtain ⟨k, rfl, rfl, hk⟩ := keyQ_lit hkey
      have hkn : Keeps (fun q => q = b) w wn := HR.out.2.1.then (keeps_grown (F := fun q => q = w.heap.size) hg1 (fun q e => by cases e; rfl)) (fun i e => .inr (by rw [e]; exact Nat.le_refl _))
      have hcn : MapS wn c nc ys := HC.out.1.same (hkn.block c HC.out.1.lt HC.out.2.1)
      have HN : Hid (Keeps (fun q => q = b) w wn ∧ w.heap.size < wn.heap.size ∧ DrpL D' left xs ys ∧ left (litU k) = true ∧ cnt1 < gk ∧ keyOf Try.prog 30 (.int .u64 (k : Int)) = some (litU k)) := ⟨hkn, by have := HR.out.2.2; omega, HR.out.1, hlk, hlt9, keyU hk⟩
      have hh := sethas_any wn c nc k ys hcn hk
      clear hkn hcn HR hlk hlt9 hrg hg1 hs1 hkey hv hat
      by_cases hin : k ∈ ys
      · rw [decide_eq_true hin] at hh
        go_wp2_with fail
        refine hh.mono ?_
        rintro e5 w5 ⟨rfl, hb5⟩
        have hrg5 := ranges_sameG hrg1 (hb5.block b hrg1.owns.lt) (hb5.block _ hrg1.lt)
        have HB5 : Hid (Keeps (fun q => q = b) w w5 ∧ w.heap.size < w5.heap.size) := ⟨HN.out.1.trans (Below.keeps hb5 _), Nat.lt_of_lt_of_le HN.out.2.1 hb5.size⟩
        clear hh hb5 hrg1 hen
        go_wp2_with (at_delete; refine wpList_delete_ranges _ rfl _ _ 56 30 rfl 68 (int_keyed Try.underlying30) Try.underlying56 (unitElem (H := Unit)) b w.heap.size n _ _ _ rfl hrg5 _ _ rfl HN.out.2.2.2.2.2 ?_; intro w6 cnt6 hrg6 hle6 hturn6)
        try go_frame
        have HF : Hid (DrpL (D'.del (litU k)) (fun z => (left z && !z.sameKey (litU k)) && !z.sameKey (litU k)) xs ys ∧ Keeps (fun q => q = b) w w6 ∧ w.heap.size < w6.heap.size ∧ cnt6 < gk) := by
          have hk6 : Keeps (fun q => q = b) w5 w6 := keeps_grown hturn6.grown (fun q e => by cases e; rfl)
          exact ⟨HN.out.2.2.1.del hin, HB5.out.1.trans hk6, Nat.lt_of_lt_of_le HB5.out.2 hk6.size, Nat.lt_of_le_of_lt hle6 HN.out.2.2.2.2.1⟩
        clear hrg5 hle6 hturn6
        go_roundg cnt6
        case measure => exact HF.out.2.2.2
        case rel => exact ⟨_, _, hrg6, HF.out.1, HF.out.2.1, HF.out.2.2.1⟩
      · rw [decide_eq_false hin] at hh
        go_wp2_with fail
        refine hh.mono ?_
        rintro e5 w5 ⟨rfl, hb5⟩
        have hrg5 := ranges_sameG hrg1 (hb5.block b hrg1.owns.lt) (hb5.block _ hrg1.lt)
        have HF : Hid (DrpL D' (fun z => left z && !z.sameKey (litU k)) xs ys ∧ Keeps (fun q => q = b) w w5 ∧ w.heap.size < w5.heap.size ∧ cnt1 < gk) := ⟨HN.out.2.2.1.stay hin HN.out.2.2.2.1, HN.out.1.trans (Below.keeps hb5 _), Nat.lt_of_lt_of_le HN.out.2.1 hb5.size, HN.out.2.2.2.2.1⟩
        clear hh hb5 hrg1 hen
        go_wp2_with fail
        go_roundg cnt1
        case measure => exact HF.out.2.2.2
        case rel => exact ⟨_, _, hrg5, HF.out.1, HF.out.2.1, HF.out.2.2.1⟩

/-- set.Of -/
theorem setofl_any (w : World) (v : Value) (ns : List Nat) (hv : RdU w v ns) (hns : ∀ n ∈ ns, n < 18446744073709551616) (hl : ns.length ≤ 1000000) :
    Calls Try.prog 27 #[v] w fun e w' => e = .returned (.map (some w.heap.size)) ∧ MapS w' w.heap.size ns.length ns ∧ Below w.heap.size w w' := by
  have hmk : ∀ w : World, (Instr.makeMap 56 none).run Try.prog w = .ok (.map (some w.heap.size)) (w.alloc (.map #[] 0)) := fun w => run_makeMap _ w
  have h0 : MapU (w.alloc (.map #[] 0)) w.heap.size [] := World.ownsMap_made _ _ _ _
  have hb0 : Below w.heap.size w (w.alloc (.map #[] 0)) := below_box4 w _
  have hv0 : RdU (w.alloc (.map #[] 0)) v ns := rdU_keeps hv (Below.keeps hb0 (fun _ => False)) (fun _ _ h => h)
  have hadd := setaddS_any (w.alloc (.map #[] 0)) w.heap.size 0 v [] ns h0.s hv0 hns (by omega)
  have HB : Hid (Below w.heap.size w (w.alloc (.map #[] 0))) := hb0
  clear h0 hb0 hv0 hv hns hl
  go_enter Try.func27, Try.ntmps27
  go_wp2_with fail
  refine hadd.mono ?_
  rintro e w1 ⟨rfl, hm1, hk1⟩
  have HF : Hid (MapS w1 w.heap.size ns.length ns ∧ Below w.heap.size w w1) := by
    refine ⟨by simpa using hm1, HB.out.trans (hk1.below (fun i e => by rw [e]; exact Nat.le_refl _) HB.out.size)⟩
  clear hadd hm1 hk1
  go_wp2
  go_ret
  exact ⟨rfl, HF.out.1, HF.out.2⟩

end Go.Proofs.Ytgkgdbdapkgkgaa

/- graph.Cut. -/
namespace Go.Proofs.Ytgkgdbdapkgkgaa
set_option maxRecDepth 100000
open Go.RowKit Go.Maps
set_option linter.unusedVariables false
set_option linter.unusedSimpArgs false

/-- a set's size -/
theorem MapS.size_zero {w : World} {b n : Nat} {xs : List Nat} {D : DataW Unit} (hm : w.ownsMap Try.prog 30 (unitElem (H := Unit)) b n D) (hD : ∀ k, has D (litU k) = true ↔ k ∈ xs) : Maps.size D = 0 ↔ xs = [] := by
  obtain ⟨w', _, hrg, _⟩ := hm.range (int_keyed Try.underlying30) Try.underlying56
  rcases hrg.next (int_keyed Try.underlying30) 0 with ⟨h0, hl, _⟩ | ⟨key, v, kl, y, w2, c2, hk, hl, hv, hat, _, _, hlt, _⟩
  · refine ⟨fun _ => List.eq_nil_iff_forall_not_mem.2 fun x hx => ?_, fun _ => h0⟩
    have := (hD x).2 hx
    rw [hl] at this
    cases this
  · refine ⟨fun h => by omega, fun h => ?_⟩
    obtain ⟨x, rfl⟩ := keyQ_inv key kl hk
    obtain ⟨k, rfl, rfl, _⟩ := keyQ_lit hk
    have := (hD k).1 hl
    rw [h] at this
    cases this

theorem mapQ_inv : ∀ (v : Value) (y : DataW Unit × List MemPlace), mapR v = some y → ∃ o : Option Nat, v = Value.map o := by
  intro v y h
  unfold mapR at h
  split at h
  · exact ⟨none, rfl⟩
  · rename_i b; exact ⟨some b, rfl⟩
  · cases h

theorem mapQ_val {o : Option Nat} {y : DataW Unit × List MemPlace} (h : mapR (.map o) = some y) : y.1 = mapD o := by
  cases o with
  | none => unfold mapR at h; cases h; rfl
  | some b => unfold mapR at h; cases h; rfl

theorem mapD_inj {a b : Option Nat} (h : mapD a = mapD b) : a = b := by
  cases a <;> cases b <;> simp [mapD] at h ⊢
  omega

/-- the links without some nodes' -/
def cutE (e : Nat → List Nat) (ns : List Nat) : Nat → List Nat := fun k => if k ∈ ns then [] else (e k).filter fun x => decide (x ∉ ns)

def MatD (D : DataW Unit) (h : Nat → Option Nat) : Prop := ∀ k, has D (litU k) = (h k).isSome ∧ D.atKey (litU k) (.lit (.bool false)) = mapD (h k)

theorem MatD.del {D : DataW Unit} {h : Nat → Option Nat} (H : MatD D h) (k : Nat) : MatD (D.del (litU k)) (fun x => if x = k then none else h x) := fun x => by
  by_cases e : x = k
  · subst e
    simp only [if_pos rfl, has_del_same, atKey_del_same]
    exact ⟨rfl, rfl⟩
  · simp only [if_neg e, has_del_other (litS_ne e), atKey_del_other (litS_ne e)]
    exact H x

/-- the sets of links -/
structure LnkP (B : Nat) (w : World) (g m n : Nat) (h : Nat → Option Nat) (e : Nat → List Nat) : Prop where
  no : ∀ k, h k = none → e k = []
  st : ∀ k b, h k = some b → e k ≠ [] ∧ (e k).length ≤ n ∧ MapS w b n (e k) ∧ B ≤ b ∧ b ≠ m ∧ b ≠ g
  one : ∀ k k' b, h k = some b → h k' = some b → k = k'

theorem LnkP.keeps {B : Nat} {w w' : World} {g m n : Nat} {h : Nat → Option Nat} {e : Nat → List Nat} {F : Nat → Prop} (H : LnkP B w g m n h e) (hk : Keeps F w w') (hF : ∀ k b, h k = some b → ¬ F b) : LnkP B w' g m n h e :=
  ⟨H.no, fun k b hb => by
    obtain ⟨q1, q2, q3, q4⟩ := H.st k b hb
    exact ⟨q1, q2, q3.same (hk.block b q3.lt (hF k b hb)), q4⟩, H.one⟩

theorem LnkP.del {B : Nat} {w w' : World} {g m n k b : Nat} {h : Nat → Option Nat} {e : Nat → List Nat} (H : LnkP B w g m n h e) (hb : h k = some b) (hk : Keeps (fun q => q = b ∨ q = m) w w') : LnkP B w' g m n (fun x => if x = k then none else h x) (fun x => if x = k then [] else e x) := by
  refine ⟨fun x hx => ?_, fun x c hx => ?_, fun x y c hx hy => ?_⟩
  · by_cases e9 : x = k
    · simp [e9]
    · simp only [if_neg e9] at hx ⊢; exact H.no x hx
  · by_cases e9 : x = k
    · rw [if_pos e9] at hx; cases hx
    · rw [if_neg e9] at hx
      simp only [if_neg e9]
      obtain ⟨q1, q2, q3, q4, q5, q6⟩ := H.st x c hx
      exact ⟨q1, q2, q3.same (hk.block c q3.lt (fun e8 => by
        rcases e8 with e8 | e8
        · subst e8; exact e9 (H.one x k c hx hb)
        · exact q5 e8)), q4, q5, q6⟩
  · by_cases e9 : x = k
    · rw [if_pos e9] at hx; cases hx
    · by_cases e8 : y = k
      · rw [if_pos e8] at hy; cases hy
      · rw [if_neg e9] at hx; rw [if_neg e8] at hy; exact H.one x y c hx hy

theorem LnkP.shr {B : Nat} {w w' : World} {g m n k b : Nat} {h : Nat → Option Nat} {e : Nat → List Nat} {F : List Nat} (H : LnkP B w g m n h e) (hb : h k = some b) (hk : Keeps (fun q => q = b) w w') (hF : MapS w' b n F) (h0 : F ≠ []) (hl : F.length ≤ n) : LnkP B w' g m n h (fun x => if x = k then F else e x) := by
  refine ⟨fun x hx => ?_, fun x c hx => ?_, H.one⟩
  · by_cases e9 : x = k
    · subst e9; rw [hb] at hx; cases hx
    · simp only [if_neg e9]; exact H.no x hx
  · by_cases e9 : x = k
    · subst e9
      rw [hb] at hx
      cases hx
      obtain ⟨q1, q2, q3, q4⟩ := H.st x b hb
      simp only [if_pos rfl]
      exact ⟨h0, hl, hF, q4⟩
    · simp only [if_neg e9]
      obtain ⟨q1, q2, q3, q4⟩ := H.st x c hx
      exact ⟨q1, q2, q3.same (hk.block c q3.lt (fun e8 => by subst e8; exact e9 (H.one x k c hx hb))), q4⟩

/-- a round of Cut: what is left, what is cut -/
structure CutI (B : Nat) (w wr : World) (g m n nc : Nat) (h : Nat → Option Nat) (e : Nat → List Nat) (ns : List Nat) (left : Lit → Bool) (D : DataW Unit) (hc : Nat → Option Nat) (ec : Nat → List Nat) : Prop where
  mat : MatD D hc
  lnk : LnkP B wr g m n hc ec
  sub : ∀ k b, hc k = some b → h k = some b
  yet : ∀ k, left (litU k) = true → ec k = e k
  cut : ∀ k, left (litU k) = false → ec k = cutE e ns k
  keeps : Keeps (fun q => B ≤ q ∧ IsMp w q) w wr
  gone : MapS wr w.heap.size nc ns
  cell : wr.cell? ⟨g, 0, none⟩ = some (.map (some m))
  size : w.heap.size + 1 < wr.heap.size

theorem CutI.del {B : Nat} {w wr w' : World} {g m n nc k b : Nat} {h : Nat → Option Nat} {e : Nat → List Nat} {ns : List Nat} {left : Lit → Bool} {D : DataW Unit} {hc : Nat → Option Nat} {ec : Nat → List Nat} (H : CutI B w wr g m n nc h e ns left D hc ec) (hb : hc k = some b) (h0 : cutE e ns k = []) (hl : left (litU k) = true)
    (hbi : B ≤ b ∧ IsMp w b ∧ b < w.heap.size) (hmi : B ≤ m ∧ IsMp w m ∧ m < w.heap.size) (hg : g ≠ m) (hk : Keeps (fun q => q = b ∨ q = m) wr w') : CutI B w w' g m n nc h e ns (fun z => (left z && !z.sameKey (litU k)) && !z.sameKey (litU k)) (D.del (litU k)) (fun x => if x = k then none else hc x) (fun x => if x = k then [] else ec x) := by
  refine ⟨H.mat.del k, H.lnk.del hb hk, fun x c hx => ?_, fun x hx => ?_, fun x hx => ?_, H.keeps.then hk (fun i e => .inl (e.elim (fun e => e ▸ ⟨hbi.1, hbi.2.1⟩) (fun e => e ▸ ⟨hmi.1, hmi.2.1⟩))), H.gone.same (hk.block _ H.gone.lt (by rintro (e | e) <;> omega)), hk.cell (fun e => e.elim (fun e => (H.lnk.st k b hb).2.2.2.2.2 e.symm) hg) H.cell, Nat.lt_of_lt_of_le H.size hk.size⟩
  · by_cases e9 : x = k
    · rw [if_pos e9] at hx; cases hx
    · rw [if_neg e9] at hx; exact H.sub x c hx
  · by_cases e9 : x = k
    · subst e9; simp [litU_same] at hx
    · simp only [litU_same, decide_eq_false e9, Bool.not_false, Bool.and_true] at hx
      simp only [if_neg e9]; exact H.yet x hx
  · by_cases e9 : x = k
    · subst e9; rw [if_pos rfl, h0]
    · simp only [litU_same, decide_eq_false e9, Bool.not_false, Bool.and_true] at hx
      simp only [if_neg e9]; exact H.cut x hx

theorem CutI.shr {B : Nat} {w wr w' : World} {g m n nc k b : Nat} {h : Nat → Option Nat} {e : Nat → List Nat} {ns : List Nat} {left : Lit → Bool} {D : DataW Unit} {hc : Nat → Option Nat} {ec : Nat → List Nat} (H : CutI B w wr g m n nc h e ns left D hc ec) (hb : hc k = some b) (h0 : cutE e ns k ≠ []) (hF : MapS w' b n (cutE e ns k)) (hfl : (cutE e ns k).length ≤ n)
    (hbi : B ≤ b ∧ IsMp w b ∧ b < w.heap.size) (hk : Keeps (fun q => q = b) wr w') : CutI B w w' g m n nc h e ns (fun z => left z && !z.sameKey (litU k)) D hc (fun x => if x = k then cutE e ns k else ec x) := by
  refine ⟨H.mat, H.lnk.shr hb hk hF h0 hfl, H.sub, fun x hx => ?_, fun x hx => ?_, H.keeps.then hk (fun i e => .inl (by subst e; exact ⟨hbi.1, hbi.2.1⟩)), H.gone.same (hk.block _ H.gone.lt (by omega)), hk.cell (fun e => (H.lnk.st k b hb).2.2.2.2.2 e.symm) H.cell, Nat.lt_of_lt_of_le H.size hk.size⟩
  · by_cases e9 : x = k
    · subst e9; simp [litU_same] at hx
    · simp only [litU_same, decide_eq_false e9, Bool.not_false, Bool.and_true] at hx
      simp only [if_neg e9]; exact H.yet x hx
  · by_cases e9 : x = k
    · subst e9; rw [if_pos rfl]
    · simp only [litU_same, decide_eq_false e9, Bool.not_false, Bool.and_true] at hx
      simp only [if_neg e9]; exact H.cut x hx

theorem CutI.keep {B : Nat} {w wr w' : World} {g m n nc : Nat} {h : Nat → Option Nat} {e : Nat → List Nat} {ns : List Nat} {left : Lit → Bool} {D : DataW Unit} {hc : Nat → Option Nat} {ec : Nat → List Nat} {F : Nat → Prop} (H : CutI B w wr g m n nc h e ns left D hc ec) (hk : Keeps F wr w') (hF : ∀ i, F i → w.heap.size < i) (hg : g < w.heap.size) (hs : ∀ k b, h k = some b → b < w.heap.size) : CutI B w w' g m n nc h e ns left D hc ec := by
  have hm : ∀ i, i ≤ w.heap.size → ¬ F i := fun i hi hf => by have := hF i hf; omega
  exact ⟨H.mat, H.lnk.keeps hk (fun k b hb => hm b (Nat.le_of_lt (hs k b (H.sub k b hb)))), H.sub, H.yet, H.cut, H.keeps.then hk (fun i hi => .inr (Nat.le_of_lt (hF i hi))), H.gone.same (hk.block _ H.gone.lt (hm _ (Nat.le_refl _))), hk.cell (hm g (Nat.le_of_lt hg)) H.cell, Nat.lt_of_lt_of_le H.size hk.size⟩

set_option maxHeartbeats 4000000 in
theorem cut_any (B : Nat) (w : World) (g n : Nat) (e : Nat → List Nat) (v : Value) (ns : List Nat) (h : GrQ B w g n e) (hv : RdU w v ns) (hns : ∀ n ∈ ns, n < 18446744073709551616) (hl : ns.length ≤ 100000) :
    Calls Try.prog 19 #[.pointer (some ⟨g, 0, none⟩), v] w fun e' w' => e' = .returned (.tuple #[]) ∧ GrQ B w' g n (cutE e ns) ∧ Keeps (fun q => B ≤ q ∧ IsMp w q) w w' := by
  have he := eqG g
  have hof := setofl_any w v ns hv hns (by omega)
  obtain ⟨m, hh, h1, h2, h3, h4, h5, h6, h7, h8⟩ := h
  have HL : Hid (LnkP B w g m n hh e ∧ B ≤ g ∧ B ≤ m ∧ g ≠ m ∧ IsMp w m) := ⟨⟨h6, h7, h8⟩, h1, h2, h3, h5.mp⟩
  have hgl : g < w.heap.size := World.block_lt_of_cell? w _ h4
  have HS : Hid (∀ k b, hh k = some b → B ≤ b ∧ IsMp w b ∧ b < w.heap.size) := fun k b hb => ⟨(h7 k b hb).2.2.2.1, (h7 k b hb).2.2.1.mp, (h7 k b hb).2.2.1.lt⟩
  obtain ⟨D, hmp, hmat⟩ := h5
  have HM : Hid (w.ownsMap Try.prog 30 mapR m n D ∧ MatD D hh ∧ g < w.heap.size ∧ m < w.heap.size) := ⟨hmp, hmat, hgl, hmp.lt⟩
  clear h1 h2 h3 h6 h7 h8 hv hns hl hmp hmat
  go_enter Try.func19, Try.ntmps19
  go_wp2_with fail
  refine hof.mono ?_
  rintro e1 w1 ⟨rfl, hm1, hb1⟩
  have hmp1 := owns_block HM.out.1 (hb1.block m HM.out.2.2.2)
  have c1 : w1.cell? ⟨g, 0, none⟩ = some (.map (some m)) := (hb1.cell (p := ⟨g, 0, none⟩) hgl).trans h4
  have HB1 : Hid (Below w.heap.size w w1 ∧ MapS w1 w.heap.size ns.length ns ∧ w1.cell? ⟨g, 0, none⟩ = some (.map (some m))) := ⟨hb1, hm1, c1⟩
  have hr : w.heap.size < w1.heap.size := hm1.lt
  clear hof hm1 hb1 h4 hgl
  go_wp2_with (first
    | (at_range; refine wpList_range_own _ rfl _ 43 rfl 30 56 (int_keyed Try.underlying30) Try.underlying43 mapR m n D rfl hmp1 ?_; intro w0 hrg0 hg0 hs0)
    | fail)
  try go_frame
  have HI0 : Hid (CutI B w w0 g m n ns.length hh e ns (has D) D hh e) := by
    have hk0 : Keeps (fun _ => False) w1 w0 := keeps_grown hg0 (fun q e => by cases e)
    have hkw : Keeps (fun _ => False) w w1 := Below.keeps HB1.out.1 _
    refine ⟨HM.out.2.1, (HL.out.1.keeps hkw (fun _ _ _ h => h)).keeps hk0 (fun _ _ _ h => h), fun _ _ h => h, fun _ _ => rfl, fun k hk => ?_, (hkw.trans hk0).mono (fun _ h => h.elim), HB1.out.2.1.same (hk0.block _ hr (fun h => h)), hk0.cell (fun h => h) HB1.out.2.2, by omega⟩
    have h9 : hh k = none := by
      have := (HM.out.2.1 k).1
      rw [hk] at this
      cases h8 : hh k with
      | none => rfl
      | some b => rw [h8] at this; cases this
    rw [HL.out.1.no k h9]
    unfold cutE
    rw [HL.out.1.no k h9]
    split <;> rfl
  have HR : Hid (w.heap.size < w1.heap.size) := hr
  clear hg0 hs0 hmp1 c1 hr
  go_loopg [5] (Maps.size D) (fun gk av wr => ∃ left D' hc ec, wr.ranges Try.prog 30 mapR m w1.heap.size n D' left gk ∧ Hid (CutI B w wr g m n ns.length hh e ns left D' hc ec))
  case atStart => exact ⟨_, _, _, _, hrg0, HI0.out⟩
  case round =>
    obtain ⟨left, D', hc, ec, hrg, HC⟩ := hrel
    go_wp2_with (at_next; refine wpList_next_ranges _ rfl _ rfl 30 (int_keyed Try.underlying30) mapR (Value.int .u64) (fun o : Option Nat => Value.map o) keyQ_inv mapQ_inv m w1.heap.size n D' left gk rfl hrg ?_ ?_; intro hc0 hl0; rotate_left; intro x o kl y wn cnt1 hkey hlk hv hat hrg1 hlt9 hg1 hs1 hen; rotate_left)
    · have HE : Hid (GrQ B wr g n (cutE e ns) ∧ Keeps (fun q => B ≤ q ∧ IsMp w q) w wr) := by
        have H := HC.out
        have hec : ec = cutE e ns := funext fun k => H.cut k (hl0 _)
        refine ⟨⟨m, hc, HL.out.2.1, HL.out.2.2.1, HL.out.2.2.2.1, H.cell, ⟨D', hrg.owns, H.mat⟩, ?_, ?_, H.lnk.one⟩, H.keeps⟩
        · rw [← hec]; exact H.lnk.no
        · rw [← hec]; exact H.lnk.st
      clear HC hrg
      go_wp2
      refine bodyPost_end (results_none Try.results19 _ _ _) rfl ?_
      exact ⟨rfl, HE.out.1, HE.out.2⟩
    · obtain ⟨k, rfl, rfl, hk⟩ := keyQ_lit hkey
      have hck : hc k = o := by
        have h9 := hat (.lit (.bool false))
        rw [(HC.out.mat k).2, mapQ_val hv] at h9
        exact mapD_inj h9
      have hsome : (hc k).isSome = true := by rw [← (HC.out.mat k).1]; exact has_true_of_atKey hat
      obtain ⟨b, hb⟩ := Option.isSome_iff_exists.1 hsome
      rw [hb] at hck
      subst hck
      have HIn : Hid (CutI B w wn g m n ns.length hh e ns left D' hc ec) := HC.out.keep (keeps_grown (F := fun q => q = w1.heap.size) hg1 (fun q e => by cases e; rfl)) (fun i e => by rw [e]; exact HR.out) HM.out.2.2.1 (fun k b hb => (HS.out k b hb).2.2)
      have hbi := HS.out k b (HC.out.sub k b hb)
      have HK : Hid (hc k = some b ∧ (B ≤ b ∧ IsMp w b ∧ b < w.heap.size) ∧ left (litU k) = true ∧ cnt1 < gk ∧ k < 18446744073709551616 ∧ keyOf Try.prog 30 (.int .u64 (k : Int)) = some (litU k) ∧ ec k = e k ∧ (e k).length ≤ n) := ⟨hb, hbi, hlk, hlt9, hk, keyU hk, HC.out.yet k hlk, by have := (HC.out.lnk.st k b hb).2.1; rw [HC.out.yet k hlk] at this; exact this⟩
      have hdr := setdrop_any wn b n w.heap.size ns.length (ec k) ns (HIn.out.lnk.st k b hb).2.2.1 HIn.out.gone (by omega)
      clear hkey hsome hb HC hg1 hs1 hv hat hbi hlk hlt9 hk hrg
      go_wp2_with fail
      refine hdr.mono ?_
      rintro e5 w5 ⟨rfl, hm5, hk5⟩
      have hFe : cutE e ns k = if k ∈ ns then [] else (ec k).filter fun x => decide (x ∉ ns) := by rw [HK.out.2.2.2.2.2.2.1]; rfl
      have hFl : ((ec k).filter fun x => decide (x ∉ ns)).length ≤ n := Nat.le_trans (List.length_filter_le _ _) (by rw [HK.out.2.2.2.2.2.2.1]; exact HK.out.2.2.2.2.2.2.2)
      have hrg5 := ranges_sameG hrg1 (hk5.block m hrg1.owns.lt (fun e9 => (HIn.out.lnk.st k b HK.out.1).2.2.2.2.1 e9.symm)) (hk5.block _ hrg1.lt (by have := HK.out.2.1.2.2; have := HR.out; omega))
      have H5 : Hid (Keeps (fun q => q = b) wn w5 ∧ MapS w5 b n ((ec k).filter fun x => decide (x ∉ ns)) ∧ (cutE e ns k = if k ∈ ns then [] else (ec k).filter fun x => decide (x ∉ ns)) ∧ ((ec k).filter fun x => decide (x ∉ ns)).length ≤ n) := ⟨hk5, hm5, hFe, hFl⟩
      have hh9 := sethas_any w5 w.heap.size ns.length k ns (HIn.out.gone.same (hk5.block _ HIn.out.gone.lt (by have := HK.out.2.1.2.2; omega))) HK.out.2.2.2.2.1
      clear hdr hm5 hk5 hFe hFl hrg1 hen
      by_cases hin : k ∈ ns
      · rw [decide_eq_true hin] at hh9
        go_wp2_with fail
        refine hh9.mono ?_
        rintro e6 w6 ⟨rfl, hb6⟩
        have hrg6 := ranges_sameG hrg5 (hb6.block m hrg5.owns.lt) (hb6.block _ hrg5.lt)
        have H6 : Hid (Keeps (fun q => q = b) wn w6 ∧ cutE e ns k = []) := ⟨H5.out.1.trans (Below.keeps hb6 _), by rw [H5.out.2.2.1, if_pos hin]⟩
        have c6 : w6.cell? ⟨g, 0, none⟩ = some (.map (some m)) := H6.out.1.cell (fun e9 => (HIn.out.lnk.st k b HK.out.1).2.2.2.2.2 e9.symm) HIn.out.cell
        clear hh9 hb6 hrg5
        go_wp2_with (at_delete; refine wpList_delete_ranges _ rfl _ _ 43 30 rfl 56 (int_keyed Try.underlying30) Try.underlying43 mapR m w1.heap.size n _ _ _ rfl hrg6 _ _ rfl HK.out.2.2.2.2.2.1 ?_; intro w7 cnt7 hrg7 hle7 hturn7)
        try go_frame
        have HF : Hid (CutI B w w7 g m n ns.length hh e ns (fun z => (left z && !z.sameKey (litU k)) && !z.sameKey (litU k)) (D'.del (litU k)) (fun x => if x = k then none else hc x) (fun x => if x = k then [] else ec x) ∧ cnt7 < gk) := by
          have hk7 : Keeps (fun q => q = b ∨ q = m) wn w7 := (H6.out.1.mono (fun _ e => .inl e)).trans (keeps_grown hturn7.grown (fun q e => by cases e; exact .inr rfl))
          exact ⟨HIn.out.del HK.out.1 H6.out.2 HK.out.2.2.1 HK.out.2.1 ⟨HL.out.2.2.1, HL.out.2.2.2.2, HM.out.2.2.2⟩ HL.out.2.2.2.1 hk7, Nat.lt_of_le_of_lt hle7 HK.out.2.2.2.1⟩
        clear hrg6 hle7 hturn7 c6
        go_roundg cnt7
        case measure => exact HF.out.2
        case rel => exact ⟨_, _, _, _, hrg7, HF.out.1⟩
      · rw [decide_eq_false hin] at hh9
        obtain ⟨F, hF⟩ : ∃ F, ((ec k).filter fun x => decide (x ∉ ns)) = F := ⟨_, rfl⟩
        rw [if_neg hin, hF] at H5
        go_wp2_with fail
        refine hh9.mono ?_
        rintro e6 w6 ⟨rfl, hb6⟩
        have hrg6 := ranges_sameG hrg5 (hb6.block m hrg5.owns.lt) (hb6.block _ hrg5.lt)
        have hm6 := H5.out.2.1.same (hb6.block b H5.out.2.1.lt)
        have H6 : Hid (Keeps (fun q => q = b) wn w6 ∧ MapS w6 b n F ∧ cutE e ns k = F ∧ F.length ≤ n) := ⟨H5.out.1.trans (Below.keeps hb6 _), hm6, H5.out.2.2.1, H5.out.2.2.2⟩
        have c6 : w6.cell? ⟨g, 0, none⟩ = some (.map (some m)) := H6.out.1.cell (fun e9 => (HIn.out.lnk.st k b HK.out.1).2.2.2.2.2 e9.symm) HIn.out.cell
        obtain ⟨D6, hmp6, hD6⟩ := hm6
        have hsz := MapS.size_zero hmp6 hD6
        obtain ⟨sz, hsz9⟩ : ∃ sz, Maps.size D6 = sz := ⟨_, rfl⟩
        have HMP : Hid (w6.ownsMap Try.prog 30 (unitElem (H := Unit)) b n D6 ∧ Maps.size D6 = sz) := ⟨hmp6, hsz9⟩
        have hln := hmp6.len Try.underlying56
        rw [hsz9] at hsz hln
        clear hh9 hb6 hrg5 hF hmp6 hD6 hsz9
        by_cases h0 : F = []
        · have hz : sz = 0 := hsz.2 h0
          subst hz
          clear hsz
          go_wp2_with (at_delete; refine wpList_delete_ranges _ rfl _ _ 43 30 rfl 56 (int_keyed Try.underlying30) Try.underlying43 mapR m w1.heap.size n _ _ _ rfl hrg6 _ _ rfl HK.out.2.2.2.2.2.1 ?_; intro w7 cnt7 hrg7 hle7 hturn7)
          try go_frame
          have HF : Hid (CutI B w w7 g m n ns.length hh e ns (fun z => (left z && !z.sameKey (litU k)) && !z.sameKey (litU k)) (D'.del (litU k)) (fun x => if x = k then none else hc x) (fun x => if x = k then [] else ec x) ∧ cnt7 < gk) := by
            have hk7 : Keeps (fun q => q = b ∨ q = m) wn w7 := (H6.out.1.mono (fun _ e => .inl e)).trans (keeps_grown hturn7.grown (fun q e => by cases e; exact .inr rfl))
            exact ⟨HIn.out.del HK.out.1 (H6.out.2.2.1.trans h0) HK.out.2.2.1 HK.out.2.1 ⟨HL.out.2.2.1, HL.out.2.2.2.2, HM.out.2.2.2⟩ HL.out.2.2.2.1 hk7, Nat.lt_of_le_of_lt hle7 HK.out.2.2.2.1⟩
          clear hrg6 hle7 hturn7 c6 hln
          go_roundg cnt7
          case measure => exact HF.out.2
          case rel => exact ⟨_, _, _, _, hrg7, HF.out.1⟩
        · have hz : ¬ (sz : Int) = 0 := fun h9 => h0 (hsz.1 (by omega))
          have HF : Hid (CutI B w w6 g m n ns.length hh e ns (fun z => left z && !z.sameKey (litU k)) D' hc (fun x => if x = k then cutE e ns k else ec x) ∧ cnt1 < gk) := by
            refine ⟨HIn.out.shr HK.out.1 (by rw [H6.out.2.2.1]; exact h0) (by rw [H6.out.2.2.1]; exact H6.out.2.1) (by rw [H6.out.2.2.1]; exact H6.out.2.2.2) HK.out.2.1 H6.out.1, HK.out.2.2.2.1⟩
          clear hsz
          go_wp2_with fail
          go_roundg cnt1
          case measure => exact HF.out.2
          case rel => exact ⟨_, _, _, _, hrg6, HF.out.1⟩

end Go.Proofs.Ytgkgdbdapkgkgaa

/- graph.awaited: how many wait for each. -/
namespace Go.Proofs.Ytgkgdbdapkgkgaa
set_option maxRecDepth 100000
open Go.RowKit Go.Maps
set_option linter.unusedVariables false
set_option linter.unusedSimpArgs false

/-- a map from numbers to counts -/
def MapC (w : World) (b n : Nat) (f : Nat → Nat) : Prop :=
  ∃ D : DataW Unit, w.ownsMap Try.prog 30 (plainElem Try.prog 3) b n D ∧ ∀ k, D.atKey (litU k) (.lit (.int .i64 0)) = .lit (.int .i64 (f k : Int))

theorem MapC.lt {w : World} {b n : Nat} {f : Nat → Nat} (h : MapC w b n f) : b < w.heap.size := by
  obtain ⟨D, h, _⟩ := h
  exact World.ownsMap.lt h
theorem MapC.same {w w' : World} {b n : Nat} {f : Nat → Nat} (h : MapC w b n f) (hb : w'.heap[b]? = w.heap[b]?) : MapC w' b n f := by
  obtain ⟨D, h1, h2⟩ := h
  exact ⟨D, owns_block h1 hb, h2⟩
theorem MapC.below {w w' : World} {b n : Nat} {f : Nat → Nat} (h : MapC w b n f) (hb : Below w.heap.size w w') : MapC w' b n f := h.same (hb.block b h.lt)
theorem MapC.mono {w : World} {b n m : Nat} {f : Nat → Nat} (h : MapC w b n f) (hm : n ≤ m) : MapC w b m f := by
  obtain ⟨D, h1, h2⟩ := h
  exact ⟨D, h1.mono hm, h2⟩
theorem MapC.eqv {w : World} {b n : Nat} {f g : Nat → Nat} (h : MapC w b n f) (e : ∀ k, f k = g k) : MapC w b n g := by
  rw [← funext e]; exact h
theorem MapC.made (w : World) : MapC (w.alloc (.map #[] 0)) w.heap.size 0 (fun _ => 0) :=
  ⟨.map [], World.ownsMap_made _ _ _ _, fun k => by simp [DataW.atKey]⟩

theorem zero_intC (w : World) : (zeroValue 3).run Try.prog w = .ok (.int .i64 0) w := by kernel_rfl

theorem MapC.look {w : World} {b n : Nat} {f : Nat → Nat} (h : MapC w b n f) (k : Nat) (hk : k < 18446744073709551616) :
    (Instr.lookup 58 (.map (some b)) (.int .u64 (k : Int)) false).run Try.prog w = .ok (.int .i64 (f k : Int)) w := by
  obtain ⟨D, hm, hat⟩ := h
  obtain ⟨v, ps, hrun, hv⟩ := hm.lookup (int_keyed Try.underlying30) Try.underlying58 (zero_intC w) (plainElem_int Try.underlying3 (by decide)) (key := .int .u64 (k : Int)) (kl := litU k) (keyU hk)
  rw [hat k] at hv
  obtain ⟨b, rfl, hz, _⟩ := plainElem_int_inv Try.underlying3 hv
  simp only [Prod.mk.injEq, DataW.lit.injEq, Lit.int.injEq, true_and] at hz
  rw [hrun, hz.1]

theorem MapC.upd {w : World} {b n : Nat} {f : Nat → Nat} (H : MapC w b n f) (k v : Nat) (hk : k < 18446744073709551616) (hv : v < 1152921504606846976) (hn : n < maxLen) :
    ∃ w', (Instr.mapUpdate 58 (.map (some b)) (.int .u64 (k : Int)) (.int .i64 (v : Int))).run Try.prog w = .ok () w' ∧ MapC w' b (n + 1) (fun x => if x = k then v else f x) ∧ Keeps (fun q => q = b) w w' := by
  obtain ⟨D, hm, hat⟩ := H
  obtain ⟨w', h1, h2, h3⟩ := hm.update (int_keyed Try.underlying30) Try.underlying58 hn (keyU hk) (val := .int .i64 (v : Int)) (d := .lit (.int .i64 (v : Int))) (ps := []) (plainElem_int Try.underlying3 (by simp [Lit.wf, IntKind.min, IntKind.max, IntKind.signed, IntKind.bits]; omega))
  refine ⟨w', h1, ⟨_, h2, fun x => ?_⟩, keeps_grown h3 (fun q e => by cases e; rfl)⟩
  by_cases e : x = k
  · subst e
    rw [atKey_put_same hm.isMap (litS_key x)]
    simp
  · rw [atKey_put_other (litS_ne e), hat x]
    simp [e]

/-- how many of these wait for one -/
def cntK (e : Nat → List Nat) (ks : List Nat) (x : Nat) : Nat := (ks.filter fun k => decide (x ∈ e k)).length

theorem cntK_snoc (e : Nat → List Nat) (ks : List Nat) (k x : Nat) : cntK e (ks ++ [k]) x = cntK e ks x + if x ∈ e k then 1 else 0 := by
  unfold cntK
  rw [List.filter_append, List.length_append]
  by_cases h : x ∈ e k
  · simp [h]
  · simp [h]

theorem cntK_le (e : Nat → List Nat) (ks : List Nat) (x : Nat) : cntK e ks x ≤ ks.length := List.length_filter_le _ _

/-- what awaited answers -/
def AwtPost (w : World) (e : Nat → List Nat) (e' : Ending) (w' : World) : Prop :=
  ∃ c N ks, e' = .returned (.map (some c)) ∧ N ≤ 11000000000 ∧ ks.Nodup ∧ ks.length ≤ 100000 ∧ (∀ k, k ∈ ks ↔ e k ≠ []) ∧ MapC w' c N (cntK e ks) ∧ w.heap.size ≤ c ∧ Below w.heap.size w w'

set_option maxHeartbeats 4000000 in
theorem awaited_any (B : Nat) (w : World) (g n : Nat) (e : Nat → List Nat) (h : GrQ B w g n e) (hn : n ≤ 100000) :
    Calls Try.prog 26 #[.pointer (some ⟨g, 0, none⟩)] w (AwtPost w e) := by
  have hmk : (Instr.makeMap 58 none).run Try.prog w = .ok (.map (some w.heap.size)) (w.alloc (.map #[] 0)) := run_makeMap _ w
  obtain ⟨m, hh, h1, h2, h3, h4, h5, h6, h7, h8⟩ := h
  have hgl : g < w.heap.size := World.block_lt_of_cell? w _ h4
  obtain ⟨D, hmp, hmat⟩ := h5
  obtain ⟨W, hW⟩ : ∃ W, w.alloc (.map #[] 0) = W := ⟨_, rfl⟩
  have hsW : W.heap.size = w.heap.size + 1 := by rw [← hW]; simp
  have hmc : MapC W w.heap.size 0 (fun _ => 0) := by rw [← hW]; exact MapC.made w
  have hbW : Below w.heap.size w W := by rw [← hW]; exact below_box4 w _
  have hmpW := owns_block hmp (hbW.block m hmp.lt)
  have cW : W.cell? ⟨g, 0, none⟩ = some (.map (some m)) := (hbW.cell (p := ⟨g, 0, none⟩) hgl).trans h4
  rw [hW] at hmk
  have HL : Hid (LnkP B w g m n hh e ∧ MatD D hh ∧ Maps.size D ≤ n ∧ n ≤ 100000) := ⟨⟨h6, h7, h8⟩, hmat, hmp.size_le, hn⟩
  have HW : Hid (MapC W w.heap.size 0 (fun _ => 0) ∧ Below w.heap.size w W ∧ W.heap.size = w.heap.size + 1 ∧ m < w.heap.size) := ⟨hmc, hbW, hsW, hmp.lt⟩
  clear h1 h2 h3 h4 h6 h7 h8 hmp hmat hn hgl hW hsW hmc hbW
  go_enter Try.func26, Try.ntmps26
  go_wp2_with (first
    | (at_range; refine wpList_range_own _ rfl _ 43 rfl 30 56 (int_keyed Try.underlying30) Try.underlying43 mapR m n D rfl hmpW ?_; intro w0 hrg0 hg0 hs0)
    | fail)
  try go_frame
  have HR0 : Hid (Keeps (fun _ => False) W w0 ∧ w0.heap.size = W.heap.size + 1) := ⟨keeps_grown hg0 (fun q e => by cases e), hs0⟩
  clear hg0 hs0 hmpW cW
  go_loopg [5] (Maps.size D) (fun gk av wr => ∃ left, wr.ranges Try.prog 30 mapR m W.heap.size n D left gk ∧ Hid (∃ ks N, CollU D left ks ∧ ks.length + gk ≤ n ∧ N ≤ ks.length * 100000 ∧ MapC wr w.heap.size N (cntK e ks) ∧ Below w.heap.size w wr ∧ W.heap.size < wr.heap.size))
  case atStart => exact ⟨_, hrg0, [], 0, CollU.start D, by have := HL.out.2.2.1; simpa using this, by simp, (HW.out.1.same (HR0.out.1.block _ HW.out.1.lt (fun h => h))), HW.out.2.1.trans (HR0.out.1.below (fun _ h => h.elim) HW.out.2.1.size), by have := HR0.out.2; omega⟩
  case round =>
    obtain ⟨left, hrg, HC⟩ := hrel
    go_wp2_with (at_next; refine wpList_next_ranges _ rfl _ rfl 30 (int_keyed Try.underlying30) mapR (Value.int .u64) (fun o : Option Nat => Value.map o) keyQ_inv mapQ_inv m W.heap.size n D left gk rfl hrg ?_ ?_; intro hc0 hl0; rotate_left; intro x o kl y wn cnt1 hkey hlk hv hat hrg1 hlt9 hg1 hs1 hen; rotate_left)
    · have HE : Hid (AwtPost w e (.returned (.map (some w.heap.size))) wr) := by
        obtain ⟨ks, N, q1, q2, q3, q4, q5, q6⟩ := HC.out
        refine ⟨_, N, ks, rfl, by have := HL.out.2.2.2; omega, q1.1, by have := HL.out.2.2.2; omega, fun k => ?_, q4, Nat.le_refl _, q5⟩
        rw [q1.2, hl0, (HL.out.2.1 k).1]
        cases h9 : hh k with
        | none => simp [HL.out.1.no k h9]
        | some b => simp [(HL.out.1.st k b h9).1]
      clear HC hrg
      go_wp2
      go_ret
      exact HE.out
    · obtain ⟨k, rfl, rfl, hk⟩ := keyQ_lit hkey
      have hck : hh k = o := by
        have h9 := hat (.lit (.bool false))
        rw [(HL.out.2.1 k).2, mapQ_val hv] at h9
        exact mapD_inj h9
      have hsome : (hh k).isSome = true := by rw [← (HL.out.2.1 k).1]; exact has_true_of_atKey hat
      obtain ⟨b, hb⟩ := Option.isSome_iff_exists.1 hsome
      rw [hb] at hck
      subst hck
      obtain ⟨ks, N0, q1, q2, q3, q4, q5, q6⟩ := HC.out
      have hmS := (HL.out.1.st k b hb).2.2.1
      have hbl := hmS.lt
      have hek : (e k).length ≤ n := (HL.out.1.st k b hb).2.1
      have hbm : b ≠ m := (HL.out.1.st k b hb).2.2.2.2.1
      have hkn : Keeps (fun q => q = W.heap.size) wr wn := keeps_grown hg1 (fun q e => by cases e; rfl)
      have hW1 := HW.out.2.2.1
      obtain ⟨D2, hmp2, hD2⟩ := (hmS.below q5).same (hkn.block b (Nat.lt_of_lt_of_le hbl q5.size) (by omega))
      have hsz2 := hmp2.size_le
      have HO : Hid (CollU D left ks ∧ ks.length + cnt1 + 1 ≤ n ∧ left (litU k) = true ∧ (∀ zd, D.atKey (litU k) zd = y.1) ∧ cnt1 < gk ∧ (∀ x, has D2 (litU x) = true ↔ x ∈ e k) ∧ b < w.heap.size ∧ b ≠ m ∧ ks.Nodup ∧ Maps.size D2 ≤ n ∧ W.heap.size < wn.heap.size) := ⟨q1, by omega, hlk, hat, hlt9, hD2, hbl, hbm, q1.1, hsz2, Nat.lt_of_lt_of_le q6 hkn.size⟩
      have HGK : Hid (cnt1 < gk) := hlt9
      have HN : Hid (N0 ≤ ks.length * 100000 ∧ MapC wn w.heap.size N0 (cntK e ks) ∧ Below w.heap.size w wn) := ⟨q3, q4.same (hkn.block _ q4.lt (by omega)), q5.trans (hkn.below (fun i e => by rw [e]; omega) q5.size)⟩
      clear hkey hsome hb HC hg1 hs1 hv hat hlk hlt9 hk hrg q1 q2 q3 q4 q5 q6 hmS hbl hek hbm hkn hW1 hD2 hsz2
      obtain ⟨w3, hrun3, hrg3, hg3, hs3⟩ := hmp2.range (int_keyed Try.underlying30) Try.underlying56
      have hk3 : Keeps (fun _ => False) wn w3 := keeps_grown hg3 (fun q e => by cases e)
      have hrg13 := ranges_sameG hrg1 (hk3.block m hrg1.owns.lt (fun h => h)) (hk3.block _ hrg1.lt (fun h => h))
      have H3 : Hid (MapC w3 w.heap.size N0 (cntK e ks) ∧ Below w.heap.size w w3 ∧ wn.heap.size < w3.heap.size) := ⟨HN.out.2.1.same (hk3.block _ HN.out.2.1.lt (fun h => h)), HN.out.2.2.trans (hk3.below (fun _ h => h.elim) HN.out.2.2.size), by omega⟩
      clear hmp2 hg3 hs3 hk3 hrg1
      go_wp2_with fail
      rw [hrun3]
      go_wp2_with fail
      clear hen hrun3
      go_loopg [6] (Maps.size D2) (fun gk av wr => ∃ left2, wr.ranges Try.prog 30 (unitElem (H := Unit)) b wn.heap.size n D2 left2 gk ∧ wr.ranges Try.prog 30 mapR m W.heap.size n D (fun z => left z && !z.sameKey (litU k)) cnt1 ∧ Hid (∃ ss N, CollU D2 left2 ss ∧ ss.length + gk ≤ n ∧ N ≤ ks.length * 100000 + ss.length ∧ MapC wr w.heap.size N (fun x => cntK e ks x + if x ∈ ss then 1 else 0) ∧ Below w.heap.size w wr ∧ wn.heap.size < wr.heap.size))
      case atStart => exact ⟨_, hrg3, hrg13, [], N0, CollU.start D2, by have := HO.out.2.2.2.2.2.2.2.2.2.1; simpa using this, by have := HN.out.1; simpa using this, H3.out.1.eqv (fun x => by simp), H3.out.2.1, H3.out.2.2⟩
      case round =>
        obtain ⟨left2, hrgi, hrgo, HI⟩ := hrel
        go_wp2_with (at_next; refine wpList_next_ranges _ rfl _ rfl 30 (int_keyed Try.underlying30) (unitElem (H := Unit)) (Value.int .u64) (fun _ : Unit => Value.agg #[]) keyQ_inv unitQ_inv b wn.heap.size n D2 left2 _ rfl hrgi ?_ ?_; intro hc0 hl0; rotate_left; intro x2 cu2 kl2 y2 w5 cnt2 hkey2 hlk2 hv2 hat2 hrg5 hlt5 hg5 hs5 hen5; rotate_left)
        · have HF : Hid (CollU D (fun z => left z && !z.sameKey (litU k)) (ks ++ [k]) ∧ (ks ++ [k]).length + cnt1 ≤ n ∧ (∃ N, N ≤ (ks ++ [k]).length * 100000 ∧ MapC wr w.heap.size N (cntK e (ks ++ [k]))) ∧ Below w.heap.size w wr ∧ W.heap.size < wr.heap.size) := by
            obtain ⟨ss, N, p1, p2, p3, p4, p5, p6⟩ := HI.out
            obtain ⟨r1, r2, r3, r4, r5, r6, r7, r8, r9, r10, r11⟩ := HO.out
            refine ⟨r1.step r3 r4, by rw [List.length_append]; simp; omega, ⟨N, by rw [List.length_append]; have := HL.out.2.2.2; simp; omega, p4.eqv (fun x => ?_)⟩, p5, by omega⟩
            rw [cntK_snoc]
            have h9 : x ∈ ss ↔ x ∈ e k := by rw [p1.2 x, hl0, r6 x]; simp
            by_cases h8 : x ∈ e k
            · rw [if_pos h8, if_pos (h9.2 h8)]
            · rw [if_neg h8, if_neg (fun h => h8 (h9.1 h))]
          clear HI hrgi
          go_wp2_with fail
          go_roundg cnt1
          case measure => exact HGK.out
          case rel =>
            obtain ⟨f1, f2, ⟨N, f3, f4⟩, f5, f6⟩ := HF.out
            exact ⟨_, hrgo, ks ++ [k], N, f1, f2, f3, f4, f5, f6⟩
        · obtain ⟨k2, rfl, rfl, hk2⟩ := keyQ_lit hkey2
          obtain ⟨ss, N, p1, p2, p3, p4, p5, p6⟩ := HI.out
          have hk5 : Keeps (fun q => q = wn.heap.size) wr w5 := keeps_grown hg5 (fun q e => by cases e; rfl)
          have hW1 := HW.out.2.2.1
          have hWn := HO.out.2.2.2.2.2.2.2.2.2.2
          have hbl := HO.out.2.2.2.2.2.2.1
          have hnk : k2 ∉ ss := fun h => by have := ((p1.2 k2).1 h).2; rw [hlk2] at this; cases this
          have hmc5 := p4.same (hk5.block _ p4.lt (by omega))
          have hrgo5 := ranges_sameG hrgo (hk5.block m hrgo.owns.lt (by have := HW.out.2.2.2; omega)) (hk5.block _ hrgo.lt (by omega))
          obtain ⟨cv, hcv⟩ : ∃ cv, cntK e ks k2 = cv := ⟨_, rfl⟩
          have hcl : cv ≤ 100000 := by rw [← hcv]; exact Nat.le_trans (cntK_le _ _ _) (by have := HO.out.2.1; have := HL.out.2.2.2; omega)
          have hlook := hmc5.look k2 hk2
          have hsim : cntK e ks k2 + (if k2 ∈ ss then 1 else 0) = cv := by rw [if_neg hnk, hcv]; rfl
          rw [hsim] at hlook
          obtain ⟨c1, hc1⟩ : ∃ c1, cv + 1 = c1 := ⟨_, rfl⟩
          have ec1 : (cv : Int) + 1 = (c1 : Int) := by omega
          have y1 : c1 < 1152921504606846976 := by omega
          obtain ⟨w6, hrun6, hmc6, hk6⟩ := hmc5.upd k2 c1 hk2 y1 (by have := HL.out.2.2.2; have := HO.out.2.1; unfold maxLen; omega)
          have hrg6 := ranges_sameG hrg5 (hk6.block b hrg5.owns.lt (by omega)) (hk6.block _ hrg5.lt (by omega))
          have hrgo6 := ranges_sameG hrgo5 (hk6.block m hrgo5.owns.lt (by have := HW.out.2.2.2; omega)) (hk6.block _ hrgo5.lt (by omega))
          have HF : Hid (CollU D2 (fun z => left2 z && !z.sameKey (litU k2)) (ss ++ [k2]) ∧ (ss ++ [k2]).length + cnt2 ≤ n ∧ N + 1 ≤ ks.length * 100000 + (ss ++ [k2]).length ∧ MapC w6 w.heap.size (N + 1) (fun x => cntK e ks x + if x ∈ ss ++ [k2] then 1 else 0) ∧ Below w.heap.size w w6 ∧ wn.heap.size < w6.heap.size) := by
            refine ⟨p1.step hlk2 hat2, by rw [List.length_append]; simp; omega, by rw [List.length_append]; simp; omega, hmc6.eqv (fun x => ?_), (p5.trans (hk5.below (fun i e => by rw [e]; omega) p5.size)).trans (hk6.below (fun i e => by rw [e]; exact Nat.le_refl _) (Nat.le_trans p5.size hk5.size)), Nat.lt_of_lt_of_le p6 (Nat.le_trans hk5.size hk6.size)⟩
            by_cases h9 : x = k2
            · subst h9
              rw [if_pos rfl, if_pos (by simp), hcv, hc1]
            · rw [if_neg h9]
              simp [h9]
          clear HI hrgi hrgo hkey2 hlk2 hv2 hat2 hg5 hs5 p1 p2 p3 p4 p5 p6 hk5 hnk hmc5 hrgo5 hcl hsim hc1 hmc6 hk6 hcv hW1 hWn hbl
          have HLT : Hid (cnt2 < _) := hlt5
          clear hlt5
          go_wp2_with fail
          rw [hlook]
          go_wp2_with fail
          clear hlook hrun6 hen5
          go_roundg cnt2
          case measure => exact HLT.out
          case rel =>
            obtain ⟨f1, f2, f3, f4, f5, f6⟩ := HF.out
            exact ⟨_, hrg6, hrgo6, ss ++ [k2], N + 1, f1, f2, f3, f4, f5, f6⟩

end Go.Proofs.Ytgkgdbdapkgkgaa

/- A map from numbers to numbers, with what it has; a row that is eaten from its front and grows at its end. -/
namespace Go.Proofs.Ytgkgdbdapkgkgaa
set_option maxRecDepth 20000
open Go.RowKit Go.Maps
set_option linter.unusedVariables false
set_option linter.unusedSimpArgs false

/-- a map from numbers to numbers, in memory -/
def MapB (w : World) (m n : Nat) (f : Nat → Option Nat) : Prop :=
  ∃ D : DataW Unit, w.ownsMap Try.prog 30 (plainElem Try.prog 30) m n D ∧ ∀ k, k < 18446744073709551616 → has D (litU k) = (f k).isSome ∧ D.atKey (litU k) (.lit (.int .u64 0)) = .lit (.int .u64 (((f k).getD 0 : Nat) : Int))

theorem MapB.lt {w : World} {m n : Nat} {f : Nat → Option Nat} (H : MapB w m n f) : m < w.heap.size := by
  obtain ⟨D, h, _⟩ := H
  exact World.ownsMap.lt h
theorem MapB.same {w w' : World} {m n : Nat} {f : Nat → Option Nat} (H : MapB w m n f) (hb : w'.heap[m]? = w.heap[m]?) : MapB w' m n f := by
  obtain ⟨D, h1, h2⟩ := H
  exact ⟨D, owns_block h1 hb, h2⟩
theorem MapB.made (w : World) : MapB (w.alloc (.map #[] 0)) w.heap.size 0 (fun _ => none) :=
  ⟨.map [], World.ownsMap_made _ _ _ _, fun k _ => ⟨by simp [has], by simp [DataW.atKey]⟩⟩

theorem zero_numB (w : World) : (zeroValue 30).run Try.prog w = .ok (.int .u64 0) w := by kernel_rfl

theorem MapB.look {w : World} {m n : Nat} {f : Nat → Option Nat} (H : MapB w m n f) (k : Nat) (hk : k < 18446744073709551616) :
    (Instr.lookup 51 (.map (some m)) (.int .u64 (k : Int)) false).run Try.prog w = .ok (.int .u64 (((f k).getD 0 : Nat) : Int)) w := by
  obtain ⟨D, hm, hat⟩ := H
  obtain ⟨v, ps, hrun, hv⟩ := hm.lookup (int_keyed Try.underlying30) Try.underlying51 (zero_numB w) (plainElem_int Try.underlying30 (by decide)) (key := .int .u64 (k : Int)) (kl := litU k) (keyU hk)
  rw [(hat k hk).2] at hv
  obtain ⟨b, rfl, hz, _⟩ := plainElem_int_inv Try.underlying30 hv
  simp only [Prod.mk.injEq, DataW.lit.injEq, Lit.int.injEq, true_and] at hz
  rw [hrun, hz.1]

theorem MapB.look2 {w : World} {m n : Nat} {f : Nat → Option Nat} (H : MapB w m n f) (k : Nat) (hk : k < 18446744073709551616) :
    (Instr.lookup 51 (.map (some m)) (.int .u64 (k : Int)) true).run Try.prog w = .ok (.tuple #[.int .u64 (((f k).getD 0 : Nat) : Int), .bool (f k).isSome]) w := by
  obtain ⟨D, hm, hat⟩ := H
  obtain ⟨v, ps, hrun, hv⟩ := hm.look_ok (int_keyed Try.underlying30) Try.underlying51 (zero_numB w) (plainElem_int Try.underlying30 (by decide)) (key := .int .u64 (k : Int)) (kl := litU k) (keyU hk)
  rw [(hat k hk).2] at hv
  obtain ⟨b, rfl, hz, _⟩ := plainElem_int_inv Try.underlying30 hv
  simp only [Prod.mk.injEq, DataW.lit.injEq, Lit.int.injEq, true_and] at hz
  rw [hrun, hz.1, (hat k hk).1]

theorem MapB.upd {w : World} {m n : Nat} {f : Nat → Option Nat} (H : MapB w m n f) (k v : Nat) (hk : k < 18446744073709551616) (hv : v < 18446744073709551616) (hn : n < maxLen) :
    ∃ w', (Instr.mapUpdate 51 (.map (some m)) (.int .u64 (k : Int)) (.int .u64 (v : Int))).run Try.prog w = .ok () w' ∧ MapB w' m (n + 1) (fun x => if x = k then some v else f x) ∧ Keeps (fun q => q = m) w w' := by
  obtain ⟨D, hm, hat⟩ := H
  obtain ⟨w', h1, h2, h3⟩ := hm.update (int_keyed Try.underlying30) Try.underlying51 hn (keyU hk) (val := .int .u64 (v : Int)) (d := .lit (.int .u64 (v : Int))) (ps := []) (plainElem_int Try.underlying30 (WalkArith.wf_u64 (by omega)))
  refine ⟨w', h1, ⟨_, h2, fun x hx => ?_⟩, keeps_grown h3 (fun q e => by cases e; rfl)⟩
  by_cases e : x = k
  · subst e
    rw [has_put_same hm.isMap (by simp [WideAt.IsKeyLit, litU]), atKey_put_same hm.isMap (k := litU x) (by simp [WideAt.IsKeyLit, litU])]
    simp
  · rw [has_put_other (litU_ne9 e), atKey_put_other (litU_ne9 e)]
    simp only [e, if_false]
    exact hat x hx

/-- append, where what it does is told -/
theorem wpList_appU {P : Program} {w w' : World} {ops : Array Oper} {rest : List Oper} {o : Oper} {a : Act} {Q : Exit → Act → World → Prop} (hgd : o.guard = none) (s x : Operand) (t : TypeId)
    (ho : o.op = .call { callee := .builtin .append, args := #[s, x], argTypes := #[t, t] }) (sv xv v' : Value) (hs : a.eval s = sv) (hx : a.eval x = xv)
    (hr : (Builtin.append_ #[t, t] o.type #[sv, xv]).run P w = .ok v' w') (h : wpList P ops Q rest (a.put o.dst v') w') : wpList P ops Q (o :: rest) a w := by
  refine wpList_plain hgd fun K hK => ?_
  unfold Oper.wp execOp
  simp only [ho, resolve, invoke, builtin, Sem.run_bind, Sem.run_pure, Result.andThen_ok, List.map_toArray, List.map_cons, List.map_nil, hs, hx, hr]
  exact hK _ _ h

/-- a row of numbers that begins anywhere in its block -/
def QAt (G : Nat → Prop) (w : World) (v : Value) (Q : List Nat) : Prop :=
  ∃ ao c, v = .slice ao Q.length c ∧ Q.length ≤ c ∧ (ao = none → c = 0) ∧ (c = 0 ∨ ∃ b off cur, ao = some ⟨b, off, none⟩ ∧ G b ∧ w.heap[b]? = some (.cells cur 30 (0, 0)) ∧ off + c ≤ cur.size ∧ ∀ j (hj : j < Q.length), cur[off + j]? = some (.int .u64 (Q[j] : Int)))

theorem QAt.keeps {G : Nat → Prop} {F : Nat → Prop} {w w' : World} {v : Value} {Q : List Nat} (H : QAt G w v Q) (hk : Keeps F w w') (hF : ∀ b cur, G b → w.heap[b]? = some (.cells cur 30 (0, 0)) → ¬ F b) : QAt G w' v Q := by
  obtain ⟨ao, c, e, h1, h2, h3⟩ := H
  refine ⟨ao, c, e, h1, h2, ?_⟩
  rcases h3 with h3 | ⟨b, off, cur, k1, k2, k3, k4, k5⟩
  · exact .inl h3
  · exact .inr ⟨b, off, cur, k1, k2, (hk.block b (Array.getElem?_eq_some_iff.1 k3).1 (hF b cur k2 k3)).trans k3, k4, k5⟩

theorem QAt.below {G : Nat → Prop} {w w' : World} {v : Value} {Q : List Nat} (H : QAt G w v Q) (hb : Below w.heap.size w w') : QAt G w' v Q := H.keeps (Below.keeps hb (fun _ => False)) (fun _ _ _ _ h => h)

/-- the first of them, and the others -/
theorem QAt.pop {G : Nat → Prop} {w : World} {v : Value} {x : Nat} {Q : List Nat} (H : QAt G w v (x :: Q)) : ∃ b off c, v = .slice (some ⟨b, off, none⟩) (Q.length + 1) (c + 1) ∧ w.cell? ⟨b, off, none⟩ = some (.int .u64 (x : Int)) ∧ Q.length ≤ c ∧
    (c = 0 → QAt G w (.slice (some ⟨b, off, none⟩) 0 0) Q) ∧ (c ≠ 0 → QAt G w (.slice (some ⟨b, off + 1, none⟩) Q.length c) Q) := by
  obtain ⟨ao, c, e, h1, h2, h3⟩ := H
  rw [List.length_cons] at e h1
  rcases h3 with h3 | ⟨b, off, cur, rfl, k2, k3, k4, k5⟩
  · omega
  · obtain ⟨c', rfl⟩ : ∃ c', c = c' + 1 := ⟨c - 1, by omega⟩
    refine ⟨b, off, c', e, ?_, by omega, fun h0 => ?_, fun h0 => ?_⟩
    · rw [cell_of_row w b off cur _ _ k3]
      have := k5 0 (by simp)
      simpa using this
    · have hQ : Q = [] := List.eq_nil_of_length_eq_zero (by omega)
      subst hQ
      exact ⟨_, 0, rfl, Nat.le_refl _, fun h => rfl, .inl rfl⟩
    · refine ⟨_, c', rfl, by omega, (fun h => by cases h), .inr ⟨b, off + 1, cur, rfl, k2, k3, by omega, fun j hj => ?_⟩⟩
      have := k5 (j + 1) (by simp; omega)
      rw [show off + 1 + j = off + (j + 1) by omega]
      simpa using this

/-- one more at the end -/
theorem QAt.run {G : Nat → Prop} {w : World} {ao : Option Addr} {n c : Nat} {Q : List Nat} (H : QAt G w (.slice ao n c) Q) (x a : Nat) (ty : TypeId) (ha : w.cell? ⟨a, 0, none⟩ = some (.int .u64 (x : Int))) (hn : Q.length ≤ 1000000) (hB : ∀ q, w.heap.size ≤ q → G q) :
    ∃ v' w', (Builtin.append_ #[28, 28] ty #[.slice ao n c, .slice (some ⟨a, 0, none⟩) 1 1]).run Try.prog w = .ok v' w' ∧ QAt G w' v' (Q ++ [x]) ∧ Keeps (fun q => G q ∧ ∃ cur, w.heap[q]? = some (.cells cur 30 (0, 0))) w w' := by
  obtain ⟨i0, hi, hz0, hz1, hz2⟩ := info_parts infoU64
  obtain ⟨ao', c', e, h1, h2, h3⟩ := H
  cases e
  have hnews : ∀ j u, [Value.int .u64 (x : Int)][j]? = some u → w.cell? ((⟨a, 0, none⟩ : Addr).add j) = some u := fun j u hu => by
    match j, hu with
    | 0, hu => simp at hu; subst hu; simpa [Addr.add] using ha
    | j + 1, hu => simp at hu
  have fin : ∀ v' w', w'.ownsRow w.heap.size 30 1 v' (Q.length + 1) (Q.map encN ++ [.int .u64 (x : Int)]) → w.grownBy w' none → QAt G w' v' (Q ++ [x]) ∧ Keeps (fun q => G q ∧ ∃ cur, w.heap[q]? = some (.cells cur 30 (0, 0))) w w' := fun v' w' ho hg => by
    refine ⟨?_, keeps_grown hg (fun q e => by cases e)⟩
    rcases ho.2 with ⟨_, h9⟩ | ⟨g, cap, cur, e, r1, r2, r3, r4, r5, r6⟩
    · omega
    · refine ⟨_, cap, by rw [e, List.length_append]; rfl, by rw [List.length_append]; simpa using r3, fun h => (by cases h), .inr ⟨g, 0, cur, rfl, hB g r1, r2, by omega, fun j hj => ?_⟩⟩
      rw [List.length_append, List.length_singleton] at hj
      have e1 : (cur.toList.take ((Q.length + 1) * 1))[j]? = (Q.map encN ++ [.int .u64 (x : Int)])[j]? := by rw [r6]
      rw [List.getElem?_take, if_pos (by omega), Array.getElem?_toList] at e1
      rw [Nat.zero_add, e1, List.getElem?_append, List.length_map, List.getElem_append]
      by_cases hq : j < Q.length
      · rw [if_pos hq, dif_pos hq, List.getElem?_map, List.getElem?_eq_getElem hq]; rfl
      · rw [if_neg hq, dif_neg hq]
        have : j = Q.length := by omega
        subst this
        simp
  rcases h3 with h3 | ⟨b, off, cur, rfl, k2, k3, k4, k5⟩
  · subst h3
    have hQ : Q = [] := List.eq_nil_of_length_eq_zero (by omega)
    subst hQ
    cases ao with
    | none =>
      obtain ⟨v', w', hr, r1, r2, _⟩ := run_append_own (P := Try.prog) w w.heap.size 28 ty 30 i0 (.int .u64 0) 1 8 Try.underlying28 hi hz0 hz1 hz2 rfl (by decide) (.slice none 0 0) 0 [] (World.ownsRow_nil w _ 30 1) ⟨a, 0, none⟩ 1 1 [.int .u64 (x : Int)] rfl hnews (by intro u hu; simp at hu; subst hu; rfl) (by decide) (by decide) (Nat.le_refl _)
      exact ⟨v', w', hr, fin v' w' r1 r2⟩
    | some b =>
      obtain ⟨v', w', hr, r1, r2⟩ := run_append_arg_grows (P := Try.prog) w 28 ty 30 i0 (.int .u64 0) 1 8 Try.underlying28 hi hz0 hz1 hz2 rfl (by decide) b 0 0 [] rfl (fun j u hj => by simp at hj) ⟨a, 0, none⟩ 1 1 [.int .u64 (x : Int)] rfl hnews (by decide) (by decide) (by decide)
      exact ⟨v', w', hr, fin v' w' r1 r2⟩
  · have hcell : ∀ j, j < cur.size → (w.cell? ⟨b, j, none⟩).isSome = true ∧ w.frozen? ⟨b, j, none⟩ = false := fun j hj => by
      rw [cell_of_row w b j cur _ _ k3]
      exact ⟨by simp [hj], frozen_of_row w b j cur _ k3⟩
    by_cases hr : Q.length + 1 ≤ c
    · have hrun := run_append_room_cells (P := Try.prog) w 28 ty 30 i0 Try.underlying28 hi b off Q.length c ⟨a, 0, none⟩ 1 1 [.int .u64 (x : Int)] (by rw [hz1]; rfl) hnews (by intro u hu; simp at hu; subst hu; rfl) hr (fun j hj => (hcell _ (by rw [hz1]; simp at hj; omega)).1) (fun j hj => (hcell _ (by rw [hz1]; simp at hj; omega)).2)
      rw [hz1] at hrun
      refine ⟨_, _, hrun, ?_⟩
      have e9 : w.setCells b (off + Q.length * 1) [.int .u64 (x : Int)] = w.setCell ⟨b, off + Q.length, none⟩ (.int .u64 (x : Int)) := by
        simp [World.setCells]
      rw [e9]
      refine ⟨⟨_, c, by rw [List.length_append]; rfl, by rw [List.length_append]; simpa using hr, fun h => (by cases h), .inr ⟨b, off, cur.setIfInBounds (off + Q.length) (.int .u64 (x : Int)), rfl, k2, heap_setCell_same w b _ cur _ _ k3, by rw [Array.size_setIfInBounds]; exact k4, fun j hj => ?_⟩⟩, ?_⟩
      · rw [List.length_append, List.length_singleton] at hj
        rw [List.getElem_append]
        by_cases hq : j < Q.length
        · rw [dif_pos hq, Array.getElem?_setIfInBounds_ne (by omega)]
          exact k5 j hq
        · rw [dif_neg hq]
          have : j = Q.length := by omega
          subst this
          rw [Array.getElem?_setIfInBounds_self_of_lt (by omega)]
          simp
      · exact ⟨rfl, rfl, rfl, by simp, fun q hq hn => Below.heap_setCell _ _ _ _ (fun e => hn ⟨by rw [e]; exact k2, cur, by rw [e]; exact k3⟩)⟩
    · obtain ⟨v', w', hr', r1, r2⟩ := run_append_arg_grows (P := Try.prog) w 28 ty 30 i0 (.int .u64 0) 1 8 Try.underlying28 hi hz0 hz1 hz2 rfl (by decide) ⟨b, off, none⟩ Q.length c (Q.map encN) (by simp) (fun j u hj => by
        rw [List.getElem?_map] at hj
        have hjl : j < Q.length := by
          by_cases h : j < Q.length
          · exact h
          · rw [List.getElem?_eq_none (by omega)] at hj; cases hj
        rw [List.getElem?_eq_getElem hjl] at hj
        cases hj
        rw [Addr.add_lit, cell_of_row w b _ cur _ _ k3]
        exact k5 j hjl) ⟨a, 0, none⟩ 1 1 [.int .u64 (x : Int)] rfl hnews (by omega) (by simp only [maxLen]; omega) (by omega)
      exact ⟨v', w', hr', fin v' w' r1 r2⟩

theorem QAt.mono {G G' : Nat → Prop} {w : World} {v : Value} {Q : List Nat} (H : QAt G w v Q) (hG : ∀ b, G b → b < w.heap.size → G' b) : QAt G' w v Q := by
  obtain ⟨ao, c, e, h1, h2, h3⟩ := H
  refine ⟨ao, c, e, h1, h2, ?_⟩
  rcases h3 with h3 | ⟨b, off, cur, k1, k2, k3, k4, k5⟩
  · exact .inl h3
  · exact .inr ⟨b, off, cur, k1, hG b k2 (Array.getElem?_eq_some_iff.1 k3).1, k3, k4, k5⟩

theorem MapB.not_cells {w : World} {m n : Nat} {f : Nat → Option Nat} (H : MapB w m n f) : ∀ cur t fr, w.heap[m]? ≠ some (.cells cur t fr) := by
  intro cur t fr h
  obtain ⟨D, ⟨es, clock, hb, _⟩, _⟩ := H
  rw [h] at hb
  cases hb

end Go.Proofs.Ytgkgdbdapkgkgaa

/- A search through a graph, level by level, in pure terms. -/
namespace Go.Proofs.Ytgkgdbdapkgkgaa
set_option maxRecDepth 20000
set_option linter.unusedVariables false
set_option linter.unusedSimpArgs false

def setB (f : Nat → Option Nat) (y v : Nat) : Nat → Option Nat := fun x => if x = y then some v else f x

/-- a way from a node back to where the search began -/
def WayP (f : Nat → Option Nat) (s : Nat) : List Nat → Prop
  | [] => False
  | [x] => x = s
  | x :: y :: r => x ≠ s ∧ f x = some y ∧ WayP f s (y :: r)

/-- whom a node leads to: found, or whom is new waits in the line -/
def innB (s x : Nat) : List Nat → (Nat → Option Nat) → List Nat → Bool × (Nat → Option Nat) × List Nat
  | [], f, Q => (false, f, Q)
  | y :: r, f, Q => if y = s then (true, f, Q) else if (f y).isSome = true then innB s x r f Q else innB s x r (setB f y x) (Q ++ [y])

/-- the search, so many nodes long -/
def bfsB (o : Nat → List Nat) (s : Nat) : Nat → (Nat → Option Nat) → List Nat → Option ((Nat → Option Nat) × Nat)
  | 0, _, _ => none
  | _ + 1, _, [] => none
  | k + 1, f, x :: Q => if (innB s x (o x) f Q).1 = true then some ((innB s x (o x) f Q).2.1, x) else bfsB o s k (innB s x (o x) f Q).2.1 (innB s x (o x) f Q).2.2

def visN (f : Nat → Option Nat) (U : List Nat) : Nat := (U.filter fun x => (f x).isSome).length
def unvN (f : Nat → Option Nat) (U : List Nat) : Nat := (U.filter fun x => !(f x).isSome).length

theorem vis_unv (f : Nat → Option Nat) (U : List Nat) : visN f U + unvN f U = U.length := by
  unfold visN unvN
  induction U with
  | nil => rfl
  | cons a r ih =>
    rw [List.filter_cons, List.filter_cons]
    cases h : (f a).isSome
    · simp only [Bool.false_eq_true, if_false, Bool.not_false, if_true, List.length_cons]
      omega
    · simp only [if_true, Bool.not_true, Bool.false_eq_true, if_false, List.length_cons]
      omega

theorem setB_isSome (f : Nat → Option Nat) (y v x : Nat) : (setB f y v x).isSome = ((f x).isSome || decide (x = y)) := by
  unfold setB
  by_cases e : x = y
  · simp [e]
  · simp [e]

theorem vis_set {f : Nat → Option Nat} {U : List Nat} {y v : Nat} (hy : f y = none) : visN f U + (if y ∈ U then 1 else 0) ≤ visN (setB f y v) U := by
  unfold visN
  induction U with
  | nil => simp
  | cons a r ih =>
    rw [List.filter_cons, List.filter_cons, setB_isSome]
    by_cases e : a = y
    · subst e
      have h2 : (List.filter (fun x => (f x).isSome) r).length ≤ (List.filter (fun x => (setB f a v x).isSome) r).length := by
        split at ih <;> omega
      simp [hy]
      omega
    · have h3 : (y ∈ a :: r) ↔ y ∈ r := ⟨fun h => (List.mem_cons.1 h).elim (fun h => absurd h.symm e) id, fun h => List.mem_cons_of_mem _ h⟩
      simp only [h3, e, decide_false, Bool.or_false]
      cases h : (f a).isSome
      · simpa using ih
      · simp only [if_true, List.length_cons]
        omega

theorem unv_set {f : Nat → Option Nat} {U : List Nat} {y v : Nat} (hy : f y = none) (hU : y ∈ U) : unvN (setB f y v) U + 1 ≤ unvN f U := by
  have h1 := vis_unv f U
  have h2 := vis_unv (setB f y v) U
  have h3 := vis_set (v := v) (U := U) hy
  rw [if_pos hU] at h3
  omega

theorem way_set {f : Nat → Option Nat} {s y v : Nat} (hy : f y = none) : ∀ P, WayP f s P → WayP (setB f y v) s P
  | [], h => h
  | [x], h => h
  | x :: z :: r, h => by
    refine ⟨h.1, ?_, way_set hy (z :: r) h.2.2⟩
    unfold setB
    rw [if_neg (fun e => by have h9 := h.2.1; rw [e, hy] at h9; cases h9)]
    exact h.2.1

/-- what stands between two rounds -/
structure BfI (o : Nat → List Nat) (s : Nat) (U : List Nat) (f : Nat → Option Nat) (Q : List Nat) : Prop where
  ways : ∀ x, (x ∈ Q ∨ (f x).isSome = true) → ∃ P, WayP f s (x :: P) ∧ P.length ≤ visN f U
  root : f s = none
  link : ∀ x y, f x = some y → x ∈ o y ∧ x ∈ U

theorem BfI.first (o : Nat → List Nat) (s : Nat) (U : List Nat) : BfI o s U (fun _ => none) [s] :=
  ⟨fun x h => by
    rcases h with h | h
    · rw [List.mem_singleton] at h
      subst h
      exact ⟨[], rfl, Nat.zero_le _⟩
    · simp at h, rfl, fun x y h => by cases h⟩

/-- a new one in the line -/
theorem BfI.put {o : Nat → List Nat} {s : Nat} {U : List Nat} {f : Nat → Option Nat} {Q : List Nat} (H : BfI o s U f Q) {x y : Nat} (hx : ∃ P, WayP f s (x :: P) ∧ P.length ≤ visN f U) (hy : f y = none) (hs : y ≠ s) (ho : y ∈ o x) (hU : y ∈ U) : BfI o s U (setB f y x) (Q ++ [y]) := by
  have hv := vis_set (v := x) (U := U) hy
  rw [if_pos hU] at hv
  refine ⟨fun z hz => ?_, ?_, fun a b hab => ?_⟩
  · by_cases e : z = y
    · subst e
      obtain ⟨P, h1, h2⟩ := hx
      refine ⟨x :: P, ⟨hs, by unfold setB; rw [if_pos rfl], way_set hy _ h1⟩, ?_⟩
      rw [List.length_cons]
      omega
    · have hz' : z ∈ Q ∨ (f z).isSome = true := by
        rcases hz with hz | hz
        · rcases List.mem_append.1 hz with hz | hz
          · exact .inl hz
          · rw [List.mem_singleton] at hz; exact absurd hz e
        · rw [setB_isSome] at hz
          simp [e] at hz
          exact .inr hz
      obtain ⟨P, h1, h2⟩ := H.ways z hz'
      exact ⟨P, way_set hy _ h1, by omega⟩
  · unfold setB
    rw [if_neg (fun e => hs e.symm)]
    exact H.root
  · unfold setB at hab
    by_cases e : a = y
    · subst e
      rw [if_pos rfl] at hab
      cases hab
      exact ⟨ho, hU⟩
    · rw [if_neg e] at hab
      exact H.link a b hab

theorem way_keeps {U : List Nat} {s x : Nat} {f : Nat → Option Nat} {y v : Nat} (hx : ∃ P, WayP f s (x :: P) ∧ P.length ≤ visN f U) (hy : f y = none) : ∃ P, WayP (setB f y v) s (x :: P) ∧ P.length ≤ visN (setB f y v) U := by
  obtain ⟨P, h1, h2⟩ := hx
  have := vis_set (v := v) (U := U) hy
  exact ⟨P, way_set hy _ h1, by omega⟩

/-- what the round over one node's links leaves -/
theorem inn_spec {o : Nat → List Nat} {s : Nat} {U : List Nat} {x : Nat} : ∀ (ys : List Nat) (f : Nat → Option Nat) (Q : List Nat), BfI o s U f Q → (∃ P, WayP f s (x :: P) ∧ P.length ≤ visN f U) → (∀ y ∈ ys, y ∈ o x ∧ y ∈ U) →
    BfI o s U (innB s x ys f Q).2.1 (innB s x ys f Q).2.2 ∧ (∃ P, WayP (innB s x ys f Q).2.1 s (x :: P) ∧ P.length ≤ visN (innB s x ys f Q).2.1 U) ∧
    unvN (innB s x ys f Q).2.1 U + (innB s x ys f Q).2.2.length ≤ unvN f U + Q.length ∧ (∀ z, (f z).isSome = true → ((innB s x ys f Q).2.1 z).isSome = true) ∧ (∀ z ∈ Q, z ∈ (innB s x ys f Q).2.2) ∧ (∀ z, ((innB s x ys f Q).2.1 z).isSome = true → (f z).isSome = true ∨ z ∈ (innB s x ys f Q).2.2) ∧
    ((innB s x ys f Q).1 = true → s ∈ ys) ∧ ((innB s x ys f Q).1 = false → ∀ y ∈ ys, y ≠ s ∧ ((innB s x ys f Q).2.1 y).isSome = true)
  | [], f, Q, H, hx, _ => ⟨H, hx, Nat.le_refl _, fun _ h => h, fun _ h => h, fun _ h => .inl h, (fun h => by cases h), (fun _ y hy => absurd hy (by simp))⟩
  | y :: r, f, Q, H, hx, hys => by
    unfold innB
    by_cases h1 : y = s
    · rw [if_pos h1]
      exact ⟨H, hx, Nat.le_refl _, fun _ h => h, fun _ h => h, fun _ h => .inl h, (fun _ => by simp [h1]), (fun h => by cases h)⟩
    · rw [if_neg h1]
      have hyo := hys y (by simp)
      have hr : ∀ z ∈ r, z ∈ o x ∧ z ∈ U := fun z hz => hys z (by simp [hz])
      by_cases h2 : (f y).isSome = true
      · rw [if_pos h2]
        obtain ⟨a1, a2, a3, a4, a5, a6, a7, a8⟩ := inn_spec r f Q H hx hr
        refine ⟨a1, a2, a3, a4, a5, a6, fun h => by simp [a7 h], fun h z hz => ?_⟩
        rcases List.mem_cons.1 hz with rfl | hz
        · exact ⟨h1, a4 _ h2⟩
        · exact a8 h z hz
      · rw [if_neg h2]
        have hn : f y = none := by simpa using h2
        obtain ⟨a1, a2, a3, a4, a5, a6, a7, a8⟩ := inn_spec r (setB f y x) (Q ++ [y]) (H.put hx hn h1 hyo.1 hyo.2) (way_keeps hx hn) hr
        have hu := unv_set (v := x) hn hyo.2
        refine ⟨a1, a2, ?_, fun z hz => a4 z (by rw [setB_isSome, hz]; rfl), fun z hz => a5 z (by simp [hz]), fun z hz => ?_, fun h => by simp [a7 h], fun h z hz => ?_⟩
        · rw [List.length_append, List.length_singleton] at a3
          omega
        · rcases a6 z hz with h | h
          · rw [setB_isSome] at h
            by_cases e : z = y
            · subst e; exact .inr (a5 _ (by simp))
            · simp [e] at h; exact .inl h
          · exact .inr h
        · rcases List.mem_cons.1 hz with rfl | hz
          · exact ⟨h1, a4 _ (by rw [setB_isSome]; simp)⟩
          · exact a8 h z hz

/-- from one to another along links, one at least -/
def Reach (o : Nat → List Nat) (a : Nat) : Nat → Nat → Prop
  | 0, b => b ∈ o a
  | n + 1, b => ∃ c, Reach o a n c ∧ b ∈ o c

/-- where the search ends without one, there is no way round -/
theorem bfs_none {o : Nat → List Nat} {s : Nat} {U : List Nat} (hU : ∀ x, ∀ y ∈ o x, y ∈ U) : ∀ (k : Nat) (f : Nat → Option Nat) (Q : List Nat), BfI o s U f Q → unvN f U + Q.length < k → (∀ x, (x = s ∨ (f x).isSome = true) → x ∈ Q ∨ ∀ y ∈ o x, y ≠ s ∧ (f y).isSome = true) → bfsB o s k f Q = none → ∀ n b, Reach o s n b → b ≠ s
  | 0, f, Q, _, hk, _, _ => by omega
  | k + 1, f, [], H, _, hd, _ => by
    have hcl : ∀ n b, Reach o s n b → b ≠ s ∧ (f b).isSome = true := by
      intro n
      induction n with
      | zero =>
        intro b hb
        rcases hd s (.inl rfl) with h | h
        · simp at h
        · exact h b hb
      | succ n ih =>
        rintro b ⟨c, hc, hb⟩
        rcases hd c (.inr (ih c hc).2) with h | h
        · simp at h
        · exact h b hb
    exact fun n b h => (hcl n b h).1
  | k + 1, f, x :: Q, H, hk, hd, hn => by
    have hx := H.ways x (.inl (by simp))
    have H' : BfI o s U f Q := ⟨fun z hz => H.ways z (hz.elim (fun h => .inl (by simp [h])) .inr), H.root, H.link⟩
    obtain ⟨a1, a2, a3, a4, a5, a6, a7, a8⟩ := inn_spec (o x) f Q H' hx (fun y hy => ⟨hy, hU x y hy⟩)
    unfold bfsB at hn
    by_cases hf : (innB s x (o x) f Q).1 = true
    · rw [if_pos hf] at hn; cases hn
    · rw [if_neg hf] at hn
      have hf' : (innB s x (o x) f Q).1 = false := by simpa using hf
      refine bfs_none hU k _ _ a1 ?_ (fun z hz => ?_) hn
      · rw [List.length_cons] at hk
        omega
      · by_cases e : z = x
        · subst e; exact .inr (a8 hf')
        · have hz' : (z = s ∨ (f z).isSome = true) ∨ z ∈ (innB s x (o x) f Q).2.2 := by
            rcases hz with h | h
            · exact .inl (.inl h)
            · rcases a6 z h with h | h
              · exact .inl (.inr h)
              · exact .inr h
          rcases hz' with hz' | hz'
          · rcases hd z hz' with h | h
            · rcases List.mem_cons.1 h with h | h
              · exact absurd h e
              · exact .inl (a5 z h)
            · exact .inr fun y hy => ⟨(h y hy).1, a4 y (h y hy).2⟩
          · exact .inl hz'

/-- where it finds one, there is a way of links -/
theorem bfs_some {o : Nat → List Nat} {s : Nat} {U : List Nat} (hU : ∀ x, ∀ y ∈ o x, y ∈ U) : ∀ (k : Nat) (f : Nat → Option Nat) (Q : List Nat), BfI o s U f Q → ∀ f' x, bfsB o s k f Q = some (f', x) → s ∈ o x ∧ (∃ P, WayP f' s (x :: P) ∧ P.length ≤ visN f' U) ∧ ∀ a b, f' a = some b → a ∈ o b
  | 0, f, Q, _, _, _, h => by cases h
  | k + 1, f, [], _, _, _, h => by cases h
  | k + 1, f, z :: Q, H, f', x, h => by
    have hx := H.ways z (.inl (by simp))
    have H' : BfI o s U f Q := ⟨fun z hz => H.ways z (hz.elim (fun h => .inl (by simp [h])) .inr), H.root, H.link⟩
    obtain ⟨a1, a2, a3, a4, a5, a6, a7, a8⟩ := inn_spec (o z) f Q H' hx (fun y hy => ⟨hy, hU z y hy⟩)
    unfold bfsB at h
    by_cases hf : (innB s z (o z) f Q).1 = true
    · rw [if_pos hf] at h
      cases h
      exact ⟨a7 hf, a2, fun a b hab => (a1.link a b hab).1⟩
    · rw [if_neg hf] at h
      exact bfs_some hU k _ _ a1 f' x h

end Go.Proofs.Ytgkgdbdapkgkgaa

/- The way that the search finds is the shortest: in pure terms. -/
namespace Go.Proofs.Ytgkgdbdapkgkgaa
set_option maxRecDepth 20000
set_option linter.unusedVariables false
set_option linter.unusedSimpArgs false

def VisB (f : Nat → Option Nat) (s z : Nat) : Prop := z = s ∨ (f z).isSome = true

/-- how far each node is that was come to -/
structure BfD (o : Nat → List Nat) (s : Nat) (f : Nat → Option Nat) (Q : List Nat) (D : Nat → Nat) : Prop where
  root : D s = 0
  rootf : f s = none
  par : ∀ y z, f y = some z → D y = D z + 1 ∧ VisB f s z
  line : Q.Pairwise fun a b => D a ≤ D b
  near : ∀ z, VisB f s z → ∀ q ∈ Q, D z ≤ D q + 1
  gone : ∀ z, VisB f s z → z ∈ Q ∨ ∀ y ∈ o z, y ≠ s ∧ (f y).isSome = true ∧ D y ≤ D z + 1
  vis : ∀ q ∈ Q, VisB f s q

/-- while one node's links are gone through -/
structure InD (o : Nat → List Nat) (s x : Nat) (f : Nat → Option Nat) (Q : List Nat) (D : Nat → Nat) : Prop where
  root : D s = 0
  rootf : f s = none
  par : ∀ y z, f y = some z → D y = D z + 1 ∧ VisB f s z
  line : Q.Pairwise fun a b => D a ≤ D b
  low : ∀ q ∈ Q, D x ≤ D q
  near : ∀ z, VisB f s z → D z ≤ D x + 1
  gone : ∀ z, VisB f s z → z = x ∨ z ∈ Q ∨ ∀ y ∈ o z, y ≠ s ∧ (f y).isSome = true ∧ D y ≤ D z + 1
  vis : ∀ q ∈ Q, VisB f s q
  visx : VisB f s x

theorem VisB.set {f : Nat → Option Nat} {s y v z : Nat} (h : VisB f s z) : VisB (setB f y v) s z := by
  rcases h with h | h
  · exact .inl h
  · exact .inr (by rw [setB_isSome, h]; rfl)

theorem InD.put {o : Nat → List Nat} {s x y : Nat} {f : Nat → Option Nat} {Q : List Nat} {D : Nat → Nat} (H : InD o s x f Q D) (hy : f y = none) (hs : y ≠ s) : InD o s x (setB f y x) (Q ++ [y]) (fun z => if z = y then D x + 1 else D z) := by
  have hnv : ∀ z, VisB f s z → z ≠ y := fun z hz e => by
    subst e
    rcases hz with h | h
    · exact hs h
    · rw [hy] at h; cases h
  have hxy := hnv x H.visx
  have hv : ∀ z, VisB (setB f y x) s z → z = y ∨ VisB f s z := fun z hz => by
    rcases hz with h | h
    · exact .inr (.inl h)
    · rw [setB_isSome] at h
      by_cases e : z = y
      · exact .inl e
      · simp [e] at h
        exact .inr (.inr h)
  refine ⟨?_, ?_, fun a b hab => ?_, ?_, fun q hq => ?_, fun z hz => ?_, fun z hz => ?_, fun q hq => ?_, H.visx.set⟩
  · show (if s = y then _ else _) = _
    rw [if_neg (fun e => hs e.symm)]; exact H.root
  · unfold setB
    rw [if_neg (fun e => hs e.symm)]; exact H.rootf
  · show (if a = y then _ else _) = (if b = y then _ else _) + 1 ∧ _
    unfold setB at hab
    by_cases e : a = y
    · rw [if_pos e] at hab
      cases hab
      rw [if_pos e, if_neg hxy]
      exact ⟨rfl, H.visx.set⟩
    · rw [if_neg e] at hab
      obtain ⟨h1, h2⟩ := H.par a b hab
      rw [if_neg e, if_neg (hnv b h2)]
      exact ⟨h1, h2.set⟩
  · refine List.pairwise_append.2 ⟨?_, List.pairwise_singleton _ _, fun a ha b hb => ?_⟩
    · refine (List.pairwise_iff_forall_sublist.2 fun {a b} hab => ?_)
      have h1 := List.pairwise_iff_forall_sublist.1 H.line hab
      have ha : a ∈ Q := hab.subset (by simp)
      have hb : b ∈ Q := hab.subset (by simp)
      show (if a = y then _ else _) ≤ (if b = y then _ else _)
      rw [if_neg (hnv a (H.vis a ha)), if_neg (hnv b (H.vis b hb))]
      exact h1
    · rw [List.mem_singleton] at hb
      subst hb
      show (if a = b then _ else _) ≤ (if b = b then _ else _)
      rw [if_neg (hnv a (H.vis a ha)), if_pos rfl]
      exact H.near a (H.vis a ha)
  · show (if x = y then _ else _) ≤ (if q = y then _ else _)
    rw [if_neg hxy]
    by_cases e : q = y
    · rw [if_pos e]; omega
    · rw [if_neg e]
      rcases List.mem_append.1 hq with h | h
      · exact H.low q h
      · rw [List.mem_singleton] at h; exact absurd h e
  · show (if z = y then _ else _) ≤ (if x = y then _ else _) + 1
    rw [if_neg hxy]
    by_cases e : z = y
    · rw [if_pos e]; omega
    · rw [if_neg e]
      exact H.near z ((hv z hz).resolve_left e)
  · rcases hv z hz with e | h
    · subst e; exact .inr (.inl (by simp))
    · rcases H.gone z h with h1 | h1 | h1
      · exact .inl h1
      · exact .inr (.inl (by simp [h1]))
      · refine .inr (.inr fun a ha => ?_)
        obtain ⟨b1, b2, b3⟩ := h1 a ha
        refine ⟨b1, by rw [setB_isSome, b2]; rfl, ?_⟩
        show (if a = y then _ else _) ≤ (if z = y then _ else _) + 1
        rw [if_neg (hnv a (.inr b2)), if_neg (hnv z h)]
        exact b3
  · rcases List.mem_append.1 hq with h | h
    · exact (H.vis q h).set
    · rw [List.mem_singleton] at h
      subst h
      exact .inr (by rw [setB_isSome]; simp)

/-- what the round over one node's links leaves -/
theorem inn_short {o : Nat → List Nat} {s x : Nat} : ∀ (ys : List Nat) (f : Nat → Option Nat) (Q : List Nat) (D : Nat → Nat), InD o s x f Q D →
    ∃ D', InD o s x (innB s x ys f Q).2.1 (innB s x ys f Q).2.2 D' ∧ (∀ z, (f z).isSome = true → ((innB s x ys f Q).2.1 z).isSome = true) ∧ ((innB s x ys f Q).1 = false → ∀ y ∈ ys, y ≠ s ∧ ((innB s x ys f Q).2.1 y).isSome = true) ∧ ∀ q, VisB f s q → D' q = D q
  | [], f, Q, D, H => ⟨D, H, fun _ h => h, fun _ y hy => absurd hy (by simp), fun _ _ => rfl⟩
  | y :: r, f, Q, D, H => by
    unfold innB
    by_cases h1 : y = s
    · rw [if_pos h1]
      exact ⟨D, H, fun _ h => h, (fun h => by cases h), fun _ _ => rfl⟩
    · rw [if_neg h1]
      by_cases h2 : (f y).isSome = true
      · rw [if_pos h2]
        obtain ⟨D', a1, a2, a3, a4⟩ := inn_short r f Q D H
        refine ⟨D', a1, a2, fun h z hz => ?_, a4⟩
        rcases List.mem_cons.1 hz with rfl | hz
        · exact ⟨h1, a2 _ h2⟩
        · exact a3 h z hz
      · rw [if_neg h2]
        have hn : f y = none := by simpa using h2
        obtain ⟨D', a1, a2, a3, a4⟩ := inn_short r _ _ _ (H.put hn h1)
        refine ⟨D', a1, fun z hz => a2 z (by rw [setB_isSome, hz]; rfl), fun h z hz => ?_, fun q hq => ?_⟩
        rotate_left
        · rw [a4 q hq.set]
          show (if q = y then _ else _) = _
          rw [if_neg]
          intro e
          subst e
          rcases hq with h | h
          · exact h1 h
          · exact h2 h
        rcases List.mem_cons.1 hz with rfl | hz
        · exact ⟨h1, a2 _ (by rw [setB_isSome]; simp)⟩
        · exact a3 h z hz

theorem BfD.first (o : Nat → List Nat) (s : Nat) : BfD o s (fun _ => none) [s] (fun _ => 0) :=
  ⟨rfl, rfl, fun _ _ h => (by cases h), List.pairwise_singleton _ _, fun _ _ _ _ => Nat.zero_le _, fun z h => .inl (by rcases h with h | h <;> simp_all), fun q hq => .inl (by simpa using hq)⟩

theorem BfD.inn {o : Nat → List Nat} {s x : Nat} {f : Nat → Option Nat} {Q : List Nat} {D : Nat → Nat} (H : BfD o s f (x :: Q) D) : InD o s x f Q D := by
  obtain ⟨l1, l2⟩ := List.pairwise_cons.1 H.line
  refine ⟨H.root, H.rootf, H.par, l2, l1, fun z hz => H.near z hz x (by simp), fun z hz => ?_, fun q hq => H.vis q (by simp [hq]), H.vis x (by simp)⟩
  rcases H.gone z hz with h | h
  · rcases List.mem_cons.1 h with h | h
    · exact .inl h
    · exact .inr (.inl h)
  · exact .inr (.inr h)

/-- as far as a way goes, a node is come to -/
theorem BfD.far {o : Nat → List Nat} {s x : Nat} {f : Nat → Option Nat} {Q : List Nat} {D : Nat → Nat} (H : BfD o s f (x :: Q) D) : ∀ n b, n < D x → Reach o s n b → b ≠ s ∧ (f b).isSome = true ∧ D b ≤ n + 1 := by
  have hl := (List.pairwise_cons.1 H.line).1
  have hg : ∀ z, VisB f s z → D z < D x → ∀ y ∈ o z, y ≠ s ∧ (f y).isSome = true ∧ D y ≤ D z + 1 := fun z hz hd => by
    rcases H.gone z hz with h | h
    · rcases List.mem_cons.1 h with h | h
      · subst h; omega
      · have := hl z h; omega
    · exact h
  intro n
  induction n with
  | zero =>
    intro b hn hb
    have := hg s (.inl rfl) (by rw [H.root]; exact hn) b hb
    rw [H.root] at this
    exact this
  | succ n ih =>
    rintro b hn ⟨c, hc, hb⟩
    obtain ⟨c1, c2, c3⟩ := ih c (by omega) hc
    obtain ⟨b1, b2, b3⟩ := hg c (.inr c2) (by omega) b hb
    exact ⟨b1, b2, by omega⟩

/-- no way round is shorter than the one that is found -/
theorem bfs_short {o : Nat → List Nat} {s : Nat} : ∀ (k : Nat) (f : Nat → Option Nat) (Q : List Nat) (D : Nat → Nat), BfD o s f Q D → ∀ f' x, bfsB o s k f Q = some (f', x) →
    ∃ D' : Nat → Nat, D' s = 0 ∧ (∀ y z, f' y = some z → D' y = D' z + 1) ∧ ∀ n, Reach o s n s → D' x ≤ n
  | 0, f, Q, _, _, _, _, h => by cases h
  | k + 1, f, [], _, _, _, _, h => by cases h
  | k + 1, f, z :: Q, D, H, f', x, h => by
    obtain ⟨D', a1, a2, a3, a4⟩ := inn_short (o z) f Q D H.inn
    have hfar := H.far
    unfold bfsB at h
    by_cases hf : (innB s z (o z) f Q).1 = true
    · rw [if_pos hf] at h
      cases h
      refine ⟨D', a1.root, fun y c hy => (a1.par y c hy).1, fun n hr => ?_⟩
      rw [a4 _ (H.vis _ (by simp))]
      by_cases hn : D z ≤ n
      · exact hn
      · exact absurd rfl (hfar n s (by omega) hr).1
    · rw [if_neg hf] at h
      have hf' : (innB s z (o z) f Q).1 = false := by simpa using hf
      refine bfs_short k _ _ D' ⟨a1.root, a1.rootf, a1.par, a1.line, fun y hy q hq => ?_, fun y hy => ?_, a1.vis⟩ f' x h
      · have := a1.near y hy
        have := a1.low q hq
        omega
      · rcases a1.gone y hy with h1 | h1 | h1
        · subst h1
          exact .inr fun b hb => ⟨(a3 hf' b hb).1, (a3 hf' b hb).2, a1.near b (.inr (a3 hf' b hb).2)⟩
        · exact .inl h1
        · exact .inr h1

/-- a way is as long as its first node is far -/
theorem way_far {f : Nat → Option Nat} {s : Nat} {D : Nat → Nat} (h0 : D s = 0) (hD : ∀ y z, f y = some z → D y = D z + 1) : ∀ (P : List Nat) (x : Nat), WayP f s (x :: P) → D x = P.length
  | [], x, h => by
    have h : x = s := h
    subst h
    simpa using h0
  | y :: r, x, h => by
    rw [hD x y h.2.1, way_far h0 hD r y h.2.2, List.length_cons]

/-- who is so many links away -/
def LvB (o : Nat → List Nat) (s : Nat) : Nat → Nat → Prop
  | 0, z => z = s
  | k + 1, z => Reach o s k z

theorem LvB.next {o : Nat → List Nat} {s k x y : Nat} (h : LvB o s k x) (hy : y ∈ o x) : LvB o s (k + 1) y := by
  cases k with
  | zero =>
    show y ∈ o s
    rw [← (show x = s from h)]; exact hy
  | succ k => exact ⟨x, h, hy⟩

theorem lv_back {o : Nat → List Nat} {y k z : Nat} (h : LvB o y (k + 1) z) : ∃ d, LvB o y k d ∧ z ∈ o d := by
  cases k with
  | zero => exact ⟨y, rfl, h⟩
  | succ k => exact h

/-- a way by its first link -/
theorem lv_front {o : Nat → List Nat} {y : Nat} : ∀ {k z : Nat}, LvB o y (k + 1) z → ∃ c, c ∈ o y ∧ LvB o c k z
  | 0, z, h => ⟨z, h, rfl⟩
  | k + 1, z, h => by
    obtain ⟨d, h1, h2⟩ := h
    obtain ⟨c, h3, h4⟩ := lv_front (k := k) (z := d) h1
    exact ⟨c, h3, h4.next h2⟩

theorem lv_cons {o : Nat → List Nat} {y c : Nat} (hc : c ∈ o y) : ∀ {k z : Nat}, LvB o c k z → LvB o y (k + 1) z
  | 0, z, h => by
    rw [show z = c from h]; exact hc
  | k + 1, z, h => by
    obtain ⟨d, h1, h2⟩ := lv_back h
    exact (lv_cons hc h1).next h2

end Go.Proofs.Ytgkgdbdapkgkgaa

/- A row of numbers that begins anywhere: what is read of it. -/
namespace Go.Proofs.Ytgkgdbdapkgkgaa
set_option maxRecDepth 100000
open Go.RowKit Go.Maps
set_option linter.unusedVariables false
set_option linter.unusedSimpArgs false

theorem QAt.at {G : Nat → Prop} {w : World} {v : Value} {Q : List Nat} (H : QAt G w v Q) (j : Nat) (hj : j < Q.length) : ∃ b off c, v = .slice (some ⟨b, off, none⟩) Q.length c ∧ w.cell? ⟨b, off + j, none⟩ = some (.int .u64 (Q[j] : Int)) := by
  obtain ⟨ao, c, e, h1, h2, h3⟩ := H
  rcases h3 with h3 | ⟨b, off, cur, rfl, k2, k3, k4, k5⟩
  · omega
  · exact ⟨b, off, c, e, by rw [cell_of_row w b (off + j) cur _ _ k3]; exact k5 j hj⟩

theorem QAt.len {G : Nat → Prop} {w : World} {ao : Option Addr} {n c : Nat} {Q : List Nat} (H : QAt G w (.slice ao n c) Q) : n = Q.length := by
  obtain ⟨_, _, e, _⟩ := H
  cases e
  rfl

theorem QAt.nil (G : Nat → Prop) (w : World) : QAt G w (.slice none 0 0) [] := ⟨none, 0, rfl, Nat.le_refl _, fun _ => rfl, .inl rfl⟩

theorem oneU_new (u : World) (y : Nat) : (u.alloc (.cells #[.int .u64 (y : Int)] 30)).cell? ⟨u.heap.size, 0, none⟩ = some (.int .u64 (y : Int)) := by
  rw [cell_of_row _ _ _ _ _ _ (heap_alloc_new u _)]; rfl

end Go.Proofs.Ytgkgdbdapkgkgaa

/- slices.Reverse of numbers; graph.way. -/
namespace Go.Proofs.Ytgkgdbdapkgkgaa
set_option maxRecDepth 100000
open Go.RowKit Go.Maps
set_option linter.unusedVariables false
set_option linter.unusedSimpArgs false

/-- turned about, so far -/
def revF (f : Nat → Nat) (n i : Nat) : Nat → Nat := fun k => if k < n ∧ (k < i ∨ n < k + 1 + i) then f (n - 1 - k) else f k

theorem rev_step (f : Nat → Nat) {n i j : Nat} (h : i + j + 1 = n) (hij : i < j) : swpF (revF f n i) i j = revF f n (i + 1) := by
  funext k
  by_cases e1 : k = j
  · subst e1
    rw [swpF_r]
    unfold revF
    rw [if_neg (by omega), if_pos (by omega)]
    congr 1
    omega
  · by_cases e2 : k = i
    · subst e2
      rw [swpF_l _ (by omega)]
      unfold revF
      rw [if_neg (by omega), if_pos (by omega)]
      congr 1
      omega
    · rw [swpF_o _ e2 e1]
      unfold revF
      by_cases c : k < n ∧ (k < i ∨ n < k + 1 + i)
      · rw [if_pos c, if_pos (by omega)]
      · rw [if_neg c, if_neg (by omega)]

theorem RU.congr {w : World} {g n : Nat} {f f' : Nat → Nat} (h : RU w g n f) (e : ∀ k, k < n → f' k = f k) : RU w g n f' := by
  obtain ⟨cs, h1, h2⟩ := h
  exact ⟨cs, h1, fun j hj => by rw [e j hj]; exact h2 j hj⟩

set_option maxHeartbeats 1000000 in
theorem revsU_any (w : World) (g n cap : Nat) (f : Nat → Nat) (h : RU w g n f) (h1 : 1 ≤ n) (hn : n < 1152921504606846976) :
    Calls Try.prog 31 #[.slice (some ⟨g, 0, none⟩) n cap] w fun e w' => e = .returned (.tuple #[]) ∧ RU w' g n (fun k => f (n - 1 - k)) ∧ KU g w w' := by
  obtain ⟨J, hJ⟩ : ∃ J, J + 1 = n := ⟨n - 1, by omega⟩
  have eJ : (n : Int) - 1 = (J : Int) := by omega
  have yJ : J < 1152921504606846976 := by omega
  have H : Hid (RU w g n f ∧ J + 1 = n ∧ n < 1152921504606846976) := ⟨h, hJ, hn⟩
  clear h hJ
  go_enter Try.func31, Try.ntmps31
  go_wp2_with fail
  go_loopg [2, 3] n (fun gk iv jv wr => ∃ i j : Nat, gk + i = n ∧ Hid (i + j + 1 = n) ∧ iv = .int .i64 (i : Int) ∧ jv = .int .i64 (j : Int) ∧ Hid (RU wr g n (revF f n i) ∧ KU g w wr))
  case atStart => exact ⟨0, J, by omega, by have := H.out.2.1; show _ = _; omega, rfl, rfl, H.out.1.congr (fun k hk => by unfold revF; rw [if_neg (by omega)]), KU.refl _ _⟩
  case round =>
    obtain ⟨i, j, hgk, hijn, rfl, rfl, HR⟩ := hrel
    have HG : Hid (gk + i = n) := hgk
    clear hgk
    by_cases hij : i < j
    · have hijI : (i : Int) < (j : Int) := by omega
      have hin : (i : Int) < (n : Int) := by have := hijn.out; omega
      have hjn : (j : Int) < (n : Int) := by have := hijn.out; omega
      obtain ⟨hh, hhe⟩ : ∃ hh, revF f n i = hh := ⟨_, rfl⟩
      have HS : Hid (swpF hh i j = revF f n (i + 1)) := by rw [← hhe]; exact rev_step f hijn.out hij
      rw [hhe] at HR
      have k0 := HR.out.1.cell (j := i) (by have := hijn.out; omega)
      have k1 := HR.out.1.cell (j := j) (by have := hijn.out; omega)
      have z0 := HR.out.1.froz i
      have z1 := HR.out.1.froz j
      have n1 : ¬ i = j := by omega
      have n2 : ¬ j = i := by omega
      obtain ⟨i1, hi1⟩ : ∃ i1, i + 1 = i1 := ⟨_, rfl⟩
      have ei1 : (i : Int) + 1 = (i1 : Int) := by omega
      have y1 : i1 < 1152921504606846976 := by have := hijn.out; have := H.out; omega
      obtain ⟨j1, hj1⟩ : ∃ j1, j - 1 = j1 := ⟨_, rfl⟩
      have ej1 : (j : Int) - 1 = (j1 : Int) := by omega
      have y2 : j1 < 1152921504606846976 := by have := hijn.out; have := H.out; omega
      have HM : Hid (gk - 1 < gk ∧ gk - 1 + i1 = n ∧ i1 + j1 + 1 = n ∧ i + 1 = i1) := by have := hijn.out; have := HG.out; exact ⟨by omega, by omega, by omega, hi1⟩
      have HB : Hid (i < n ∧ j < n) := by have := hijn.out; exact ⟨by omega, by omega⟩
      clear hij hi1 hj1 hhe
      go_upto_region 3 with fail
      go_region
      have HN : Hid (RU ((((wr.setCell ⟨g, i, none⟩ (.int .u64 (hh j : Int))).setCell ⟨g, j, none⟩ (.int .u64 (hh i : Int))).drew)) g n (revF f n i1) ∧ KU g w ((((wr.setCell ⟨g, i, none⟩ (.int .u64 (hh j : Int))).setCell ⟨g, j, none⟩ (.int .u64 (hh i : Int))).drew))) := by
        rw [← HM.out.2.2.2, ← HS.out]
        exact ⟨((HR.out.1.set HB.out.1 _).set HB.out.2 _).drewN 1, ((HR.out.2.set _ _).set _ _).drewN 1⟩
      go_wp2_with fail
      go_roundg (gk - 1)
      case measure => exact HM.out.1
      case rel => exact ⟨i1, j1, HM.out.2.1, HM.out.2.2.1, rfl, rfl, HN.out⟩
    · have hijI : ¬ (i : Int) < (j : Int) := by omega
      have HE : Hid (RU wr g n (fun k => f (n - 1 - k)) ∧ KU g w wr) := by
        refine ⟨HR.out.1.congr (fun k hk => ?_), HR.out.2⟩
        have := hijn.out
        unfold revF
        by_cases c : k < n ∧ (k < i ∨ n < k + 1 + i)
        · rw [if_pos c]
        · rw [if_neg c]
          congr 1
          omega
      clear hij HR
      go_wp2
      go_end0
      exact ⟨rfl, HE.out.1, HE.out.2⟩

/-- one number more, behind a row of one's own -/
theorem OwnU.run {B : Nat} {w : World} {v : Value} {ns : List Nat} (h : OwnU B w v ns) (x a : Nat) (ty : TypeId) (ha : w.cell? ⟨a, 0, none⟩ = some (.int .u64 (x : Int))) (hn : ns.length ≤ 1000000) (hB : B ≤ w.heap.size) :
    ∃ g c w', (Builtin.append_ #[28, 28] ty #[v, .slice (some ⟨a, 0, none⟩) 1 1]).run Try.prog w = .ok (.slice (some ⟨g, 0, none⟩) (ns.length + 1) c) w' ∧ OwnU B w' (.slice (some ⟨g, 0, none⟩) (ns.length + 1) c) (ns ++ [x]) ∧ Keeps (fun q => v.ownBlock = some q) w w' := by
  obtain ⟨i0, hi, hz0, hz1, hz2⟩ := info_parts infoU64
  obtain ⟨v', w', hr, r1, r2, r3⟩ := run_append_own (P := Try.prog) w B 28 ty 30 i0 (.int .u64 0) 1 8 Try.underlying28 hi hz0 hz1 hz2 rfl (by decide) v ns.length (ns.map encN) h ⟨a, 0, none⟩ 1 1 [.int .u64 (x : Int)] rfl (fun j u hu => by
    match j, hu with
    | 0, hu => simp at hu; subst hu; simpa [Addr.add] using ha
    | j + 1, hu => simp at hu) (by intro u hu; simp at hu; subst hu; rfl) (by simp only [maxLen]; omega) (by omega) hB
  obtain ⟨g, c, rfl⟩ := ownsRow_succ r1
  refine ⟨g, c, w', hr, ?_, keeps_grown r2 (fun q e => e)⟩
  unfold OwnU
  rw [List.length_append, List.map_append]
  exact r1

theorem OwnU.one (w : World) (x : Nat) : OwnU w.heap.size (w.alloc (.cells #[.int .u64 (x : Int)] 30)) (.slice (some ⟨w.heap.size, 0, none⟩) 1 1) [x] :=
  ⟨rfl, .inr ⟨w.heap.size, 1, _, rfl, Nat.le_refl _, World.alloc_heap_new w _, Nat.le_refl _, by decide, rfl, rfl⟩⟩

theorem OwnU.lts {B : Nat} {w : World} {v : Value} {ns : List Nat} (h : OwnU B w v ns) : ∀ q, v.ownBlock = some q → B ≤ q ∧ q < w.heap.size := fun q hq => World.ownsRow.lt h q hq

set_option maxHeartbeats 2000000 in
theorem way_any (w : World) (m n s ti : Nat) (f : Nat → Option Nat) (P : List Nat) (h : MapB w m n f) (hP : WayP f s (ti :: P)) (hl : P.length ≤ 100000) (hx : ∀ x ∈ ti :: P, x < 18446744073709551616) :
    Calls Try.prog 22 #[.map (some m), .int .u64 (s : Int), .int .u64 (ti : Int)] w fun e w' => ∃ v, e = .returned v ∧ OwnU w.heap.size w' v (ti :: P).reverse ∧ Below w.heap.size w w' := by
  have HM : Hid (MapB w m n f) := h
  have HP : Hid (WayP f s (ti :: P) ∧ P.length ≤ 100000 ∧ ∀ x ∈ ti :: P, x < 18446744073709551616) := ⟨hP, hl, hx⟩
  have HO : Hid (OwnU w.heap.size (w.alloc (.cells #[.int .u64 (ti : Int)] 30)) (.slice (some ⟨w.heap.size, 0, none⟩) 1 1) [ti] ∧ Below w.heap.size w (w.alloc (.cells #[.int .u64 (ti : Int)] 30))) := ⟨OwnU.one w ti, below_box4 w _⟩
  obtain ⟨N, hN⟩ : ∃ N, P.length = N := ⟨_, rfl⟩
  clear h hP hl hx
  go_enter Try.func22, Try.ntmps22
  go_wp2_with fail
  go_loopg [2, 7] N (fun gk tv nv wr => ∃ (x L c : Nat) (a : Option Addr), tv = .int .u64 (x : Int) ∧ nv = .slice a L c ∧ Hid (∃ pre r, gk = r.length ∧ pre ++ x :: r = ti :: P ∧ WayP f s (x :: r) ∧ pre.length + 1 = L ∧ OwnU w.heap.size wr (.slice a L c) (pre ++ [x])) ∧ Hid (Below w.heap.size w wr))
  case atStart => exact ⟨ti, 1, 1, _, rfl, rfl, ⟨[], P, hN.symm, rfl, HP.out.1, rfl, HO.out.1⟩, HO.out.2⟩
  case round =>
    obtain ⟨x, L, c, a, rfl, rfl, HR, HB⟩ := hrel
    obtain ⟨pre, r, hg, hpr, hw, hL, ho⟩ := HR.out
    have hLl : L ≤ 100001 := by
      have h9 := congrArg List.length hpr
      rw [List.length_append, List.length_cons, List.length_cons] at h9
      have := HP.out.2.1
      omega
    cases r with
    | nil =>
      have hxs : x = s := hw
      subst hxs
      have HE : Hid (pre ++ [x] = ti :: P ∧ (pre ++ [x]).length = L ∧ L ≤ 100001 ∧ 0 < L) := ⟨hpr, by simp; omega, hLl, by omega⟩
      rcases ho.2 with ⟨_, h9⟩ | ⟨g, c', cur, e, _⟩
      · simp at h9
      · have hlen : (pre ++ [x]).length = L := by simp; omega
        rw [hlen] at e
        cases e
        have hru := ho.ru hlen (by omega)
        have hrv := revsU_any wr g L c (fnL (pre ++ [x])) hru (by omega) (by omega)
        have HO2 : Hid (OwnU w.heap.size wr (.slice (some ⟨g, 0, none⟩) L c) (pre ++ [x])) := ho
        clear HR hg hpr hw hL ho hLl hru hlen
        go_wp2_with fail
        refine hrv.mono ?_
        rintro e w1 ⟨rfl, h1, h2⟩
        have HF : Hid (OwnU w.heap.size w1 (.slice (some ⟨g, 0, none⟩) L c) (ti :: P).reverse ∧ Below w.heap.size w w1) := by
          obtain ⟨q1, q2, q3, q4⟩ := HE.out
          refine ⟨?_, HB.out.trans (h2.toKeeps.below (fun i e => by rw [e]; exact (HO2.out.lts g rfl).1) HB.out.size)⟩
          have h9 := h2.own HO2.out q2 q4 h1
          have e9 : lsF L (fun k => fnL (pre ++ [x]) (L - 1 - k)) = (ti :: P).reverse := by
            rw [← q1]
            refine List.ext_getElem? fun j => ?_
            by_cases hj : j < L
            · rw [lsF_at hj, List.getElem?_reverse (by omega), q2]
              unfold fnL
              rw [List.getElem?_eq_getElem (by omega)]
              rfl
            · rw [List.getElem?_eq_none (by rw [lsF_len]; omega), List.getElem?_eq_none (by rw [List.length_reverse]; omega)]
          rw [e9] at h9
          exact h9
        clear hrv h1 h2
        go_wp2
        go_ret
        exact ⟨_, rfl, HF.out.1, HF.out.2⟩
    | cons y r =>
      have hxs : ¬ (x : Int) = (s : Int) := by have := hw.1; omega
      have hfx := hw.2.1
      have hmem : x ∈ ti :: P ∧ y ∈ ti :: P := by rw [← hpr]; simp
      have hmw : MapB wr m n f := HM.out.same (HB.out.block m HM.out.lt)
      have hlk := hmw.look x (HP.out.2.2 x hmem.1)
      rw [hfx] at hlk
      simp only [Option.getD_some] at hlk
      have hba := below_box4 wr (.cells #[.int .u64 (y : Int)] 30)
      have ho1 : OwnU w.heap.size (wr.alloc (.cells #[.int .u64 (y : Int)] 30)) (.slice a L c) (pre ++ [x]) := row_below ho hba
      obtain ⟨g, c', w2, hrun, ho2, hk2⟩ := ho1.run y wr.heap.size 28 (by simp) (by simp; omega) (Nat.le_trans HB.out.size hba.size)
      have hlen : (pre ++ [x]).length = L := by simp; omega
      rw [hlen] at hrun ho2
      have HF : Hid (gk - 1 < gk ∧ (∃ pre r, gk - 1 = r.length ∧ pre ++ y :: r = ti :: P ∧ WayP f s (y :: r) ∧ pre.length + 1 = L + 1 ∧ OwnU w.heap.size w2 (.slice (some ⟨g, 0, none⟩) (L + 1) c') (pre ++ [y])) ∧ Below w.heap.size w w2) := by
        refine ⟨by rw [hg]; simp, ⟨pre ++ [x], r, by rw [hg]; simp, by rw [← hpr]; simp, hw.2.2, by rw [hlen], ho2⟩, ?_⟩
        have hb1 := bsplit HB.out hba
        exact hb1.trans (hk2.below (fun q hq => (ho1.lts q hq).1) (Nat.le_trans HB.out.size hba.size))
      clear HR hg hpr hw hL ho hLl hfx hmem hmw hba ho1 ho2 hk2 hlen
      go_wp2_with (first | (at_builtin; refine wpList_appU rfl _ _ _ rfl _ _ _ rfl rfl hrun ?_) | fail)
      go_roundg (gk - 1)
      case measure => exact HF.out.1
      case rel => exact ⟨y, L + 1, c', _, rfl, rfl, HF.out.2.1, HF.out.2.2⟩

end Go.Proofs.Ytgkgdbdapkgkgaa

/- graph.Out. -/
namespace Go.Proofs.Ytgkgdbdapkgkgaa
set_option maxRecDepth 100000
open Go.RowKit Go.Maps
set_option linter.unusedVariables false
set_option linter.unusedSimpArgs false

/-- all links are numbers -/
def NumE (e : Nat → List Nat) : Prop := ∀ k, ∀ x ∈ e k, x < 18446744073709551616

theorem out_any (B : Nat) (w : World) (g n k : Nat) (e : Nat → List Nat) (h : GrQ B w g n e) (hk : k < 18446744073709551616) (hn : n ≤ 100000) :
    Calls Try.prog 15 #[.pointer (some ⟨g, 0, none⟩), .int .u64 (k : Int)] w fun e' w' => ∃ v ys, e' = .returned v ∧ Rise (e k) ys ∧ OwnU w.heap.size w' v ys ∧ Below w.heap.size w w' := by
  have he := eqG g
  obtain ⟨m, hh, h1, h2, h3, h4, h5, h6, h7, h8⟩ := h
  have hlk := h5.look k hk
  have hr : Calls Try.prog 25 #[.map (hh k)] w fun e' w' => ∃ v' ys, e' = .returned v' ∧ Rise (e k) ys ∧ OwnU w.heap.size w' v' ys ∧ Below w.heap.size w w' := by
    refine risingO_any w (hh k) (e k) ?_ ?_
    · cases hb : hh k with
      | none => exact h6 k hb
      | some b => exact ⟨n, hn, (h7 k b hb).2.2.1⟩
    · cases hb : hh k with
      | none => rw [h6 k hb]; simp
      | some b => exact Nat.le_trans (h7 k b hb).2.1 hn
  obtain ⟨o, ho⟩ : ∃ o, hh k = o := ⟨_, rfl⟩
  rw [ho] at hlk hr
  clear h1 h2 h3 h5 h6 h7 h8 ho
  go_enter Try.func15, Try.ntmps15
  go_wp2_with fail
  refine hr.mono ?_
  rintro e' w1 ⟨v, ys, rfl, k1, k2, k3⟩
  have HF : Hid (Rise (e k) ys ∧ OwnU w.heap.size w1 v ys ∧ Below w.heap.size w w1) := ⟨k1, k2, k3⟩
  clear hr k1 k2 k3
  go_wp2
  go_ret
  exact ⟨v, ys, rfl, HF.out.1, HF.out.2.1, HF.out.2.2⟩

end Go.Proofs.Ytgkgdbdapkgkgaa

/- graph.Cycle. -/
namespace Go.Proofs.Ytgkgdbdapkgkgaa
set_option maxRecDepth 100000
open Go.RowKit Go.Maps
set_option linter.unusedVariables false
set_option linter.unusedSimpArgs false

theorem sorted_uniq : ∀ (ys zs : List Nat), ys.Nodup → zs.Nodup → ys.Pairwise (· ≤ ·) → zs.Pairwise (· ≤ ·) → (∀ x, x ∈ ys ↔ x ∈ zs) → ys = zs
  | [], [], _, _, _, _, _ => rfl
  | [], b :: t, _, _, _, _, h => absurd ((h b).2 (by simp)) (by simp)
  | a :: r, [], _, _, _, _, h => absurd ((h a).1 (by simp)) (by simp)
  | a :: r, b :: t, h1, h2, h3, h4, h => by
    have k1 := List.nodup_cons.1 h1
    have k2 := List.nodup_cons.1 h2
    have k3 := List.pairwise_cons.1 h3
    have k4 := List.pairwise_cons.1 h4
    have hab : a = b := by
      have m1 : b ≤ a := by
        rcases List.mem_cons.1 ((h a).1 (by simp)) with e | e
        · omega
        · exact k4.1 a e
      have m2 : a ≤ b := by
        rcases List.mem_cons.1 ((h b).2 (by simp)) with e | e
        · omega
        · exact k3.1 b e
      omega
    subst hab
    rw [sorted_uniq r t k1.2 k2.2 k3.2 k4.2 (fun x => ?_)]
    constructor
    · intro hx
      rcases List.mem_cons.1 ((h x).1 (by simp [hx])) with e | e
      · subst e; exact absurd hx k1.1
      · exact e
    · intro hx
      rcases List.mem_cons.1 ((h x).2 (by simp [hx])) with e | e
      · subst e; exact absurd hx k2.1
      · exact e

theorem rise_uniq {xs ys zs : List Nat} (h : Rise xs ys) (k : Rise xs zs) : ys = zs :=
  sorted_uniq ys zs h.1.1 k.1.1 h.2 k.2 (fun x => by rw [h.1.2, k.1.2])

/-- what Cycle answers -/
def CycPost (w : World) (o : Nat → List Nat) (s : Nat) (U : List Nat) (e' : Ending) (w' : World) : Prop :=
  Below w.heap.size w w' ∧ ((e' = .returned (.tuple #[.slice none 0 0, .bool false]) ∧ bfsB o s (U.length + 2) (fun _ => none) [s] = none) ∨
    ∃ v f x P, e' = .returned (.tuple #[v, .bool true]) ∧ bfsB o s (U.length + 2) (fun _ => none) [s] = some (f, x) ∧ WayP f s (x :: P) ∧ OwnU w.heap.size w' v (x :: P).reverse)

theorem qat_one (w : World) (s : Nat) (G : Nat → Prop) (hG : G w.heap.size) : QAt G (w.alloc (.cells #[.int .u64 (s : Int)] 30)) (.slice (some ⟨w.heap.size, 0, none⟩) 1 1) [s] :=
  ⟨_, 1, rfl, Nat.le_refl _, (fun h => by cases h), .inr ⟨w.heap.size, 0, _, rfl, hG, World.alloc_heap_new w _, Nat.le_refl _, fun j hj => by
    have : j = 0 := by simpa using hj
    subst this
    rfl⟩⟩

theorem unv_le (f : Nat → Option Nat) (U : List Nat) : unvN f U ≤ U.length := by have := vis_unv f U; omega

/-- between two nodes of the line -/
structure CyI (w : World) (o : Nat → List Nat) (s m : Nat) (U : List Nat) (R : Option ((Nat → Option Nat) × Nat)) (k : Nat) (qv : Value) (wr : World) : Prop where
  ex : ∃ (f : Nat → Option Nat) (Q : List Nat) (mn : Nat), bfsB o s k f Q = R ∧ BfI o s U f Q ∧ unvN f U + Q.length < k ∧ MapB wr m mn f ∧ mn + unvN f U ≤ U.length ∧ QAt (fun b => w.heap.size ≤ b) wr qv Q
  hb : Below w.heap.size w wr
  hk : k ≤ U.length + 2

/-- between two links of a node -/
structure CyJ (w : World) (o : Nat → List Nat) (s m x : Nat) (U : List Nat) (I : Bool × (Nat → Option Nat) × List Nat) (k j : Nat) (yv qv : Value) (wr : World) : Prop where
  ex : ∃ (f : Nat → Option Nat) (Q : List Nat) (mn : Nat), innB s x ((o x).drop j) f Q = I ∧ BfI o s U f Q ∧ (∃ P, WayP f s (x :: P) ∧ P.length ≤ visN f U) ∧ unvN f U + Q.length < k ∧ MapB wr m mn f ∧ mn + unvN f U ≤ U.length ∧ QAt (fun b => w.heap.size ≤ b ∧ yv.ownBlock ≠ some b) wr qv Q
  rd : RdU wr yv (o x)
  hb : Below w.heap.size w wr

theorem way_nums {o : Nat → List Nat} {s : Nat} {U : List Nat} {f : Nat → Option Nat} (hl : ∀ x y, f x = some y → x ∈ o y ∧ x ∈ U) (hUn : ∀ x ∈ U, x < 18446744073709551616) (hs : s < 18446744073709551616) : ∀ P, WayP f s P → ∀ x ∈ P, x < 18446744073709551616
  | [], h, x, hx => by simp at hx
  | [a], h, x, hx => by
    rw [List.mem_singleton] at hx
    subst hx
    rw [show x = s from h]
    exact hs
  | a :: b :: r, h, x, hx => by
    rcases List.mem_cons.1 hx with e | hx
    · subst e
      exact hUn _ (hl _ _ h.2.1).2
    · exact way_nums hl hUn hs (b :: r) h.2.2 x hx

theorem rdU_neB {w : World} {v : Value} {ns : List Nat} {m n : Nat} {f : Nat → Option Nat} (hv : RdU w v ns) (hm : MapB w m n f) : ∀ q, v.ownBlock = some q → q ≠ m := by
  intro q hq e
  subst e
  rcases hv.2 with ⟨rfl, _⟩ | ⟨g, c, cur, rfl, _, hc, _⟩
  · cases hq
  · cases hq
    exact hm.not_cells _ _ _ hc

theorem vis_le (f : Nat → Option Nat) (U : List Nat) : visN f U ≤ U.length := by have := vis_unv f U; omega

set_option maxHeartbeats 4000000 in
theorem cycle_any (B : Nat) (w : World) (g n s : Nat) (e o : Nat → List Nat) (U : List Nat) (h : GrQ B w g n e) (ho : ∀ k, Rise (e k) (o k)) (hU : ∀ x, ∀ y ∈ o x, y ∈ U) (hUn : ∀ x ∈ U, x < 18446744073709551616) (hs : s < 18446744073709551616) (hUl : U.length ≤ 10000) (hn9 : n ≤ 100000) :
    Calls Try.prog 11 #[.pointer (some ⟨g, 0, none⟩), .int .u64 (s : Int)] w (CycPost w o s U) := by
  have hmk : (Instr.makeMap 51 none).run Try.prog w = .ok (.map (some w.heap.size)) (w.alloc (.map #[] 0)) := run_makeMap _ w
  obtain ⟨W, hW⟩ : ∃ W, w.alloc (.map #[] 0) = W := ⟨_, rfl⟩
  have hsz : W.heap.size = w.heap.size + 1 := by rw [← hW]; simp
  have hm0 : MapB W w.heap.size 0 (fun _ => none) := by rw [← hW]; exact MapB.made w
  have hbW : Below w.heap.size w W := by rw [← hW]; exact below_box4 w _
  obtain ⟨R, hR⟩ : ∃ R, bfsB o s (U.length + 2) (fun _ => none) [s] = R := ⟨_, rfl⟩
  have HP : Hid (∀ e' w', CycPost w o s U e' w' = (Below w.heap.size w w' ∧ ((e' = .returned (.tuple #[.slice none 0 0, .bool false]) ∧ R = none) ∨ ∃ v f x P, e' = .returned (.tuple #[v, .bool true]) ∧ R = some (f, x) ∧ WayP f s (x :: P) ∧ OwnU w.heap.size w' v (x :: P).reverse))) := fun e' w' => by unfold CycPost; rw [hR]
  have HI : Hid (CyI w o s w.heap.size U R (U.length + 2) (.slice (some ⟨W.heap.size, 0, none⟩) 1 1) (W.alloc (.cells #[.int .u64 (s : Int)] 30))) :=
    ⟨⟨_, [s], 0, hR, BfI.first o s U, by have := unv_le (fun _ => none) U; simp; omega, hm0.same (Below.heap_alloc _ _ _ (by omega)), by have := unv_le (fun _ => none) U; omega, qat_one W s _ (by omega)⟩, bsplit hbW (below_box4 W _), Nat.le_refl _⟩
  have HG : Hid (GrQ B w g n e ∧ (∀ k, Rise (e k) (o k)) ∧ (∀ x, ∀ y ∈ o x, y ∈ U) ∧ (∀ x ∈ U, x < 18446744073709551616) ∧ U.length ≤ 10000 ∧ s < 18446744073709551616) := ⟨h, ho, hU, hUn, hUl, hs⟩
  obtain ⟨m, hm⟩ : ∃ m, w.heap.size = m := ⟨_, rfl⟩
  have HM : Hid (w.heap.size = m) := hm
  rw [hW] at hmk
  have HI2 : Hid (CyI w o s m U R (U.length + 2) (.slice (some ⟨W.heap.size, 0, none⟩) 1 1) (W.alloc (.cells #[.int .u64 (s : Int)] 30))) := by rw [← hm]; exact HI.out
  obtain ⟨M, hMM⟩ : ∃ M, W.heap.size = M := ⟨_, rfl⟩
  rw [hm] at hmk
  rw [hMM] at HI2
  clear hW hsz hm0 hbW hR h ho hU hUn hUl hs HI
  go_enter Try.func11, Try.ntmps11
  go_wp2_with fail
  clear hMM hmk hm
  go_loopg [7] (U.length + 2) (fun gk qv wr => ∃ (N c : Nat) (a : Option Addr), qv = .slice a N c ∧ Hid (CyI w o s m U R gk (.slice a N c) wr))
  case atStart => exact ⟨1, 1, _, rfl, HI2.out⟩
  case round =>
    clear HI2
    obtain ⟨N, c, a, rfl, HC⟩ := hrel
    obtain ⟨⟨f, Q, mn, h1, h2, h3, h4, h5, h6⟩, hb, hkU⟩ := HC.out
    have hNQ : N = Q.length := by obtain ⟨ao, c', e', _⟩ := h6; cases e'; rfl
    obtain ⟨k, hk⟩ : ∃ k, gk = k + 1 := ⟨gk - 1, by omega⟩
    cases Q with
    | nil =>
      have hN0 : N = 0 := hNQ
      have HE : Hid (R = none ∧ Below w.heap.size w wr) := ⟨by rw [← h1, hk]; rfl, hb⟩
      clear h1 h2 h3 h4 h5 h6 hb HC hNQ hk hkU
      subst hN0
      go_wp2
      try simp only [Exit.inBlock, Exit.then]
      refine bodyPost_ret (results_tmp2 rfl _ _ _) rfl ?_
      rw [HP.out]
      exact ⟨HE.out.2, .inl ⟨rfl, HE.out.1⟩⟩
    | cons x Q =>
      obtain ⟨b, off, c1, ev, hcell, hQc, hp0, hp1⟩ := h6.pop
      cases ev
      have hxn : x < 18446744073709551616 := by
        obtain ⟨P, hP, _⟩ := h2.ways x (.inl (by simp))
        cases P with
        | nil => rw [show x = s from hP]; exact HG.out.2.2.2.2.2
        | cons y r => exact HG.out.2.2.2.1 x (h2.link x y hP.2.1).2
      have hL : Q.length ≤ 10001 := by have := HG.out.2.2.2.2.1; rw [List.length_cons] at h3; omega
      have hou := fun W (hW : Below w.heap.size w W) => out_any B W g n x e (HG.out.1.below hW) hxn hn9
      have hH' : BfI o s U f Q := ⟨fun z hz => h2.ways z (hz.elim (fun h => .inl (by simp [h])) .inr), h2.root, h2.link⟩
      have hwx := h2.ways x (.inl (by simp))
      obtain ⟨I, hI⟩ : ∃ I, innB s x (o x) f Q = I := ⟨_, rfl⟩
      have hRI : R = if I.1 = true then some (I.2.1, x) else bfsB o s k I.2.1 I.2.2 := by rw [← h1, hk, ← hI]; rfl
      have HS : Hid (BfI o s U f Q ∧ (∃ P, WayP f s (x :: P) ∧ P.length ≤ visN f U) ∧ innB s x (o x) f Q = I ∧ R = (if I.1 = true then some (I.2.1, x) else bfsB o s k I.2.1 I.2.2) ∧ unvN f U + Q.length < k ∧ MapB wr m mn f ∧ mn + unvN f U ≤ U.length ∧ Below w.heap.size w wr ∧ k + 1 ≤ U.length + 2 ∧ x < 18446744073709551616 ∧ gk = k + 1 ∧ (c1 = 0 → QAt (fun b => w.heap.size ≤ b) wr (.slice (some ⟨b, off, none⟩) 0 0) Q) ∧ (c1 ≠ 0 → QAt (fun b => w.heap.size ≤ b) wr (.slice (some ⟨b, off + 1, none⟩) Q.length c1) Q)) :=
        ⟨hH', hwx, hI, hRI, by rw [List.length_cons, hk] at h3; omega, h4, h5, hb, by omega, hxn, hk, hp0, hp1⟩
      obtain ⟨L, hLe⟩ : ∃ L, Q.length = L := ⟨_, rfl⟩
      have HL : Hid (Q.length = L) := hLe
      rw [hLe] at hL hQc
      have hou1 := hou wr hb
      rw [hLe]
      have hL0 : (0 : Int) < ((L + 1 : Nat) : Int) := by omega
      have hL1 : (1 : Int) ≤ ((L + 1 : Nat) : Int) := by omega
      clear h1 h2 h3 h4 h5 h6 hb HC hNQ hk hkU hp0 hp1 hxn hou hH' hwx hI hRI hLe
      go_upto_region 5 with fail
      go_cut [7] from 16 to 54 (fun qv wx => ∃ (N c : Nat) (a : Option Addr), qv = .slice a N c ∧ wx = wr ∧ Hid (QAt (fun b => w.heap.size ≤ b) wr (.slice a N c) Q))
      case first =>
        by_cases hc0 : c1 = 0
        · have hl0 : L = 0 := by omega
          have HQ := HS.out.2.2.2.2.2.2.2.2.2.2.2.1 hc0
          have HQQ : Hid (QAt (fun b => w.heap.size ≤ b) wr (.slice (some ⟨b, off, none⟩) 0 0) Q) := HQ
          clear HQ
          subst hc0 hl0
          go_wp2_with fail
          go_meet
          exact ⟨0, 0, _, rfl, rfl, HQQ.out⟩
        · have HQ := HS.out.2.2.2.2.2.2.2.2.2.2.2.2 hc0
          have HQQ : Hid (QAt (fun b => w.heap.size ≤ b) wr (.slice (some ⟨b, off + 1, none⟩) L c1) Q) := by rw [← HL.out]; exact HQ
          clear HQ
          go_wp2_with fail
          go_meet
          exact ⟨L, c1, _, rfl, rfl, HQQ.out⟩
      case rest =>
        obtain ⟨N2, c2, a2, rfl, rfl, HQ2⟩ := hcut
        clear hcell
        go_wp2_with fail
        refine hou1.mono ?_
        rintro e1 w1 ⟨ov, ys, rfl, hr1, ho1, hb1⟩
        have hys : ys = o x := rise_uniq hr1 (HG.out.2.1 x)
        subst hys
        obtain ⟨oa, oc, eov, hoc1, hoc2⟩ := row_slice9 ho1
        obtain ⟨Y, hY⟩ : ∃ Y, (o x).length = Y := ⟨_, rfl⟩
        rw [hY] at eov
        subst eov
        have HY : Hid ((o x).length = Y) := hY
        have HJ : Hid (CyJ w o s m x U I k 0 (.slice oa Y oc) (.slice a2 N2 c2) w1) := by
          obtain ⟨q1, q2, q3, q4, q5, q6, q7, q8, _⟩ := HS.out
          refine ⟨⟨f, Q, mn, q3, q1, q2, q5, q6.same (hb1.block m q6.lt), q7, (HQ2.out.mono (G' := fun b => w.heap.size ≤ b ∧ (Value.slice oa Y oc).ownBlock ≠ some b) (fun b hb hlt => ⟨hb, fun e9 => ?_⟩)).below hb1⟩, ho1.rd, bsplit q8 hb1⟩
          have := (ho1.lts b e9).1
          omega
        have HS2 : Hid (R = (if I.1 = true then some (I.2.1, x) else bfsB o s k I.2.1 I.2.2) ∧ k + 1 ≤ U.length + 2 ∧ x < 18446744073709551616 ∧ gk = k + 1) := by
          obtain ⟨q1, q2, q3, q4, q5, q6, q7, q8, q9, q10, q11, _⟩ := HS.out
          exact ⟨q4, q9, q10, q11⟩
        clear hou1 hr1 ho1 hb1 HS HQ2 HL hL hQc hL0 hL1 hY hoc1 hoc2
        go_wp2_with fail
        go_loopg [7, 28] Y (fun gj qv jv wr => ∃ (j N c : Nat) (a : Option Addr), gj + j = Y ∧ jv = .int .i64 (j : Int) ∧ qv = .slice a N c ∧ Hid (CyJ w o s m x U I k j (.slice oa Y oc) (.slice a N c) wr))
        case atStart => exact ⟨0, N2, c2, a2, by omega, rfl, rfl, HJ.out⟩
        case round =>
          clear HJ
          obtain ⟨j, N, c, a, hgj, rfl, rfl, HK⟩ := hrel
          obtain ⟨⟨f, Q, mn, h1, h2, h3, h4, h5, h6, h7⟩, hrd, hb⟩ := HK.out
          have hNQ : N = Q.length := by obtain ⟨ao, c', e', _⟩ := h7; cases e'; rfl
          by_cases hlt : j < Y
          · have hltI : (j : Int) < (Y : Int) := by omega
            obtain ⟨j1, hj1⟩ : ∃ j1, j + 1 = j1 := ⟨_, rfl⟩
            have ej1 : (j : Int) + 1 = (j1 : Int) := by omega
            have hjl : j < (o x).length := by rw [HY.out]; exact hlt
            have hYl : Y ≤ 10000 := by
              have h9 := sub_len (o x) U (HG.out.2.1 x).1.1 (fun y hy => HG.out.2.2.1 x y hy)
              have := HG.out.2.2.2.2.1
              rw [HY.out] at h9
              omega
            have y1 : j1 < 1152921504606846976 := by omega
            obtain ⟨yb, yc, e9, _, hcy⟩ := hrd.at j hjl
            rw [HY.out] at e9
            cases e9
            have hyU : (o x)[j] ∈ U := HG.out.2.2.1 x _ (List.getElem_mem hjl)
            have hyo : (o x)[j] ∈ o x := List.getElem_mem hjl
            have hdr : (o x).drop j = (o x)[j] :: (o x).drop j1 := by rw [← hj1]; exact List.drop_eq_getElem_cons hjl
            obtain ⟨y, hy⟩ : ∃ y, (o x)[j] = y := ⟨_, rfl⟩
            rw [hy] at hcy hyU hyo hdr
            rw [hdr] at h1
            have hyn := HG.out.2.2.2.1 y hyU
            have HGJ : Hid (gk - 1 < gk ∧ gk - 1 + j1 = Y) := ⟨by omega, by omega⟩
            by_cases hys : y = s
            · have hysI : (y : Int) = (s : Int) := by omega
              obtain ⟨P, hP1, hP2⟩ := h3
              have hwy := way_any wr m mn s x f P h5 hP1 (by have := vis_le f U; have := HG.out.2.2.2.2.1; omega) (way_nums h2.link HG.out.2.2.2.1 HG.out.2.2.2.2.2 _ hP1)
              have HE : Hid (R = some (f, x) ∧ WayP f s (x :: P) ∧ Below w.heap.size w wr) := by
                refine ⟨?_, hP1, hb⟩
                unfold innB at h1
                rw [if_pos hys] at h1
                rw [HS2.out.1, ← h1, if_pos rfl]
              clear h1 h2 h4 h5 h6 h7 hrd hb hNQ hlt hjl hyU hyo hdr hy hyn hgj HK hP1 hP2 hys
              go_wp2_with fail
              refine hwy.mono ?_
              rintro e2 w2 ⟨v, rfl, hov, hb2⟩
              obtain ⟨va, vc, ev, _⟩ := row_slice9 hov
              have HF2 : Hid (R = some (f, x) ∧ WayP f s (x :: P) ∧ OwnU w.heap.size w2 (.slice va (x :: P).reverse.length vc) (x :: P).reverse ∧ Below w.heap.size w w2) := by
                obtain ⟨q1, q2, q3⟩ := HE.out
                exact ⟨q1, q2, row_mono9 (by rw [← ev]; exact hov) q3.size, bsplit q3 hb2⟩
              obtain ⟨vl, hvl⟩ : ∃ vl, (x :: P).reverse.length = vl := ⟨_, rfl⟩
              rw [hvl] at ev HF2
              subst ev
              clear hwy hov hb2 hvl
              go_wp2
              try simp only [Exit.inBlock, Exit.then]
              refine bodyPost_ret (results_tmp2 rfl _ _ _) rfl ?_
              rw [HP.out]
              obtain ⟨q1, q2, q3, q4⟩ := HF2.out
              exact ⟨q4, .inr ⟨_, f, x, P, rfl, q1, q2, q3⟩⟩
            · have hysI : ¬ (y : Int) = (s : Int) := by omega
              have hl2 := h5.look2 y hyn
              cases hf : f y with
              | some z =>
                rw [hf] at hl2
                simp only [Option.getD_some, Option.isSome_some] at hl2
                have HN : Hid (CyJ w o s m x U I k j1 (.slice (some ⟨yb, 0, none⟩) Y oc) (.slice a N c) wr) := by
                  refine ⟨⟨f, Q, mn, ?_, h2, h3, h4, h5, h6, h7⟩, hrd, hb⟩
                  rw [← h1]
                  show _ = innB s x (y :: (o x).drop j1) f Q
                  unfold innB
                  rw [if_neg hys, if_pos (by rw [hf]; rfl)]
                  cases (o x).drop j1 <;> rfl
                clear h1 h2 h3 h4 h5 h6 h7 hrd hb hNQ hlt hjl hyU hyo hdr hy hgj HK hys hf
                go_wp2_with fail
                go_roundg (gk - 1)
                case measure => exact HGJ.out.1
                case rel => exact ⟨j1, N, c, a, HGJ.out.2, rfl, rfl, HN.out⟩
              | none =>
                rw [hf] at hl2
                simp only [Option.getD_none, Option.isSome_none] at hl2
                obtain ⟨w2, hrun, hm2, hk2⟩ := h5.upd y x hyn HS2.out.2.2.1 (by have := HG.out.2.2.2.2.1; unfold maxLen; omega)
                have hmlt := h5.lt
                have hq2 : QAt (fun b => w.heap.size ≤ b ∧ (Value.slice (some ⟨yb, 0, none⟩) Y oc).ownBlock ≠ some b) w2 (.slice a N c) Q := h7.keeps hk2 (fun b cur _ hb9 e9 => by rw [e9] at hb9; exact h5.not_cells _ _ _ hb9)
                have hba := below_box4 w2 (.cells #[.int .u64 (y : Int)] 30)
                have hyb := (World.ownsRow.lt hrd yb rfl).2
                have hsz2 := hk2.size
                have hGq : ∀ q, (w2.alloc (.cells #[.int .u64 (y : Int)] 30)).heap.size ≤ q → w.heap.size ≤ q ∧ (Value.slice (some ⟨yb, 0, none⟩) Y oc).ownBlock ≠ some q := fun q hq => by
                  have e1 := hb.size
                  have e2 := hba.size
                  refine ⟨by omega, fun e9 => ?_⟩
                  have e3 : yb = q := by
                    have : some yb = some q := e9
                    simpa using this
                  omega
                obtain ⟨v4, w4, hrun4, hq4, hk4⟩ := (hq2.below hba).run y w2.heap.size 28 (by simp) (by have := HG.out.2.2.2.2.1; have := HS2.out.2.1; omega) hGq
                have hq4c := hq4
                obtain ⟨a4, c4, ev4, _⟩ := hq4c
                have hl4 : (Q ++ [y]).length = N + 1 := by rw [List.length_append, List.length_singleton, hNQ]
                rw [hl4] at ev4
                subst ev4
                have hq4' : QAt (fun b => w.heap.size ≤ b ∧ (Value.slice (some ⟨yb, 0, none⟩) Y oc).ownBlock ≠ some b) w4 (.slice a4 (N + 1) c4) (Q ++ [y]) := hq4
                have hu := unv_set (v := x) (U := U) hf hyU
                have HN : Hid (CyJ w o s m x U I k j1 (.slice (some ⟨yb, 0, none⟩) Y oc) (.slice a4 (N + 1) c4) w4) := by
                  have hkk : Keeps (fun q => q = m ∨ (w.heap.size ≤ q ∧ (Value.slice (some ⟨yb, 0, none⟩) Y oc).ownBlock ≠ some q)) wr w4 := by
                    have e1 : Keeps (fun q => q = m ∨ (w.heap.size ≤ q ∧ (Value.slice (some ⟨yb, 0, none⟩) Y oc).ownBlock ≠ some q)) wr w2 := hk2.mono (fun i e => .inl e)
                    have e2 := e1.then (Below.keeps hba (fun _ => False)) (fun i h => h.elim)
                    exact e2.then hk4 (fun i h => .inl (.inr h.1))
                  have hmk : MapB w4 m (mn + 1) (setB f y x) := by
                    refine (hm2.same (hba.block m hm2.lt)).same (hk4.block m (Nat.lt_of_lt_of_le hm2.lt hba.size) (fun h => ?_))
                    obtain ⟨_, cur, hc⟩ := h
                    exact (hm2.same (hba.block m hm2.lt)).not_cells _ _ _ hc
                  refine ⟨⟨setB f y x, Q ++ [y], mn + 1, ?_, h2.put h3 hf hys hyo hyU, way_keeps h3 hf, by rw [List.length_append, List.length_singleton]; omega, hmk, by omega, hq4'⟩, rdU_keeps hrd hkk (fun q hq h => ?_), hb.trans (hkk.below (fun i h => h.elim (fun e => by rw [e, ← HM.out]; exact Nat.le_refl _) (fun e => e.1)) hb.size)⟩
                  · rw [← h1]
                    show _ = innB s x (y :: (o x).drop j1) f Q
                    unfold innB
                    rw [if_neg hys, if_neg (by rw [hf]; simp)]
                    cases (o x).drop j1 <;> rfl
                  · rcases h with h | h
                    · exact rdU_neB hrd h5 q hq h
                    · exact h.2 hq
                clear h1 h2 h3 h4 h5 h6 h7 hrd hb hNQ hlt hjl hyU hyo hdr hy hgj HK hys hf hm2 hk2 hq2 hba hyb hsz2 hq4' hk4 hu hmlt
                go_wp2_with (first | (at_builtin; refine wpList_appU rfl _ _ _ rfl _ _ _ rfl rfl hrun4 ?_) | fail)
                go_roundg (gk - 1)
                case measure => exact HGJ.out.1
                case rel => exact ⟨j1, N + 1, c4, a4, HGJ.out.2, rfl, rfl, HN.out⟩
          · have hjY : j = Y := by omega
            have hnI : ¬ (j : Int) < (Y : Int) := by omega
            have HN : Hid (CyI w o s m U R k (.slice a N c) wr) := by
              have hd : (o x).drop j = [] := List.drop_eq_nil_of_le (by rw [HY.out]; omega)
              rw [hd] at h1
              have hI : I = (false, f, Q) := h1.symm
              refine ⟨⟨f, Q, mn, ?_, h2, h4, h5, h6, h7.mono (fun b hb _ => hb.1)⟩, hb, by have := HS2.out.2.1; omega⟩
              rw [HS2.out.1, hI]
              rfl
            clear h1 h2 h3 h4 h5 h6 h7 hrd hb hNQ hlt hjY hgj HK
            go_wp2_with fail
            go_roundg k
            case measure => have := HS2.out.2.2.2; omega
            case rel => exact ⟨N, c, a, rfl, HN.out⟩

end Go.Proofs.Ytgkgdbdapkgkgaa

/- slices.Max of numbers; graph.Victim. -/
namespace Go.Proofs.Ytgkgdbdapkgkgaa
set_option maxRecDepth 100000
open Go.RowKit Go.Maps
set_option linter.unusedVariables false
set_option linter.unusedSimpArgs false

/-- there is one way alone -/
theorem way_uniq (f : Nat → Option Nat) (s : Nat) : ∀ (x : Nat) (a b : List Nat), WayP f s (x :: a) → WayP f s (x :: b) → a = b := by
  intro x a
  induction a generalizing x with
  | nil =>
    intro b h k
    cases b with
    | nil => rfl
    | cons y r => exact absurd (show x = s from h) k.1
  | cons y r ih =>
    intro b h k
    cases b with
    | nil => exact absurd (show x = s from k) h.1
    | cons z t =>
      have e : y = z := by
        have := h.2.1.symm.trans k.2.1
        simpa using this
      subst e
      rw [ih y t h.2.2 k.2.2]

def TopL (M : Nat) (ns : List Nat) : Prop := M ∈ ns ∧ ∀ x ∈ ns, x ≤ M

theorem TopL.next {M y : Nat} {ns : List Nat} (h : TopL M ns) : TopL (max M y) (ns ++ [y]) := by
  refine ⟨?_, fun x hx => ?_⟩
  · rcases Nat.le_total M y with e | e
    · rw [Nat.max_eq_right e]; simp
    · rw [Nat.max_eq_left e]; simp [h.1]
  · rcases List.mem_append.1 hx with hx | hx
    · have := h.2 x hx; omega
    · rw [List.mem_singleton] at hx; subst hx; omega

set_option maxHeartbeats 1000000 in
theorem maxU_any (w : World) (v : Value) (ns : List Nat) (h : RdU w v ns) (h0 : ns ≠ []) (hn : ns.length ≤ 1000000) :
    Calls Try.prog 24 #[v] w fun e w' => ∃ M : Nat, e = .returned (.int .u64 (M : Int)) ∧ TopL M ns ∧ w' = w := by
  obtain ⟨N, hN⟩ : ∃ N, ns.length = N := ⟨_, rfl⟩
  have hpos : 0 < ns.length := List.length_pos_iff.2 h0
  obtain ⟨b, c, ev, hc, c0⟩ := h.at 0 hpos
  have H : Hid (RdU w v ns ∧ ns.length = N ∧ 0 < ns.length) := ⟨h, hN, hpos⟩
  rw [hN] at ev hc hn
  subst ev
  obtain ⟨x0, hx0⟩ : ∃ x, ns[0] = x := ⟨_, rfl⟩
  rw [hx0] at c0
  have hN1 : ¬ (N : Int) < 1 := by omega
  have hN0 : (0 : Int) < (N : Int) := by omega
  have HX : Hid (TopL x0 (ns.take 1)) := by
    have e : ns.take 1 = [x0] := by rw [show (1 : Nat) = 0 + 1 from rfl, List.take_succ_eq_append_getElem hpos, hx0]; rfl
    show TopL _ _
    rw [e]
    exact ⟨by simp, fun x hx => by rw [List.mem_singleton] at hx; omega⟩
  clear h hN hpos h0 hx0
  go_enter Try.func24, Try.ntmps24
  go_wp2_with fail
  go_loopg [3, 4] N (fun gk mv iv wr => ∃ j M : Nat, gk + j = N + 1 ∧ 1 ≤ j ∧ j ≤ N ∧ mv = .int .u64 (M : Int) ∧ iv = .int .i64 (j : Int) ∧ wr = w ∧ Hid (TopL M (ns.take j)))
  case atStart => exact ⟨1, x0, by omega, by omega, by omega, rfl, rfl, rfl, HX.out⟩
  case round =>
    obtain ⟨j, M, hg, h1, hjN, rfl, rfl, rfl, HM⟩ := hrel
    by_cases hlt : j < N
    · have hltI : (j : Int) < (N : Int) := by omega
      have hjl : j < ns.length := by rw [H.out.2.1]; exact hlt
      obtain ⟨b2, c2, e2, _, cj⟩ := H.out.1.at j hjl
      rw [H.out.2.1] at e2
      cases e2
      have htk : ns.take (j + 1) = ns.take j ++ [ns[j]] := List.take_succ_eq_append_getElem hjl
      obtain ⟨y, hy⟩ : ∃ y, ns[j] = y := ⟨_, rfl⟩
      rw [hy] at cj htk
      obtain ⟨j1, hj1⟩ : ∃ j1, j + 1 = j1 := ⟨_, rfl⟩
      have ej1 : (j : Int) + 1 = (j1 : Int) := by omega
      have y1 : j1 < 1152921504606846976 := by omega
      have HN : Hid (gk - 1 < gk ∧ gk - 1 + j1 = N + 1 ∧ 1 ≤ j1 ∧ j1 ≤ N ∧ TopL (max M y) (ns.take j1)) := ⟨by omega, by omega, by omega, by omega, by rw [← hj1, htk]; exact HM.out.next⟩
      have emx : (max (M : Int) (y : Int)) = ((max M y : Nat) : Int) := by omega
      clear hlt hjl htk hy hj1 hg h1 hjN HM
      go_wp2_with fail
      go_roundg (gk - 1)
      case measure => exact HN.out.1
      case rel => exact ⟨j1, max M y, HN.out.2.1, HN.out.2.2.1, HN.out.2.2.2.1, by go_num, rfl, rfl, HN.out.2.2.2.2⟩
    · have hjE : j = N := by omega
      subst hjE
      have hnI : ¬ (j : Int) < (j : Int) := by omega
      have HE : Hid (TopL M ns) := by
        have h := HM.out
        rw [List.take_of_length_le (by rw [H.out.2.1]; exact Nat.le_refl _)] at h
        exact h
      clear hlt hg h1 hjN HM
      go_wp2
      go_ret
      exact ⟨M, rfl, HE.out, rfl⟩

/-- what Victim answers -/
def VicPost (w : World) (o : Nat → List Nat) (s : Nat) (U : List Nat) (e' : Ending) (w' : World) : Prop :=
  Below w.heap.size w w' ∧ ((e' = .returned (.tuple #[.int .u64 0, .bool false]) ∧ bfsB o s (U.length + 2) (fun _ => none) [s] = none) ∨
    ∃ (M : Nat) (f : Nat → Option Nat) (x : Nat) (P : List Nat), e' = .returned (.tuple #[.int .u64 (M : Int), .bool true]) ∧ bfsB o s (U.length + 2) (fun _ => none) [s] = some (f, x) ∧ WayP f s (x :: P) ∧ TopL M (x :: P))

theorem TopL.rev {M : Nat} {ns : List Nat} (h : TopL M ns.reverse) : TopL M ns := ⟨by simpa using h.1, fun x hx => h.2 x (by simpa using hx)⟩

set_option maxHeartbeats 1000000 in
theorem grvictim_any (B : Nat) (w : World) (g n s : Nat) (e o : Nat → List Nat) (U : List Nat) (h : GrQ B w g n e) (ho : ∀ k, Rise (e k) (o k)) (hU : ∀ x, ∀ y ∈ o x, y ∈ U) (hUn : ∀ x ∈ U, x < 18446744073709551616) (hs : s < 18446744073709551616) (hUl : U.length ≤ 10000) (hn9 : n ≤ 100000) :
    Calls Try.prog 13 #[.pointer (some ⟨g, 0, none⟩), .int .u64 (s : Int)] w (VicPost w o s U) := by
  have hc := cycle_any B w g n s e o U h ho hU hUn hs hUl hn9
  have HU : Hid ((∀ x, ∀ y ∈ o x, y ∈ U) ∧ U.length ≤ 10000) := ⟨hU, hUl⟩
  obtain ⟨R, hR⟩ : ∃ R, bfsB o s (U.length + 2) (fun _ => none) [s] = R := ⟨_, rfl⟩
  have HR : Hid (bfsB o s (U.length + 2) (fun _ => none) [s] = R) := hR
  have HP : Hid (∀ e' w', VicPost w o s U e' w' = (Below w.heap.size w w' ∧ ((e' = .returned (.tuple #[.int .u64 0, .bool false]) ∧ R = none) ∨ ∃ (M : Nat) (f : Nat → Option Nat) (x : Nat) (P : List Nat), e' = .returned (.tuple #[.int .u64 (M : Int), .bool true]) ∧ R = some (f, x) ∧ WayP f s (x :: P) ∧ TopL M (x :: P)))) := fun e' w' => by unfold VicPost; rw [hR]
  clear h ho hU hUn hs hUl hR
  go_enter Try.func13, Try.ntmps13
  go_wp2_with fail
  refine hc.mono ?_
  rintro e' w1 ⟨hb, ⟨rfl, hn⟩ | ⟨v, f, x, P, rfl, hs, hw, ho⟩⟩
  · have HE : Hid (Below w.heap.size w w1 ∧ R = none) := ⟨hb, by rw [← HR.out]; exact hn⟩
    clear hb hn hc
    go_wp2
    refine bodyPost_ret (results_tmp2 rfl _ _ _) rfl ?_
    rw [HP.out]
    exact ⟨HE.out.1, .inl ⟨rfl, HE.out.2⟩⟩
  · have hl : (x :: P).reverse.length ≤ 1000000 := by
      obtain ⟨_, ⟨Q, hQ1, hQ2⟩, _⟩ := bfs_some HU.out.1 _ _ _ (BfI.first o s U) f x hs
      have hPQ : ∀ (a b : List Nat), WayP f s (x :: a) → WayP f s (x :: b) → a = b := fun a b => way_uniq f s x a b
      rw [hPQ P Q hw hQ1]
      have := vis_le f U
      have := HU.out.2
      simp
      omega
    have hm := maxU_any w1 v (x :: P).reverse ho.rd (by simp) hl
    obtain ⟨va, vc, ev, _⟩ := row_slice9 ho
    obtain ⟨vl, hvl⟩ : ∃ vl, (x :: P).reverse.length = vl := ⟨_, rfl⟩
    rw [hvl] at ev
    subst ev
    have HE : Hid (Below w.heap.size w w1 ∧ R = some (f, x) ∧ WayP f s (x :: P)) := ⟨hb, by rw [← HR.out]; exact hs, hw⟩
    clear hb hs hw ho hc hl hvl
    go_wp2_with fail
    refine hm.mono ?_
    rintro e' w2 ⟨M, rfl, hM, rfl⟩
    have HM : Hid (TopL M (x :: P)) := hM.rev
    clear hm hM
    go_wp2
    refine bodyPost_ret (results_tmp2 rfl _ _ _) rfl ?_
    rw [HP.out]
    exact ⟨HE.out.1, .inr ⟨M, f, x, P, rfl, HE.out.2.1, HE.out.2.2, HM.out⟩⟩

end Go.Proofs.Ytgkgdbdapkgkgaa
