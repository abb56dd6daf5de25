/- Several texts in one. -/
import Derived.Test.YthcoblmfmbmdkaaMmNew
import Derived.Test.YthcoblmfmbmdkaaSkAll
import Derived.Test.YthcoblmfmbmdkaaSmall
import Derived.Test.YthcoblmfmbmdkaaClone
import Derived.Deep.AppendLies
import Derived.Test.YthcoblmfmbmdkaaKeyCmp
import Derived.Test.YthcoblmfmbmdkaaBoxes
import Derived.Deep.LoopGhost
import Derived.Deep.RegionLaw
import Derived.Deep.RegionHeld3
import Derived.Test.YthcoblmfmbmdkaaSkFind
import Derived.Test.YthcoblmfmbmdkaaKeyCheck
import Derived.Test.YthcoblmfmbmdkaaTbCover
import Derived.Test.YthcoblmfmbmdkaaConvStr
import Derived.Lib.SmallJoins
import Derived.Test.YthcoblmfmbmdkaaLists
import Derived.Deep.DeepCutAuto
import Derived.Deep.CutRange
import Derived.BigQuiet

/- (*memo.Memo).Entries; heightOf. -/
namespace Go.Proofs.Ythcoblmfmbmdkaa
set_option maxRecDepth 100000
open Go.RowKit
set_option linter.unusedVariables false
set_option linter.unusedSimpArgs false

/-- whole numbers in a row, read -/
def RdI (w : World) (a : Option Addr) (n : Nat) (hs : List Int) : Prop := hs.length = n ∧ ∀ j, j < n → ∃ b off, a = some ⟨b, off, none⟩ ∧ w.cell? ⟨b, off + j, none⟩ = some (.int .i64 (hs.getD j 0))

theorem RdI.below {w w' : World} {a : Option Addr} {n : Nat} {hs : List Int} (h : RdI w a n hs) (hb : Below w.heap.size w w') : RdI w' a n hs := by
  refine ⟨h.1, fun j hj => ?_⟩
  obtain ⟨b, off, e, hc⟩ := h.2 j hj
  exact ⟨b, off, e, (hb.cell (p := ⟨b, off + j, none⟩) (World.block_lt_of_cell? w _ hc)).trans hc⟩

/-- the height of the i-th op -/
def htI (hs : List Int) (i : Nat) : Int := if i < hs.length then hs.getD i 0 else 1

theorem heightOf_any (w : World) (a : Option Addr) (n c i : Nat) (hs : List Int) (h : RdI w a n hs) (hn : n ≤ 1000000) (hc : n ≤ c) (hi : i ≤ 1000000) :
    Calls Try.prog 55 #[.slice a n c, .int .i64 (i : Int)] w fun e w' => e = .returned (.int .i64 (htI hs i)) ∧ w' = w := by
  obtain ⟨z, hz⟩ : ∃ z, htI hs i = z := ⟨_, rfl⟩
  rw [hz]
  unfold htI at hz
  rw [h.1] at hz
  by_cases hlt : i < n
  · rw [if_pos hlt] at hz
    obtain ⟨b, off, rfl, hcell⟩ := h.2 i hlt
    rw [hz] at hcell
    have hI : (i : Int) < (n : Int) := by omega
    clear hz h
    go_enter Try.func55, Try.ntmps55
    go_wp2
    go_ret
    exact ⟨rfl, rfl⟩
  · rw [if_neg hlt] at hz
    subst hz
    have hI : ¬ (i : Int) < (n : Int) := by omega
    clear h
    go_enter Try.func55, Try.ntmps55
    go_wp2
    go_ret
    exact ⟨rfl, rfl⟩

theorem mentries_any (G : Nat → Prop) (w : World) (m l t : Nat) (ts : List Tow) (ss : List SpB) (last : Int) (h : MemA G w m l t ts ss last) (hL : LenT ts 1000) : Calls Try.prog 17 #[.pointer (some ⟨m, 0, none⟩)] w fun e w' => ∃ v, e = .returned v ∧ OwnEF (w.heap.size + 3) w' v (esT ts) ∧ Below w.heap.size w w' := by
  have he := eqMm m
  obtain ⟨c0, c1, c2, _, _, _⟩ := h.bx
  have ha := skall_any w l ts h.sk hL
  go_enter Try.func17, Try.ntmps17
  go_wp2_with fail
  refine ha.mono ?_
  rintro e w1 ⟨v, rfl, h1, h2⟩
  go_wp2
  go_ret
  exact ⟨_, rfl, h1, h2⟩

end Go.Proofs.Ythcoblmfmbmdkaa

/- slices.ContainsFunc of heights, as memo.Batch calls it. -/
namespace Go.Proofs.Ythcoblmfmbmdkaa
set_option maxRecDepth 20000
open Go.RowKit
set_option linter.unusedVariables false
set_option linter.unusedSimpArgs false

theorem any_take_get {hs : List Int} {j : Nat} (h : j < hs.length) : (hs.take (j + 1)).any noHt = ((hs.take j).any noHt || noHt (hs.getD j 0)) := by
  rw [List.take_succ_eq_append_getElem h, List.any_append]
  simp [List.getD_eq_getElem?_getD, List.getElem?_eq_getElem h]

theorem any_of_get {hs : List Int} {j : Nat} (h : j < hs.length) (h2 : noHt (hs.getD j 0) = true) : hs.any noHt = true := by
  rw [List.any_eq_true]
  refine ⟨hs[j], List.getElem_mem h, ?_⟩
  rw [← h2]
  simp [List.getD_eq_getElem?_getD, List.getElem?_eq_getElem h]

set_option maxHeartbeats 2000000 in
theorem midx_any (w : World) (a : Option Addr) (n cap : Nat) (hs : List Int) (h : RdI w a n hs) (hn : n ≤ 1000000) (hc : n ≤ cap) :
    Calls Try.prog 69 #[.slice a n cap, .func (.func 53) #[] #[]] w fun e w' => ∃ r : Int, e = .returned (.int .i64 r) ∧ decide (0 ≤ r) = hs.any noHt ∧ w' = w := by
  have HR : Hid (RdI w a n hs) := h
  clear h
  go_enter Try.func69, Try.ntmps69
  go_wp2_with fail
  go_loopg [8] n (fun gk iv wr => ∃ j : Nat, gk + j = n ∧ iv = .int .i64 (j : Int) ∧ Hid ((hs.take j).any noHt = false) ∧ wr = w)
  case atStart => exact ⟨0, by omega, rfl, by show _ = _; simp, rfl⟩
  case round =>
    obtain ⟨j, hj, rfl, HS, rfl⟩ := hrel
    by_cases hlt : j < n
    · have hlt2 : j < hs.length := by rw [HR.out.1]; exact hlt
      obtain ⟨b, off, rfl, hcell⟩ := HR.out.2 j hlt
      obtain ⟨z, hz⟩ : ∃ z, hs.getD j 0 = z := ⟨_, rfl⟩
      rw [hz] at hcell
      have hcl := noheight_any wr z
      obtain ⟨q1, q2⟩ := gk_nxt hj hlt
      obtain ⟨r, hr⟩ : ∃ r, noHt z = r := ⟨_, rfl⟩
      rw [hr] at hcl
      have HZ : Hid (noHt (hs.getD j 0) = r) := by show _ = _; rw [hz, hr]
      clear hz hr
      go_wp2_with fail
      refine hcl.mono ?_
      rintro o w2 ⟨rfl, rfl⟩
      clear hcl
      cases r
      · go_wp2_with fail
        go_roundg (gk - 1)
        case measure => exact q1
        case rel => exact ⟨j + 1, q2, by go_num, by show _ = _; rw [any_take_get hlt2, HS.out, HZ.out]; rfl, rfl⟩
      · go_wp2_with fail
        go_wp2
        go_ret
        exact ⟨_, rfl, by rw [any_of_get hlt2 HZ.out]; exact decide_eq_true (by omega), rfl⟩
    · have hjN : j = n := by omega
      subst hjN
      go_wp2_with fail
      go_wp2
      go_ret
      refine ⟨_, rfl, ?_, rfl⟩
      have h9 := HS.out
      rw [← HR.out.1, List.take_length] at h9
      rw [h9]
      rfl

theorem mcont_any (w : World) (a : Option Addr) (n cap : Nat) (hs : List Int) (h : RdI w a n hs) (hn : n ≤ 1000000) (hc : n ≤ cap) :
    Calls Try.prog 52 #[.slice a n cap, .func (.func 53) #[] #[]] w fun e w' => e = .returned (.bool (hs.any noHt)) ∧ w' = w := by
  have h1 := midx_any w a n cap hs h hn hc
  clear h
  go_enter Try.func52, Try.ntmps52
  go_wp2_with fail
  refine h1.mono ?_
  rintro e w1 ⟨r, rfl, hr, rfl⟩
  clear h1
  have HR : Hid (decide (0 ≤ r) = hs.any noHt) := hr
  clear hr
  go_wp2
  go_ret
  refine ⟨?_, rfl⟩
  rw [← HR.out]
  rfl

end Go.Proofs.Ythcoblmfmbmdkaa

/- A slice of ops. -/
namespace Go.Proofs.Ythcoblmfmbmdkaa
open Go.RowKit

/-- an op: its kind, its key, its value -/
abbrev OpB := UInt8 × List UInt8 × List UInt8

/-- an op lies in three cells of block b, from i on; its two slices read by R -/
def OpAt (R : World → Value → List UInt8 → Prop) (w : World) (b i : Nat) (o : OpB) : Prop :=
  ∃ x y, w.cell? ⟨b, i, none⟩ = some (.int .u8 (o.1.toNat : Int)) ∧ w.cell? ⟨b, i + 1, none⟩ = some x ∧ w.cell? ⟨b, i + 2, none⟩ = some y ∧ R w x o.2.1 ∧ R w y o.2.2

/-- v is a slice of ops -/
def LsO (R : World → Value → List UInt8 → Prop) (w : World) (v : Value) (os : List OpB) : Prop :=
  ∃ ao cap, v = .slice ao os.length cap ∧ os.length ≤ cap ∧ cap ≤ maxLen ∧ ∀ j (h : j < os.length), ∃ b off, ao = some ⟨b, off, none⟩ ∧ OpAt R w b (off + j * 3) os[j]

theorem OpAt.below {R : World → Value → List UInt8 → Prop} {B : Nat} {w w' : World} {b i : Nat} {o : OpB} (h : OpAt R w b i o) (hR : ∀ v l, R w v l → R w' v l) (hb : Below B w w') (hB : w.heap.size ≤ B) : OpAt R w' b i o := by
  obtain ⟨x, y, c0, c1, c2, r1, r2⟩ := h
  have hl : b < B := Nat.lt_of_lt_of_le (World.block_lt_of_cell? w _ c0) hB
  exact ⟨x, y, by rw [hb.cell (p := ⟨b, i, none⟩) hl]; exact c0, by rw [hb.cell (p := ⟨b, i + 1, none⟩) hl]; exact c1, by rw [hb.cell (p := ⟨b, i + 2, none⟩) hl]; exact c2, hR _ _ r1, hR _ _ r2⟩

theorem LsO.belowR {R : World → Value → List UInt8 → Prop} {B : Nat} {w w' : World} {v : Value} {os : List OpB} (h : LsO R w v os) (hR : ∀ v l, R w v l → R w' v l) (hb : Below B w w') (hB : w.heap.size ≤ B) : LsO R w' v os := by
  obtain ⟨ao, cap, rfl, h1, h2, h3⟩ := h
  refine ⟨ao, cap, rfl, h1, h2, fun j hj => ?_⟩
  obtain ⟨b, off, e, ho⟩ := h3 j hj
  exact ⟨b, off, e, ho.below hR hb hB⟩

abbrev RdO := LsO Rd
abbrev ArgO := LsO Arg

theorem LsO.below {B : Nat} {w w' : World} {v : Value} {os : List OpB} (h : RdO w v os) (hb : Below B w w') (hB : w.heap.size ≤ B) : RdO w' v os := h.belowR (fun _ _ hr => Rd.below hr hb hB) hb hB
theorem LsO.belowA {B : Nat} {w w' : World} {v : Value} {os : List OpB} (h : ArgO w v os) (hb : Below B w w') (hB : w.heap.size ≤ B) : ArgO w' v os := h.belowR (fun _ _ hr => Arg.below hr hb hB) hb hB
theorem LsO.drew {w : World} {v : Value} {os : List OpB} (h : RdO w v os) : RdO w.drew v os := h
theorem LsO.drewA {w : World} {v : Value} {os : List OpB} (h : ArgO w v os) : ArgO w.drew v os := h

theorem LsO.arg {w : World} {v : Value} {os : List OpB} (h : RdO w v os) : ArgO w v os := by
  obtain ⟨ao, cap, rfl, h1, h2, h3⟩ := h
  refine ⟨ao, cap, rfl, h1, h2, fun j hj => ?_⟩
  obtain ⟨b, off, e, x, y, c0, c1, c2, r1, r2⟩ := h3 j hj
  exact ⟨b, off, e, x, y, c0, c1, c2, Rd.arg r1, Rd.arg r2⟩

theorem LsO.nil {R : World → Value → List UInt8 → Prop} (w : World) : LsO R w (.slice none 0 0) [] := ⟨none, 0, rfl, Nat.le_refl _, Nat.zero_le _, fun _ h => absurd h (Nat.not_lt_zero _)⟩

/-- ops in a row of the call's own, and what they hold -/
def OwnO (B : Nat) (w : World) (v : Value) (os : List OpB) : Prop :=
  ∃ cs, w.ownsRow B 63 3 v os.length cs ∧ ∀ j (h : j < os.length), ∃ x y, cs[j * 3]? = some (.int .u8 (os[j].1.toNat : Int)) ∧ cs[j * 3 + 1]? = some x ∧ cs[j * 3 + 2]? = some y ∧ OwnN B w x os[j].2.1 ∧ OwnN B w y os[j].2.2

theorem OwnO.rd {B : Nat} {w : World} {v : Value} {os : List OpB} (h : OwnO B w v os) : RdO w v os := by
  obtain ⟨cs, hr, hj⟩ := h
  have hr2 := hr
  rcases hr.2 with ⟨e, hn⟩ | ⟨g, cap, cur, e, hb, hg, h1, h2, h3, h4⟩
  · refine ⟨none, 0, by rw [e, hn], by omega, Nat.zero_le _, fun j hj => by omega⟩
  · subst e
    refine ⟨_, cap, rfl, h1, h2, fun j h => ⟨g, 0, rfl, ?_⟩⟩
    obtain ⟨x, y, c0, c1, c2, ox, oy⟩ := hj j h
    have hc := hr2.cells (g := g) rfl
    refine ⟨x, y, ?_, ?_, ?_, ox.rd, oy.rd⟩
    · have := hc _ _ c0; rwa [Addr.add_lit] at this
    · have := hc _ _ c1; rwa [Addr.add_lit] at this
    · have := hc _ _ c2; rwa [Addr.add_lit] at this

theorem OwnO.nil (B : Nat) (w : World) : OwnO B w (.slice none 0 0) [] := ⟨[], World.ownsRow_nil _ _ _ _, fun _ h => absurd h (Nat.not_lt_zero _)⟩

theorem OwnO.below {B C : Nat} {w w' : World} {v : Value} {os : List OpB} (h : OwnO B w v os) (hb : Below C w w') (hC : w.heap.size ≤ C) : OwnO B w' v os := by
  obtain ⟨cs, hr, hj⟩ := h
  have hb' : Below w.heap.size w w' := ⟨hb.os, hb.tape, hb.output, hb.size, fun i hi => hb.block i (Nat.lt_of_lt_of_le hi hC)⟩
  refine ⟨cs, row_below hr hb', fun j h => ?_⟩
  obtain ⟨x, y, c0, c1, c2, ox, oy⟩ := hj j h
  exact ⟨x, y, c0, c1, c2, ox.below hb hC, oy.below hb hC⟩

theorem OwnO.mono {B C : Nat} {w : World} {v : Value} {os : List OpB} (h : OwnO B w v os) (hC : C ≤ B) : OwnO C w v os := by
  obtain ⟨cs, hr, hj⟩ := h
  refine ⟨cs, ⟨hr.1, hr.2.imp id (fun ⟨g, cap, cur, a, b, c⟩ => ⟨g, cap, cur, a, Nat.le_trans hC b, c⟩)⟩, fun j h => ?_⟩
  obtain ⟨x, y, c0, c1, c2, ox, oy⟩ := hj j h
  exact ⟨x, y, c0, c1, c2, ox.mono hC, oy.mono hC⟩

theorem OwnO.drew {B : Nat} {w : World} {v : Value} {os : List OpB} (h : OwnO B w v os) : OwnO B w.drew v os := h

theorem infoOp : (Try.prog.info? 63).map (fun i => (i.zero, i.size, i.bytes)) = some (some (.agg #[.int .u8 0, .slice none 0 0, .slice none 0 0]), 3, 56) := by kernel_rfl

/-- how many bytes ops have -/
def sizeO (os : List OpB) : Nat := (os.map fun o => o.2.1.length + o.2.2.length).sum

theorem sizeO_append (a b : List OpB) : sizeO (a ++ b) = sizeO a + sizeO b := by
  unfold sizeO
  rw [List.map_append, List.sum_append]

theorem sizeO_take {os : List OpB} {j : Nat} (h : j < os.length) : sizeO (os.take (j + 1)) = sizeO (os.take j) + (os[j].2.1.length + os[j].2.2.length) := by
  rw [List.take_succ_eq_append_getElem h, sizeO_append]
  simp [sizeO]

theorem sizeO_le (os : List OpB) (j : Nat) : sizeO (os.take j) ≤ sizeO os := by
  have := sizeO_append (os.take j) (os.drop j)
  rw [List.take_append_drop] at this
  omega

end Go.Proofs.Ythcoblmfmbmdkaa

/- Is an op right: batch.CheckOp, and the document's own answer. -/
namespace Go.Proofs.Ythcoblmfmbmdkaa
open Go.RowKit

/-- what is not right with an op -/
def chkOp (k : Int) (l m : List UInt8) : Int :=
  if k < 1 ∨ 3 < k then 1
  else if 64 < l.length ∨ (k = 2 ∧ 512 < m.length) ∨ (k = 3 ∧ 64 < m.length) then 3
  else if l.length = 0 ∨ (k = 1 ∧ 0 < m.length) ∨ (k = 3 ∧ 0 ≤ Lib.compareBytes l m) then 4 else 0

theorem known_any (w : World) (k : Int) : Calls Try.prog 77 #[.int .u8 k] w fun e w' => e = .returned (.bool (decide (k = 1 ∨ k = 2 ∨ k = 3))) ∧ w' = w := by
  go_enter Try.func77, Try.ntmps77
  go_wp2
  all_goals (go_ret)
  all_goals (refine ⟨ret_bool ?_, rfl⟩; grind)

theorem tooLong_any (w : World) (ao bo : Option Addr) (n c m d : Nat) (k : Int) :
    Calls Try.prog 78 #[.agg #[.int .u8 k, .slice ao n c, .slice bo m d]] w fun e w' => e = .returned (.bool (decide (64 < n ∨ (k = 2 ∧ 512 < m) ∨ (k = 3 ∧ 64 < m)))) ∧ Below w.heap.size w w' := by
  go_enter Try.func78, Try.ntmps78
  go_wp2
  all_goals (go_ret)
  all_goals (refine ⟨ret_bool ?_, below_box _ _ _⟩; grind)

theorem fits_any (w : World) (x y : Value) (l m : List UInt8) (k : Int) (b : Bool) (hx : Rd w x l) (hy : Rd w y m) (hb : decide (¬ (k = 1 ∧ 0 < m.length) ∧ ¬ (k = 3 ∧ 0 ≤ Lib.compareBytes l m)) = b) :
    Calls Try.prog 79 #[.agg #[.int .u8 k, x, y]] w fun e w' => e = .returned (.bool b) ∧ Below w.heap.size w w' := by
  obtain ⟨a1, a2, ea⟩ := hx.len
  obtain ⟨b1, b2, eb⟩ := hy.len
  subst ea eb
  have hB := below_box w #[.int .u8 k, .slice a1 l.length a2, .slice b1 m.length b2] 63
  have rx := hx.below hB (Nat.le_refl _)
  have ry := hy.below hB (Nat.le_refl _)
  have H : Hid _ := hb
  clear hx hy hb
  by_cases h3 : k = 3
  · subst h3
    obtain ⟨q, hq⟩ : ∃ q, decide (Lib.compareBytes l m < 0) = q := ⟨_, rfl⟩
    have HQ : Hid _ := hq
    have hqb : Hid (q = b) := by show q = b; rw [← hq, ← H.out]; simp
    clear hq
    go_enter Try.func79, Try.ntmps79
    go_wp2_with fail
    refine (less_b _ _ _ l m q rx ry HQ.out).mono ?_
    rintro e w1 ⟨rfl, hw⟩
    subst hw
    go_wp2
    go_ret
    exact ⟨ret_bool hqb.out, hB⟩
  · clear rx ry
    go_enter Try.func79, Try.ntmps79
    go_wp2
    all_goals (go_ret)
    all_goals (refine ⟨ret_bool ?_, hB⟩; rw [← H.out]; grind)

theorem checkop_any (w : World) (x y : Value) (l m : List UInt8) (k c : Int) (hk : 0 ≤ k) (hx : Rd w x l) (hy : Rd w y m) (hc : chkOp k l m = c) :
    Calls Try.prog 68 #[.agg #[.int .u8 k, x, y]] w fun e w' => e = .returned (.int .i64 c) ∧ Below w.heap.size w w' := by
  obtain ⟨a1, a2, ea⟩ := hx.len
  obtain ⟨b1, b2, eb⟩ := hy.len
  subst ea eb
  have hB := below_box w #[.int .u8 k, .slice a1 l.length a2, .slice b1 m.length b2] 63
  have b0 := box_new w (.int .u8 k) (.slice a1 l.length a2) (.slice b1 m.length b2) 63
  have rx := hx.below hB (Nat.le_refl _)
  have ry := hy.below hB (Nat.le_refl _)
  have H : Hid _ := hc
  clear hx hy hc
  obtain ⟨q, hq⟩ : ∃ q, decide (k = 1 ∨ k = 2 ∨ k = 3) = q := ⟨_, rfl⟩
  obtain ⟨r, hr⟩ : ∃ q, decide (64 < l.length ∨ (k = 2 ∧ 512 < m.length) ∨ (k = 3 ∧ 64 < m.length)) = q := ⟨_, rfl⟩
  obtain ⟨s, hs⟩ : ∃ q, decide (¬ (k = 1 ∧ 0 < m.length) ∧ ¬ (k = 3 ∧ 0 ≤ Lib.compareBytes l m)) = q := ⟨_, rfl⟩
  have HQ : Hid _ := hq
  have HR : Hid _ := hr
  have HS : Hid _ := hs
  clear hq hr hs
  have fin : Hid (c = if q = false then 1 else if r = true then 3 else if l.length = 0 ∨ s = false then 4 else 0) := by
    show _ = _
    rw [← H.out, ← HQ.out, ← HR.out, ← HS.out]
    unfold chkOp
    grind
  clear H
  go_enter Try.func68, Try.ntmps68
  go_wp2_with fail
  refine (known_any _ k).mono ?_
  rintro e w1 ⟨rfl, hw⟩
  subst hw
  rw [HQ.out]
  cases q
  · go_wp2
    go_ret
    exact ⟨ret_int (by rw [fin.out]; rfl), hB⟩
  · go_wp2_with fail
    refine (tooLong_any _ _ _ _ _ _ _ _).mono ?_
    rintro e w2 ⟨rfl, hb⟩
    rw [HR.out]
    have hB2 := hB.trans (hb.mono hB.size)
    obtain ⟨c0, c1, c2, f0, f1, f2⟩ := b0.below hb (Nat.le_refl _)
    replace rx := rx.below hb (Nat.le_refl _)
    replace ry := ry.below hb (Nat.le_refl _)
    clear b0 hb hB
    cases r
    · by_cases h0 : l.length = 0
      · clear rx ry
        go_wp2
        go_ret
        exact ⟨ret_int (by rw [fin.out]; simp [h0]), hB2⟩
      · go_wp2_with fail
        refine (fits_any _ _ _ l m k s rx ry HS.out).mono ?_
        rintro e w3 ⟨rfl, hb⟩
        have hB3 := hB2.trans (hb.mono hB2.size)
        clear c0 c1 c2 f0 f1 f2 rx ry
        cases s
        · go_wp2
          go_ret
          exact ⟨ret_int (by rw [fin.out]; simp), hB3⟩
        · go_wp2
          go_ret
          exact ⟨ret_int (by rw [fin.out]; simp [h0]), hB3⟩
    · clear rx ry
      go_wp2
      go_ret
      exact ⟨ret_int (by rw [fin.out]; rfl), hB2⟩

set_option maxHeartbeats 2000000 in
theorem refcheckop_any (w : World) (x y : Value) (l m : List UInt8) (k c : Int) (hk : 0 ≤ k) (hx : Rd w x l) (hy : Rd w y m) (hc : chkOp k l m = c) :
    Calls Try.prog 31 #[.agg #[.int .u8 k, x, y]] w fun e w' => e = .returned (.int .i64 c) ∧ Below w.heap.size w w' := by
  obtain ⟨a1, a2, ea⟩ := hx.len
  obtain ⟨b1, b2, eb⟩ := hy.len
  subst ea eb
  have hB := below_box w #[.int .u8 k, .slice a1 l.length a2, .slice b1 m.length b2] 63
  have rx := hx.below hB (Nat.le_refl _)
  have ry := hy.below hB (Nat.le_refl _)
  have H : Hid _ := hc
  clear hx hy hc
  by_cases h3 : k = 3
  · subst h3
    obtain ⟨q, hq⟩ : ∃ q, decide (Lib.compareBytes l m < 0) = q := ⟨_, rfl⟩
    have HQ : Hid _ := hq
    have fin : Hid (c = if 64 < l.length ∨ 64 < m.length then 3 else if l.length = 0 ∨ q = false then 4 else 0) := by
      show _ = _
      rw [← H.out, ← HQ.out]
      unfold chkOp
      grind
    clear H hq
    go_enter Try.func31, Try.ntmps31
    by_cases h1 : 64 < l.length
    · go_wp2
      go_ret
      exact ⟨ret_int (by rw [fin.out]; simp [h1]), hB⟩
    · by_cases h2 : 64 < m.length
      · go_wp2
        go_ret
        exact ⟨ret_int (by rw [fin.out]; simp [h2]), hB⟩
      · by_cases h4 : l.length = 0
        · go_wp2
          go_ret
          exact ⟨ret_int (by rw [fin.out]; simp [h4, h2]), below_box _ _ _⟩
        · go_wp2_with fail
          refine (refless_any _ _ _ l m q rx ry HQ.out).mono ?_
          rintro e w1 ⟨rfl, hw⟩
          subst hw
          cases q
          · go_wp2
            go_ret
            exact ⟨ret_int (by rw [fin.out]; simp [h1, h2]), hB⟩
          · go_wp2
            go_ret
            exact ⟨ret_int (by rw [fin.out]; simp [h1, h2, h4]), hB⟩
  · clear rx ry
    have fin : Hid (c = if k < 1 ∨ 3 < k then 1 else if 64 < l.length ∨ (k = 2 ∧ 512 < m.length) then 3 else if l.length = 0 ∨ (k = 1 ∧ 0 < m.length) then 4 else 0) := by
      show _ = _
      rw [← H.out]
      unfold chkOp
      grind
    clear H
    by_cases h1 : k = 1
    · subst h1
      by_cases h2 : 64 < l.length
      · go_enter Try.func31, Try.ntmps31
        go_wp2
        go_ret
        exact ⟨ret_int (by rw [fin.out]; simp [h2]), below_box _ _ _⟩
      · by_cases h4 : l.length = 0
        · go_enter Try.func31, Try.ntmps31
          go_wp2
          go_ret
          exact ⟨ret_int (by rw [fin.out]; simp [h4]), below_box _ _ _⟩
        · by_cases h6 : 0 < m.length
          · go_enter Try.func31, Try.ntmps31
            go_wp2
            go_ret
            exact ⟨ret_int (by rw [fin.out]; simp [h2, h4, h6]), below_box _ _ _⟩
          · go_enter Try.func31, Try.ntmps31
            go_wp2
            go_ret
            exact ⟨ret_int (by rw [fin.out]; simp [h2, h4, h6]), below_box _ _ _⟩
    · by_cases h2 : k = 2
      · subst h2
        by_cases h2 : 64 < l.length
        · go_enter Try.func31, Try.ntmps31
          go_wp2
          go_ret
          exact ⟨ret_int (by rw [fin.out]; simp [h2]), below_box _ _ _⟩
        · by_cases h6 : 512 < m.length
          · go_enter Try.func31, Try.ntmps31
            go_wp2
            go_ret
            exact ⟨ret_int (by rw [fin.out]; simp [h6]), below_box _ _ _⟩
          · by_cases h4 : l.length = 0
            · go_enter Try.func31, Try.ntmps31
              go_wp2
              go_ret
              exact ⟨ret_int (by rw [fin.out]; simp [h4, h6]), below_box _ _ _⟩
            · go_enter Try.func31, Try.ntmps31
              go_wp2
              go_ret
              exact ⟨ret_int (by rw [fin.out]; simp [h2, h4, h6]), below_box _ _ _⟩
      · have h0 : Hid (k < 1 ∨ 3 < k) := by show _ ∨ _; omega
        by_cases h5 : k < 1
        · go_enter Try.func31, Try.ntmps31
          go_wp2
          go_ret
          exact ⟨ret_int (by rw [fin.out, if_pos h0.out]), below_box _ _ _⟩
        · have h6 : 3 < k := by omega
          go_enter Try.func31, Try.ntmps31
          go_wp2
          go_ret
          exact ⟨ret_int (by rw [fin.out, if_pos h0.out]), below_box _ _ _⟩

end Go.Proofs.Ythcoblmfmbmdkaa

/- Are ops right together: batch.Check, and the document's own answer. -/
namespace Go.Proofs.Ythcoblmfmbmdkaa
open Go.RowKit

/-- the first error of ops -/
def chkOps : List OpB → Int
  | [] => 0
  | o :: r => if chkOp (o.1.toNat : Int) o.2.1 o.2.2 = 0 then chkOps r else chkOp (o.1.toNat : Int) o.2.1 o.2.2

def chkL (os : List OpB) : Int := if 64 < os.length then 3 else chkOps os

set_option maxHeartbeats 2000000 in
theorem bcheck_any (w : World) (v : Value) (os : List OpB) (c : Int) (hv : RdO w v os) (hc : chkL os = c) :
    Calls Try.prog 50 #[v] w fun e w' => e = .returned (.int .i64 c) ∧ Below w.heap.size w w' := by
  have hv0 := hv
  obtain ⟨ao, cap, rfl, h1, h2, h3⟩ := hv
  unfold maxLen at h2
  have H3 : Hid _ := hv0
  have HC : Hid _ := hc
  clear hv0 h3 hc
  by_cases h64 : 64 < os.length
  · go_enter Try.func50, Try.ntmps50
    go_wp2
    go_ret
    exact ⟨ret_int (by rw [← HC.out]; unfold chkL; rw [if_pos h64]), Below.refl _ _⟩
  · have HD : Hid (chkOps os = c) := by show _ = _; rw [← HC.out]; unfold chkL; rw [if_neg h64]
    clear HC
    go_enter Try.func50, Try.ntmps50
    go_wp2_with fail
    go_loopg [11] os.length (fun gk iv wr => ∃ j : Nat, gk + j = os.length ∧ iv = .int .i64 (j : Int) ∧ chkOps (os.drop j) = c ∧ Below w.heap.size w wr)
    case atStart => exact ⟨0, rfl, rfl, HD.out, Below.refl _ _⟩
    case round =>
      obtain ⟨j, hj, rfl, hd, hB⟩ := hrel
      have HJ : Hid _ := hd
      clear hd
      have hrd : RdO wr _ os := LsO.below (show RdO w _ os from H3.out) hB (Nat.le_refl _)
      by_cases hlt : j < os.length
      · obtain ⟨_, _, e, _, _, h3⟩ := hrd
        cases e
        obtain ⟨b, off, rfl, x, y, c0, c1, c2, rx, ry⟩ := h3 j hlt
        obtain ⟨x1, x2, ex⟩ := rx.len
        obtain ⟨y1, y2, ey⟩ := ry.len
        subst ex ey
        obtain ⟨⟨ok, ol, om⟩, ho⟩ : ∃ o, os[j] = o := ⟨_, rfl⟩
        rw [ho] at c0 c1 c2 rx ry
        obtain ⟨d, hd⟩ : ∃ d, chkOp (ok.toNat : Int) ol om = d := ⟨_, rfl⟩
        have HE : Hid (c = if d = 0 then chkOps (os.drop (j + 1)) else d) := by
          show _ = _
          rw [← HJ.out, List.drop_eq_getElem_cons hlt, ho, ← hd]
          rfl
        have HX : Hid _ := hd
        have hba := below_box wr #[.int .u8 (ok.toNat : Int), .slice x1 ol.length x2, .slice y1 om.length y2] 63
        have rx2 := rx.below hba (Nat.le_refl _)
        have ry2 := ry.below hba (Nat.le_refl _)
        clear h3 rx ry ho hd HJ HD
        go_wp2_with fail
        refine (checkop_any _ _ _ ol om ok.toNat d (by omega) rx2 ry2 HX.out).mono ?_
        rintro e w2 ⟨rfl, hb⟩
        have hB2 := (hB.trans (hba.mono hB.size)).trans (hb.mono (Nat.le_trans hB.size hba.size))
        clear hB hba hb rx2 ry2 c0 c1 c2
        by_cases hd0 : d = 0
        · subst hd0
          go_wp2
          go_roundg (gk - 1)
          case measure => omega
          case rel => exact ⟨j + 1, by omega, by go_num, by rw [HE.out]; simp, hB2⟩
        · have hdb : (d != 0) = true := by simp [hd0]
          have hdb2 : (d == 0) = false := by simp [hd0]
          go_wp2
          go_ret
          exact ⟨ret_int (by rw [HE.out, if_neg hd0]), hB2⟩
      · obtain rfl : j = os.length := by omega
        have h0 : Hid (c = 0) := by show _ = _; rw [← HJ.out, List.drop_length]; rfl
        clear hrd
        go_wp2
        go_ret
        exact ⟨ret_int h0.out.symm, hB⟩

set_option maxHeartbeats 2000000 in
theorem rcheck_any (w : World) (v : Value) (os : List OpB) (c : Int) (hv : RdO w v os) (hc : chkL os = c) :
    Calls Try.prog 58 #[v] w fun e w' => e = .returned (.int .i64 c) ∧ Below w.heap.size w w' := by
  have hv0 := hv
  obtain ⟨ao, cap, rfl, h1, h2, h3⟩ := hv
  unfold maxLen at h2
  have H3 : Hid _ := hv0
  have HC : Hid _ := hc
  clear hv0 h3 hc
  by_cases h64 : 64 < os.length
  · go_enter Try.func58, Try.ntmps58
    go_wp2
    go_ret
    exact ⟨ret_int (by rw [← HC.out]; unfold chkL; rw [if_pos h64]), Below.refl _ _⟩
  · have HD : Hid (chkOps os = c) := by show _ = _; rw [← HC.out]; unfold chkL; rw [if_neg h64]
    clear HC
    go_enter Try.func58, Try.ntmps58
    go_wp2_with fail
    go_loopg [11] os.length (fun gk iv wr => ∃ j : Nat, gk + j = os.length ∧ iv = .int .i64 (j : Int) ∧ chkOps (os.drop j) = c ∧ Below w.heap.size w wr)
    case atStart => exact ⟨0, rfl, rfl, HD.out, Below.refl _ _⟩
    case round =>
      obtain ⟨j, hj, rfl, hd, hB⟩ := hrel
      have HJ : Hid _ := hd
      clear hd
      have hrd : RdO wr _ os := LsO.below (show RdO w _ os from H3.out) hB (Nat.le_refl _)
      by_cases hlt : j < os.length
      · obtain ⟨_, _, e, _, _, h3⟩ := hrd
        cases e
        obtain ⟨b, off, rfl, x, y, c0, c1, c2, rx, ry⟩ := h3 j hlt
        obtain ⟨x1, x2, ex⟩ := rx.len
        obtain ⟨y1, y2, ey⟩ := ry.len
        subst ex ey
        obtain ⟨⟨ok, ol, om⟩, ho⟩ : ∃ o, os[j] = o := ⟨_, rfl⟩
        rw [ho] at c0 c1 c2 rx ry
        obtain ⟨d, hd⟩ : ∃ d, chkOp (ok.toNat : Int) ol om = d := ⟨_, rfl⟩
        have HE : Hid (c = if d = 0 then chkOps (os.drop (j + 1)) else d) := by
          show _ = _
          rw [← HJ.out, List.drop_eq_getElem_cons hlt, ho, ← hd]
          rfl
        have HX : Hid _ := hd
        have hba := below_box wr #[.int .u8 (ok.toNat : Int), .slice x1 ol.length x2, .slice y1 om.length y2] 63
        have rx2 := rx.below hba (Nat.le_refl _)
        have ry2 := ry.below hba (Nat.le_refl _)
        clear h3 rx ry ho hd HJ HD
        go_wp2_with fail
        refine (refcheckop_any _ _ _ ol om ok.toNat d (by omega) rx2 ry2 HX.out).mono ?_
        rintro e w2 ⟨rfl, hb⟩
        have hB2 := (hB.trans (hba.mono hB.size)).trans (hb.mono (Nat.le_trans hB.size hba.size))
        clear hB hba hb rx2 ry2 c0 c1 c2
        by_cases hd0 : d = 0
        · subst hd0
          go_wp2
          go_roundg (gk - 1)
          case measure => omega
          case rel => exact ⟨j + 1, by omega, by go_num, by rw [HE.out]; simp, hB2⟩
        · have hdb : (d != 0) = true := by simp [hd0]
          have hdb2 : (d == 0) = false := by simp [hd0]
          go_wp2
          go_ret
          exact ⟨ret_int (by rw [HE.out, if_neg hd0]), hB2⟩
      · obtain rfl : j = os.length := by omega
        have h0 : Hid (c = 0) := by show _ = _; rw [← HJ.out, List.drop_length]; rfl
        clear hrd
        go_wp2
        go_ret
        exact ⟨ret_int h0.out.symm, hB⟩

end Go.Proofs.Ythcoblmfmbmdkaa

/- What a batch makes of a memo, in pure terms. -/
namespace Go.Proofs.Ythcoblmfmbmdkaa
set_option maxRecDepth 20000
open Go.RowKit
set_option linter.unusedVariables false
set_option linter.unusedSimpArgs false

/-- the versions that ops make, from a number on -/
def verO : List OpB → Nat → List EnB
  | [], _ => []
  | o :: r, s => if o.1 = 3 then verO r (s + 1) else (o.2.1, s, o.1, o.2.2) :: verO r (s + 1)

/-- and the spans -/
def spnO : List OpB → Nat → List SpB
  | [], _ => []
  | o :: r, s => if o.1 = 3 then (o.2.1, o.2.2, s) :: spnO r (s + 1) else spnO r (s + 1)

theorem verO_snoc (os : List OpB) (o : OpB) (s : Nat) : verO (os ++ [o]) s = verO os s ++ (if o.1 = 3 then [] else [(o.2.1, s + os.length, o.1, o.2.2)]) := by
  induction os generalizing s with
  | nil => by_cases h : o.1 = 3 <;> simp [verO, h]
  | cons x r ih =>
    have e : s + 1 + r.length = s + (r.length + 1) := by omega
    by_cases h : x.1 = 3
    · simp [verO, h, ih, e]
    · simp [verO, h, ih, e]

theorem spnO_snoc (os : List OpB) (o : OpB) (s : Nat) : spnO (os ++ [o]) s = spnO os s ++ (if o.1 = 3 then [(o.2.1, o.2.2, s + os.length)] else []) := by
  induction os generalizing s with
  | nil => by_cases h : o.1 = 3 <;> simp [spnO, h]
  | cons x r ih =>
    have e : s + 1 + r.length = s + (r.length + 1) := by omega
    by_cases h : x.1 = 3
    · simp [spnO, h, ih, e]
    · simp [spnO, h, ih, e]

theorem verO_len (os : List OpB) (s : Nat) : (verO os s).length + (spnO os s).length = os.length := by
  induction os generalizing s with
  | nil => rfl
  | cons x r ih =>
    have h9 := ih (s + 1)
    by_cases h : x.1 = 3
    · simp only [verO, spnO, if_pos h, List.length_cons]; omega
    · simp only [verO, spnO, if_neg h, List.length_cons]; omega

theorem verO_seq {os : List OpB} {s : Nat} {e : EnB} (h : e ∈ verO os s) : s ≤ e.2.1 ∧ e.2.1 < s + os.length := by
  induction os generalizing s with
  | nil => simp [verO] at h
  | cons x r ih =>
    unfold verO at h
    by_cases h3 : x.1 = 3
    · rw [if_pos h3] at h
      have := ih h
      simp only [List.length_cons]; omega
    · rw [if_neg h3] at h
      rcases List.mem_cons.1 h with rfl | h
      · simp
      · have := ih h
        simp only [List.length_cons]; omega

theorem verO_mem {os : List OpB} {s : Nat} {e : EnB} (h : e ∈ verO os s) : ∃ o ∈ os, e.1 = o.2.1 ∧ e.2.2.2 = o.2.2 := by
  induction os generalizing s with
  | nil => simp [verO] at h
  | cons x r ih =>
    unfold verO at h
    by_cases h3 : x.1 = 3
    · rw [if_pos h3] at h
      obtain ⟨o, ho, h1⟩ := ih h
      exact ⟨o, List.mem_cons_of_mem _ ho, h1⟩
    · rw [if_neg h3] at h
      rcases List.mem_cons.1 h with rfl | h
      · exact ⟨x, List.mem_cons_self, rfl, rfl⟩
      · obtain ⟨o, ho, h1⟩ := ih h
        exact ⟨o, List.mem_cons_of_mem _ ho, h1⟩

theorem spnO_mem {os : List OpB} {s : Nat} {e : SpB} (h : e ∈ spnO os s) : ∃ o ∈ os, e.1 = o.2.1 ∧ e.2.1 = o.2.2 := by
  induction os generalizing s with
  | nil => simp [spnO] at h
  | cons x r ih =>
    unfold spnO at h
    by_cases h3 : x.1 = 3
    · rw [if_pos h3] at h
      rcases List.mem_cons.1 h with rfl | h
      · exact ⟨x, List.mem_cons_self, rfl, rfl⟩
      · obtain ⟨o, ho, h1⟩ := ih h
        exact ⟨o, List.mem_cons_of_mem _ ho, h1⟩
    · rw [if_neg h3] at h
      obtain ⟨o, ho, h1⟩ := ih h
      exact ⟨o, List.mem_cons_of_mem _ ho, h1⟩

/-- what Batch answers -/
def batC (os : List OpB) (s : Int) (hs : List Int) (last : Int) : Int :=
  if chkL os = 0 then (if hasN s os.length = true then (if (hs.take os.length).any noHt = true then 1 else if s ≤ last then 10 else 0) else 13) else chkL os

theorem chkOps_mem {os : List OpB} (h : chkOps os = 0) {o : OpB} (ho : o ∈ os) : chkOp (o.1.toNat : Int) o.2.1 o.2.2 = 0 := by
  induction os with
  | nil => simp at ho
  | cons x r ih =>
    unfold chkOps at h
    by_cases h0 : chkOp (x.1.toNat : Int) x.2.1 x.2.2 = 0
    · rw [if_pos h0] at h
      rcases List.mem_cons.1 ho with rfl | ho
      · exact h0
      · exact ih h ho
    · rw [if_neg h0] at h; exact absurd h h0

theorem chkL_mem {os : List OpB} (h : chkL os = 0) : os.length ≤ 64 ∧ ∀ o ∈ os, chkOp (o.1.toNat : Int) o.2.1 o.2.2 = 0 := by
  unfold chkL at h
  by_cases h1 : 64 < os.length
  · rw [if_pos h1] at h; cases h
  · rw [if_neg h1] at h; exact ⟨by omega, fun o ho => chkOps_mem h ho⟩

theorem chkOp_len {k : Int} {l m : List UInt8} (h : chkOp k l m = 0) : (1 ≤ k ∧ k ≤ 3) ∧ l.length ≤ 64 ∧ 1 ≤ l.length ∧ m.length ≤ 512 ∧ (k = 3 → m.length ≤ 64 ∧ Lib.compareBytes l m < 0) := by
  unfold chkOp at h
  by_cases h1 : k < 1 ∨ 3 < k
  · rw [if_pos h1] at h; cases h
  · rw [if_neg h1] at h
    by_cases h2 : 64 < l.length ∨ (k = 2 ∧ 512 < m.length) ∨ (k = 3 ∧ 64 < m.length)
    · rw [if_pos h2] at h; cases h
    · rw [if_neg h2] at h
      by_cases h3 : l.length = 0 ∨ (k = 1 ∧ 0 < m.length) ∨ (k = 3 ∧ 0 ≤ Lib.compareBytes l m)
      · rw [if_pos h3] at h; cases h
      · refine ⟨by omega, by omega, by omega, by omega, by omega⟩

theorem cmp_nonempty {l m : List UInt8} (h : Lib.compareBytes l m < 0) : 1 ≤ m.length := by
  cases m with
  | nil => cases l <;> simp [Lib.compareBytes] at h
  | cons a t => simp

theorem chkSp_of {l m : List UInt8} {s : Int} (h : chkOp 3 l m = 0) (h1 : 1 ≤ s) (h2 : s ≤ 72057594037927935) : chkSp l m s = 0 := by
  obtain ⟨_, a, b, _, c⟩ := chkOp_len h
  obtain ⟨c1, c2⟩ := c rfl
  unfold chkSp
  rw [if_pos ⟨⟨b, a⟩, ⟨cmp_nonempty c2, c1⟩, c2, h1, h2⟩]

theorem chkSk_of {k : UInt8} {l m : List UInt8} {s : Nat} {hh : Int} (h : chkOp (k.toNat : Int) l m = 0) (h3 : k ≠ 3) (h1 : 1 ≤ s) (h2 : s ≤ 72057594037927935) (hh1 : noHt hh = false) : chkSk (l, s, k, m) hh = 0 := by
  obtain ⟨a, b, c, d, _⟩ := chkOp_len h
  have hk : k.toNat ≠ 3 := fun e => h3 (UInt8.toNat_inj.1 (by rw [e]; rfl))
  have hc : chk l.length (s : Int) (k.toNat : Int) = 0 := by
    unfold chk
    split <;> omega
  unfold noHt at hh1
  have hh2 := of_decide_eq_false hh1
  unfold chkSk
  simp only
  rw [hc, if_pos rfl, if_pos (by omega), if_neg (by omega)]

theorem htI_no {hs : List Int} {n i : Nat} (h : (hs.take n).any noHt = false) (hi : i < n) : noHt (htI hs i) = false := by
  unfold htI
  by_cases h1 : i < hs.length
  · rw [if_pos h1]
    have h2 : hs[i] ∈ hs.take n := by
      rw [List.mem_take_iff_getElem]
      exact ⟨i, by omega, rfl⟩
    have h3 := List.any_eq_false.1 h _ h2
    simp only [List.getD_eq_getElem?_getD, List.getElem?_eq_getElem h1, Option.getD_some]
    simpa using h3
  · rw [if_neg h1]; rfl

theorem anyE_low {es : List EnB} {e : EnB} (h : ∀ x ∈ es, x.2.1 < e.2.1) : anyE es e = false := by
  unfold anyE
  rw [List.any_eq_false]
  intro x hx h9
  unfold sameE at h9
  have := of_decide_eq_true h9
  have := h x hx
  omega

end Go.Proofs.Ythcoblmfmbmdkaa

/- (*memo.Memo).write. -/
namespace Go.Proofs.Ythcoblmfmbmdkaa
set_option maxRecDepth 100000
open Go.RowKit
set_option linter.unusedVariables false
set_option linter.unusedSimpArgs false

set_option maxHeartbeats 2000000 in
theorem mwrite_span (G : Nat → Prop) (w : World) (m l t : Nat) (ts : List Tow) (ss : List SpB) (last : Int) (x y : Value) (kl vl : List UInt8) (s : Nat) (hh : Int) (h : MemA G w m l t ts ss last) (hx : Rd w x kl) (hy : Rd w y vl) (hn : ss.length ≤ 100000) (hc : chkSp kl vl (s : Int) = 0) :
    Calls Try.prog 54 #[.pointer (some ⟨m, 0, none⟩), .agg #[.int .u8 3, x, y], .int .u64 (s : Int), .int .i64 hh] w fun e w' => e = .returned (.tuple #[]) ∧ ∃ G' : Nat → Prop, MemA G' w' m l t ts (ss ++ [(kl, vl, s)]) (s : Int) ∧ (∀ q, G' q → G q ∨ w.heap.size ≤ q) ∧ Keeps (fun i => i = m ∨ G i) w w' := by
  obtain ⟨xa, xc, rfl⟩ := hx.len
  obtain ⟨ya, yc, rfl⟩ := hy.len
  obtain ⟨nl, hnl⟩ : ∃ nl, kl.length = nl := ⟨_, rfl⟩
  obtain ⟨ml, hml⟩ : ∃ ml, vl.length = ml := ⟨_, rfl⟩
  rw [hnl] at hx ⊢
  rw [hml] at hy ⊢
  have hb0 := (below_box w #[.int .u8 3, .slice xa nl xc, .slice ya ml yc] 63).drew
  obtain ⟨z0, _, _, _, _, _⟩ := box_new w (.int .u8 3) (.slice xa nl xc) (.slice ya ml yc) 63
  obtain ⟨_, z1, z2, _, _, _⟩ := (box_new w (.int .u8 3) (.slice xa nl xc) (.slice ya ml yc) 63).drew
  have hM := h.below hb0
  have HM : Hid (MemA G (w.alloc (.cells #[.int .u8 3, .slice xa nl xc, .slice ya ml yc] 63)).drew m l t ts ss last) := hM
  have HB : Hid (Below w.heap.size w (w.alloc (.cells #[.int .u8 3, .slice xa nl xc, .slice ya ml yc] 63)).drew) := hb0
  have had := taddG_any _ G t ss (.slice xa nl xc) (.slice ya ml yc) kl vl s 0 hM.st (hx.below hb0 (Nat.le_refl _)) (hy.below hb0 (Nat.le_refl _)) hn hc
  obtain ⟨c0, c1, c2, f0, f1, f2⟩ := hM.bx
  clear hnl hml hx hy hb0 hM h
  go_enter Try.func54, Try.ntmps54
  go_wp2_with fail
  go_region_law
    (first
      | (go_simp
         go_at_call 57
         refine Calls.mono had ?_
         rintro e w2 hp
         obtain ⟨G', hM2, hG'⟩ := HM.out.add hp
         have HK : Hid (Keeps G (w.alloc (.cells #[.int .u8 3, .slice xa nl xc, .slice ya ml yc] 63)).drew w2) := hp.2.1
         obtain ⟨rfl, _⟩ := hp
         have HM2 : Hid (MemA G' w2 m l t ts (ss ++ [(kl, vl, s)]) last) := by have h9 := hM2; rw [if_pos rfl] at h9; exact h9
         have HG' : Hid (∀ q, G' q → G q ∨ w.heap.size ≤ q) := fun q hq => (hG' q hq).imp id (fun h9 => Nat.le_trans HB.out.size h9)
         have k2 := hM2.bx.c2
         have k3 := hM2.bx.f2
         clear hM2 hG')
      | fail)
  all_goals
    go_wp2
    refine bodyPost_end (results_none Try.results54 _ _ _) rfl ?_
    refine ⟨rfl, ?_⟩
    exact ⟨G', HM2.out.put _, HG'.out, (((Below.keeps HB.out _).trans (HK.out.mono (fun i hi => .inr hi))).setCell (p := ⟨m, 2, none⟩) (.inl rfl) _)⟩

end Go.Proofs.Ythcoblmfmbmdkaa

/- (*memo.Memo).write: a version. -/
namespace Go.Proofs.Ythcoblmfmbmdkaa
set_option maxRecDepth 100000
open Go.RowKit
set_option linter.unusedVariables false
set_option linter.unusedSimpArgs false

set_option maxHeartbeats 2000000 in
theorem mwrite_ver (G : Nat → Prop) (w : World) (m l t : Nat) (ts : List Tow) (ss : List SpB) (last : Int) (x y : Value) (kl vl : List UInt8) (s : Nat) (k : UInt8) (hh : Int) (h : MemA G w m l t ts ss last) (hx : Rd w x kl) (hy : Rd w y vl) (hk3 : k ≠ 3) (hl1 : kl.length ≤ 1000000) (hl2 : vl.length ≤ 1000000) (hlen : ts.length + 1 ≤ 4000) (hc : chkSk (kl, s, k, vl) hh = 0) (ha : anyE (esT ts) (kl, s, k, vl) = false) :
    Calls Try.prog 54 #[.pointer (some ⟨m, 0, none⟩), .agg #[.int .u8 (k.toNat : Int), x, y], .int .u64 (s : Int), .int .i64 hh] w fun e w' => e = .returned (.tuple #[]) ∧ ∃ T : Tow, T.e = (kl, s, k, vl) ∧ (T.h : Int) = hh ∧ MemA G w' m l t (insT ts (cntE (esT ts) (kl, s, k, vl)) T) ss (s : Int) ∧ (w.heap.size ≤ T.b ∧ From w.heap.size T.x ∧ From w.heap.size T.y) ∧ Keeps (fun i => i = m ∨ FpK l ts i) w w' := by
  obtain ⟨xa, xc, rfl⟩ := hx.len
  obtain ⟨ya, yc, rfl⟩ := hy.len
  obtain ⟨nl, hnl⟩ : ∃ nl, kl.length = nl := ⟨_, rfl⟩
  obtain ⟨ml, hml⟩ : ∃ ml, vl.length = ml := ⟨_, rfl⟩
  rw [hnl] at hx ⊢
  rw [hml] at hy ⊢
  have hk9 : ¬ (k.toNat : Int) = 3 := fun e9 => hk3 (UInt8.toNat_inj.1 (by have h9 : k.toNat = 3 := (by omega); rw [h9]; rfl))
  obtain ⟨kk, hkk⟩ : ∃ kk, k.toNat = kk := ⟨_, rfl⟩
  have hin0 := fun W => skinsert_own W l ts (.slice xa nl xc) (.slice ya ml yc) (kl, s, k, vl) hh
  simp only at hin0
  rw [hkk] at hk9 hin0 ⊢
  have HBA : Hid (∀ W, Below w.heap.size w W → MemA G W m l t ts ss last ∧ Rd W (.slice xa nl xc) kl ∧ Rd W (.slice ya ml yc) vl) := fun W hb => ⟨h.below hb, hx.below hb (Nat.le_refl _), hy.below hb (Nat.le_refl _)⟩
  have hb0 := below_box w #[.int .u8 (kk : Int), .slice xa nl xc, .slice ya ml yc] 63
  have hb1 := (below_box (w.alloc (.cells #[.int .u8 (kk : Int), .slice xa nl xc, .slice ya ml yc] 63)) #[.slice xa nl xc, .int .u64 (s : Int), .int .u8 (kk : Int)] 42).drew
  have hb2 := bsplit hb0 hb1
  have b0 := box_new w (.int .u8 (kk : Int)) (.slice xa nl xc) (.slice ya ml yc) 63
  have bk := (box_new (w.alloc (.cells #[.int .u8 (kk : Int), .slice xa nl xc, .slice ya ml yc] 63)) (.slice xa nl xc) (.int .u64 (s : Int)) (.int .u8 (kk : Int)) 42).drew
  have hs1 : (w.alloc (.cells #[.int .u8 (kk : Int), .slice xa nl xc, .slice ya ml yc] 63)).heap.size = w.heap.size + 1 := by simp
  rw [hs1] at bk
  have HM : Hid (MemA G ((w.alloc (.cells #[.int .u8 (kk : Int), .slice xa nl xc, .slice ya ml yc] 63)).alloc (.cells #[.slice xa nl xc, .int .u64 (s : Int), .int .u8 (kk : Int)] 42)).drew m l t ts ss last) := (HBA.out _ hb2).1
  have HB : Hid (Below w.heap.size w ((w.alloc (.cells #[.int .u8 (kk : Int), .slice xa nl xc, .slice ya ml yc] 63)).alloc (.cells #[.slice xa nl xc, .int .u64 (s : Int), .int .u8 (kk : Int)] 42)).drew) := hb2
  have had := hin0 _ HM.out.sk (HBA.out _ hb2).2.1 (HBA.out _ hb2).2.2 hl1 hl2 hlen
  have b02 := b0.below hb1 (Nat.le_refl _)
  obtain ⟨_, _, y2, _, _, _⟩ := b02
  obtain ⟨z0, z1, z2, _, _, _⟩ := b0
  obtain ⟨x0, x1, x2, _, _, _⟩ := bk
  obtain ⟨c0, c1, c2, f0, f1, f2⟩ := HM.out.bx
  have HCA : Hid (chkSk (kl, s, k, vl) hh = 0 ∧ anyE (esT ts) (kl, s, k, vl) = false) := ⟨hc, ha⟩
  clear hnl hml hx hy h hkk hb0 hb1 hb2 hs1 hin0 hl1 hl2 hlen hc ha
  go_enter Try.func54, Try.ntmps54
  go_wp2_with fail
  go_region_law
    (first
      | (go_simp
         go_at_call 70
         refine Calls.mono had ?_
         rintro e w2 hp
         rcases hp with ⟨hn9, _⟩ | ⟨_, hn9, _⟩ | ⟨_, _, rfl, T, hTe, hTh, hTb, hS9, hK9⟩
         · exact absurd HCA.out.1 hn9
         · rw [HCA.out.2] at hn9; cases hn9
         have hM2 := HM.out.ins hTb hS9 hK9
         have HM2 : Hid (MemA G w2 m l t (insT ts (cntE (esT ts) (kl, s, k, vl)) T) ss last) := hM2
         have HK : Hid (Keeps (fun i => i = m ∨ FpK l ts i) ((w.alloc (.cells #[.int .u8 (kk : Int), .slice xa nl xc, .slice ya ml yc] 63)).alloc (.cells #[.slice xa nl xc, .int .u64 (s : Int), .int .u8 (kk : Int)] 42)).drew w2) := hK9.mono (fun i ⟨a, ha, e⟩ => .inr (by rw [e]; exact fpK_nb ha))
         have HTT : Hid (T.e = (kl, s, k, vl) ∧ (T.h : Int) = hh ∧ (w.heap.size ≤ T.b ∧ From w.heap.size T.x ∧ From w.heap.size T.y)) := ⟨hTe, hTh, Nat.le_trans HB.out.size hTb.1, fun a n c e => Nat.le_trans HB.out.size (hTb.2.1 a n c e), fun a n c e => Nat.le_trans HB.out.size (hTb.2.2 a n c e)⟩
         have k2 := hM2.bx.c2
         have k3 := hM2.bx.f2
         clear hM2 hS9 hK9 hTe hTh hTb)
      | fail)
  all_goals
    go_wp2
    refine bodyPost_end (results_none Try.results54 _ _ _) rfl ?_
    refine ⟨rfl, T, HTT.out.1, HTT.out.2.1, HM2.out.put _, HTT.out.2.2, (((Below.keeps HB.out _).trans HK.out).setCell (p := ⟨m, 2, none⟩) (.inl rfl) _)⟩

end Go.Proofs.Ythcoblmfmbmdkaa

/- (*memo.Memo).Batch. -/
namespace Go.Proofs.Ythcoblmfmbmdkaa
set_option maxRecDepth 100000
open Go.RowKit
set_option linter.unusedVariables false
set_option linter.unusedSimpArgs false

theorem Keeps.then {F F' : Nat → Prop} {a b c : World} (h : Keeps F a b) (k : Keeps F' b c) (hF : ∀ i, F' i → F i ∨ a.heap.size ≤ i) : Keeps F a c :=
  ⟨k.os.trans h.os, k.tape.trans h.tape, k.output.trans h.output, Nat.le_trans h.size k.size, fun i hi hn => (k.block i (Nat.lt_of_lt_of_le hi h.size) (fun h9 => (hF i h9).elim hn (fun h8 => by omega))).trans (h.block i hi hn)⟩

/-- the blocks of a memo -/
def FpM (G : Nat → Prop) (m l : Nat) (ts : List Tow) (i : Nat) : Prop := i = m ∨ FpK l ts i ∨ G i

/-- what a batch, or a beginning of it, has made of a memo -/
structure BatI (w W : World) (G : Nat → Prop) (m l t : Nat) (ts : List Tow) (ss : List SpB) (last : Int) (os : List OpB) (s : Nat) (G' : Nat → Prop) (ts' : List Tow) : Prop where
  mem : MemA G' W m l t ts' (ss ++ spnO os s) (if os.length = 0 then last else ((s + os.length - 1 : Nat) : Int))
  prm : (esT ts').Perm (esT ts ++ verO os s)
  fp : ∀ q, FpM G' m l ts' q → FpM G m l ts q ∨ w.heap.size ≤ q
  kp : Keeps (FpM G m l ts) w W

theorem BatI.start {w : World} {G : Nat → Prop} {m l t : Nat} {ts : List Tow} {ss : List SpB} {last : Int} (h : MemA G w m l t ts ss last) (s : Nat) : BatI w w G m l t ts ss last [] s G ts :=
  ⟨by simpa [spnO] using h, by simp [verO], fun q hq => .inl hq, Keeps.refl _ _⟩

theorem BatI.below {w W W' : World} {G G' : Nat → Prop} {m l t s : Nat} {ts ts' : List Tow} {ss : List SpB} {last : Int} {os : List OpB} (h : BatI w W G m l t ts ss last os s G' ts') (hb : Below W.heap.size W W') : BatI w W' G m l t ts ss last os s G' ts' :=
  ⟨h.mem.below hb, h.prm, h.fp, h.kp.then (Below.keeps hb (fun _ => False)) (fun i hi => hi.elim)⟩

theorem BatI.span {w W W' : World} {G G' G2 : Nat → Prop} {m l t s : Nat} {ts ts' : List Tow} {ss : List SpB} {last : Int} {os : List OpB} {o : OpB} (h : BatI w W G m l t ts ss last os s G' ts') (h3 : o.1 = 3)
    (hM : MemA G2 W' m l t ts' ((ss ++ spnO os s) ++ [(o.2.1, o.2.2, s + os.length)]) ((s + os.length : Nat) : Int)) (hG : ∀ q, G2 q → G' q ∨ W.heap.size ≤ q) (hk : Keeps (fun i => i = m ∨ G' i) W W') : BatI w W' G m l t ts ss last (os ++ [o]) s G2 ts' := by
  refine ⟨?_, ?_, fun q hq => ?_, h.kp.then hk (fun i hi => ?_)⟩
  · rw [spnO_snoc, if_pos h3, ← List.append_assoc, if_neg (by simp)]
    have e : s + (os ++ [o]).length - 1 = s + os.length := by simp
    rw [e]
    exact hM
  · rw [verO_snoc, if_pos h3, List.append_nil]; exact h.prm
  · rcases hq with hq | hq | hq
    · exact .inl (.inl hq)
    · exact h.fp q (.inr (.inl hq))
    · rcases hG q hq with hq | hq
      · exact h.fp q (.inr (.inr hq))
      · exact .inr (Nat.le_trans h.kp.size hq)
  · rcases hi with hi | hi
    · exact .inl (.inl hi)
    · exact h.fp i (.inr (.inr hi))

theorem BatI.ver {w W W' : World} {G G' : Nat → Prop} {m l t s c : Nat} {ts ts' : List Tow} {ss : List SpB} {last : Int} {os : List OpB} {o : OpB} {T : Tow} (h : BatI w W G m l t ts ss last os s G' ts') (h3 : o.1 ≠ 3) (hT : T.e = (o.2.1, s + os.length, o.1, o.2.2))
    (hM : MemA G' W' m l t (insT ts' c T) (ss ++ spnO os s) ((s + os.length : Nat) : Int)) (hB : W.heap.size ≤ T.b ∧ From W.heap.size T.x ∧ From W.heap.size T.y) (hk : Keeps (fun i => i = m ∨ FpK l ts' i) W W') : BatI w W' G m l t ts ss last (os ++ [o]) s G' (insT ts' c T) := by
  refine ⟨?_, ?_, fun q hq => ?_, h.kp.then hk (fun i hi => ?_)⟩
  · rw [spnO_snoc, if_neg h3, List.append_nil, if_neg (by simp)]
    have e : s + (os ++ [o]).length - 1 = s + os.length := by simp
    rw [e]
    exact hM
  · rw [verO_snoc, if_neg h3, ← List.append_assoc, ← hT]
    exact (insT_perm ts' c T).trans ((List.Perm.cons _ h.prm).trans (List.perm_append_singleton _ _).symm)
  · rcases hq with hq | hq | hq
    · exact .inl (.inl hq)
    · rcases fpK_ins hB hq with h9 | h9
      · exact h.fp q (.inr (.inl h9))
      · exact .inr (Nat.le_trans h.kp.size h9)
    · exact h.fp q (.inr (.inr hq))
  · rcases hi with hi | hi
    · exact .inl (.inl hi)
    · exact h.fp i (.inr (.inl hi))

theorem BatI.low {w W : World} {G G' : Nat → Prop} {m l t s : Nat} {ts ts' : List Tow} {ss : List SpB} {last : Int} {os : List OpB} (h : BatI w W G m l t ts ss last os s G' ts') (hl : ∀ e ∈ esT ts, (e.2.1 : Int) ≤ last) (hs : last < (s : Int)) : ∀ x ∈ esT ts', x.2.1 < s + os.length := by
  intro x hx
  rcases List.mem_append.1 (h.prm.mem_iff.1 hx) with h9 | h9
  · have := hl x h9; omega
  · exact (verO_seq h9).2

theorem BatI.count {w W : World} {G G' : Nat → Prop} {m l t s : Nat} {ts ts' : List Tow} {ss : List SpB} {last : Int} {os : List OpB} (h : BatI w W G m l t ts ss last os s G' ts') : ts'.length ≤ ts.length + os.length := by
  have h1 := h.prm.length_eq
  rw [List.length_append, esT_len, esT_len] at h1
  have h2 := verO_len os s
  omega

/-- what Batch leaves -/
def BatPost (G : Nat → Prop) (w : World) (m l t : Nat) (ts : List Tow) (ss : List SpB) (last : Int) (os : List OpB) (s : Nat) (c : Int) (e : Ending) (w' : World) : Prop :=
  e = .returned (.int .i64 c) ∧ (c ≠ 0 → Below w.heap.size w w') ∧ (c = 0 → ∃ (G' : Nat → Prop) (ts' : List Tow), BatI w w' G m l t ts ss last os s G' ts')

set_option maxHeartbeats 2000000 in
theorem mbatch_any (G : Nat → Prop) (w : World) (m l t : Nat) (ts : List Tow) (ss : List SpB) (last : Int) (v : Value) (os : List OpB) (s : Nat) (a : Option Addr) (n cap : Nat) (hs : List Int) (h : MemA G w m l t ts ss last)
    (hv : ∀ W, Keeps (FpM G m l ts) w W → RdO W v os) (hh : ∀ W, Keeps (FpM G m l ts) w W → RdI W a n hs) (ha : (a = none ∧ cap = 0) ∨ ∃ b off, a = some ⟨b, off, none⟩) (hnc : n ≤ cap) (hn : n ≤ 1000000) (hlen : chkL os = 0 → ts.length + os.length ≤ 4000) (hss : ss.length ≤ 10000) (hlast : ∀ e ∈ esT ts, (e.2.1 : Int) ≤ last) (hs64 : s < 18446744073709551616) :
    Calls Try.prog 29 #[.pointer (some ⟨m, 0, none⟩), v, .int .u64 (s : Int), .slice a n cap] w (BatPost G w m l t ts ss last os s (batC os (s : Int) hs last)) := by
  have he := eqMm m
  obtain ⟨c, hc⟩ : ∃ c, batC os (s : Int) hs last = c := ⟨_, rfl⟩
  rw [hc]
  have HC : Hid (batC os (s : Int) hs last = c) := hc
  have HV : Hid (∀ W, Keeps (FpM G m l ts) w W → RdO W v os) := hv
  have HH : Hid (∀ W, Keeps (FpM G m l ts) w W → RdI W a n hs) := hh
  have HM : Hid (MemA G w m l t ts ss last) := h
  have HL : Hid ((chkL os = 0 → ts.length + os.length ≤ 4000) ∧ ss.length ≤ 10000 ∧ (∀ e ∈ esT ts, (e.2.1 : Int) ≤ last)) := ⟨hlen, hss, hlast⟩
  have hr0 := hv w (Keeps.refl _ _)
  obtain ⟨k, hk⟩ : ∃ k, chkL os = k := ⟨_, rfl⟩
  have hck := bcheck_any w v os k hr0 hk
  have HK : Hid (chkL os = k) := hk
  obtain ⟨ao, co, rfl, ho1, ho2, _⟩ := hr0
  obtain ⟨N, hN⟩ : ∃ N, os.length = N := ⟨_, rfl⟩
  have HN : Hid (os.length = N) := hN
  rw [hN] at hck ho1 HV ⊢
  unfold maxLen at ho2
  clear hc hv hh h hlen hss hlast hk hN
  go_enter Try.func29, Try.ntmps29
  go_wp2_with fail
  refine hck.mono ?_
  rintro e w1 ⟨rfl, hb1⟩
  clear hck
  have HB1 : Hid (Below w.heap.size w w1) := hb1
  by_cases hk0 : k = 0
  · subst hk0
    have hN64 : N ≤ 64 := by have := (chkL_mem HK.out).1; rw [HN.out] at this; exact this
    have hhn := hasnum_any w1 (s : Int) (N : Int) (by omega) (by omega) (by omega)
    obtain ⟨r, hr⟩ : ∃ r, hasN (s : Int) (N : Int) = r := ⟨_, rfl⟩
    rw [hr] at hhn
    have HR : Hid (hasN (s : Int) (N : Int) = r) := hr
    have HW1 : Hid (MemA G w1 m l t ts ss last) := HM.out.below hb1
    obtain ⟨c0, c1, c2, _, _, _⟩ := (HM.out.below hb1).bx
    clear hr hb1
    go_wp2_with fail
    refine hhn.mono ?_
    rintro e w2 ⟨rfl, rfl⟩
    clear hhn
    cases r
    · go_wp2
      go_ret
      have hc13 : c = 13 := by rw [← HC.out]; unfold batC; rw [HN.out, HR.out, if_pos HK.out]; rfl
      refine ⟨ret_int hc13.symm, fun _ => HB1.out, fun h0 => ?_⟩
      rw [hc13] at h0; cases h0
    · obtain ⟨M, hM⟩ : ∃ M, min n N = M := ⟨_, rfl⟩
      have hM2 : M ≤ n ∧ M ≤ N ∧ M ≤ cap := by omega
      have hri : RdI w2 a M (hs.take N) := by
        obtain ⟨h1, h2⟩ := (HH.out w (Keeps.refl _ _)).below HB1.out
        refine ⟨by rw [List.length_take, h1, ← hM]; omega, fun j hj => ?_⟩
        obtain ⟨b, off, e, h3⟩ := h2 j (by omega)
        refine ⟨b, off, e, ?_⟩
        rw [h3]
        have : (hs.take N).getD j 0 = hs.getD j 0 := by
          rw [List.getD_eq_getElem?_getD, List.getD_eq_getElem?_getD, List.getElem?_take_of_lt (by omega)]
        rw [this]
      have hcn := mcont_any w2 a M cap (hs.take N) hri (by omega) hM2.2.2
      obtain ⟨r, hr⟩ : ∃ r, (hs.take N).any noHt = r := ⟨_, rfl⟩
      rw [hr] at hcn
      have HR2 : Hid ((hs.take N).any noHt = r) := hr
      have HM3 : Hid (min n N = M) := hM
      clear hr hri hM
      have hsl : min (n : Int) (N : Int) = (M : Int) := by rw [← HM3.out]; omega
      have HT : Hid (∀ W, Keeps (FpM G m l ts) w W → ∀ j : Nat, j ≤ 1000000 → Calls Try.prog 55 #[.slice a n cap, .int .i64 (j : Int)] W fun e w' => e = .returned (.int .i64 (htI hs j)) ∧ w' = W) := fun W hW j hj => heightOf_any W a n cap j hs (HH.out W hW) hn hnc hj
      have HCC : Hid (c = if r = true then 1 else if (s : Int) ≤ last then 10 else 0) := by
        show _ = _
        rw [← HC.out]
        unfold batC
        rw [if_pos HK.out, HN.out, if_pos HR.out, HR2.out]
      have HS1 : Hid (1 ≤ (s : Int) ∧ (s : Int) + ((N : Int) - 1) ≤ 72057594037927935 ∧ (s : Int) ≤ 72057594037927935) := by
        have h9 := HR.out
        unfold hasN at h9
        have h8 := of_decide_eq_true h9
        exact ⟨h8.1, by omega, h8.2.1⟩
      clear HH HC HR
      rcases ha with ⟨rfl, rfl⟩ | ⟨b0, off0, rfl⟩
      · have hM0 : M = 0 := by omega
        subst hM0
        go_wp2_with fail
        refine hcn.mono ?_
        rintro e w3 ⟨rfl, rfl⟩
        clear hcn
        cases r
        · by_cases hle : (s : Int) ≤ last
          · go_wp2
            go_ret
            have hc1 : c = 10 := by rw [HCC.out, if_neg (by simp), if_pos hle]
            refine ⟨ret_int hc1.symm, fun _ => HB1.out, fun h0 => ?_⟩
            rw [hc1] at h0; cases h0
          · have HC0 : Hid (c = 0) := by show _ = _; rw [HCC.out, if_neg (by simp), if_neg hle]
            have HLE : Hid (last < (s : Int)) := by show _ < _; omega
            go_wp2_with fail
            go_loopg [43] N (fun gk iv wr => ∃ j : Nat, gk + j = N ∧ iv = .int .i64 (j : Int) ∧ Hid (∃ (G' : Nat → Prop) (ts' : List Tow), BatI w wr G m l t ts ss last (os.take j) s G' ts'))
            case atStart => exact ⟨0, by omega, rfl, ⟨G, ts, (BatI.start HM.out s).below HB1.out⟩⟩
            case round =>
              obtain ⟨j, hj, rfl, HI⟩ := hrel
              by_cases hlt : j < N
              · have hlt2 : j < os.length := by rw [HN.out]; exact hlt
                obtain ⟨q1, q2⟩ := gk_nxt hj hlt
                obtain ⟨G', ts', hI⟩ := HI.out
                obtain ⟨_, _, e9, _, _, h3⟩ := HV.out wr hI.kp
                rw [HN.out] at e9
                cases e9
                obtain ⟨b, off, rfl, xv, yv, d0, d1, d2, rx, ry⟩ := h3 j hlt2
                obtain ⟨x1, x2, ex⟩ := rx.len
                obtain ⟨y1, y2, ey⟩ := ry.len
                subst ex ey
                have hcko := (chkL_mem HK.out).2 _ (List.getElem_mem hlt2)
                have htk : os.take (j + 1) = os.take j ++ [os[j]] := List.take_succ_eq_append_getElem hlt2
                have hjl : (os.take j).length = j := by rw [List.length_take]; omega
                obtain ⟨⟨ok, ol, om⟩, ho⟩ : ∃ o, os[j] = o := ⟨_, rfl⟩
                rw [ho] at d0 d1 d2 rx ry hcko htk
                simp only at d0 d1 d2 rx ry hcko
                obtain ⟨z, hz⟩ : ∃ z : Int, ((s + j : Nat) : Int) = z := ⟨_, rfl⟩
                have w1 : IntKind.u64.wrap (j : Int) = (j : Int) := by rw [IntKind.wrap_u64]; omega
                have hS1 := HS1.out
                have w2 : IntKind.u64.wrap ((s : Int) + (j : Int)) = z := by rw [← hz, IntKind.wrap_u64]; omega
                obtain ⟨hh, hhh⟩ : ∃ hh, htI hs j = hh := ⟨_, rfl⟩
                have hno : noHt hh = false := by rw [← hhh]; exact htI_no HR2.out hlt
                obtain ⟨nl, hnl⟩ : ∃ nl, ol.length = nl := ⟨_, rfl⟩
                obtain ⟨ml, hml⟩ : ∃ ml, om.length = ml := ⟨_, rfl⟩
                have hol := chkOp_len hcko
                obtain ⟨kk, hkk⟩ : ∃ kk : Int, (ok.toNat : Int) = kk := ⟨_, rfl⟩
                rw [hkk] at d0
                rw [hnl] at d1 rx
                rw [hml] at d2 ry
                have hb0 := (below_box wr #[.int .u8 kk, .slice x1 nl x2, .slice y1 ml y2] 63).drew
                have hI2 := hI.below hb0
                have hht := HT.out _ hI2.kp j (by omega)
                rw [hhh] at hht
                have hcnt := hI2.count
                rw [hjl] at hcnt
                have hl4 := HL.out.1 HK.out
                have hlo := hI2.low HL.out.2.2 HLE.out
                rw [hjl] at hlo
                have rx2 := rx.below hb0 (Nat.le_refl _)
                have ry2 := ry.below hb0 (Nat.le_refl _)
                obtain ⟨z1, z2, z3, _, _, _⟩ := box_new wr (.int .u8 kk) (.slice x1 nl x2) (.slice y1 ml y2) 63
                obtain ⟨z4, z5, z6, _, _, _⟩ := (box_new wr (.int .u8 kk) (.slice x1 nl x2) (.slice y1 ml y2) 63).drew
                have hwr : Calls Try.prog 54 #[.pointer (some ⟨m, 0, none⟩), .agg #[.int .u8 kk, .slice x1 nl x2, .slice y1 ml y2], .int .u64 z, .int .i64 hh] (wr.alloc (.cells #[.int .u8 kk, .slice x1 nl x2, .slice y1 ml y2] 63)).drew fun e w' => e = .returned (.tuple #[]) ∧ ∃ (G' : Nat → Prop) (ts' : List Tow), BatI w w' G m l t ts ss last (os.take (j + 1)) s G' ts' := by
                  rw [htk]
                  by_cases h3k : ok = 3
                  · have hk9 : kk = 3 := by rw [← hkk, h3k]; rfl
                    subst hk9
                    have hsp := hcko
                    rw [hkk] at hsp
                    have h9 := mwrite_span G' _ m l t ts' (ss ++ spnO (os.take j) s) _ (.slice x1 nl x2) (.slice y1 ml y2) ol om (s + j) hh hI2.mem rx2 ry2 (by have := verO_len (os.take j) s; have := HL.out.2.1; rw [List.length_append]; omega) (chkSp_of hsp (by omega) (by omega))
                    rw [hz] at h9
                    refine h9.mono ?_
                    rintro e w' ⟨he, G2, hM2, hG2, hk2⟩
                    refine ⟨he, G2, ts', hI2.span h3k ?_ hG2 hk2⟩
                    rw [hjl, hz]
                    exact hM2
                  · have h9 := mwrite_ver G' _ m l t ts' (ss ++ spnO (os.take j) s) _ (.slice x1 nl x2) (.slice y1 ml y2) ol om (s + j) ok hh hI2.mem rx2 ry2 h3k (by omega) (by omega) (by rw [HN.out] at hl4; omega) (chkSk_of hcko h3k (by omega) (by omega) hno) (anyE_low hlo)
                    rw [hz, hkk] at h9
                    refine h9.mono ?_
                    rintro e w' ⟨he, T, hTe, hTh, hM2, hB2, hk2⟩
                    refine ⟨he, G', insT ts' (cntE (esT ts') (ol, s + j, ok, om)) T, hI2.ver (c := cntE (esT ts') (ol, s + j, ok, om)) h3k (by rw [hjl]; exact hTe) ?_ hB2 hk2⟩
                    rw [hjl, hz]
                    exact hM2
                clear h3 rx ry rx2 ry2 hI hI2 hcnt hl4 hlo hol hcko htk hjl ho hz hS1 hhh hno hnl hml hkk hb0 HI
                go_wp2_with fail
                go_region_law
                  (first
                    | (go_simp
                       go_at_call 55
                       refine Calls.mono hht ?_
                       rintro e w5 ⟨rfl, rfl⟩
                       clear hht)
                    | (go_simp
                       go_at_call 54
                       refine Calls.mono hwr ?_
                       rintro e w5 ⟨rfl, hp⟩
                       have HP : Hid (∃ (G' : Nat → Prop) (ts' : List Tow), BatI w w5 G m l t ts ss last (os.take (j + 1)) s G' ts') := hp
                       clear hwr hp)
                    | fail)
                all_goals
                  go_wp2
                  go_roundg (gk - 1)
                  case measure => exact q1
                  case rel => exact ⟨j + 1, q2, by go_num, HP⟩
              · have hjN : j = N := by omega
                subst hjN
                go_wp2
                go_ret
                obtain ⟨G', ts', hI⟩ := HI.out
                have h9 : os.take j = os := by rw [← HN.out, List.take_length]
                rw [h9] at hI
                exact ⟨ret_int HC0.out.symm, fun h0 => absurd HC0.out h0, fun _ => ⟨G', ts', hI⟩⟩
        · go_wp2
          go_ret
          have hc1 : c = 1 := by rw [HCC.out]; rfl
          refine ⟨ret_int hc1.symm, fun _ => HB1.out, fun h0 => ?_⟩
          rw [hc1] at h0; cases h0
      · go_wp2_with fail
        refine hcn.mono ?_
        rintro e w3 ⟨rfl, rfl⟩
        clear hcn
        cases r
        · by_cases hle : (s : Int) ≤ last
          · go_wp2
            go_ret
            have hc1 : c = 10 := by rw [HCC.out, if_neg (by simp), if_pos hle]
            refine ⟨ret_int hc1.symm, fun _ => HB1.out, fun h0 => ?_⟩
            rw [hc1] at h0; cases h0
          · have HC0 : Hid (c = 0) := by show _ = _; rw [HCC.out, if_neg (by simp), if_neg hle]
            have HLE : Hid (last < (s : Int)) := by show _ < _; omega
            go_wp2_with fail
            go_loopg [43] N (fun gk iv wr => ∃ j : Nat, gk + j = N ∧ iv = .int .i64 (j : Int) ∧ Hid (∃ (G' : Nat → Prop) (ts' : List Tow), BatI w wr G m l t ts ss last (os.take j) s G' ts'))
            case atStart => exact ⟨0, by omega, rfl, ⟨G, ts, (BatI.start HM.out s).below HB1.out⟩⟩
            case round =>
              obtain ⟨j, hj, rfl, HI⟩ := hrel
              by_cases hlt : j < N
              · have hlt2 : j < os.length := by rw [HN.out]; exact hlt
                obtain ⟨q1, q2⟩ := gk_nxt hj hlt
                obtain ⟨G', ts', hI⟩ := HI.out
                obtain ⟨_, _, e9, _, _, h3⟩ := HV.out wr hI.kp
                rw [HN.out] at e9
                cases e9
                obtain ⟨b, off, rfl, xv, yv, d0, d1, d2, rx, ry⟩ := h3 j hlt2
                obtain ⟨x1, x2, ex⟩ := rx.len
                obtain ⟨y1, y2, ey⟩ := ry.len
                subst ex ey
                have hcko := (chkL_mem HK.out).2 _ (List.getElem_mem hlt2)
                have htk : os.take (j + 1) = os.take j ++ [os[j]] := List.take_succ_eq_append_getElem hlt2
                have hjl : (os.take j).length = j := by rw [List.length_take]; omega
                obtain ⟨⟨ok, ol, om⟩, ho⟩ : ∃ o, os[j] = o := ⟨_, rfl⟩
                rw [ho] at d0 d1 d2 rx ry hcko htk
                simp only at d0 d1 d2 rx ry hcko
                obtain ⟨z, hz⟩ : ∃ z : Int, ((s + j : Nat) : Int) = z := ⟨_, rfl⟩
                have w1 : IntKind.u64.wrap (j : Int) = (j : Int) := by rw [IntKind.wrap_u64]; omega
                have hS1 := HS1.out
                have w2 : IntKind.u64.wrap ((s : Int) + (j : Int)) = z := by rw [← hz, IntKind.wrap_u64]; omega
                obtain ⟨hh, hhh⟩ : ∃ hh, htI hs j = hh := ⟨_, rfl⟩
                have hno : noHt hh = false := by rw [← hhh]; exact htI_no HR2.out hlt
                obtain ⟨nl, hnl⟩ : ∃ nl, ol.length = nl := ⟨_, rfl⟩
                obtain ⟨ml, hml⟩ : ∃ ml, om.length = ml := ⟨_, rfl⟩
                have hol := chkOp_len hcko
                obtain ⟨kk, hkk⟩ : ∃ kk : Int, (ok.toNat : Int) = kk := ⟨_, rfl⟩
                rw [hkk] at d0
                rw [hnl] at d1 rx
                rw [hml] at d2 ry
                have hb0 := (below_box wr #[.int .u8 kk, .slice x1 nl x2, .slice y1 ml y2] 63).drew
                have hI2 := hI.below hb0
                have hht := HT.out _ hI2.kp j (by omega)
                rw [hhh] at hht
                have hcnt := hI2.count
                rw [hjl] at hcnt
                have hl4 := HL.out.1 HK.out
                have hlo := hI2.low HL.out.2.2 HLE.out
                rw [hjl] at hlo
                have rx2 := rx.below hb0 (Nat.le_refl _)
                have ry2 := ry.below hb0 (Nat.le_refl _)
                obtain ⟨z1, z2, z3, _, _, _⟩ := box_new wr (.int .u8 kk) (.slice x1 nl x2) (.slice y1 ml y2) 63
                obtain ⟨z4, z5, z6, _, _, _⟩ := (box_new wr (.int .u8 kk) (.slice x1 nl x2) (.slice y1 ml y2) 63).drew
                have hwr : Calls Try.prog 54 #[.pointer (some ⟨m, 0, none⟩), .agg #[.int .u8 kk, .slice x1 nl x2, .slice y1 ml y2], .int .u64 z, .int .i64 hh] (wr.alloc (.cells #[.int .u8 kk, .slice x1 nl x2, .slice y1 ml y2] 63)).drew fun e w' => e = .returned (.tuple #[]) ∧ ∃ (G' : Nat → Prop) (ts' : List Tow), BatI w w' G m l t ts ss last (os.take (j + 1)) s G' ts' := by
                  rw [htk]
                  by_cases h3k : ok = 3
                  · have hk9 : kk = 3 := by rw [← hkk, h3k]; rfl
                    subst hk9
                    have hsp := hcko
                    rw [hkk] at hsp
                    have h9 := mwrite_span G' _ m l t ts' (ss ++ spnO (os.take j) s) _ (.slice x1 nl x2) (.slice y1 ml y2) ol om (s + j) hh hI2.mem rx2 ry2 (by have := verO_len (os.take j) s; have := HL.out.2.1; rw [List.length_append]; omega) (chkSp_of hsp (by omega) (by omega))
                    rw [hz] at h9
                    refine h9.mono ?_
                    rintro e w' ⟨he, G2, hM2, hG2, hk2⟩
                    refine ⟨he, G2, ts', hI2.span h3k ?_ hG2 hk2⟩
                    rw [hjl, hz]
                    exact hM2
                  · have h9 := mwrite_ver G' _ m l t ts' (ss ++ spnO (os.take j) s) _ (.slice x1 nl x2) (.slice y1 ml y2) ol om (s + j) ok hh hI2.mem rx2 ry2 h3k (by omega) (by omega) (by rw [HN.out] at hl4; omega) (chkSk_of hcko h3k (by omega) (by omega) hno) (anyE_low hlo)
                    rw [hz, hkk] at h9
                    refine h9.mono ?_
                    rintro e w' ⟨he, T, hTe, hTh, hM2, hB2, hk2⟩
                    refine ⟨he, G', insT ts' (cntE (esT ts') (ol, s + j, ok, om)) T, hI2.ver (c := cntE (esT ts') (ol, s + j, ok, om)) h3k (by rw [hjl]; exact hTe) ?_ hB2 hk2⟩
                    rw [hjl, hz]
                    exact hM2
                clear h3 rx ry rx2 ry2 hI hI2 hcnt hl4 hlo hol hcko htk hjl ho hz hS1 hhh hno hnl hml hkk hb0 HI
                go_wp2_with fail
                go_region_law
                  (first
                    | (go_simp
                       go_at_call 55
                       refine Calls.mono hht ?_
                       rintro e w5 ⟨rfl, rfl⟩
                       clear hht)
                    | (go_simp
                       go_at_call 54
                       refine Calls.mono hwr ?_
                       rintro e w5 ⟨rfl, hp⟩
                       have HP : Hid (∃ (G' : Nat → Prop) (ts' : List Tow), BatI w w5 G m l t ts ss last (os.take (j + 1)) s G' ts') := hp
                       clear hwr hp)
                    | fail)
                all_goals
                  go_wp2
                  go_roundg (gk - 1)
                  case measure => exact q1
                  case rel => exact ⟨j + 1, q2, by go_num, HP⟩
              · have hjN : j = N := by omega
                subst hjN
                go_wp2
                go_ret
                obtain ⟨G', ts', hI⟩ := HI.out
                have h9 : os.take j = os := by rw [← HN.out, List.take_length]
                rw [h9] at hI
                exact ⟨ret_int HC0.out.symm, fun h0 => absurd HC0.out h0, fun _ => ⟨G', ts', hI⟩⟩
        · go_wp2
          go_ret
          have hc1 : c = 1 := by rw [HCC.out]; rfl
          refine ⟨ret_int hc1.symm, fun _ => HB1.out, fun h0 => ?_⟩
          rw [hc1] at h0; cases h0
  · go_wp2
    go_ret
    have hck : c = k := by rw [← HC.out]; unfold batC; rw [HK.out, if_neg hk0]
    refine ⟨ret_int hck.symm, fun _ => HB1.out, fun h0 => ?_⟩
    exact absurd (hck.symm.trans h0) hk0

end Go.Proofs.Ythcoblmfmbmdkaa

/- (*memo.Memo).Do. -/
namespace Go.Proofs.Ythcoblmfmbmdkaa
set_option maxRecDepth 100000
open Go.RowKit
set_option linter.unusedVariables false
set_option linter.unusedSimpArgs false

theorem fpM_lt {G : Nat → Prop} {w : World} {m l t : Nat} {ts : List Tow} {ss : List SpB} {last : Int} (h : MemA G w m l t ts ss last) {q : Nat} (hq : FpM G m l ts q) : q < w.heap.size := by
  rcases hq with rfl | hq | hq
  · exact h.bx.lt
  · exact fpK_lt h.sk hq
  · exact h.st.lt hq

theorem BatI.base {w w1 W : World} {G G' : Nat → Prop} {m l t s : Nat} {ts ts' : List Tow} {ss : List SpB} {last : Int} {os : List OpB} (h : BatI w1 W G m l t ts ss last os s G' ts') (hb : Below w.heap.size w w1) : BatI w W G m l t ts ss last os s G' ts' :=
  ⟨h.mem, h.prm, fun q hq => (h.fp q hq).imp id (fun h9 => Nat.le_trans hb.size h9), (Below.keeps hb (FpM G m l ts)).trans h.kp⟩

theorem BatPost.base {w w1 W : World} {G : Nat → Prop} {m l t s : Nat} {ts : List Tow} {ss : List SpB} {last c : Int} {os : List OpB} {e : Ending} (h : BatPost G w1 m l t ts ss last os s c e W) (hb : Below w.heap.size w w1) : BatPost G w m l t ts ss last os s c e W := by
  obtain ⟨h1, h2, h3⟩ := h
  refine ⟨h1, fun h0 => bsplit hb (h2 h0), fun h0 => ?_⟩
  obtain ⟨G', ts', h4⟩ := h3 h0
  exact ⟨G', ts', h4.base hb⟩

theorem cell_new_m (W : World) (v : Value) (t : TypeId) : (W.alloc (.cells #[v] t)).cell? ⟨W.heap.size, 0, none⟩ = some v ∧ (W.alloc (.cells #[v] t)).frozen? ⟨W.heap.size, 0, none⟩ = false := ⟨(rd_one_cell W v t), frozen_of_row (W.alloc (.cells #[v] t)) W.heap.size 0 _ t (heap_alloc_new W (.cells #[v] t))⟩

set_option maxHeartbeats 1000000 in
theorem mdo_any (G : Nat → Prop) (w : World) (m l t : Nat) (ts : List Tow) (ss : List SpB) (last : Int) (k : UInt8) (x y : Value) (kl vl : List UInt8) (s : Nat) (hh : Int) (h : MemA G w m l t ts ss last)
    (hv : ∀ W, Keeps (FpM G m l ts) w W → Rd W x kl ∧ Rd W y vl) (hlen : ts.length + 1 ≤ 4000) (hss : ss.length ≤ 10000) (hlast : ∀ e ∈ esT ts, (e.2.1 : Int) ≤ last) (hs64 : s < 18446744073709551616) :
    Calls Try.prog 30 #[.pointer (some ⟨m, 0, none⟩), .agg #[.int .u8 (k.toNat : Int), x, y], .int .u64 (s : Int), .int .i64 hh] w (BatPost G w m l t ts ss last [(k, kl, vl)] s (batC [(k, kl, vl)] (s : Int) [hh] last)) := by
  obtain ⟨xa, xc, rfl⟩ := (hv w (Keeps.refl _ _)).1.len
  obtain ⟨ya, yc, rfl⟩ := (hv w (Keeps.refl _ _)).2.len
  obtain ⟨nl, hnl⟩ : ∃ nl, kl.length = nl := ⟨_, rfl⟩
  obtain ⟨ml, hml⟩ : ∃ ml, vl.length = ml := ⟨_, rfl⟩
  obtain ⟨kk, hkk⟩ : ∃ kk : Int, (k.toNat : Int) = kk := ⟨_, rfl⟩
  rw [hnl, hml] at hv ⊢
  have hb1 := below_box w #[.int .u8 kk, .slice xa nl xc, .slice ya ml yc] 63
  have hb2 := bsplit hb1 (below_box (w.alloc (.cells #[.int .u8 kk, .slice xa nl xc, .slice ya ml yc] 63)) #[.int .u8 kk, .slice xa nl xc, .slice ya ml yc] 63)
  have hb23 := below_box ((w.alloc (.cells #[.int .u8 kk, .slice xa nl xc, .slice ya ml yc] 63)).alloc (.cells #[.int .u8 kk, .slice xa nl xc, .slice ya ml yc] 63)) #[.int .i64 hh] 3
  have hb3 := bsplit hb2 hb23
  have hbx := (box_new (w.alloc (.cells #[.int .u8 kk, .slice xa nl xc, .slice ya ml yc] 63)) (.int .u8 kk) (.slice xa nl xc) (.slice ya ml yc) 63).below hb23 (Nat.le_refl _)
  have hs1 : (w.alloc (.cells #[.int .u8 kk, .slice xa nl xc, .slice ya ml yc] 63)).heap.size = w.heap.size + 1 := by simp
  have hs2 : ((w.alloc (.cells #[.int .u8 kk, .slice xa nl xc, .slice ya ml yc] 63)).alloc (.cells #[.int .u8 kk, .slice xa nl xc, .slice ya ml yc] 63)).heap.size = w.heap.size + 1 + 1 := by simp
  rw [hs1] at hbx
  have hci : (((w.alloc (.cells #[.int .u8 kk, .slice xa nl xc, .slice ya ml yc] 63)).alloc (.cells #[.int .u8 kk, .slice xa nl xc, .slice ya ml yc] 63)).alloc (.cells #[.int .i64 hh] 3)).cell? ⟨w.heap.size + 1 + 1, 0, none⟩ = some (.int .i64 hh) := by rw [← hs2]; exact (cell_new_m _ _ _).1
  have hnf : ∀ q, w.heap.size ≤ q → ¬ FpM G m l ts q := fun q hq h9 => by have := fpM_lt h h9; omega
  have hba := mbatch_any G _ m l t ts ss last (.slice (some ⟨w.heap.size + 1, 0, none⟩) 1 1) [(k, kl, vl)] s (some ⟨w.heap.size + 1 + 1, 0, none⟩) 1 1 [hh] (h.below hb3)
    (fun W hW => by
      have hr := hv W ((Below.keeps hb3 (FpM G m l ts)).trans hW)
      refine ⟨_, _, rfl, Nat.le_refl _, by unfold maxLen; simp, fun j hj => ?_⟩
      have hj0 : j = 0 := by simp at hj; exact hj
      subst hj0
      refine ⟨_, _, rfl, .slice xa nl xc, .slice ya ml yc, ?_, ?_, ?_, hr.1, hr.2⟩
      · simp only [List.getElem_cons_zero]
        rw [hkk]
        exact hW.cell (hnf _ (by show _ ≤ w.heap.size + 1; omega)) (by simpa using hbx.c0)
      · exact hW.cell (hnf _ (by show _ ≤ w.heap.size + 1; omega)) (by simpa using hbx.c1)
      · exact hW.cell (hnf _ (by show _ ≤ w.heap.size + 1; omega)) (by simpa using hbx.c2))
    (fun W hW => by
      refine ⟨rfl, fun j hj => ?_⟩
      have hj0 : j = 0 := by omega
      subst hj0
      exact ⟨_, _, rfl, hW.cell (hnf _ (by show _ ≤ w.heap.size + 1 + 1; omega)) (by simpa using hci)⟩)
    (.inr ⟨_, _, rfl⟩) (Nat.le_refl _) (by omega) (fun _ => by simpa using hlen) hss hlast hs64
  have HB : Hid (Below w.heap.size w (((w.alloc (.cells #[.int .u8 kk, .slice xa nl xc, .slice ya ml yc] 63)).alloc (.cells #[.int .u8 kk, .slice xa nl xc, .slice ya ml yc] 63)).alloc (.cells #[.int .i64 hh] 3))) := hb3
  rw [hkk]
  obtain ⟨c, hc⟩ : ∃ c, batC [(k, kl, vl)] (s : Int) [hh] last = c := ⟨_, rfl⟩
  rw [hc] at hba ⊢
  clear hc hv hnl hml hkk hb1 hb2 hb23 hb3 hbx hs1 hs2 hci hnf h hlen hss hlast
  go_enter Try.func30, Try.ntmps30
  go_wp2_with fail
  refine hba.mono ?_
  rintro e W hp
  have HP : Hid (BatPost G w m l t ts ss last [(k, kl, vl)] s c e W) := hp.base HB.out
  obtain ⟨rfl, _⟩ := hp
  clear hba
  go_wp2
  go_ret
  exact HP.out

end Go.Proofs.Ythcoblmfmbmdkaa

/- skip.apart and (*skip.List).From: what they hand out is the caller's own. -/
namespace Go.Proofs.Ythcoblmfmbmdkaa
open Go.RowKit Go.Shelf
set_option linter.unusedVariables false

theorem ownN_st {B : Nat} {w : World} {v : Value} {l : List UInt8} (h : OwnN B w v l) (p : Addr) (hp : p.block < B) (u : Value) : OwnN B (w.setCell p u) v l := by
  rcases h with h | h
  · exact .inl h
  · obtain ⟨g, k, e⟩ := h.shape
    subst e
    exact .inr (h.other p (by have := h.lt.1; omega) u)

theorem ownN_st3 {B : Nat} {w : World} {v : Value} {l : List UInt8} (h : OwnN B w v l) {b : Nat} (hb : b < B) (u0 u1 u2 : Value) : OwnN B (((w.setCell ⟨b, 0, none⟩ u0).setCell ⟨b, 1, none⟩ u1).setCell ⟨b, 2, none⟩ u2) v l :=
  ownN_st (ownN_st (ownN_st h ⟨b, 0, none⟩ hb u0) ⟨b, 1, none⟩ hb u1) ⟨b, 2, none⟩ hb u2

theorem ownN_st4 {B : Nat} {w : World} {v : Value} {l : List UInt8} (h : OwnN B w v l) {b : Nat} (hb : b < B) (u0 u1 u2 u3 : Value) : OwnN B ((((w.setCell ⟨b, 0, none⟩ u0).setCell ⟨b, 1, none⟩ u1).setCell ⟨b, 2, none⟩ u2).setCell ⟨b, 3, none⟩ u3) v l :=
  ownN_st (ownN_st3 h hb u0 u1 u2) ⟨b, 3, none⟩ hb u3

theorem clone_keepO {W w2 : World} {o : Obj} {x : Value} {l : List UInt8} (h : OwnN (W.alloc o).drew.heap.size w2 x l) (u0 u1 u2 : Value) : Rd (((w2.setCell ⟨W.heap.size, 0, none⟩ u0).setCell ⟨W.heap.size, 1, none⟩ u1).setCell ⟨W.heap.size, 2, none⟩ u2) x l ∧ OwnN W.heap.size (((w2.setCell ⟨W.heap.size, 0, none⟩ u0).setCell ⟨W.heap.size, 1, none⟩ u1).setCell ⟨W.heap.size, 2, none⟩ u2) x l ∧ LtB (((w2.setCell ⟨W.heap.size, 0, none⟩ u0).setCell ⟨W.heap.size, 1, none⟩ u1).setCell ⟨W.heap.size, 2, none⟩ u2) x := by
  have hs : (W.alloc o).drew.heap.size = W.heap.size + 1 := by simp
  rw [hs] at h
  have h3 := ownN_st3 h (Nat.lt_succ_self _) u0 u1 u2
  exact ⟨h3.rd, h3.mono (Nat.le_succ _), ltB_ownN h3⟩

set_option maxHeartbeats 4000000 in
theorem skapart_own (w : World) (xv yv : Value) (l m : List UInt8) (s k : Int) (hx : Rd w xv l) (hy : Rd w yv m) (hl : l.length ≤ 1000000) (hm : m.length ≤ 1000000) :
    Calls Try.prog 61 #[enV xv s k yv] w fun e w' => ∃ x y, e = .returned (enV x s k y) ∧ (Rd w' x l ∧ OwnN (w.heap.size + 2) w' x l) ∧ (Rd w' y m ∧ OwnN (w.heap.size + 2) w' y m) ∧ (LtB w' x ∧ LtB w' y) ∧ Below w.heap.size w w' := by
  obtain ⟨xa, xc, rfl⟩ := hx.len
  obtain ⟨ya, yc, rfl⟩ := hy.len
  obtain ⟨nl, hnl⟩ : ∃ z, l.length = z := ⟨_, rfl⟩
  obtain ⟨ml, hml⟩ : ∃ z, m.length = z := ⟨_, rfl⟩
  have HNL : Hid (l.length = nl ∧ m.length = ml ∧ nl ≤ 1000000 ∧ ml ≤ 1000000) := ⟨hnl, hml, by omega, by omega⟩
  rw [hnl] at hx ⊢
  rw [hml] at hy ⊢
  have hb0 := below_box4 w (.cells #[.slice xa nl xc, .int .u64 s, .int .u8 k, .slice ya ml yc] 44)
  have hb1 := below_box4 (w.alloc (.cells #[.slice xa nl xc, .int .u64 s, .int .u8 k, .slice ya ml yc] 44)) (.cells #[.slice none 0 0, .int .u64 0, .int .u8 0, .slice none 0 0] 44)
  have s1 : (w.alloc (.cells #[.slice xa nl xc, .int .u64 s, .int .u8 k, .slice ya ml yc] 44)).heap.size = w.heap.size + 1 := by simp
  have s2 : ((w.alloc (.cells #[.slice xa nl xc, .int .u64 s, .int .u8 k, .slice ya ml yc] 44)).alloc (.cells #[.slice none 0 0, .int .u64 0, .int .u8 0, .slice none 0 0] 44)).heap.size = w.heap.size + 2 := by simp
  have BE := (box4_new w (.slice xa nl xc) (.int .u64 s) (.int .u8 k) (.slice ya ml yc) 44).below hb1 (Nat.le_refl _)
  have BR := box4f_new (w.alloc (.cells #[.slice xa nl xc, .int .u64 s, .int .u8 k, .slice ya ml yc] 44)) (.slice none 0 0) (.int .u64 0) (.int .u8 0) (.slice none 0 0) 44
  rw [s1] at BR
  obtain ⟨W, hW⟩ : ∃ W, (w.alloc (.cells #[.slice xa nl xc, .int .u64 s, .int .u8 k, .slice ya ml yc] 44)).alloc (.cells #[.slice none 0 0, .int .u64 0, .int .u8 0, .slice none 0 0] 44) = W := ⟨_, rfl⟩
  have hBW := bsplit hb0 hb1
  rw [hW] at BE BR hBW s2
  have HBW : Hid (Below w.heap.size w W) := hBW
  have HSZ : Hid (W.heap.size = w.heap.size + 2) := s2
  have HX : Hid (∀ V, Below W.heap.size W V → Arg V (.slice xa nl xc) l) := fun V hV => ((hx.below hBW (Nat.le_refl _)).below hV (Nat.le_refl _)).arg
  have HY : Hid (∀ V, Below W.heap.size W V → Arg V (.slice ya ml yc) m) := fun V hV => ((hy.below hBW (Nat.le_refl _)).below hV (Nat.le_refl _)).arg
  have pW0 : Below W.heap.size W W.drew := (Below.refl _ _).drew
  have pW1 : Below W.heap.size W (W.alloc (.cells #[.slice none 0 0, .int .u64 0, .int .u8 0] 42)).drew := (below_box4 W _).drew
  have BK1 := (box_new W (.slice none 0 0) (.int .u64 0) (.int .u8 0) 42).drew
  have BE0 := BE.below pW0 (Nat.le_refl _)
  have BE1 := BE.below pW1 (Nat.le_refl _)
  clear hx hy hl hm hnl hml hb0 hb1 s1 s2 hBW
  go_enter Try.func61, Try.ntmps61
  go_upto_region 1 with fail
  clear hW
  go_cut [3] (fun kv wx => ∃ (bk : Nat) (xa2 : Option Addr) (xc2 : Nat), kv = .pointer (some ⟨bk, 0, none⟩) ∧ W.heap.size ≤ bk ∧ Hid (Box wx bk (.slice xa2 nl xc2) (.int .u64 s) (.int .u8 k)) ∧ Hid (Rd wx (.slice xa2 nl xc2) l ∧ OwnN W.heap.size wx (.slice xa2 nl xc2) l ∧ LtB wx (.slice xa2 nl xc2)) ∧ Hid (Below W.heap.size W wx))
  case first =>
    go_region_held3 (fun w' => w'.cell? ⟨w.heap.size, 0, none⟩ = some (.slice xa nl xc) ∧ w'.cell? ⟨w.heap.size, 1, none⟩ = some (.int .u64 s) ∧ w'.cell? ⟨w.heap.size, 2, none⟩ = some (.int .u8 k))
      (first | with_reducible exact ⟨BE4.c0, BE4.c1, BE4.c2⟩ | with_reducible exact ⟨BE3.c0, BE3.c1, BE3.c2⟩ | with_reducible exact ⟨BE2s.c0, BE2s.c1, BE2s.c2⟩ | with_reducible exact ⟨BE2.c0, BE2.c1, BE2.c2⟩ | with_reducible exact ⟨BE1.c0, BE1.c1, BE1.c2⟩ | exact ⟨BE0.c0, BE0.c1, BE0.c2⟩)
      (first
        | (go_at_call 74
           refine (clone_any _ _ l (by first | with_reducible exact HX.out _ pW0 | with_reducible exact HX.out _ pW1) (by have := HNL.out; omega)).mono ?_
           rintro e w2 ⟨x2, rfl, o2, hb2⟩
           obtain ⟨xa2, xc2, ex2⟩ := o2.rd.len
           rw [HNL.out.1] at ex2
           subst ex2
           have HB2 : Hid (Below W.heap.size W w2) := by first | exact bsplit pW0 hb2 | exact bsplit pW1 hb2
           have BE2 := BE.below HB2.out (Nat.le_refl _)
           have BE4 := BE2.below (below_box4 w2 (.cells #[.slice none 0 0, .int .u64 0, .int .u8 0] 42)) (Nat.le_refl _)
           have BE3 := BE2.below (below_box4 w2 (.cells #[.slice xa2 nl xc2, .int .u64 s, .int .u8 k] 42)) (Nat.le_refl _)
           have BE2s : Box4 (((w2.setCell ⟨W.heap.size, 0, none⟩ (.slice xa2 nl xc2)).setCell ⟨W.heap.size, 1, none⟩ (.int .u64 s)).setCell ⟨W.heap.size, 2, none⟩ (.int .u8 k)) w.heap.size (.slice xa nl xc) (.int .u64 s) (.int .u8 k) (.slice ya ml yc) := by
             have hne : w.heap.size ≠ W.heap.size := by rw [HSZ.out]; omega
             exact ((BE2.other ⟨W.heap.size, 0, none⟩ hne _).other ⟨W.heap.size, 1, none⟩ hne _).other ⟨W.heap.size, 2, none⟩ hne _
           first
             | (have BK2 := BK1.below hb2 (Nat.le_refl _)
                obtain ⟨c0, c1, c2, f0, f1, f2⟩ := BK2)
             | skip)
        | fail)
    all_goals (go_wp2_with fail; go_meet; first
      | exact ⟨_, xa2, xc2, rfl, HB2.out.size, box_new w2 _ _ _ _, ⟨o2.rd.below (below_box4 w2 _) (Nat.le_refl _), OwnN.below (show OwnN W.heap.size w2 _ l from o2) (below_box4 w2 _) (Nat.le_refl _), (ltB_ownN o2).grow (below_box4 w2 _).size⟩, bsplit HB2.out (below_box4 w2 _)⟩
      | exact ⟨_, xa2, xc2, rfl, Nat.le_refl _, box_stored (BK1.below hb2 (Nat.le_refl _)) _ _ _, clone_keepO o2 _ _ _, below_store3 HB2.out (Nat.le_refl _) _ _ _⟩)
  case rest =>
    obtain ⟨bk, xa2, xc2, rfl, hbk, BK, HX2, HB2⟩ := hcut
    have hcl := clone_any wc.drew _ m (arg_drew (HY.out _ HB2.out)) (by have := HNL.out; omega)
    have BEc := (BE.below HB2.out (Nat.le_refl _)).drew
    have BKc := BK.out.drew
    have BRc := BR.below HB2.out (Nat.le_refl _)
    have HBX : Hid (Below w.heap.size w wc) := bsplit HBW.out HB2.out
    have HWC : Hid (w.heap.size + 2 ≤ wc.heap.size) := by have := HB2.out.size; rw [HSZ.out] at this; exact this
    have HNE : Hid (w.heap.size ≠ w.heap.size + 1 ∧ bk ≠ w.heap.size + 1) := ⟨by omega, by rw [HSZ.out] at hbk; omega⟩
    clear pW0 pW1 BK1 BE0 BE1
    obtain ⟨d0, d1, d2, d3⟩ := BEc
    have BEc := (BE.below HB2.out (Nat.le_refl _)).drew
    obtain ⟨e0, e1, e2, _⟩ := BK.out
    go_wp2_with fail
    go_region_held3 (fun w' => (w'.cell? ⟨bk, 0, none⟩ = some (.slice xa2 nl xc2) ∧ w'.cell? ⟨bk, 1, none⟩ = some (.int .u64 s) ∧ w'.cell? ⟨bk, 2, none⟩ = some (.int .u8 k)) ∧ w'.cell? ⟨w.heap.size, 3, none⟩ = some (.slice ya ml yc))
      (first | with_reducible exact ⟨⟨b7.c0, b7.c1, b7.c2⟩, E7.c3⟩ | with_reducible exact ⟨⟨b6.c0, b6.c1, b6.c2⟩, E6.c3⟩ | exact ⟨⟨BKc.c0, BKc.c1, BKc.c2⟩, BEc.c3⟩)
      (first
        | (go_at_call 74; refine hcl.mono ?_; rintro e w6 ⟨y, rfl, oy, hb6⟩
           obtain ⟨ya2, yc2, ey2⟩ := oy.rd.len
           rw [HNL.out.2.1] at ey2
           subst ey2
           have HB6 : Hid (Below w.heap.size w w6) := bsplit HBX.out.drew hb6
           obtain ⟨⟨c0, c1, c2, c3⟩, f0, f1, f2, f3⟩ := BRc.below (bsplit (Below.refl _ _).drew hb6) (Nat.le_refl _)
           have b6 := BKc.below hb6 (Nat.le_refl _)
           have E6 := BEc.below hb6 (Nat.le_refl _)
           have b7 := box_other4 b6 HNE.out.2 (.slice xa2 nl xc2) (.int .u64 s) (.int .u8 k) (.slice ya2 ml yc2)
           have E7 := E6.stored (w.heap.size + 1) HNE.out.1 (.slice xa2 nl xc2) (.int .u64 s) (.int .u8 k) (.slice ya2 ml yc2)
           have HX6 : Hid (Rd w6 (.slice xa2 nl xc2) l ∧ OwnN (w.heap.size + 2) w6 (.slice xa2 nl xc2) l) := ⟨HX2.out.1.drew.below hb6 (Nat.le_refl _), by rw [← HSZ.out]; exact OwnN.below (w := wc.drew) HX2.out.2.1 hb6 (Nat.le_refl _)⟩
           have HLB : Hid (LtB w6 (.slice xa2 nl xc2) ∧ LtB w6 (.slice ya2 ml yc2)) := ⟨HX2.out.2.2.grow hb6.size, ltB_ownN oy⟩
           have HY6 : Hid (Rd w6 (.slice ya2 ml yc2) m ∧ OwnN (w.heap.size + 2) w6 (.slice ya2 ml yc2) m) := ⟨oy.rd, oy.mono HWC.out⟩
           clear hb6 oy)
        | fail)
    clear hcl d0 d1 d2 d3 e0 e1 e2 BKc BEc b6 b7 E6 E7
    go_wp2
    refine bodyPost_ret (v := enV (.slice xa2 nl xc2) s k (.slice ya2 ml yc2)) (by simp [results, Try.results61, go_sem, c0, c1, c2, c3]) rfl ⟨_, _, rfl, ⟨rd_store4 HX6.out.1 (from_ne (from_ownN HX6.out.2) (by omega)) _ _ _ _, ownN_st4 HX6.out.2 (by omega) _ _ _ _⟩, ⟨rd_store4 HY6.out.1 (from_ne (from_ownN HY6.out.2) (by omega)) _ _ _ _, ownN_st4 HY6.out.2 (by omega) _ _ _ _⟩, ⟨HLB.out.1.grow (by simp), HLB.out.2.grow (by simp)⟩, below_store4 HB6.out (Nat.le_succ _) _ _ _ _⟩

def FoundO (q : Option EnB) (w w' : World) (o : Ending) : Prop :=
  Below w.heap.size w w' ∧ match q with
    | none => o = .returned (.tuple #[enV (.slice none 0 0) 0 0 (.slice none 0 0), .bool false])
    | some e => ∃ x y, o = .returned (.tuple #[enV x (e.2.1 : Int) (e.2.2.1.toNat : Int) y, .bool true]) ∧ (Rd w' x e.1 ∧ OwnN w.heap.size w' x e.1) ∧ (Rd w' y e.2.2.2 ∧ OwnN w.heap.size w' y e.2.2.2)

set_option maxHeartbeats 4000000 in
theorem skfrom_own (w : World) (l : Nat) (ts : List Tow) (kv : Value) (K : EnB) (hS : SkAt w l ts) (hk : Rd w kv K.1) (hsm : ∀ t ∈ ts, t.e.1.length ≤ 1000000 ∧ t.e.2.2.2.length ≤ 1000000) :
    Calls Try.prog 63 #[.pointer (some ⟨l, 0, none⟩), .agg #[kv, .int .u64 (K.2.1 : Int), .int .u8 (K.2.2.1.toNat : Int)]] w fun o w' => FoundO ((esT ts)[cntE (esT ts) K]?) w w' o := by
  have HS : Hid (SkAt w l ts) := hS
  have HSM : Hid (∀ t ∈ ts, t.e.1.length ≤ 1000000 ∧ t.e.2.2.2.length ≤ 1000000) := hsm
  obtain ⟨ka, kc, rfl⟩ := hk.len
  obtain ⟨kn, hkn⟩ : ∃ n, K.1.length = n := ⟨_, rfl⟩
  obtain ⟨ks, hks⟩ : ∃ z : Int, (K.2.1 : Int) = z := ⟨_, rfl⟩
  obtain ⟨kk, hkk⟩ : ∃ z : Int, (K.2.2.1.toNat : Int) = z := ⟨_, rfl⟩
  have hb0 := below_box w #[.slice ka kn kc, .int .u64 ks, .int .u8 kk] 42
  have hb1 := below_box4 (w.alloc (.cells #[.slice ka kn kc, .int .u64 ks, .int .u8 kk] 42)) (.cells #[.slice none 0 0, .int .u64 0, .int .u8 0, .slice none 0 0] 44)
  have s1 : (w.alloc (.cells #[.slice ka kn kc, .int .u64 ks, .int .u8 kk] 42)).heap.size = w.heap.size + 1 := by simp
  have s2 : ((w.alloc (.cells #[.slice ka kn kc, .int .u64 ks, .int .u8 kk] 42)).alloc (.cells #[.slice none 0 0, .int .u64 0, .int .u8 0, .slice none 0 0] 44)).heap.size = w.heap.size + 2 := by simp
  have BK := (box_new w (.slice ka kn kc) (.int .u64 ks) (.int .u8 kk) 42).below hb1 (Nat.le_refl _)
  have BR := box4f_new (w.alloc (.cells #[.slice ka kn kc, .int .u64 ks, .int .u8 kk] 42)) (.slice none 0 0) (.int .u64 0) (.int .u8 0) (.slice none 0 0) 44
  rw [s1] at BR
  obtain ⟨W, hW⟩ : ∃ W, (w.alloc (.cells #[.slice ka kn kc, .int .u64 ks, .int .u8 kk] 42)).alloc (.cells #[.slice none 0 0, .int .u64 0, .int .u8 0, .slice none 0 0] 44) = W := ⟨_, rfl⟩
  have hBW := bsplit hb0 hb1
  rw [hW] at BK BR hBW s2
  have HBW : Hid (Below w.heap.size w W) := hBW
  have HSZ : Hid (W.heap.size = w.heap.size + 2) := s2
  have hah := ahead_any W l ts (.slice ka K.1.length kc) K (hS.below hBW) (hk.below hBW (Nat.le_refl _))
  rw [hkn, hks, hkk] at hah
  rw [hkn, hks, hkk]
  obtain ⟨Q, hQ⟩ : ∃ Q, ((esT ts)[cntE (esT ts) K]?) = Q := ⟨_, rfl⟩
  have HQ : Hid (((esT ts)[cntE (esT ts) K]?) = Q) := hQ
  rw [hQ]
  obtain ⟨d0, d1, d2, _⟩ := BK
  clear hS hk hkn hks hkk hb0 hb1 s1 s2 hBW hsm hQ
  go_enter Try.func63, Try.ntmps63
  go_wp2_with fail
  clear hW
  refine hah.mono ?_
  rintro o w1 ⟨A, rfl, hA, hb1⟩
  have HB1 : Hid (Below w.heap.size w w1) := bsplit HBW.out hb1
  have BR1 := BR.below hb1 (Nat.le_refl _)
  have h0 := hA 0 (by omega)
  have hcnt := h0.cnt HS.out.ht
  have hcl := h0.le
  obtain ⟨c, hc⟩ : ∃ c, A 0 = c := ⟨_, rfl⟩
  rw [hc] at hcnt hcl
  simp only [hc]
  have i0 : ∀ V : World, (Instr.index 108 (.agg #[ndP l ts c, ndP l ts (A 1), ndP l ts (A 2), ndP l ts (A 3), ndP l ts (A 4), ndP l ts (A 5), ndP l ts (A 6), ndP l ts (A 7)]) (.int .i64 0)).run Try.prog V = .ok (ndP l ts c) V := fun _ => by kernel_rfl
  have hS1 := HS.out.below HB1.out
  clear hah hA h0 BR d0 d1 d2
  have hcel := (hS1.nod c hcl).cel 0 (by omega)
  rw [fst_low HS.out.ht, if_pos (by have := HS.out.ht; unfold nh; split <;> first | omega | (split <;> first | (rename_i t ht; have := this t (List.mem_of_getElem? ht); omega) | (rename_i ht; have := List.getElem?_eq_none_iff.1 ht; omega))), Nat.add_zero] at hcel
  by_cases hlt : c < ts.length
  · obtain ⟨t, ht⟩ : ∃ t, ts[c] = t := ⟨_, rfl⟩
    have htm : t ∈ ts := by rw [← ht]; exact List.getElem_mem hlt
    rw [List.getElem?_eq_getElem hlt, ht] at hcel
    simp only [Option.map_some, ptrT] at hcel
    have HQE : Hid (Q = some t.e) := by show Q = _; rw [← HQ.out, hcnt, List.getElem?_eq_getElem (by rw [esT_len]; exact hlt), esT_get hlt, ht]
    have hent := hS1.ent t htm
    obtain ⟨⟨c0, c1, c2, c3⟩, rx, ry⟩ := hent
    obtain ⟨x1, xc, ex⟩ := rx.len
    obtain ⟨y1, yc, ey⟩ := ry.len
    rw [ex] at c0 rx
    rw [ey] at c3 ry
    obtain ⟨tb, htb⟩ : ∃ z, t.b = z := ⟨_, rfl⟩
    obtain ⟨sq, hsq⟩ : ∃ z : Int, (t.e.2.1 : Int) = z := ⟨_, rfl⟩
    obtain ⟨ek, hek⟩ : ∃ z : Int, (t.e.2.2.1.toNat : Int) = z := ⟨_, rfl⟩
    have HSE : Hid ((t.e.2.1 : Int) = sq ∧ (t.e.2.2.1.toNat : Int) = ek) := ⟨hsq, hek⟩
    rw [hsq] at c1
    rw [hek] at c2
    have hap := skapart_own w1 (.slice x1 t.e.1.length xc) (.slice y1 t.e.2.2.2.length yc) t.e.1 t.e.2.2.2 sq ek rx ry (HSM.out t htm).1 (HSM.out t htm).2
    have HW1 : Hid (w.heap.size + 2 ≤ w1.heap.size + 2) := by show _ ≤ _; have := HB1.out.size; omega
    rw [htb] at hcel c0 c1 c2 c3
    clear rx ry ex ey hsq hek ht hS1 hcnt htm hlt
    go_wp2_with fail
    refine hap.mono ?_
    rintro o w2 ⟨x, y, rfl, rx2, ry2, _, hb2⟩
    obtain ⟨⟨r0, r1, r2, r3⟩, f0, f1, f2, f3⟩ := BR1.below hb2 (Nat.le_refl _)
    have HB2 : Hid (Below w.heap.size w w2) := bsplit HB1.out hb2
    have HX : Hid ((Rd w2 x t.e.1 ∧ OwnN (w.heap.size + 2) w2 x t.e.1) ∧ (Rd w2 y t.e.2.2.2 ∧ OwnN (w.heap.size + 2) w2 y t.e.2.2.2)) := ⟨⟨rx2.1, rx2.2.mono HW1.out⟩, ⟨ry2.1, ry2.2.mono HW1.out⟩⟩
    obtain ⟨xa, xc2, rfl⟩ := rx2.1.len
    obtain ⟨ya, yc2, rfl⟩ := ry2.1.len
    clear hap hb2 rx2 ry2 c0 c1 c2 c3
    go_wp2
    refine bodyPost_ret (v := .tuple #[enV (.slice xa t.e.1.length xc2) sq ek (.slice ya t.e.2.2.2.length yc2), .bool true]) (by simp [results, Try.results63, go_sem, r0, r1, r2, r3]) rfl ?_
    refine ⟨below_store4 HB2.out (Nat.le_succ _) _ _ _ _, ?_⟩
    rw [HQE.out]
    exact ⟨_, _, by rw [HSE.out.1, HSE.out.2], ⟨rd_store4 HX.out.1.1 (from_ne (from_ownN HX.out.1.2) (by omega)) _ _ _ _, (ownN_st4 HX.out.1.2 (by omega) _ _ _ _).mono (by omega)⟩, ⟨rd_store4 HX.out.2.1 (from_ne (from_ownN HX.out.2.2) (by omega)) _ _ _ _, (ownN_st4 HX.out.2.2 (by omega) _ _ _ _).mono (by omega)⟩⟩
  · rw [List.getElem?_eq_none (by omega)] at hcel
    simp only [Option.map_none, ptrT] at hcel
    have HQE : Hid (Q = none) := by show Q = _; rw [← HQ.out, hcnt, List.getElem?_eq_none (by rw [esT_len]; omega)]
    clear hS1 hcnt hlt
    obtain ⟨⟨r0, r1, r2, r3⟩, f0, f1, f2, f3⟩ := BR1
    go_wp2
    refine bodyPost_ret (v := .tuple #[enV (.slice none 0 0) 0 0 (.slice none 0 0), .bool false]) (by simp [results, Try.results63, go_sem, r0, r1, r2, r3]) rfl ?_
    refine ⟨below_store4 HB1.out (Nat.le_succ _) _ _ _ _, ?_⟩
    rw [HQE.out]

end Go.Proofs.Ythcoblmfmbmdkaa

/- ikey.Upto. -/
namespace Go.Proofs.Ythcoblmfmbmdkaa
open Go.RowKit

theorem upto_any (w : World) (v : Value) (l : List UInt8) (s m : Int) (hv : Arg w v l) (hn : l.length ≤ 1099511627776) (hm : min s 72057594037927935 = m) :
    Calls Try.prog 64 #[v, .int .u64 s] w fun e w' => ∃ ao cap, e = .returned (.agg #[.slice ao l.length cap, .int .u64 m, .int .u8 2]) ∧ Rd w' (.slice ao l.length cap) l ∧ Below w.heap.size w w' := by
  have hm2 : (if 72057594037927935 < s then (72057594037927935 : Int) else s) = m := by split <;> omega
  have hm3 : (if s < 72057594037927935 then s else (72057594037927935 : Int)) = m := by split <;> omega
  have b0 := box_new w (.slice none 0 0) (.int .u64 0) (.int .u8 0) 42
  have hB0 := below_box w #[.slice none 0 0, .int .u64 0, .int .u8 0] 42
  have hv0 := hv.below hB0 (Nat.le_refl _)
  clear hv
  go_enter Try.func64, Try.ntmps64
  go_wp2_with fail
  refine (clone_any _ _ l hv0 hn).mono ?_
  rintro e w1 ⟨x, rfl, ox, hb⟩
  have hsz : (w.alloc (.cells #[.slice none 0 0, .int .u64 0, .int .u8 0] 42)).heap.size = w.heap.size + 1 := by simp
  rw [hsz] at ox
  have hB1 := hB0.trans (hb.mono hB0.size)
  have b1 := b0.below hb (Nat.le_refl _)
  obtain ⟨c0, c1, c2, f0, f1, f2⟩ := b1
  have hrd : ∃ ao cap, x = .slice ao l.length cap ∧ ∀ u0 u1 u2, Rd (((w1.setCell ⟨w.heap.size, 0, none⟩ u0).setCell ⟨w.heap.size, 1, none⟩ u1).setCell ⟨w.heap.size, 2, none⟩ u2) (.slice ao l.length cap) l := by
    rcases ox with ⟨rfl, rfl⟩ | ox
    · exact ⟨none, 0, rfl, fun _ _ _ => .inl ⟨rfl, rfl⟩⟩
    · obtain ⟨g, k, rfl⟩ := ox.shape
      have := ox.lt.1
      exact ⟨_, _, rfl, fun u0 u1 u2 => ox.rd.store3 (by omega) u0 u1 u2⟩
  obtain ⟨ao, cap, rfl, hrd⟩ := hrd
  have HR : Hid _ := hrd
  clear ox b0 hb hv0 hB0 hsz hrd
  go_wp2
  all_goals
    refine bodyPost_ret (v := .agg #[.slice ao l.length cap, .int .u64 m, .int .u8 2]) (by simp [results, Try.results64, go_sem, c0, c1, c2]) rfl ⟨ao, cap, rfl, ?_, ?_⟩
    · exact HR.out _ _ _
    · exact below_store3 hB1 (Nat.le_refl _) _ _ _

end Go.Proofs.Ythcoblmfmbmdkaa

/- (*memo.Memo).newest. -/
namespace Go.Proofs.Ythcoblmfmbmdkaa
set_option maxRecDepth 100000
open Go.RowKit
set_option linter.unusedVariables false
set_option linter.unusedSimpArgs false

/-- nothing, or what was found -/
def eQ (q : Option EnB) : EnB := q.getD ([], 0, 0, [])

/-- what is found, or not: one form -/
def FoundU (q : Option EnB) (w w' : World) (o : Ending) : Prop :=
  ∃ x y, o = .returned (.tuple #[enV x ((eQ q).2.1 : Int) ((eQ q).2.2.1.toNat : Int) y, .bool q.isSome]) ∧ (Rd w' x (eQ q).1 ∧ OwnN w.heap.size w' x (eQ q).1) ∧ (Rd w' y (eQ q).2.2.2 ∧ OwnN w.heap.size w' y (eQ q).2.2.2) ∧ Below w.heap.size w w'

theorem FoundO.un {q : Option EnB} {w w' : World} {o : Ending} (h : FoundO q w w' o) : FoundU q w w' o := by
  obtain ⟨hb, h⟩ := h
  cases q with
  | none => exact ⟨_, _, h, ⟨.inl ⟨rfl, rfl⟩, .inl ⟨rfl, rfl⟩⟩, ⟨.inl ⟨rfl, rfl⟩, .inl ⟨rfl, rfl⟩⟩, hb⟩
  | some e =>
    obtain ⟨x, y, h1, h2, h3⟩ := h
    exact ⟨x, y, h1, h2, h3, hb⟩

/-- a box for what was found -/
structure NewM (w wx : World) (b : Nat) (x y : Value) (e : EnB) : Prop where
  bx : Box4f wx b x (.int .u64 (e.2.1 : Int)) (.int .u8 (e.2.2.1.toNat : Int)) y
  lb : w.heap.size ≤ b
  ox : Rd wx x e.1 ∧ OwnN w.heap.size wx x e.1
  oy : Rd wx y e.2.2.2 ∧ OwnN w.heap.size wx y e.2.2.2
  be : Below w.heap.size w wx

theorem box4f_st {w : World} {b : Nat} {v0 v1 v2 v3 : Value} (h : Box4f w b v0 v1 v2 v3) (u0 u1 u2 u3 : Value) : Box4f ((((w.setCell ⟨b, 0, none⟩ u0).setCell ⟨b, 1, none⟩ u1).setCell ⟨b, 2, none⟩ u2).setCell ⟨b, 3, none⟩ u3) b u0 u1 u2 u3 :=
  ⟨⟨by simp [go_sem, h.bx.c0, h.bx.c1, h.bx.c2, h.bx.c3], by simp [go_sem, h.bx.c0, h.bx.c1, h.bx.c2, h.bx.c3], by simp [go_sem, h.bx.c0, h.bx.c1, h.bx.c2, h.bx.c3], by simp [go_sem, h.bx.c0, h.bx.c1, h.bx.c2, h.bx.c3]⟩, by simp [go_sem, h.f0], by simp [go_sem, h.f1], by simp [go_sem, h.f2], by simp [go_sem, h.f3]⟩

theorem newM_last {w w7 : World} {B : Nat} {x y : Value} {e : EnB} (hB : w.heap.size ≤ B) (h7 : Below w.heap.size w w7) (ox : Rd w7 x e.1 ∧ OwnN B w7 x e.1) (oy : Rd w7 y e.2.2.2 ∧ OwnN B w7 y e.2.2.2) :
    NewM w (w7.alloc (.cells #[x, .int .u64 (e.2.1 : Int), .int .u8 (e.2.2.1.toNat : Int), y] 44)) w7.heap.size x y e := by
  have hb := below_box4 w7 (.cells #[x, .int .u64 (e.2.1 : Int), .int .u8 (e.2.2.1.toNat : Int), y] 44)
  exact ⟨box4f_new _ _ _ _ _ _, h7.size, ⟨ox.1.below hb (Nat.le_refl _), (ox.2.below hb (Nat.le_refl _)).mono hB⟩, ⟨oy.1.below hb (Nat.le_refl _), (oy.2.below hb (Nat.le_refl _)).mono hB⟩, bsplit h7 hb⟩

theorem newM_old {w w7 : World} {B b : Nat} {x y v0 v1 v2 v3 : Value} {e : EnB} (hb : w.heap.size ≤ b) (hlt : b < B) (h7 : Below w.heap.size w w7) (bx : Box4f w7 b v0 v1 v2 v3) (ox : Rd w7 x e.1 ∧ OwnN B w7 x e.1) (oy : Rd w7 y e.2.2.2 ∧ OwnN B w7 y e.2.2.2) :
    NewM w ((((w7.setCell ⟨b, 0, none⟩ x).setCell ⟨b, 1, none⟩ (.int .u64 (e.2.1 : Int))).setCell ⟨b, 2, none⟩ (.int .u8 (e.2.2.1.toNat : Int))).setCell ⟨b, 3, none⟩ y) b x y e := by
  have hB : w.heap.size ≤ B := by omega
  exact ⟨box4f_st bx _ _ _ _, hb, ⟨rd_store4 ox.1 (from_ne (from_ownN ox.2) hlt) _ _ _ _, (ownN_st4 ox.2 hlt _ _ _ _).mono hB⟩, ⟨rd_store4 oy.1 (from_ne (from_ownN oy.2) hlt) _ _ _ _, (ownN_st4 oy.2 hlt _ _ _ _).mono hB⟩, below_store4 h7 hb _ _ _ _⟩

/-- the place from which a key is looked for -/
def plc (k : List UInt8) (s : Nat) : EnB := (k, min s 72057594037927935, 2, [])
/-- the first version from there on -/
def frmE (es : List EnB) (k : List UInt8) (s : Nat) : Option EnB := es[cntE es (plc k s)]?
/-- if it is the key's -/
def newE (es : List EnB) (k : List UInt8) (s : Nat) : Option EnB := if ((frmE es k s).isSome && ((eQ (frmE es k s)).1 == k)) = true then frmE es k s else none

set_option maxHeartbeats 4000000 in
theorem mnewest_any (G : Nat → Prop) (w : World) (m l t : Nat) (ts : List Tow) (ss : List SpB) (last : Int) (kv : Value) (k : List UInt8) (s : Nat) (h : MemA G w m l t ts ss last) (hk : Rd w kv k) (hkl : k.length ≤ 1000000) (hL : LenT ts 1000) :
    Calls Try.prog 44 #[.pointer (some ⟨m, 0, none⟩), kv, .int .u64 (s : Int)] w fun o w' => FoundU (newE (esT ts) k s) w w' o := by
  obtain ⟨ka, kc, rfl⟩ := hk.len
  obtain ⟨n, hn⟩ : ∃ n, k.length = n := ⟨_, rfl⟩
  rw [hn] at hk hkl ⊢
  obtain ⟨M, hM⟩ : ∃ M : Int, min (s : Int) 72057594037927935 = M := ⟨_, rfl⟩
  have hb0 := below_box4 w (.cells #[.slice none 0 0, .int .u64 0, .int .u8 0, .slice none 0 0] 44)
  have hbr := box4f_new w (.slice none 0 0) (.int .u64 0) (.int .u8 0) (.slice none 0 0) 44
  have hs0 : (w.alloc (.cells #[.slice none 0 0, .int .u64 0, .int .u8 0, .slice none 0 0] 44)).heap.size = w.heap.size + 1 := by simp
  obtain ⟨w0, hw0⟩ : ∃ w0, w.alloc (.cells #[.slice none 0 0, .int .u64 0, .int .u8 0, .slice none 0 0] 44) = w0 := ⟨_, rfl⟩
  have HM0 : Hid (∀ W, Below w0.heap.size w0 W → MemA G W m l t ts ss last ∧ Rd W (.slice ka n kc) k) := fun W hW => by
    rw [← hw0] at hW
    exact ⟨(h.below hb0).below hW, (hk.below hb0 (Nat.le_refl _)).below hW (Nat.le_refl _)⟩
  have HUP : Hid (∀ W, Below w0.heap.size w0 W → Calls Try.prog 64 #[.slice ka n kc, .int .u64 (s : Int)] W fun e w' => ∃ ao cap, e = .returned (.agg #[.slice ao n cap, .int .u64 M, .int .u8 2]) ∧ Rd w' (.slice ao n cap) k ∧ Below W.heap.size W w') := fun W hW => by
    have h9 := upto_any W (.slice ka n kc) k (s : Int) M (HM0.out W hW).2.arg (by omega) hM
    rw [hn] at h9
    exact h9
  obtain ⟨Q, hQ⟩ : ∃ Q, frmE (esT ts) k s = Q := ⟨_, rfl⟩
  have HFR : Hid (∀ W ao cap, Below w0.heap.size w0 W → Rd W (.slice ao n cap) k → Calls Try.prog 63 #[.pointer (some ⟨l, 0, none⟩), .agg #[.slice ao n cap, .int .u64 M, .int .u8 2]] W fun o w' => FoundU Q W w' o) := fun W ao cap hW hr => by
    have h9 := skfrom_own W l ts (.slice ao n cap) (plc k s) (HM0.out W hW).1.sk hr (fun t ht => ⟨by have := (hL t ht).1; omega, by have := (hL t ht).2; omega⟩)
    have e1 : ((plc k s).2.1 : Int) = M := by rw [← hM]; unfold plc; simp only; omega
    have e2 : ((plc k s).2.2.1.toNat : Int) = 2 := rfl
    rw [e1, e2] at h9
    refine h9.mono ?_
    intro o w' h8
    rw [← hQ]
    exact h8.un
  have HQ : Hid (newE (esT ts) k s = if (Q.isSome && ((eQ Q).1 == k)) = true then Q else none) := by show _ = _; unfold newE; rw [hQ]
  obtain ⟨E, hE⟩ : ∃ E, eQ Q = E := ⟨_, rfl⟩
  obtain ⟨ok, hok⟩ : ∃ ok, Q.isSome = ok := ⟨_, rfl⟩
  have HE : Hid (eQ Q = E ∧ Q.isSome = ok) := ⟨hE, hok⟩
  have HBR : Hid (Box4f w0 w.heap.size (.slice none 0 0) (.int .u64 0) (.int .u8 0) (.slice none 0 0)) := by rw [← hw0]; exact hbr
  have HB0 : Hid (Below w.heap.size w w0) := by rw [← hw0]; exact hb0
  have HS0 : Hid (w0.heap.size = w.heap.size + 1) := by rw [← hw0]; exact hs0
  have HS : Hid (∀ W, Below w0.heap.size w0 W → W.cell? ⟨m, 0, none⟩ = some (.pointer (some ⟨l, 0, none⟩))) := fun W hW => (HM0.out W hW).1.bx.c0
  have HC0 : Hid (∀ W, Below w0.heap.size w0 W → Rd W (.slice ka n kc) k) := fun W hW => (HM0.out W hW).2
  have hm0 := HS.out w0 (Below.refl _ _)
  have HGOAL : Hid (newE (esT ts) k s = newE (esT ts) k s) := rfl
  clear h hk hb0 hbr hs0 hn hM hQ hE hok hL HM0
  go_enter Try.func44, Try.ntmps44
  go_upto_region 1 with fail
  clear hw0
  have hW0 : Below w0.heap.size w0 w0.drew := (Below.refl _ _).drew
  have hW1 : Below w0.heap.size w0 (w0.alloc (.cells #[.slice none 0 0, .int .u64 0, .int .u8 0, .slice none 0 0] 44)).drew := ((Below.refl _ _).alloc (Nat.le_refl _) _).drew
  have HBX1 : Hid (Box4f (w0.alloc (.cells #[.slice none 0 0, .int .u64 0, .int .u8 0, .slice none 0 0] 44)).drew w0.heap.size (.slice none 0 0) (.int .u64 0) (.int .u8 0) (.slice none 0 0)) := by
    have h9 := box4f_new w0 (.slice none 0 0) (.int .u64 0) (.int .u8 0) (.slice none 0 0) 44
    exact ⟨h9.bx.drew, h9.f0, h9.f1, h9.f2, h9.f3⟩
  have HBX2 : Hid (∀ W : World, Box4f (W.alloc (.cells #[.slice none 0 0, .int .u64 0, .int .u8 0, .slice none 0 0] 44)) W.heap.size (.slice none 0 0) (.int .u64 0) (.int .u8 0) (.slice none 0 0)) := fun W => box4f_new W (.slice none 0 0) (.int .u64 0) (.int .u8 0) (.slice none 0 0) 44
  go_cut [8, 9] (fun xv ov wx => ∃ (bx : Nat) (x y : Value), xv = .pointer (some ⟨bx, 0, none⟩) ∧ ov = .bool ok ∧ Hid (NewM w0 wx bx x y E))
  case first =>
    go_region_held3 (fun w' => w'.cell? ⟨m, 0, none⟩ = some (.pointer (some ⟨l, 0, none⟩)))
      (first | with_reducible exact HS.out _ HB7.out | with_reducible exact HS.out _ (below_store4 HB7.out HB6.out.size _ _ _ _) | with_reducible exact HS.out _ (below_store4 HB7.out (Nat.le_refl _) _ _ _ _) | with_reducible exact HS.out _ (below_store4 (HB7.out.alloc HB7.out.size _) HB7.out.size _ _ _ _) | with_reducible exact HS.out _ (HB7.out.alloc HB7.out.size _) | with_reducible exact HS.out _ HB6.out | with_reducible exact HS.out _ (HB6.out.alloc HB6.out.size _) | with_reducible exact HS.out _ hW0 | with_reducible exact HS.out _ hW1 | fail "keep")
      (first
        | (go_at_call 64
           refine (HUP.out _ (by first | with_reducible exact hW0 | with_reducible exact hW1)).mono ?_
           rintro e w6 ⟨ua, uc, rfl, ru, hb6⟩
           have HB6 : Hid (Below w0.heap.size w0 w6) := by first | exact bsplit hW0 hb6 | exact bsplit hW1 hb6
           clear HUP)
        | (go_at_call 63
           refine (HFR.out _ ua uc (by first | with_reducible exact HB6.out | with_reducible exact (HB6.out.alloc HB6.out.size _)) (by first | with_reducible exact ru | with_reducible exact ru.below ((Below.refl _ _).alloc (Nat.le_refl _) _) (Nat.le_refl _))).mono ?_
           rintro e w7 ⟨x, y, rfl, ox, oy, hb7⟩
           have HB7 : Hid (Below w0.heap.size w0 w7) := by first | exact bsplit HB6.out hb7 | exact bsplit (HB6.out.alloc HB6.out.size _) hb7
           rw [HE.out.1] at ox oy
           rw [HE.out.1, HE.out.2]
           have hrx := ox.1.len
           have hry := oy.1.len
           obtain ⟨xa, xc, rfl⟩ := hrx
           obtain ⟨ya, yc, rfl⟩ := hry
           first
             | (obtain ⟨⟨c0, c1, c2, c3⟩, f0, f1, f2, f3⟩ := (HBX1.out.below hb6 (Nat.le_refl _)).below hb7 (Nat.le_refl _))
             | (obtain ⟨⟨c0, c1, c2, c3⟩, f0, f1, f2, f3⟩ := (HBX2.out w6).below hb7 (Nat.le_refl _))
             | skip)
        | fail "arm")
    all_goals
      go_wp2_with fail
      go_meet
      first
        | exact ⟨_, _, _, rfl, rfl, newM_last (Nat.le_trans HB6.out.size (Nat.le_refl _)) HB7.out ox oy⟩
        | exact ⟨_, _, _, rfl, rfl, newM_old HB6.out.size (by simp) HB7.out ((HBX2.out w6).below hb7 (Nat.le_refl _)) ox oy⟩
        | exact ⟨_, _, _, rfl, rfl, newM_old (Nat.le_refl _) (by have := hb6.size; simp at this; omega) HB7.out ((HBX1.out.below hb6 (Nat.le_refl _)).below hb7 (Nat.le_refl _)) ox oy⟩
  case rest =>
    obtain ⟨bx, x, y, rfl, rfl, HX⟩ := hcut
    obtain ⟨⟨r0, r1, r2, r3⟩, g0, g1, g2, g3⟩ := HBR.out.below HX.out.be (Nat.le_refl _)
    clear hW0 hW1 HBX1 HBX2 HUP HFR hm0
    cases ok
    · have HQN : Hid (newE (esT ts) k s = none) := by
        show _ = _
        rw [HQ.out, HE.out.2]
        rfl
      go_wp2
      refine bodyPost_ret (v := .tuple #[enV (.slice none 0 0) 0 0 (.slice none 0 0), .bool false]) (by simp [results, Try.results44, go_sem, r0, r1, r2, r3]) rfl ?_
      rw [HQN.out]
      exact ⟨_, _, rfl, ⟨.inl ⟨rfl, rfl⟩, .inl ⟨rfl, rfl⟩⟩, ⟨.inl ⟨rfl, rfl⟩, .inl ⟨rfl, rfl⟩⟩, below_store4 (bsplit HB0.out HX.out.be) (Nat.le_refl _) _ _ _ _⟩
    · obtain ⟨xa, xc, hx⟩ := HX.out.ox.1.len
      obtain ⟨ya, yc, hy⟩ := HX.out.oy.1.len
      subst hx hy
      obtain ⟨⟨c0, c1, c2, c3⟩, _, _, _, _⟩ := HX.out.bx
      have heq := equal_any _ _ _ E.1 k HX.out.ox.1 (HC0.out _ HX.out.be)
      obtain ⟨r, hr⟩ : ∃ r, (E.1 == k) = r := ⟨_, rfl⟩
      rw [hr] at heq
      have HR : Hid ((E.1 == k) = r) := hr
      obtain ⟨nl, hnl⟩ : ∃ nl, E.1.length = nl := ⟨_, rfl⟩
      obtain ⟨ml, hml⟩ : ∃ ml, E.2.2.2.length = ml := ⟨_, rfl⟩
      obtain ⟨sq, hsq⟩ : ∃ z : Int, (E.2.1 : Int) = z := ⟨_, rfl⟩
      obtain ⟨ek, hek⟩ : ∃ z : Int, (E.2.2.1.toNat : Int) = z := ⟨_, rfl⟩
      rw [hnl] at heq c0 HX
      rw [hml] at c3 HX
      rw [hsq] at c1
      rw [hek] at c2
      have HSE : Hid ((E.2.1 : Int) = sq ∧ (E.2.2.1.toNat : Int) = ek) := ⟨hsq, hek⟩
      clear hr hnl hml hsq hek
      go_wp2_with fail
      refine heq.mono ?_
      rintro e w8 ⟨rfl, rfl⟩
      clear heq
      cases r
      · have HQN : Hid (newE (esT ts) k s = none) := by
          show _ = _
          rw [HQ.out, HE.out.1, HR.out, Bool.and_false]
          rfl
        go_wp2
        refine bodyPost_ret (v := .tuple #[enV (.slice none 0 0) 0 0 (.slice none 0 0), .bool false]) (by simp [results, Try.results44, go_sem, r0, r1, r2, r3]) rfl ?_
        rw [HQN.out]
        exact ⟨_, _, rfl, ⟨.inl ⟨rfl, rfl⟩, .inl ⟨rfl, rfl⟩⟩, ⟨.inl ⟨rfl, rfl⟩, .inl ⟨rfl, rfl⟩⟩, below_store4 (bsplit HB0.out HX.out.be) (Nat.le_refl _) _ _ _ _⟩
      · have HQN : Hid (newE (esT ts) k s = Q) := by
          show _ = _
          rw [HQ.out, HE.out.1, HE.out.2, HR.out]
          rfl
        go_wp2
        refine bodyPost_ret (v := .tuple #[enV (.slice xa nl xc) sq ek (.slice ya ml yc), .bool true]) (by simp [results, Try.results44, go_sem, r0, r1, r2, r3]) rfl ?_
        rw [HQN.out]
        have hlt : w.heap.size < w0.heap.size := by rw [HS0.out]; exact Nat.lt_succ_self _
        have ox := HX.out.ox
        have oy := HX.out.oy
        refine ⟨_, _, by rw [HE.out.1, HE.out.2, HSE.out.1, HSE.out.2], ?_, ?_, below_store4 (bsplit HB0.out HX.out.be) (Nat.le_refl _) _ _ _ _⟩
        · rw [HE.out.1]
          exact ⟨rd_store4 ox.1 (from_ne (from_ownN ox.2) hlt) _ _ _ _, (ownN_st4 ox.2 hlt _ _ _ _).mono (Nat.le_of_lt hlt)⟩
        · rw [HE.out.1]
          exact ⟨rd_store4 oy.1 (from_ne (from_ownN oy.2) hlt) _ _ _ _, (ownN_st4 oy.2 hlt _ _ _ _).mono (Nat.le_of_lt hlt)⟩

end Go.Proofs.Ythcoblmfmbmdkaa

/- (*memo.Memo).Get. -/
namespace Go.Proofs.Ythcoblmfmbmdkaa
set_option maxRecDepth 100000
open Go.RowKit
set_option linter.unusedVariables false
set_option linter.unusedSimpArgs false

/-- what is found: the state -/
def stM (q : Option EnB) (c : Nat) : Int := if q.isSome = false then (if c = 0 then 0 else 2) else if (eQ q).2.1 < c then 2 else if (eQ q).2.2.1.toNat = 1 then 2 else 1
/-- and the value -/
def valM (q : Option EnB) (c : Nat) : List UInt8 := if stM q c = 1 then (eQ q).2.2.2 else []

set_option maxHeartbeats 2000000 in
theorem mget_any (G : Nat → Prop) (w : World) (m l t : Nat) (ts : List Tow) (ss : List SpB) (last : Int) (kv : Value) (k : List UInt8) (s : Nat) (h : MemA G w m l t ts ss last) (hk : Rd w kv k) (hkl : k.length ≤ 1000000) (hL : LenT ts 1000) :
    Calls Try.prog 22 #[.pointer (some ⟨m, 0, none⟩), kv, .int .u64 (s : Int)] w fun o w' => ∃ v, o = .returned (.tuple #[v, .int .i64 (stM (newE (esT ts) k s) (covN ss k (s : Int)))]) ∧ OwnN w.heap.size w' v (valM (newE (esT ts) k s) (covN ss k (s : Int))) ∧ Below w.heap.size w w' := by
  have he := eqMm m
  obtain ⟨ka, kc, rfl⟩ := hk.len
  obtain ⟨n, hn⟩ : ∃ n, k.length = n := ⟨_, rfl⟩
  rw [hn] at hk hkl ⊢
  have hne := mnewest_any G w m l t ts ss last (.slice ka n kc) k s h hk (by omega) hL
  obtain ⟨q, hq⟩ : ∃ q, newE (esT ts) k s = q := ⟨_, rfl⟩
  obtain ⟨c, hc⟩ : ∃ c, covN ss k (s : Int) = c := ⟨_, rfl⟩
  rw [hq] at hne ⊢
  rw [hc]
  have HM : Hid (∀ W, Below w.heap.size w W → MemA G W m l t ts ss last ∧ Rd W (.slice ka n kc) k) := fun W hW => ⟨h.below hW, hk.below hW (Nat.le_refl _)⟩
  have HC : Hid (covN ss k (s : Int) = c) := hc
  clear h hk hn hq hc hL
  go_enter Try.func22, Try.ntmps22
  go_wp2_with fail
  refine hne.mono ?_
  rintro o w1 ⟨x, y, rfl, ox, oy, hb1⟩
  clear hne
  obtain ⟨E, hE⟩ : ∃ E, eQ q = E := ⟨_, rfl⟩
  obtain ⟨ok, hok⟩ : ∃ ok, q.isSome = ok := ⟨_, rfl⟩
  have HE : Hid (eQ q = E ∧ q.isSome = ok) := ⟨hE, hok⟩
  rw [hE] at ox oy
  rw [hE, hok]
  obtain ⟨xa, xc, rfl⟩ := ox.1.len
  obtain ⟨ya, yc, rfl⟩ := oy.1.len
  obtain ⟨nl, hnl⟩ : ∃ nl, E.1.length = nl := ⟨_, rfl⟩
  obtain ⟨ml, hml⟩ : ∃ ml, E.2.2.2.length = ml := ⟨_, rfl⟩
  obtain ⟨sq, hsq⟩ : ∃ z, E.2.1 = z := ⟨_, rfl⟩
  obtain ⟨ek, hek⟩ : ∃ z, E.2.2.1.toNat = z := ⟨_, rfl⟩
  rw [hnl] at ox ⊢
  rw [hml] at oy ⊢
  rw [hsq, hek]
  have hb2 := below_box4 w1 (.cells #[.slice xa nl xc, .int .u64 (sq : Int), .int .u8 (ek : Int), .slice ya ml yc] 44)
  have hb3 := bsplit hb1 hb2
  have bx := (box4f_new w1 (.slice xa nl xc) (.int .u64 (sq : Int)) (.int .u8 (ek : Int)) (.slice ya ml yc) 44)
  have HOY : Hid (OwnN w.heap.size (w1.alloc (.cells #[.slice xa nl xc, .int .u64 (sq : Int), .int .u8 (ek : Int), .slice ya ml yc] 44)) (.slice ya ml yc) E.2.2.2) := oy.2.below hb2 (Nat.le_refl _)
  have HB : Hid (Below w.heap.size w (w1.alloc (.cells #[.slice xa nl xc, .int .u64 (sq : Int), .int .u8 (ek : Int), .slice ya ml yc] 44))) := hb3
  have hco := tcover_any _ t ss (.slice ka n kc) k (s : Int) (HM.out _ hb3).1.st.at (HM.out _ hb3).2
  rw [HC.out] at hco
  obtain ⟨d0, d1, d2, _, _, _⟩ := (HM.out _ hb3).1.bx
  obtain ⟨e0, e1, e2, _, _, _⟩ := (HM.out _ hb1).1.bx
  have HST : Hid (stM q c = if ok = false then (if c = 0 then 0 else 2) else if sq < c then 2 else if ek = 1 then 2 else 1) := by
    show _ = _
    unfold stM
    rw [HE.out.1, HE.out.2, hsq, hek]
  have HVA : Hid (valM q c = if stM q c = 1 then E.2.2.2 else []) := by show _ = _; unfold valM; rw [HE.out.1]
  clear ox oy hb1 hb2 hb3 hE hok hnl hml hsq hek HC
  go_wp2_with fail
  refine hco.mono ?_
  rintro o w3 ⟨rfl, hb4⟩
  clear hco
  have HB4 : Hid (Below w.heap.size w w3) := bsplit HB.out hb4
  have HOY4 : Hid (OwnN w.heap.size w3 (.slice ya ml yc) E.2.2.2) := HOY.out.below hb4 (Nat.le_refl _)
  obtain ⟨⟨r0, r1, r2, r3⟩, _, _, _, _⟩ := bx.below hb4 (Nat.le_refl _)
  clear bx hb4 d0 d1 d2 e0 e1 e2 HM HB HOY
  have fin0 : stM q c ≠ 1 → valM q c = [] := fun h9 => by rw [HVA.out, if_neg h9]
  have FIN : Hid (stM q c ≠ 1 → valM q c = []) := fin0
  clear fin0
  cases ok
  · by_cases hc0 : (c : Int) = 0
    · go_wp2
      refine bodyPost_ret (v := .tuple #[.slice none 0 0, .int .i64 0]) (by simp [results, Try.results22, go_sem]) rfl ?_
      have h9 : stM q c = 0 := by have h8 := HST.out; grind
      rw [h9]
      exact ⟨_, rfl, .inl ⟨rfl, FIN.out (by rw [h9]; omega)⟩, HB4.out⟩
    · go_wp2
      refine bodyPost_ret (v := .tuple #[.slice none 0 0, .int .i64 2]) (by simp [results, Try.results22, go_sem]) rfl ?_
      have h9 : stM q c = 2 := by have h8 := HST.out; grind
      rw [h9]
      exact ⟨_, rfl, .inl ⟨rfl, FIN.out (by rw [h9]; omega)⟩, HB4.out⟩
  · by_cases hlt : (sq : Int) < (c : Int)
    · go_wp2
      refine bodyPost_ret (v := .tuple #[.slice none 0 0, .int .i64 2]) (by simp [results, Try.results22, go_sem]) rfl ?_
      have h9 : stM q c = 2 := by have h8 := HST.out; grind
      rw [h9]
      exact ⟨_, rfl, .inl ⟨rfl, FIN.out (by rw [h9]; omega)⟩, HB4.out⟩
    · by_cases hk1 : (ek : Int) = 1
      · have hek1 : ek = 1 := by omega
        subst hek1
        go_wp2
        refine bodyPost_ret (v := .tuple #[.slice none 0 0, .int .i64 2]) (by simp [results, Try.results22, go_sem]) rfl ?_
        have h9 : stM q c = 2 := by have h8 := HST.out; grind
        rw [h9]
        exact ⟨_, rfl, .inl ⟨rfl, FIN.out (by rw [h9]; omega)⟩, HB4.out⟩
      · have hk2 : ¬ ek = 1 := by omega
        go_wp2
        · exfalso
          rename_i h8
          rcases h8 with h8 | h8
          · omega
          · simp at h8
            omega
        · refine bodyPost_ret (v := .tuple #[.slice ya ml yc, .int .i64 1]) (by simp [results, Try.results22, go_sem]) rfl ?_
          have h9 : stM q c = 1 := by have h8 := HST.out; grind
          have h8 : valM q c = E.2.2.2 := by rw [HVA.out, if_pos h9]
          rw [h9, h8]
          exact ⟨_, rfl, HOY4.out, HB4.out⟩

end Go.Proofs.Ythcoblmfmbmdkaa

/- bartizanlaw10.op, awake. -/
namespace Go.Proofs.Ythcoblmfmbmdkaa
set_option maxRecDepth 100000
open Go.RowKit
set_option linter.unusedVariables false
set_option linter.unusedSimpArgs false

set_option maxHeartbeats 1000000 in
theorem op10_any (w : World) (t u : ByteArray) (k : Int) (l m : List UInt8) (hl : t.data.toList = l) (hl2 : l.length ≤ 100) (hm : u.data.toList = m) (hm2 : m.length ≤ 100) :
    Calls Try.prog 32 #[.int .u8 k, .string t, .string u] w fun e w' => ∃ x y, e = .returned (.agg #[.int .u8 k, x, y]) ∧ (Rd w' x l ∧ From w.heap.size x) ∧ (Rd w' y m ∧ From w.heap.size y) ∧ Below w.heap.size w w' := by
  have hb0 := below_box4 w (.cells #[.int .u8 0, .slice none 0 0, .slice none 0 0] 63)
  have br := box_new w (.int .u8 0) (.slice none 0 0) (.slice none 0 0) 63
  obtain ⟨cap, w1, hc, hr, hb, hs⟩ := conv_str (w.alloc (.cells #[.int .u8 0, .slice none 0 0, .slice none 0 0] 63)) t l hl hl2
  obtain ⟨cap2, w2, hc2, hr2, hb2, hs2⟩ := conv_str w1 u m hm hm2
  obtain ⟨c0, c1, c2, f0, f1, f2⟩ := (br.below hb (Nat.le_refl _)).below hb2 (Nat.le_refl _)
  have e1 : (w.alloc (.cells #[.int .u8 0, .slice none 0 0, .slice none 0 0] 63)).heap.size = w.heap.size + 1 := by simp
  have HB : Hid (Below w.heap.size w w2) := bsplit (bsplit hb0 hb) hb2
  rw [e1] at hc hr hs
  rw [hs] at hc2 hr2
  have HR : Hid (Rd w2 (.slice (some ⟨w.heap.size + 1, 0, none⟩) l.length cap) l ∧ Rd w2 (.slice (some ⟨w.heap.size + 1 + 1, 0, none⟩) m.length cap2) m) := ⟨hr.below hb2 (Nat.le_refl _), hr2⟩
  clear hb0 br hb hr hs hl hb2 hr2 hs2 hm e1
  go_enter Try.func32, Try.ntmps32
  go_wp2
  have hst : ∀ (g n c : Nat) (b : List UInt8), g ≠ w.heap.size → ∀ u0 u1 u2, Rd w2 (.slice (some ⟨g, 0, none⟩) n c) b → Rd (((w2.setCell ⟨w.heap.size, 0, none⟩ u0).setCell ⟨w.heap.size, 1, none⟩ u1).setCell ⟨w.heap.size, 2, none⟩ u2) (.slice (some ⟨g, 0, none⟩) n c) b := by
    intro g n c b hg u0 u1 u2 h
    have go : ∀ (W : World) (i : Nat) (u : Value), Rd W (.slice (some ⟨g, 0, none⟩) n c) b → Rd (W.setCell ⟨w.heap.size, i, none⟩ u) (.slice (some ⟨g, 0, none⟩) n c) b := fun W i u h => by
      rcases h with ⟨h, _⟩ | ⟨b1, off, cc, e, h1, h2, h3⟩
      · simp at h
      · cases e
        exact .inr ⟨_, _, _, rfl, h1, h2, fun j v hv => (cell_other _ ⟨w.heap.size, i, none⟩ ⟨g, 0 + j, none⟩ _ hg).trans (h3 j v hv)⟩
    exact go _ _ _ (go _ _ _ (go _ _ _ h))
  refine bodyPost_ret (v := .agg #[.int .u8 k, .slice (some ⟨w.heap.size + 1, 0, none⟩) l.length cap, .slice (some ⟨w.heap.size + 1 + 1, 0, none⟩) m.length cap2]) (by simp [results, Try.results32, go_sem, c0, c1, c2]) rfl ⟨_, _, rfl, ⟨hst _ _ _ _ (by omega) _ _ _ HR.out.1, ?_⟩, ⟨hst _ _ _ _ (by omega) _ _ _ HR.out.2, ?_⟩, below_store3 HB.out (Nat.le_refl _) _ _ _⟩
  · intro a n c e
    cases e
    show w.heap.size ≤ w.heap.size + 1
    omega
  · intro a n c e
    cases e
    show w.heap.size ≤ w.heap.size + 1 + 1
    omega

/-- what lies apart from a memo is read as before -/
theorem rd_apart {F : Nat → Prop} {B : Nat} {w : World} {x : Value} {l : List UInt8} (h : Rd w x l) (hx : From B x) (hF : ∀ i, F i → i < B) (W : World) (hk : Keeps F w W) : Rd W x l :=
  rd_keep h hk (fun q hq hf => by have := from_q hx hq; have := hF q hf; omega)

theorem BatI.list {w W : World} {G G' : Nat → Prop} {m l t s : Nat} {ts ts' : List Tow} {ss : List SpB} {last : Int} {os : List OpB} {L : List EnB} (h : BatI w W G m l t ts ss last os s G' ts') (hr : riseB L = true) (hp : (esT ts ++ verO os s).Perm L) : esT ts' = L :=
  rise_unique h.mem.sk.ris hr (h.prm.trans hp)

theorem lenT_of {ts : List Tow} {L : List EnB} {n : Nat} (h : esT ts = L) (hL : ∀ e ∈ L, e.1.length ≤ n ∧ e.2.2.2.length ≤ n) : LenT ts n := fun t ht => hL _ (by rw [← h]; unfold esT; exact List.mem_map_of_mem ht)

def aw1 : List EnB := [([97], 1, 2, [120])]
def aw2 : List EnB := [([97], 1, 2, [120]), ([98], 3, 2, [121])]
def awS : List SpB := [([97], [99], 2)]

theorem awc1 : batC [(2, [97], [120])] 1 [1] 0 = 0 := by decide +kernel
theorem awc2 : batC [(3, [97], [99])] 2 [1] 1 = 0 := by decide +kernel
theorem awc3 : batC [(2, [98], [121])] 3 [2] 2 = 0 := by decide +kernel
theorem awr1 : riseB aw1 = true := by decide +kernel
theorem awr2 : riseB aw2 = true := by decide +kernel
theorem awg1 : stM (newE aw2 [97] 1) (covN awS [97] ((1 : Nat) : Int)) = 1 ∧ valM (newE aw2 [97] 1) (covN awS [97] ((1 : Nat) : Int)) = [120] := by decide +kernel
theorem awg2 : stM (newE aw2 [97] 3) (covN awS [97] ((3 : Nat) : Int)) = 2 := by decide +kernel
theorem awg3 : stM (newE aw2 [98] 2) (covN awS [98] ((2 : Nat) : Int)) = 2 := by decide +kernel
theorem awg4 : stM (newE aw2 [99] 9) (covN awS [99] ((9 : Nat) : Int)) = 0 := by decide +kernel

end Go.Proofs.Ythcoblmfmbmdkaa

/- (*memo.Memo).Size. -/
namespace Go.Proofs.Ythcoblmfmbmdkaa
set_option maxRecDepth 100000
open Go.RowKit
set_option linter.unusedVariables false
set_option linter.unusedSimpArgs false

/-- how many bytes spans count for -/
def spSz (ss : List SpB) : Nat := (ss.map fun s => s.1.length + s.2.1.length + 16).sum

theorem spSz_next {ss : List SpB} {j : Nat} (h : j < ss.length) : spSz (ss.take (j + 1)) = spSz (ss.take j) + (ss[j].1.length + ss[j].2.1.length + 16) := by
  unfold spSz
  rw [List.take_succ_eq_append_getElem h, List.map_append, List.sum_append]
  simp

theorem spSz_le {ss : List SpB} (h : ∀ s ∈ ss, s.1.length ≤ 1000 ∧ s.2.1.length ≤ 1000) : spSz ss ≤ ss.length * 2016 := by
  induction ss with
  | nil => simp [spSz]
  | cons a r ih =>
    have h1 := h a (by simp)
    have h2 := ih (fun s hs => h s (by simp [hs]))
    unfold spSz at h2 ⊢
    simp only [List.map_cons, List.sum_cons, List.length_cons]
    omega

set_option maxHeartbeats 2000000 in
theorem msize_any (G : Nat → Prop) (w : World) (m l t : Nat) (ts : List Tow) (ss : List SpB) (last : Int) (h : MemA G w m l t ts ss last) (hL : LenT ts 1000) (hz : sizT ts ≤ 100000000) (hn : ss.length ≤ 4000) (hS : ∀ s ∈ ss, s.1.length ≤ 1000 ∧ s.2.1.length ≤ 1000) :
    Calls Try.prog 20 #[.pointer (some ⟨m, 0, none⟩)] w fun e w' => e = .returned (.int .i64 ((sizT ts + spSz ss : Nat) : Int)) ∧ Below w.heap.size w w' := by
  have he := eqMm m
  have HM : Hid (MemA G w m l t ts ss last) := h
  obtain ⟨c0, c1, c2, _, _, _⟩ := h.bx
  have ha := sksize_any w l ts h.sk hL
  obtain ⟨Z, hZ⟩ : ∃ Z, sizT ts = Z := ⟨_, rfl⟩
  rw [hZ] at ha hz ⊢
  have HS : Hid (∀ s ∈ ss, s.1.length ≤ 1000 ∧ s.2.1.length ≤ 1000) := hS
  clear h hZ hS
  go_enter Try.func20, Try.ntmps20
  go_wp2_with fail
  refine ha.mono ?_
  rintro e w1 ⟨rfl, hb1⟩
  have HM1 : Hid (MemA G w1 m l t ts ss last) := HM.out.below hb1
  have HB1 : Hid (Below w.heap.size w w1) := hb1
  have hal := tall_any w1 t ss HM1.out.st.at hn HS.out
  clear c0 c1 c2
  obtain ⟨c0, c1, c2, _, _, _⟩ := HM1.out.bx
  clear ha hb1
  go_wp2_with fail
  refine hal.mono ?_
  rintro e w2 ⟨v, rfl, av, hb2⟩
  have HV : Hid (RdS w2 v ss) := av.rd
  obtain ⟨va, vc, ev⟩ := av.rd.shape
  subst ev
  obtain ⟨N, hN⟩ : ∃ N, ss.length = N := ⟨_, rfl⟩
  rw [hN] at HV hn ⊢
  have HN : Hid (ss.length = N) := hN
  have HB2 : Hid (Below w.heap.size w w2) := bsplit HB1.out hb2
  have hvc : N ≤ vc ∧ vc ≤ 9223372036854775807 := by
    obtain ⟨a9, c9, e9, z1, z2, _⟩ := HV.out
    rw [HN.out] at e9 z1
    cases e9
    exact ⟨z1, z2⟩
  clear hal av hb2 hN c0 c1 c2
  go_wp2_with fail
  go_loopg [3, 19] N (fun gk sv iv wr => ∃ j A : Nat, gk + j = N ∧ sv = .int .i64 (A : Int) ∧ iv = .int .i64 (j : Int) ∧ Hid (A = Z + spSz (ss.take j)) ∧ Hid (RdS wr (.slice va N vc) ss) ∧ Hid (Below w.heap.size w wr))
  case atStart => exact ⟨0, Z, by omega, rfl, rfl, by show _ = _; simp [spSz], HV, HB2⟩
  case round =>
    clear HV HB2
    obtain ⟨j, A, hj, rfl, rfl, HA, HV, HB⟩ := hrel
    by_cases hlt : j < N
    · have hlt2 : j < ss.length := by rw [HN.out]; exact hlt
      obtain ⟨q1, q2⟩ := gk_nxt hj hlt
      obtain ⟨_, _, e, _, _, h3⟩ := HV.out
      rw [HN.out] at e
      cases e
      obtain ⟨b, off, rfl, xv, yv, c0, c1, c2, rx, ry⟩ := h3 j hlt2
      obtain ⟨x1, x2, ex⟩ := rx.len
      obtain ⟨y1, y2, ey⟩ := ry.len
      subst ex ey
      have hA9 : A ≤ 200000000 := by
        have h8 := HA.out
        have h9 := spSz_le (ss := ss.take j) (fun s hs => HS.out s (List.mem_of_mem_take hs))
        rw [List.length_take] at h9
        omega
      have hnx := spSz_next hlt2
      have hbd := HS.out _ (List.getElem_mem hlt2)
      obtain ⟨⟨sl, sm, sq⟩, ho⟩ : ∃ o, ss[j] = o := ⟨_, rfl⟩
      rw [ho] at c0 c1 c2 rx ry hnx hbd
      simp only at c0 c1 c2 rx ry hnx hbd
      obtain ⟨nl, hnl⟩ : ∃ nl, sl.length = nl := ⟨_, rfl⟩
      obtain ⟨ml, hml⟩ : ∃ ml, sm.length = ml := ⟨_, rfl⟩
      rw [hnl] at c0 hnx hbd
      rw [hml] at c1 hnx hbd
      have HX : Hid (A + (nl + ml + 16) = Z + spSz (ss.take (j + 1))) := by show _ = _; rw [hnx, HA.out]; omega
      have hb0 := below_box4 wr (.cells #[.slice x1 nl x2, .slice y1 ml y2, .int .u64 (sq : Int)] 46)
      obtain ⟨z0, z1, z2, _, _, _⟩ := box_new wr (.slice x1 nl x2) (.slice y1 ml y2) (.int .u64 (sq : Int)) 46
      have HV1 : Hid (RdS (wr.alloc (.cells #[.slice x1 nl x2, .slice y1 ml y2, .int .u64 (sq : Int)] 46)) (.slice (some ⟨b, off, none⟩) N vc) ss) := rdS_below HV.out hb0 (Nat.le_refl _)
      have HB1 : Hid (Below w.heap.size w (wr.alloc (.cells #[.slice x1 nl x2, .slice y1 ml y2, .int .u64 (sq : Int)] 46))) := bsplit HB.out hb0
      obtain ⟨hn1, hm1⟩ := hbd
      clear h3 rx ry ho hnl hml hb0 hnx HA HV HB
      go_wp2
      go_roundg (gk - 1)
      case measure => exact q1
      case rel => exact ⟨j + 1, A + (nl + ml + 16), q2, by go_num, by go_num, HX.out.symm ▸ rfl, HV1, HB1⟩
    · have hjN : j = N := by omega
      subst hjN
      have HT : Hid (A = Z + spSz ss) := by
        have h9 := HA.out
        rw [← HN.out, List.take_length] at h9
        exact h9
      go_wp2
      go_ret
      exact ⟨by rw [HT.out]; rfl, HB.out⟩

end Go.Proofs.Ythcoblmfmbmdkaa

/- A memo, by its versions and spans alone. -/
namespace Go.Proofs.Ythcoblmfmbmdkaa
set_option maxRecDepth 100000
open Go.RowKit
set_option linter.unusedVariables false
set_option linter.unusedSimpArgs false

theorem MemA.keeps {F G : Nat → Prop} {W W' : World} {m l t : Nat} {ts : List Tow} {ss : List SpB} {last : Int} (h : MemA G W m l t ts ss last) (hk : Keeps F W W') (hF : ∀ q, FpM G m l ts q → ¬ F q) : MemA G W' m l t ts ss last := by
  have hn : ∀ q, FpK l ts q → ¬ F q := fun q hq => hF q (.inr (.inl hq))
  exact ⟨h.bx.same9 (hk.block m h.bx.lt (hF m (.inl rfl))), h.sk.keeps hk (hn l (.inl rfl)) (fun T hT => hn _ (.inr ⟨T, hT, .inl rfl⟩)) (fun T hT => ⟨fun q hq => hn q (.inr ⟨T, hT, .inr (.inl hq)⟩), fun q hq => hn q (.inr ⟨T, hT, .inr (.inr hq)⟩)⟩), h.st.keeps hk (fun q hq => hF q (.inr (.inr hq))), h.dm, h.dg⟩

/-- a memo whose blocks are P's: its versions, in order, its spans, its last number -/
def MmP (P : Nat → Prop) (W : World) (m : Nat) (L : List EnB) (ss : List SpB) (last : Int) : Prop :=
  ∃ (G : Nat → Prop) (l t : Nat) (ts : List Tow), MemA G W m l t ts ss last ∧ esT ts = L ∧ ∀ q, FpM G m l ts q → P q

theorem MmP.below {P : Nat → Prop} {W W' : World} {m : Nat} {L : List EnB} {ss : List SpB} {last : Int} (h : MmP P W m L ss last) (hb : Below W.heap.size W W') : MmP P W' m L ss last := by
  obtain ⟨G, l, t, ts, h1, h2, h3⟩ := h
  exact ⟨G, l, t, ts, h1.below hb, h2, h3⟩

theorem MmP.mono {P Q : Nat → Prop} {W : World} {m : Nat} {L : List EnB} {ss : List SpB} {last : Int} (h : MmP P W m L ss last) (hq : ∀ q, q < W.heap.size → P q → Q q) : MmP Q W m L ss last := by
  obtain ⟨G, l, t, ts, h1, h2, h3⟩ := h
  exact ⟨G, l, t, ts, h1, h2, fun q h9 => hq q (fpM_lt h1 h9) (h3 q h9)⟩

theorem MmP.keeps {P F : Nat → Prop} {W W' : World} {m : Nat} {L : List EnB} {ss : List SpB} {last : Int} (h : MmP P W m L ss last) (hk : Keeps F W W') (hF : ∀ q, q < W.heap.size → P q → ¬ F q) : MmP P W' m L ss last := by
  obtain ⟨G, l, t, ts, h1, h2, h3⟩ := h
  exact ⟨G, l, t, ts, h1.keeps hk (fun q hq => hF q (fpM_lt h1 hq) (h3 q hq)), h2, h3⟩

theorem MmP.rise {P : Nat → Prop} {W : World} {m : Nat} {L : List EnB} {ss : List SpB} {last : Int} (h : MmP P W m L ss last) : riseB L = true := by
  obtain ⟨G, l, t, ts, h1, h2, h3⟩ := h
  rw [← h2]
  exact h1.sk.ris

theorem MmP.len {P : Nat → Prop} {W : World} {m : Nat} {L : List EnB} {ss : List SpB} {last : Int} (h : MmP P W m L ss last) : L.length ≤ 4000 := by
  obtain ⟨G, l, t, ts, h1, h2, h3⟩ := h
  rw [← h2, esT_len]
  exact h1.sk.len

theorem mmP_new (w : World) : Calls Try.prog 10 #[] w fun e w' => ∃ m, e = .returned (.pointer (some ⟨m, 0, none⟩)) ∧ MmP (fun q => w.heap.size ≤ q) w' m [] [] 0 ∧ Below w.heap.size w w' := by
  refine (mnew_any w).mono ?_
  rintro e w' ⟨G, m, l, t, rfl, hM, hG, ⟨h1, h2⟩, hb⟩
  refine ⟨m, rfl, ⟨G, l, t, [], hM, rfl, fun q hq => ?_⟩, hb⟩
  rcases hq with rfl | hq | hq
  · exact h1
  · rcases hq with rfl | ⟨T, hT, _⟩
    · exact h2
    · simp at hT
  · exact hG q hq

/-- what Batch leaves -/
def BatQ (P : Nat → Prop) (W : World) (m : Nat) (L : List EnB) (ss : List SpB) (last : Int) (os : List OpB) (s : Nat) (c : Int) (e : Ending) (W' : World) : Prop :=
  e = .returned (.int .i64 c) ∧ Keeps P W W' ∧ (c ≠ 0 → MmP P W' m L ss last ∧ Below W.heap.size W W') ∧
    (c = 0 → ∃ L', L'.Perm (L ++ verO os s) ∧ MmP (fun q => P q ∨ W.heap.size ≤ q) W' m L' (ss ++ spnO os s) (if os.length = 0 then last else ((s + os.length - 1 : Nat) : Int)))

theorem batQ_of {P G : Nat → Prop} {W W' : World} {m l t : Nat} {ts : List Tow} {ss : List SpB} {last c : Int} {os : List OpB} {s : Nat} {e : Ending} (hM : MemA G W m l t ts ss last) (hP : ∀ q, FpM G m l ts q → P q) (h : BatPost G W m l t ts ss last os s c e W') : BatQ P W m (esT ts) ss last os s c e W' := by
  obtain ⟨h1, h2, h3⟩ := h
  have hk : Keeps P W W' := by
    by_cases h0 : c = 0
    · obtain ⟨G', ts', h4⟩ := h3 h0
      exact h4.kp.mono hP
    · exact Below.keeps (h2 h0) _
  refine ⟨h1, hk, fun h0 => ⟨⟨G, l, t, ts, hM.below (h2 h0), rfl, hP⟩, h2 h0⟩, fun h0 => ?_⟩
  obtain ⟨G', ts', h4⟩ := h3 h0
  exact ⟨esT ts', h4.prm, ⟨G', l, t, ts', h4.mem, rfl, fun q hq => (h4.fp q hq).imp (hP q) id⟩⟩

theorem mmP_batch (P : Nat → Prop) (W : World) (m : Nat) (L : List EnB) (ss : List SpB) (last : Int) (v : Value) (os : List OpB) (s : Nat) (a : Option Addr) (n cap : Nat) (hs : List Int) (h : MmP P W m L ss last)
    (hv : ∀ W', Keeps P W W' → RdO W' v os) (hh : ∀ W', Keeps P W W' → RdI W' a n hs) (ha : (a = none ∧ cap = 0) ∨ ∃ b off, a = some ⟨b, off, none⟩) (hnc : n ≤ cap) (hn : n ≤ 1000000) (hlen : chkL os = 0 → L.length + os.length ≤ 4000) (hss : ss.length ≤ 10000) (hlast : ∀ e ∈ L, (e.2.1 : Int) ≤ last) (hs64 : s < 18446744073709551616) :
    Calls Try.prog 29 #[.pointer (some ⟨m, 0, none⟩), v, .int .u64 (s : Int), .slice a n cap] W (BatQ P W m L ss last os s (batC os (s : Int) hs last)) := by
  obtain ⟨G, l, t, ts, h1, rfl, h3⟩ := h
  refine (mbatch_any G W m l t ts ss last v os s a n cap hs h1 (fun W' hk => hv W' (hk.mono h3)) (fun W' hk => hh W' (hk.mono h3)) ha hnc hn (fun h0 => by have := hlen h0; rw [esT_len] at this; exact this) hss hlast hs64).mono ?_
  intro e W' h9
  exact batQ_of h1 h3 h9

theorem mmP_do (P : Nat → Prop) (W : World) (m : Nat) (L : List EnB) (ss : List SpB) (last : Int) (k : UInt8) (x y : Value) (kl vl : List UInt8) (s : Nat) (hh : Int) (h : MmP P W m L ss last)
    (hv : ∀ W', Keeps P W W' → Rd W' x kl ∧ Rd W' y vl) (hlen : L.length + 1 ≤ 4000) (hss : ss.length ≤ 10000) (hlast : ∀ e ∈ L, (e.2.1 : Int) ≤ last) (hs64 : s < 18446744073709551616) :
    Calls Try.prog 30 #[.pointer (some ⟨m, 0, none⟩), .agg #[.int .u8 (k.toNat : Int), x, y], .int .u64 (s : Int), .int .i64 hh] W (BatQ P W m L ss last [(k, kl, vl)] s (batC [(k, kl, vl)] (s : Int) [hh] last)) := by
  obtain ⟨G, l, t, ts, h1, rfl, h3⟩ := h
  refine (mdo_any G W m l t ts ss last k x y kl vl s hh h1 (fun W' hk => hv W' (hk.mono h3)) (by rw [esT_len] at hlen; exact hlen) hss hlast hs64).mono ?_
  intro e W' h9
  exact batQ_of h1 h3 h9

theorem mmP_get (P : Nat → Prop) (W : World) (m : Nat) (L : List EnB) (ss : List SpB) (last : Int) (kv : Value) (k : List UInt8) (s : Nat) (h : MmP P W m L ss last) (hk : Rd W kv k) (hkl : k.length ≤ 1000000) (hL : ∀ e ∈ L, e.1.length ≤ 1000 ∧ e.2.2.2.length ≤ 1000) :
    Calls Try.prog 22 #[.pointer (some ⟨m, 0, none⟩), kv, .int .u64 (s : Int)] W fun o w' => ∃ v, o = .returned (.tuple #[v, .int .i64 (stM (newE L k s) (covN ss k (s : Int)))]) ∧ OwnN W.heap.size w' v (valM (newE L k s) (covN ss k (s : Int))) ∧ Below W.heap.size W w' := by
  obtain ⟨G, l, t, ts, h1, rfl, h3⟩ := h
  exact mget_any G W m l t ts ss last kv k s h1 hk hkl (lenT_of rfl hL)

theorem mmP_last (P : Nat → Prop) (W : World) (m : Nat) (L : List EnB) (ss : List SpB) (last : Int) (h : MmP P W m L ss last) : Calls Try.prog 12 #[.pointer (some ⟨m, 0, none⟩)] W fun e w' => e = .returned (.int .u64 last) ∧ w' = W := by
  obtain ⟨G, l, t, ts, h1, rfl, h3⟩ := h
  exact mlast_any G W m l t ts ss last h1

theorem mmP_entries (P : Nat → Prop) (W : World) (m : Nat) (L : List EnB) (ss : List SpB) (last : Int) (h : MmP P W m L ss last) (hL : ∀ e ∈ L, e.1.length ≤ 1000 ∧ e.2.2.2.length ≤ 1000) : Calls Try.prog 17 #[.pointer (some ⟨m, 0, none⟩)] W fun e w' => ∃ v, e = .returned v ∧ OwnEF (W.heap.size + 3) w' v L ∧ Below W.heap.size W w' := by
  obtain ⟨G, l, t, ts, h1, rfl, h3⟩ := h
  exact mentries_any G W m l t ts ss last h1 (lenT_of rfl hL)

theorem mmP_spans (P : Nat → Prop) (W : World) (m : Nat) (L : List EnB) (ss : List SpB) (last : Int) (h : MmP P W m L ss last) (hn : ss.length ≤ 4000) (hL : ∀ s ∈ ss, s.1.length ≤ 1000 ∧ s.2.1.length ≤ 1000) : Calls Try.prog 19 #[.pointer (some ⟨m, 0, none⟩)] W fun e w' => ∃ v, e = .returned v ∧ AllS W.heap.size w' v ss ∧ Below W.heap.size W w' := by
  obtain ⟨G, l, t, ts, h1, rfl, h3⟩ := h
  exact mspans_any G W m l t ts ss last h1 hn hL

theorem sizL_le {L : List EnB} (h : ∀ e ∈ L, e.1.length ≤ 1000 ∧ e.2.2.2.length ≤ 1000) : sizL L ≤ L.length * 2016 := by
  induction L with
  | nil => simp [sizL]
  | cons a r ih =>
    have h1 := ih (fun e he => h e (List.mem_cons_of_mem _ he))
    have h2 := h a List.mem_cons_self
    simp only [sizL, List.map_cons, List.sum_cons, List.length_cons] at h1 ⊢
    unfold sizE at *
    omega

theorem mmP_size (P : Nat → Prop) (W : World) (m : Nat) (L : List EnB) (ss : List SpB) (last : Int) (h : MmP P W m L ss last) (hL : ∀ e ∈ L, e.1.length ≤ 1000 ∧ e.2.2.2.length ≤ 1000) (hn : ss.length ≤ 4000) (hS : ∀ s ∈ ss, s.1.length ≤ 1000 ∧ s.2.1.length ≤ 1000) :
    Calls Try.prog 20 #[.pointer (some ⟨m, 0, none⟩)] W fun e w' => e = .returned (.int .i64 ((sizL L + spSz ss : Nat) : Int)) ∧ Below W.heap.size W w' := by
  have h9 := sizL_le hL
  have h8 := h.len
  obtain ⟨G, l, t, ts, h1, rfl, h3⟩ := h
  exact msize_any G W m l t ts ss last h1 (lenT_of rfl hL) (by unfold sizT; omega) hn hS

end Go.Proofs.Ythcoblmfmbmdkaa

/- An op more. -/
namespace Go.Proofs.Ythcoblmfmbmdkaa
open Go.RowKit

theorem own_ne_row {w : World} {B n : Nat} {v : Value} {cs : List Value} {B' g m c : Nat} {l : List UInt8} (h : w.ownsRow B 63 3 v n cs) (ho : Own B' w (.slice (some ⟨g, 0, none⟩) m c) l) : some g ≠ v.ownBlock := by
  obtain ⟨g', cap, cur, e, _, hg, _⟩ := ho
  cases e
  rcases h.2 with ⟨e, _⟩ | ⟨q, cap', cur', e, _, hq, _⟩
  · subst e; simp [Value.ownBlock]
  · subst e
    intro e2
    simp only [Value.ownBlock, Option.some.injEq] at e2
    subst e2
    rw [hq] at hg
    simp at hg

theorem OwnN.grownO {w w' : World} {B B' n : Nat} {v x : Value} {cs : List Value} {l : List UInt8} (h : OwnN B' w x l) (hr : w.ownsRow B 63 3 v n cs) (hg : w.grownBy w' v.ownBlock) : OwnN B' w' x l := by
  rcases h with h | h
  · exact .inl h
  · obtain ⟨g, c, rfl⟩ := h.shape
    exact .inr (own_kept h hg (own_ne_row hr h))

theorem own_push {B : Nat} {w w' : World} {v v' x y : Value} {os : List OpB} {cs : List Value} (o : OpB) (hrow : w.ownsRow B 63 3 v os.length cs)
    (hel : ∀ j (h : j < os.length), ∃ x y, cs[j * 3]? = some (.int .u8 (os[j].1.toNat : Int)) ∧ cs[j * 3 + 1]? = some x ∧ cs[j * 3 + 2]? = some y ∧ OwnN B w x os[j].2.1 ∧ OwnN B w y os[j].2.2)
    (hx : OwnN B w x o.2.1) (hy : OwnN B w y o.2.2) (hn : w'.ownsRow B 63 3 v' (os.length + 1) (cs ++ [.int .u8 (o.1.toNat : Int), x, y])) (hg : w.grownBy w' v.ownBlock) : OwnO B w' v' (os ++ [o]) := by
  have hcl : cs.length = os.length * 3 := hrow.1
  refine ⟨_, by rw [List.length_append]; exact hn, fun j h => ?_⟩
  by_cases hj : j < os.length
  · obtain ⟨x', y', c0, c1, c2, ox, oy⟩ := hel j hj
    refine ⟨x', y', ?_, ?_, ?_, ?_, ?_⟩
    · rw [List.getElem?_append_left (by omega), List.getElem_append_left hj]; exact c0
    · rw [List.getElem?_append_left (by omega)]; exact c1
    · rw [List.getElem?_append_left (by omega)]; exact c2
    · rw [List.getElem_append_left hj]; exact ox.grownO hrow hg
    · rw [List.getElem_append_left hj]; exact oy.grownO hrow hg
  · have hje : j = os.length := by rw [List.length_append] at h; simp at h; omega
    subst hje
    have e : (os ++ [o])[os.length]'h = o := by simp
    rw [e]
    refine ⟨x, y, ?_, ?_, ?_, hx.grownO hrow hg, hy.grownO hrow hg⟩
    · rw [List.getElem?_append_right (by omega), show os.length * 3 - cs.length = 0 by omega]; rfl
    · rw [List.getElem?_append_right (by omega), show os.length * 3 + 1 - cs.length = 1 by omega]; rfl
    · rw [List.getElem?_append_right (by omega), show os.length * 3 + 2 - cs.length = 2 by omega]; rfl

/-- an op's three cells, as they were laid -/
theorem laid3 (w : World) (v0 v1 v2 : Value) (t : TypeId) : ∀ j u, [v0, v1, v2][j]? = some u → (w.alloc (.cells #[v0, v1, v2] t)).cell? ((⟨w.heap.size, 0, none⟩ : Addr).add j) = some u := by
  intro j u hj
  match j, hj with
  | 0, hj => simp at hj; subst hj; simp [Addr.add]
  | 1, hj => simp at hj; subst hj; simp [Addr.add]
  | 2, hj => simp at hj; subst hj; simp [Addr.add]
  | (j + 3), hj => simp at hj

theorem one3 (k : Int) (a b : Option Addr) (n m c d : Nat) : ∀ u ∈ [Value.int .u8 k, .slice a n c, .slice b m d], u.oneCell' = true := by
  intro u hu
  simp at hu
  rcases hu with rfl | rfl | rfl <;> rfl

/-- an op, cut -/
def cutOp (o : OpB) : OpB := (o.1, o.2.1.take 80, o.2.2.take 600)

def fewO (n : Nat) (os : List OpB) : List OpB := (os.take n).map cutOp

end Go.Proofs.Ythcoblmfmbmdkaa

/- bartizanref04's Copy. -/
namespace Go.Proofs.Ythcoblmfmbmdkaa
open Go.RowKit

set_option maxHeartbeats 4000000 in
theorem opcopy_any (w : World) (v : Value) (os : List OpB)  (hv : ArgO w v os) (hn : os.length ≤ 4000) (hb : ∀ o ∈ os, o.2.1.length ≤ 1000000 ∧ o.2.2.length ≤ 1000000) :
    Calls Try.prog 35 #[v] w fun e w' => ∃ x, e = .returned x ∧ OwnO w.heap.size w' x os ∧ Below w.heap.size w w' := by
  obtain ⟨i0, hi, hz0, hz1, hz2⟩ := info_parts infoOp
  have hv0 := hv
  obtain ⟨ao, cap, rfl, h1, h2, h3⟩ := hv
  unfold maxLen at h2
  have H3 : Hid _ := hv0
  clear hv0 h3
  go_enter Try.func35, Try.ntmps35
  go_wp2_with fail
  go_loopg [3, 8] os.length (fun gk pv iv wr => ∃ j n' c' : Nat, ∃ a' : Option Addr, gk + j = os.length ∧ iv = .int .i64 (j : Int) ∧ pv = .slice a' n' c' ∧ OwnO w.heap.size wr pv (os.take j) ∧ Below w.heap.size w wr)
  case atStart => exact ⟨0, 0, 0, none, rfl, rfl, rfl, by rw [List.take_zero]; exact OwnO.nil _ _, Below.refl _ _⟩
  case round =>
    obtain ⟨j, n', c', a', hj, rfl, rfl, hO, hB⟩ := hrel
    have hrd : ArgO wr _ os := LsO.belowA (show ArgO w _ os from H3.out) hB (Nat.le_refl _)
    by_cases hlt : j < os.length
    · obtain ⟨_, _, e, _, _, h3⟩ := hrd
      cases e
      obtain ⟨b, off, rfl, xv, yv, c0, c1, c2, rx, ry⟩ := h3 j hlt
      obtain ⟨x1, x2, ex⟩ := Arg.shape rx
      obtain ⟨y1, y2, ey⟩ := Arg.shape ry
      subst ex ey
      obtain ⟨⟨ok, ol, om⟩, ho⟩ : ∃ o, os[j] = o := ⟨_, rfl⟩
      rw [ho] at c0 c1 c2 rx ry
      have hbd : ol.length ≤ 1000000 ∧ om.length ≤ 1000000 := by have := hb _ (List.getElem_mem hlt); rw [ho] at this; exact this
      obtain ⟨hol, hom⟩ := hbd
      have HR : Hid (os.take (j + 1) = os.take j ++ [(ok, ol, om)]) := by show _ = _; rw [List.take_succ_eq_append_getElem hlt, ho]
      have htl : (os.take j).length = j := by rw [List.length_take]; omega
      clear h3 ho
      have hlow := hB.size
      have hb0 := below_box wr #[.int .u8 (ok.toNat : Int), .slice x1 ol.length x2, .slice y1 om.length y2] 63
      have bx := (box_new wr (.int .u8 (ok.toNat : Int)) (.slice x1 ol.length x2) (.slice y1 om.length y2) 63).drew
      have rx0 := arg_drew (rx.below hb0 (Nat.le_refl _))
      have ry0 := arg_drew (ry.below hb0 (Nat.le_refl _))
      have hO0 := (hO.below hb0 (Nat.le_refl _)).drew
      have hB0 := (hB.alloc hB.size (.cells #[.int .u8 (ok.toNat : Int), .slice x1 ol.length x2, .slice y1 om.length y2] 63)).drew
      have hne : some wr.heap.size ≠ (Value.slice a' n' c').ownBlock := by
        obtain ⟨cs, hrow, _⟩ := hO
        intro e
        have := (hrow.lt _ e.symm).2
        omega
      have hlen : n' = (os.take j).length := by
        obtain ⟨cs, hrow, _⟩ := hO
        rcases hrow.2 with ⟨e, e2⟩ | ⟨g, cap', cur, e, _⟩
        · cases e; exact e2.symm
        · cases e; rfl
      obtain rfl : j = n' := by omega
      clear rx ry hO hB hb0 hlen

      go_wp2_with fail
      go_region_held3 (fun w' => w'.cell? ⟨wr.heap.size, 0, none⟩ = some (.int .u8 (ok.toNat : Int)) ∧ w'.cell? ⟨wr.heap.size, 1, none⟩ = some (.slice x1 ol.length x2) ∧ w'.cell? ⟨wr.heap.size, 2, none⟩ = some (.slice y1 om.length y2))
        (first | exact ⟨b4.c0, b4.c1, b4.c2⟩ | exact ⟨be.c0, be.c1, be.c2⟩ | exact ⟨by2.c0, by2.c1, by2.c2⟩ | exact ⟨bx2.c0, bx2.c1, bx2.c2⟩ | exact ⟨bx.c0, bx.c1, bx.c2⟩)
        (first
          | (go_at_call_of 47 (Value.slice x1 ol.length x2); refine (copy_any _ _ ol rx0 (by omega)).mono ?_; rintro e wx ⟨x, rfl, ox, hbx⟩; obtain ⟨gx, kx, hx⟩ := ox.shape; subst hx; have bx2 := bx.below hbx (Nat.le_refl _))
          | (go_at_call_of 47 (Value.slice y1 om.length y2); refine (copy_any _ _ om (ry0.below hbx (Nat.le_refl _)) (by omega)).mono ?_; rintro e wy ⟨y, rfl, oy, hby⟩; obtain ⟨gy, ky, hy⟩ := oy.shape; subst hy; have by2 := bx2.below hby (Nat.le_refl _); have be := by2.alloc (.cells #[.int .u8 (ok.toNat : Int), .slice (some ⟨gx, 0, none⟩) ol.length kx, .slice (some ⟨gy, 0, none⟩) om.length ky] 63))
          | (have hbe := below_box wy #[.int .u8 (ok.toNat : Int), .slice (some ⟨gx, 0, none⟩) ol.length kx, .slice (some ⟨gy, 0, none⟩) om.length ky] 63
             have hOe := ((hO0.below hbx (Nat.le_refl _)).below hby (Nat.le_refl _)).below hbe (Nat.le_refl _)
             have oxe := ((ox.below hby (Nat.le_refl _)).below hbe (Nat.le_refl _)).mono (C := w.heap.size) (by simp; omega)
             have oye := (oy.below hbe (Nat.le_refl _)).mono (C := w.heap.size) (by have := hbx.size; simp at this; omega)
             have hBx := hB0.trans (hbx.mono hB0.size)
             have hBy := hBx.trans (hby.mono hBx.size)
             have hBe := hBy.trans (hbe.mono hBy.size)
             obtain ⟨cs, hrow, hel⟩ := hOe
             have hsz : w.heap.size ≤ wy.heap.size := hBy.size
             refine step_append_lies _ rfl (.tmp 12) (.tmp 22) 29 rfl w.heap.size 63 i0 (.agg #[.int .u8 0, .slice none 0 0, .slice none 0 0]) 3 56 Try.underlying29 hi hz0 hz1 hz2 rfl (by decide) (.slice a' j c') (os.take j).length cs rfl hrow ⟨wy.heap.size, 0, none⟩ 1 1 [.int .u8 (ok.toNat : Int), .slice (some ⟨gx, 0, none⟩) ol.length kx, .slice (some ⟨gy, 0, none⟩) om.length ky] rfl rfl (laid3 _ _ _ _ _) (one3 _ _ _ _ _ _ _) (by decide) (by simp only [maxLen]; omega) (by omega) (by simp; omega) _ rfl ?_
             intro g4 c4 w4 hown hgrow hat hlt4
             have b4 := be.grown hgrow hne
             have hpush := own_push (ok, ol, om) hrow hel (.inr oxe) (.inr oye) hown hgrow
             rw [htl] at hpush
             have hB4 := hBe.grown hgrow (Nat.le_trans hsz (by simp)) (fun k' e => (hrow.lt k' e).1))
          | fail)
      all_goals
        clear hO0 hB0 bx rx0 ry0
        go_wp2
        go_roundg (gk - 1)
        case measure => omega
        case rel => exact ⟨j + 1, _, c4, _, by omega, by go_num, rfl, by rw [HR.out]; exact hpush, hB4⟩
    · obtain rfl : j = os.length := by omega
      clear hrd
      go_wp2
      go_ret
      exact ⟨_, rfl, by rw [List.take_length] at hO; exact hO, hB⟩

end Go.Proofs.Ythcoblmfmbmdkaa

/- The document's own memo (bartizanref10) in memory. -/
namespace Go.Proofs.Ythcoblmfmbmdkaa
set_option maxRecDepth 100000
open Go.RowKit
set_option linter.unusedVariables false
set_option linter.unusedSimpArgs false

/-- two cells in a box -/
def Bx2 (w : World) (x : Nat) (v u : Value) : Prop := w.heap[x]? = some (.cells #[v, u] 31 (0, 0))

theorem Bx2.lt {w : World} {x : Nat} {v u : Value} (h : Bx2 w x v u) : x < w.heap.size := (Array.getElem?_eq_some_iff.1 h).1
theorem Bx2.c0 {w : World} {x : Nat} {v u : Value} (h : Bx2 w x v u) : w.cell? ⟨x, 0, none⟩ = some v := by simp [World.cell?, show w.heap[x]? = _ from h]
theorem Bx2.c1 {w : World} {x : Nat} {v u : Value} (h : Bx2 w x v u) : w.cell? ⟨x, 1, none⟩ = some u := by simp [World.cell?, show w.heap[x]? = _ from h]
theorem Bx2.f0 {w : World} {x : Nat} {v u : Value} (h : Bx2 w x v u) : w.frozen? ⟨x, 0, none⟩ = false := by simp [World.frozen?, show w.heap[x]? = _ from h]
theorem Bx2.f1 {w : World} {x : Nat} {v u : Value} (h : Bx2 w x v u) : w.frozen? ⟨x, 1, none⟩ = false := by simp [World.frozen?, show w.heap[x]? = _ from h]
theorem Bx2.set0 {w : World} {x : Nat} {v u : Value} (v' : Value) (h : Bx2 w x v u) : Bx2 (w.setCell ⟨x, 0, none⟩ v') x v' u := by
  obtain ⟨hlt, hk⟩ := Array.getElem?_eq_some_iff.1 h
  show (w.heap.modify x _)[x]? = _
  rw [Array.getElem?_eq_getElem (by rw [Array.size_modify]; exact hlt), Array.getElem_modify_self, hk]
  rfl
theorem Bx2.set1 {w : World} {x : Nat} {v u : Value} (u' : Value) (h : Bx2 w x v u) : Bx2 (w.setCell ⟨x, 1, none⟩ u') x v u' := by
  obtain ⟨hlt, hk⟩ := Array.getElem?_eq_some_iff.1 h
  show (w.heap.modify x _)[x]? = _
  rw [Array.getElem?_eq_getElem (by rw [Array.size_modify]; exact hlt), Array.getElem_modify_self, hk]
  rfl
theorem Bx2.new (w : World) (v u : Value) : Bx2 (w.alloc (.cells #[v, u] 31)) w.heap.size v u := World.alloc_heap_new w _
theorem Bx2.not_row {w : World} {x : Nat} {v u : Value} (h : Bx2 w x v u) {e : TypeId} (hte : 31 ≠ e) {base size k : Nat} {o : Value} {xs : List Value} (hr : w.ownsRow base e size o k xs) : some x ≠ o.ownBlock := by
  rcases hr.2 with ⟨rfl, _⟩ | ⟨g, cap, cur, rfl, _, hgb, _⟩
  · simp [Value.ownBlock]
  · intro e'
    obtain rfl : x = g := by simpa [Value.ownBlock] using e'
    have := (show w.heap[x]? = _ from h).symm.trans hgb
    simp at this
    exact hte this.2

/-- numbers in a row -/
def encU (n : Nat) : Value := .int .u64 (n : Int)

/-- what a row of ops holds -/
def ElO (w : World) (os : List OpB) (cs : List Value) : Prop := ∀ j (h : j < os.length), ∃ x y, cs[j * 3]? = some (.int .u8 (os[j].1.toNat : Int)) ∧ cs[j * 3 + 1]? = some x ∧ cs[j * 3 + 2]? = some y ∧ OwnN 0 w x os[j].2.1 ∧ OwnN 0 w y os[j].2.2

/-- the document's memo: its ops, its numbers; G has its blocks -/
def RefM (G : Nat → Prop) (w : World) (x : Nat) (os : List OpB) (ns : List Nat) : Prop :=
  ∃ v u cs, Bx2 w x v u ∧ w.ownsRow 0 63 3 v os.length cs ∧ ElO w os cs ∧ w.ownsRow 0 33 1 u ns.length (ns.map encU) ∧
    G x ∧ (∀ q, v.ownBlock = some q → G q) ∧ (∀ z ∈ cs, ∀ q, z.ownBlock = some q → G q) ∧ (∀ q, u.ownBlock = some q → G q) ∧ ∀ q, G q → q < w.heap.size

theorem ElO.same {w w' : World} {os : List OpB} {cs : List Value} (h : ElO w os cs) (hk : ∀ z ∈ cs, ∀ q, z.ownBlock = some q → w'.heap[q]? = w.heap[q]?) : ElO w' os cs := fun j hj => by
  obtain ⟨x, y, c0, c1, c2, ox, oy⟩ := h j hj
  exact ⟨x, y, c0, c1, c2, ownN_same9 ox (fun q hq => hk x (List.mem_of_getElem? c1) q hq), ownN_same9 oy (fun q hq => hk y (List.mem_of_getElem? c2) q hq)⟩

theorem RefM.same {G : Nat → Prop} {w w' : World} {x : Nat} {os : List OpB} {ns : List Nat} (h : RefM G w x os ns) (hs : w.heap.size ≤ w'.heap.size) (hk : ∀ q, G q → w'.heap[q]? = w.heap[q]?) : RefM G w' x os ns := by
  obtain ⟨v, u, cs, h1, h2, h3, h4, h5, h6, h7, h8, h9⟩ := h
  exact ⟨v, u, cs, (hk x h5).trans h1, row_same9 h2 (fun q hq => hk q (h6 q hq)), h3.same (fun z hz q hq => hk q (h7 z hz q hq)), row_same9 h4 (fun q hq => hk q (h8 q hq)), h5, h6, h7, h8, fun q hq => Nat.lt_of_lt_of_le (h9 q hq) hs⟩

theorem RefM.lt {G : Nat → Prop} {w : World} {x : Nat} {os : List OpB} {ns : List Nat} (h : RefM G w x os ns) {q : Nat} (hq : G q) : q < w.heap.size := by
  obtain ⟨v, u, cs, h1, h2, h3, h4, h5, h6, h7, h8, h9⟩ := h
  exact h9 q hq

theorem RefM.below {G : Nat → Prop} {w w' : World} {x : Nat} {os : List OpB} {ns : List Nat} (h : RefM G w x os ns) (hb : Below w.heap.size w w') : RefM G w' x os ns :=
  h.same hb.size (fun q hq => hb.block q (h.lt hq))

theorem RefM.keeps {F G : Nat → Prop} {w w' : World} {x : Nat} {os : List OpB} {ns : List Nat} (h : RefM G w x os ns) (hk : Keeps F w w') (hF : ∀ q, G q → ¬ F q) : RefM G w' x os ns :=
  h.same hk.size (fun q hq => hk.block q (h.lt hq) (hF q hq))

/-- a new one -/
theorem refM_new (w : World) : RefM (fun q => q = w.heap.size) (w.alloc (.cells #[.slice none 0 0, .slice none 0 0] 31)) w.heap.size [] [] := by
  refine ⟨_, _, [], Bx2.new w _ _, World.ownsRow_nil _ _ _ _, fun j hj => absurd hj (Nat.not_lt_zero _), World.ownsRow_nil _ _ _ _, rfl, fun q hq => by simp [Value.ownBlock] at hq, fun z hz => by simp at hz, fun q hq => by simp [Value.ownBlock] at hq, fun q hq => ?_⟩
  rw [hq]
  simp

/-- its ops are read -/
theorem RefM.rd {G : Nat → Prop} {w : World} {x : Nat} {os : List OpB} {ns : List Nat} (h : RefM G w x os ns) : ∃ v u, Bx2 w x v u ∧ RdO w v os ∧ w.ownsRow 0 33 1 u ns.length (ns.map encU) := by
  obtain ⟨v, u, cs, h1, h2, h3, h4, _⟩ := h
  exact ⟨v, u, h1, OwnO.rd (B := 0) ⟨cs, h2, h3⟩, h4⟩

/-- the greatest number -/
def lastN (ns : List Nat) : Nat := ns.getLast?.getD 0

theorem eqRm (x : Nat) : ∀ w : World, (binOp .eql 28 (.pointer (some ⟨x, 0, none⟩)) (.pointer none)).run Try.prog w = .ok (.bool false) w := fun _ => rfl

theorem rlast_any (G : Nat → Prop) (w : World) (x : Nat) (os : List OpB) (ns : List Nat) (h : RefM G w x os ns) (hn : ns.length ≤ 1000000) : Calls Try.prog 13 #[.pointer (some ⟨x, 0, none⟩)] w fun e w' => e = .returned (.int .u64 (lastN ns : Int)) ∧ ∃ n, w' = w.drewN n := by
  have he := eqRm x
  obtain ⟨v, u, hb, _, hr⟩ := h.rd
  have c0 := hb.c0
  have c1 := hb.c1
  by_cases h0 : ns.length = 0
  · have hnil : ns = [] := List.eq_nil_of_length_eq_zero h0
    subst hnil
    have hu : ∃ a c, u = .slice a 0 c := by
      rcases hr.2 with ⟨e, _⟩ | ⟨g, cap, cur, e, _⟩
      · exact ⟨_, _, e⟩
      · exact ⟨_, _, e⟩
    obtain ⟨a, c, rfl⟩ := hu
    clear hr
    go_enter Try.func13, Try.ntmps13
    go_wp2
    go_ret
    exact ⟨rfl, 0, rfl⟩
  · obtain ⟨g, c, e, _⟩ := hr.form (by omega)
    obtain ⟨N, hN⟩ : ∃ N, ns.length = N + 1 := ⟨ns.length - 1, by omega⟩
    rw [hN] at e hr
    subst e
    obtain ⟨z, hz⟩ : ∃ z, lastN ns = z := ⟨_, rfl⟩
    have hcell : w.cell? ⟨g, N, none⟩ = some (.int .u64 (z : Int)) := by
      rw [World.ownsRow.cellAt hr N (by omega), List.getElem?_map]
      have h9 : ns.getLast? = ns[N]? := by rw [List.getLast?_eq_getElem?, hN]; rfl
      unfold lastN at hz
      rw [h9, List.getElem?_eq_getElem (by omega)] at hz
      rw [List.getElem?_eq_getElem (by omega)]
      simp only [Option.getD_some] at hz
      rw [hz]
      rfl
    rw [hz]
    have hNI : (N : Int) + 1 - 1 = (N : Int) := by omega
    have hw1 : IntKind.i64.wrap (N : Int) = (N : Int) := by rw [IntKind.wrap_i64]; omega
    have hw2 : wrap64 (N : Int) = (N : Int) := by unfold wrap64; omega
    clear hr hz hN h0
    go_enter Try.func13, Try.ntmps13
    go_wp2_with fail
    go_region
    go_wp2
    go_ret
    exact ⟨rfl, _, rfl⟩

end Go.Proofs.Ythcoblmfmbmdkaa

/- An op more, a number more in the document's memo. -/
namespace Go.Proofs.Ythcoblmfmbmdkaa
set_option maxRecDepth 100000
open Go.RowKit
set_option linter.unusedVariables false
set_option linter.unusedSimpArgs false

theorem push_elO {n : Nat} {w w' : World} {v x y : Value} {es : List OpB} {cs : List Value} (o : OpB) (hl : es.length = n) (hrow : w.ownsRow 0 63 3 v n cs) (hel : ElO w es cs)
    (hx : OwnN 0 w x o.2.1) (hy : OwnN 0 w y o.2.2) (hg : w.grownBy w' v.ownBlock) : ElO w' (es ++ [o]) (cs ++ [.int .u8 (o.1.toNat : Int), x, y]) := by
  subst hl
  have hcl : cs.length = es.length * 3 := hrow.1
  intro j h
  by_cases hj : j < es.length
  · obtain ⟨x', y', c0, c1, c2, ox, oy⟩ := hel j hj
    refine ⟨x', y', ?_, ?_, ?_, ?_, ?_⟩
    · rw [List.getElem?_append_left (by omega), List.getElem_append_left hj]; exact c0
    · rw [List.getElem?_append_left (by omega)]; exact c1
    · rw [List.getElem?_append_left (by omega)]; exact c2
    · rw [List.getElem_append_left hj]; exact ownN_kept ox (by decide) hrow hg
    · rw [List.getElem_append_left hj]; exact ownN_kept oy (by decide) hrow hg
  · have hje : j = es.length := by rw [List.length_append] at h; simp at h; omega
    subst hje
    have e : (es ++ [o])[es.length]'h = o := by simp
    rw [e]
    refine ⟨x, y, ?_, ?_, ?_, ownN_kept hx (by decide) hrow hg, ownN_kept hy (by decide) hrow hg⟩
    · rw [List.getElem?_append_right (by omega), show es.length * 3 - cs.length = 0 by omega]; rfl
    · rw [List.getElem?_append_right (by omega), show es.length * 3 + 1 - cs.length = 1 by omega]; rfl
    · rw [List.getElem?_append_right (by omega), show es.length * 3 + 2 - cs.length = 2 by omega]; rfl

theorem ElO.stored {w : World} {x i : Nat} {v u z : Value} {os : List OpB} {cs : List Value} (h : ElO w os cs) (hb : Bx2 w x v u) : ElO (w.setCell ⟨x, i, none⟩ z) os cs := fun j hj => by
  have hN : ∀ a l, OwnN 0 w a l → OwnN 0 (w.setCell ⟨x, i, none⟩ z) a l := fun a l ho => ownN_same9 ho (fun q hq => by
    have hne : q ≠ x := fun e => by
      subst e
      rcases ho with ⟨rfl, _⟩ | ho
      · simp [Value.ownBlock] at hq
      · exact hb.not_row (e := 5) (by decide) ho.row hq.symm
    exact Below.heap_setCell w ⟨x, i, none⟩ z q hne)
  obtain ⟨a, b, c0, c1, c2, ox, oy⟩ := h j hj
  exact ⟨a, b, c0, c1, c2, hN _ _ ox, hN _ _ oy⟩

theorem row_stored {w : World} {x i : Nat} {v u z o : Value} {B s n : Nat} {e : TypeId} {cs : List Value} (h : w.ownsRow B e s o n cs) (hb : Bx2 w x v u) (he : 31 ≠ e) : (w.setCell ⟨x, i, none⟩ z).ownsRow B e s o n cs :=
  row_same9 h (fun q hq => Below.heap_setCell w ⟨x, i, none⟩ z q (fun e9 => by subst e9; exact hb.not_row he h hq.symm))

/-- an op more -/
theorem refM_op {G : Nat → Prop} {B x g4 c4 : Nat} {W w4 : World} {os : List OpB} {ns : List Nat} {o : OpB} {v u a b : Value} {cs : List Value} (hB : B ≤ W.heap.size) (hb : Bx2 W x v u) (hrow : W.ownsRow 0 63 3 v os.length cs) (hel : ElO W os cs) (hu : W.ownsRow 0 33 1 u ns.length (ns.map encU))
    (g0 : G x) (g2 : ∀ z ∈ cs, ∀ q, z.ownBlock = some q → G q) (g3 : ∀ q, u.ownBlock = some q → G q) (g4' : ∀ q, G q → q < W.heap.size) (ha : OwnN B W a o.2.1) (hb2 : OwnN B W b o.2.2)
    (hown : w4.ownsRow 0 63 3 (.slice (some ⟨g4, 0, none⟩) (os.length + 1) c4) (os.length + 1) (cs ++ [.int .u8 (o.1.toNat : Int), a, b])) (hg : W.grownBy w4 v.ownBlock) (hat : (G g4 ∨ B ≤ g4) ∧ g4 < w4.heap.size) :
    RefM (fun q => (G q ∨ B ≤ q) ∧ q < w4.heap.size) (w4.setCell ⟨x, 0, none⟩ (.slice (some ⟨g4, 0, none⟩) (os.length + 1) c4)) x (os ++ [o]) ns := by
  have hs4 : W.heap.size ≤ w4.heap.size := hg.size
  have hbx : Bx2 w4 x v u := (hg.block x hb.lt (hb.not_row (by decide) hrow)).trans hb
  have hu4 : w4.ownsRow 0 33 1 u ns.length (ns.map encU) := hu.kept hg (rows_ne (by decide) hrow hu)
  have hz : (w4.setCell ⟨x, 0, none⟩ (.slice (some ⟨g4, 0, none⟩) (os.length + 1) c4)).heap.size = w4.heap.size := by simp
  refine ⟨_, u, _, hbx.set0 _, ?_, (push_elO o rfl hrow hel (ha.mono (Nat.zero_le _)) (hb2.mono (Nat.zero_le _)) hg).stored hbx, row_stored hu4 hbx (by decide), ⟨.inl g0, hbx.lt⟩, fun q hq => ?_, fun z hz q hq => ?_, fun q hq => ?_, fun q hq => by rw [hz]; exact hq.2⟩
  · rw [List.length_append]
    exact row_stored hown hbx (by decide)
  · simp only [Value.ownBlock, Option.some.injEq] at hq
    subst hq
    exact hat
  · rcases List.mem_append.1 hz with hz | hz
    · exact ⟨.inl (g2 z hz q hq), Nat.lt_of_lt_of_le (g4' q (g2 z hz q hq)) hs4⟩
    · simp only [List.mem_cons, List.not_mem_nil, or_false] at hz
      rcases hz with rfl | rfl | rfl
      · simp [Value.ownBlock] at hq
      · have h9 := ownN_lt9 ha q hq
        exact ⟨.inr h9.1, by omega⟩
      · have h9 := ownN_lt9 hb2 q hq
        exact ⟨.inr h9.1, by omega⟩
  · exact ⟨.inl (g3 q hq), Nat.lt_of_lt_of_le (g4' q (g3 q hq)) hs4⟩

/-- a number more -/
theorem refM_seq {G : Nat → Prop} {B x g4 c4 s : Nat} {W w4 : World} {os : List OpB} {ns : List Nat} {v u : Value} {cs : List Value} (hB : B ≤ W.heap.size) (hb : Bx2 W x v u) (hrow : W.ownsRow 0 63 3 v os.length cs) (hel : ElO W os cs) (hu : W.ownsRow 0 33 1 u ns.length (ns.map encU))
    (g0 : G x) (g1 : ∀ q, v.ownBlock = some q → G q) (g2 : ∀ z ∈ cs, ∀ q, z.ownBlock = some q → G q) (g4' : ∀ q, G q → q < W.heap.size)
    (hown : w4.ownsRow 0 33 1 (.slice (some ⟨g4, 0, none⟩) (ns.length + 1) c4) (ns.length + 1) (ns.map encU ++ [.int .u64 (s : Int)])) (hg : W.grownBy w4 u.ownBlock) (hat : (G g4 ∨ B ≤ g4) ∧ g4 < w4.heap.size) :
    RefM (fun q => (G q ∨ B ≤ q) ∧ q < w4.heap.size) (w4.setCell ⟨x, 1, none⟩ (.slice (some ⟨g4, 0, none⟩) (ns.length + 1) c4)) x os (ns ++ [s]) := by
  have hs4 : W.heap.size ≤ w4.heap.size := hg.size
  have hbx : Bx2 w4 x v u := (hg.block x hb.lt (hb.not_row (by decide) hu)).trans hb
  have hrow4 : w4.ownsRow 0 63 3 v os.length cs := hrow.kept hg (rows_ne (by decide) hu hrow)
  have hel4 : ElO w4 os cs := fun j hj => by
    obtain ⟨a, b, c0, c1, c2, ox, oy⟩ := hel j hj
    exact ⟨a, b, c0, c1, c2, ownN_kept ox (by decide) hu hg, ownN_kept oy (by decide) hu hg⟩
  have hz : (w4.setCell ⟨x, 1, none⟩ (.slice (some ⟨g4, 0, none⟩) (ns.length + 1) c4)).heap.size = w4.heap.size := by simp
  refine ⟨v, _, cs, hbx.set1 _, row_stored hrow4 hbx (by decide), hel4.stored hbx, ?_, ⟨.inl g0, hbx.lt⟩, fun q hq => ⟨.inl (g1 q hq), Nat.lt_of_lt_of_le (g4' q (g1 q hq)) hs4⟩, fun z hz q hq => ⟨.inl (g2 z hz q hq), Nat.lt_of_lt_of_le (g4' q (g2 z hz q hq)) hs4⟩, fun q hq => ?_, fun q hq => by rw [hz]; exact hq.2⟩
  · rw [List.length_append, List.map_append]
    exact row_stored hown hbx (by decide)
  · simp only [Value.ownBlock, Option.some.injEq] at hq
    subst hq
    exact hat

end Go.Proofs.Ythcoblmfmbmdkaa

/- bartizanlaw10.awake. -/
namespace Go.Proofs.Ythcoblmfmbmdkaa
set_option maxRecDepth 100000
open Go.RowKit
set_option linter.unusedVariables false
set_option linter.unusedSimpArgs false

theorem rd10one (w : World) (b : UInt8) (i : Int) (hi : (b.toNat : Int) = i) : Rd (w.alloc (.cells #[.int .u8 i] 5 (1, 2))) (.slice (some ⟨w.heap.size, 0, none⟩) 1 1) [b] := by
  refine .inr ⟨w.heap.size, 0, 1, rfl, by simp, by simp [maxLen], fun j u hu => ?_⟩
  rw [World.cell?_alloc_mark]
  subst hi
  have hj : j = 0 := by have := (List.getElem?_eq_some_iff.1 hu).1; simp [bv] at this; omega
  subst hj
  simpa [bv] using hu

theorem conv10one (w : World) (i : Int) (g : Nat) (hg : g = w.heap.size) : (convert 40 40 (.slice (some ⟨g, 0, none⟩) 1 1)).run Try.prog (w.alloc (.cells #[.int .u8 i] 5)) = .ok (.slice (some ⟨g, 0, none⟩) 1 1) (w.alloc (.cells #[.int .u8 i] 5 (1, 2))) :=
  Joins.run_convert_bytes_const_at w 40 5 _ 1 1 g hg Try.underlying40 Try.underlying5

/-- the memo of the example -/
def AwI (w W : World) (m : Nat) (L : List EnB) (ss : List SpB) (last : Int) : Prop := MmP (fun q => w.heap.size ≤ q) W m L ss last ∧ Below w.heap.size w W

theorem AwI.below {w W W' : World} {m : Nat} {L : List EnB} {ss : List SpB} {last : Int} (h : AwI w W m L ss last) (hb : Below W.heap.size W W') : AwI w W' m L ss last := ⟨h.1.below hb, bsplit h.2 hb⟩

/-- an op more -/
theorem AwI.do {w W W1 : World} {m : Nat} {L L' : List EnB} {ss ss' : List SpB} {last last' : Int} {k : UInt8} {x y : Value} {kl vl : List UInt8} {s : Nat} {hh : Int} (h : AwI w W m L ss last) (hb : Below W.heap.size W W1) (hx : Rd W1 x kl ∧ From W.heap.size x) (hy : Rd W1 y vl ∧ From W.heap.size y)
    (hc : batC [(k, kl, vl)] (s : Int) [hh] last = 0) (hlen : L.length + 1 ≤ 4000) (hss : ss.length ≤ 10000) (hlast : ∀ e ∈ L, (e.2.1 : Int) ≤ last) (hs64 : s < 18446744073709551616) (hr : riseB L' = true) (hp : (L ++ verO [(k, kl, vl)] s).Perm L') (hs' : ss ++ spnO [(k, kl, vl)] s = ss') (hl' : (s : Int) = last') :
    Calls Try.prog 30 #[.pointer (some ⟨m, 0, none⟩), .agg #[.int .u8 (k.toNat : Int), x, y], .int .u64 (s : Int), .int .i64 hh] W1 fun e W' => e = .returned (.int .i64 0) ∧ AwI w W' m L' ss' last' := by
  have h1 := h.below hb
  have hP : MmP (fun q => w.heap.size ≤ q ∧ q < W.heap.size) W1 m L ss last := (h.1.mono (Q := fun q => w.heap.size ≤ q ∧ q < W.heap.size) (fun q h1 h2 => ⟨h2, h1⟩)).below hb
  have h9 := mmP_do _ W1 m L ss last k x y kl vl s hh hP (fun W' hk => ⟨rd_apart hx.1 hx.2 (fun i hi => hi.2) W' hk, rd_apart hy.1 hy.2 (fun i hi => hi.2) W' hk⟩) hlen hss hlast hs64
  rw [hc] at h9
  refine h9.mono ?_
  rintro e W' ⟨he, hk, _, h4⟩
  obtain ⟨L2, hp2, hM⟩ := h4 rfl
  have hLL : L2 = L' := rise_unique hM.rise hr (hp2.trans hp)
  subst hLL hs' hl'
  refine ⟨he, ?_, ?_⟩
  · have h8 := hM.mono (Q := fun q => w.heap.size ≤ q) (fun q _ h2 => h2.elim (fun h3 => h3.1) (fun h3 => Nat.le_trans h1.2.size h3))
    simpa using h8
  · exact h1.2.trans (hk.below (fun i hi => hi.1) h1.2.size)

theorem awP1 : (([] : List EnB) ++ verO [(2, [97], [120])] 1).Perm aw1 := List.Perm.of_eq (by decide +kernel)
theorem awP2 : (aw1 ++ verO [(3, [97], [99])] 2).Perm aw1 := List.Perm.of_eq (by decide +kernel)
theorem awP3 : (aw1 ++ verO [(2, [98], [121])] 3).Perm aw2 := List.Perm.of_eq (by decide +kernel)

set_option maxHeartbeats 4000000 in
theorem mawake_any (w : World) : Calls Try.prog 9 #[] w fun e w' => e = .returned (.bool true) ∧ Below w.heap.size w w' := by
  go_enter Try.func9, Try.ntmps9
  go_wp2_with fail
  refine (mmP_new w).mono ?_
  rintro e w1 ⟨m, rfl, hM, hb1⟩
  have A1 : Hid (AwI w w1 m [] [] 0) := ⟨hM, hb1⟩
  clear hM hb1
  go_wp2_with fail
  refine (op10_any w1 _ _ 2 [97] [120] rfl (by simp) rfl (by simp)).mono ?_
  rintro e w2 ⟨x, y, rfl, rx, ry, hb⟩
  have hd := A1.out.do (k := 2) (x := x) (y := y) (kl := [97]) (vl := [120]) (s := 1) (hh := 1) hb rx ry awc1 (by decide) (by decide) (by decide) (by decide) awr1 awP1 (show _ = [] from rfl) rfl
  obtain ⟨xa, xc, rfl⟩ := rx.1.len
  obtain ⟨ya, yc, rfl⟩ := ry.1.len
  clear rx ry hb
  go_wp2_with fail
  refine hd.mono ?_
  rintro e w3 ⟨rfl, h9⟩
  have A2 : Hid (AwI w w3 m aw1 [] 1) := h9
  clear hd h9 A1
  go_wp2_with fail
  refine (op10_any w3 _ _ 3 [97] [99] rfl (by simp) rfl (by simp)).mono ?_
  rintro e w4 ⟨x, y, rfl, rx, ry, hb⟩
  have hd := A2.out.do (k := 3) (x := x) (y := y) (kl := [97]) (vl := [99]) (s := 2) (hh := 1) hb rx ry awc2 (by decide) (by decide) (by decide) (by decide) awr1 awP2 (show _ = awS from rfl) rfl
  obtain ⟨xa, xc, rfl⟩ := rx.1.len
  obtain ⟨ya, yc, rfl⟩ := ry.1.len
  clear rx ry hb
  go_wp2_with fail
  refine hd.mono ?_
  rintro e w5 ⟨rfl, h9⟩
  have A3 : Hid (AwI w w5 m aw1 awS 2) := h9
  clear hd h9 A2
  go_wp2_with fail
  refine (op10_any w5 _ _ 2 [98] [121] rfl (by simp) rfl (by simp)).mono ?_
  rintro e w6 ⟨x, y, rfl, rx, ry, hb⟩
  have hd := A3.out.do (k := 2) (x := x) (y := y) (kl := [98]) (vl := [121]) (s := 3) (hh := 2) hb rx ry awc3 (by decide) (by decide) (by decide) (by decide) awr2 awP3 (show _ = awS from rfl) rfl
  obtain ⟨xa, xc, rfl⟩ := rx.1.len
  obtain ⟨ya, yc, rfl⟩ := ry.1.len
  clear rx ry hb
  go_wp2_with fail
  refine hd.mono ?_
  rintro e w7 ⟨rfl, h9⟩
  have A4 : Hid (AwI w w7 m aw2 awS 3) := h9
  clear hd h9 A3
  have k1 := conv10one w7 97 w7.heap.size rfl
  have g1 := below_box4 w7 (.cells #[.int .u8 97] 5 (1, 2))
  have hg := mmP_get _ _ m aw2 awS 3 (.slice (some ⟨w7.heap.size, 0, none⟩) 1 1) [97] 1 (A4.out.below g1).1 (rd10one w7 97 97 rfl) (by decide) (by decide)
  rw [awg1.1, awg1.2] at hg
  have HB4 : Hid (AwI w (w7.alloc (.cells #[.int .u8 97] 5 (1, 2))) m aw2 awS 3) := A4.out.below g1
  clear g1
  go_wp2_with fail
  refine hg.mono ?_
  rintro e w8 ⟨v4, rfl, ov4, hb⟩
  have A5 : Hid (AwI w w8 m aw2 awS 3) := HB4.out.below hb
  have RV : Hid (Rd w8 v4 [120]) := ov4.rd
  obtain ⟨va, vc, rfl⟩ := ov4.rd.len
  clear ov4 hg hb HB4 A4 k1
  have k1 := conv10one w8 97 w8.heap.size rfl
  have g1 := below_box4 w8 (.cells #[.int .u8 97] 5 (1, 2))
  have hg := mmP_get _ _ m aw2 awS 3 (.slice (some ⟨w8.heap.size, 0, none⟩) 1 1) [97] 3 (A5.out.below g1).1 (rd10one w8 97 97 rfl) (by decide) (by decide)
  rw [awg2] at hg
  have HB5 : Hid (AwI w (w8.alloc (.cells #[.int .u8 97] 5 (1, 2))) m aw2 awS 3) := A5.out.below g1
  clear g1
  go_wp2_with fail
  refine hg.mono ?_
  rintro e w9 ⟨v5, rfl, ov5, hb⟩
  have A6 : Hid (AwI w w9 m aw2 awS 3) := HB5.out.below hb
  replace RV : Hid (Rd w9 _ [120]) := RV.out.below (bsplit (below_box4 _ _) hb) (Nat.le_refl _)
  obtain ⟨va5, vc5, rfl⟩ := ov5.rd.len
  clear ov5 hg hb HB5 A5 k1
  have k1 := conv10one w9 98 w9.heap.size rfl
  have g1 := below_box4 w9 (.cells #[.int .u8 98] 5 (1, 2))
  have hg := mmP_get _ _ m aw2 awS 3 (.slice (some ⟨w9.heap.size, 0, none⟩) 1 1) [98] 2 (A6.out.below g1).1 (rd10one w9 98 98 rfl) (by decide) (by decide)
  rw [awg3] at hg
  have HB6 : Hid (AwI w (w9.alloc (.cells #[.int .u8 98] 5 (1, 2))) m aw2 awS 3) := A6.out.below g1
  clear g1
  go_wp2_with fail
  refine hg.mono ?_
  rintro e w10 ⟨v6, rfl, ov6, hb⟩
  have A7 : Hid (AwI w w10 m aw2 awS 3) := HB6.out.below hb
  replace RV : Hid (Rd w10 _ [120]) := RV.out.below (bsplit (below_box4 _ _) hb) (Nat.le_refl _)
  obtain ⟨va6, vc6, rfl⟩ := ov6.rd.len
  clear ov6 hg hb HB6 A6 k1
  have k1 := conv10one w10 99 w10.heap.size rfl
  have g1 := below_box4 w10 (.cells #[.int .u8 99] 5 (1, 2))
  have hg := mmP_get _ _ m aw2 awS 3 (.slice (some ⟨w10.heap.size, 0, none⟩) 1 1) [99] 9 (A7.out.below g1).1 (rd10one w10 99 99 rfl) (by decide) (by decide)
  rw [awg4] at hg
  have HB7 : Hid (AwI w (w10.alloc (.cells #[.int .u8 99] 5 (1, 2))) m aw2 awS 3) := A7.out.below g1
  clear g1
  go_wp2_with fail
  refine hg.mono ?_
  rintro e w11 ⟨v7, rfl, ov7, hb⟩
  have A8 : Hid (AwI w w11 m aw2 awS 3) := HB7.out.below hb
  replace RV : Hid (Rd w11 _ [120]) := RV.out.below (bsplit (below_box4 _ _) hb) (Nat.le_refl _)
  obtain ⟨va7, vc7, rfl⟩ := ov7.rd.len
  clear ov7 hg hb HB7 A7 k1
  have hcv : (convert 40 9 (.slice va 1 vc)).run Try.prog w11 = .ok (.string ⟨#[120]⟩) w11 := conv_rd RV.out
  go_wp2
  go_ret
  exact ⟨rfl, A8.out.2⟩

end Go.Proofs.Ythcoblmfmbmdkaa
