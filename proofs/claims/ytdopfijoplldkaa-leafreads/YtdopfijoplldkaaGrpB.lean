/- Several texts in one. -/
import Derived.Test.YtdopfijoplldkaaGrpD
import Derived.Deep.AppendLies
import Derived.Deep.AppendSrc
import Derived.Test.YtdopfijoplldkaaSrtPure
import Derived.Test.YtdopfijoplldkaaKeyCmp
import Derived.Test.YtdopfijoplldkaaLfPure
import Derived.Test.YtdopfijoplldkaaRefText
import Derived.Deep.RegionHeld3
import Derived.Deep.DeepCutAuto
import Derived.Deep.LoopGhost
import Derived.Test.YtdopfijoplldkaaLfForm
import Derived.Test.YtdopfijoplldkaaRefNum
import Derived.BigQuiet

/- append of a row, nil or empty or not, to a row of one's own that is not nil: as a step of a region that draws its order. -/
namespace Go.Proofs.Ytdopfijoplldkaa
set_option maxRecDepth 20000
open Go.RowKit
set_option linter.unusedVariables false

theorem grown_refl (w : World) (row : Option Nat) : w.grownBy w row := ⟨rfl, rfl, rfl, Nat.le_refl _, fun _ _ _ => rfl⟩

/-- what is appended: m elements, the cells news -/
def SrcOf (w : World) (size : Nat) (vx : Value) (m : Nat) (news : List Value) : Prop := (vx = .slice none 0 0 ∧ m = 0 ∧ news = []) ∨ ∃ ad c, vx = .slice (some ad) m c ∧ news.length = m * size ∧ ∀ j u, news[j]? = some u → w.cell? (ad.add j) = some u

theorem step_append_src {P : Program} {w : World} {ops : Array Oper} {o : Oper} {a : Act} {K : Act → World → Prop} {Q : Exit → Act → World → Prop} {E : Prop} (hgd : o.guard = none) (s x : Operand) (t : TypeId)
    (ho : o.op = .call { callee := .builtin .append, args := #[s, x], argTypes := #[t, t] })
    (base : Nat) (e : TypeId) (i : TypeInfo) (z : Value) (size bytes : Nat) (ht : P.underlying t = some (.slice e)) (hi : P.info? e = some i) (hz : i.zero = some z)
    (hsize : i.size = size) (hby : i.bytes = bytes) (hzs : z.cells.size = size) (hsz : 0 < size)
    (g0 n c0 : Nat) (xs : List Value) (hs : a.eval s = .slice (some ⟨g0, 0, none⟩) n c0) (hown : w.ownsRow base e size (.slice (some ⟨g0, 0, none⟩) n c0) n xs)
    (vx : Value) (hx : a.eval x = vx) (m : Nat) (news : List Value) (hsrc : SrcOf w size vx m news) (h1 : ∀ u ∈ news, u.oneCell' = true)
    (h63 : n + m ≤ maxLen) (hbytes : (n + m) * bytes ≤ 140737488355328) (hbase : base ≤ w.heap.size) (H : Nat) (hH : w.heap.size = H) (N : Nat) (hN : n + m = N)
    (h : ∀ g c w', w'.ownsRow base e size (.slice (some ⟨g, 0, none⟩) N c) N (xs ++ news) → w.grownBy w' (some g0) → (g0 = g ∨ g = H) → K (a.put o.dst (.slice (some ⟨g, 0, none⟩) N c)) w') :
    if Region.wanted o (yielded ops a.tmps) = true then Oper.wp P o a w K Q else E := by
  subst hN
  have hw : Region.wanted o (yielded ops a.tmps) = true := by simp [Region.wanted, hgd]
  by_cases hm : m = 0
  · subst hm
    have hnn : news = [] := by
      rcases hsrc with ⟨_, _, h⟩ | ⟨ad, c, _, hl, _⟩
      · exact h
      · exact List.eq_nil_of_length_eq_zero (by omega)
    subst hnn
    have hsr : Src P i.size t vx 0 [] w := by
      rcases hsrc with ⟨rfl, _, _⟩ | ⟨ad, c, rfl, hl, hnews⟩
      · exact Src.ofNil w ht 0
      · exact Src.ofSlice w ht ad 0 c [] (by simp) hnews h1
    have hcap : n ≤ c0 := by
      rcases hown.2 with ⟨e', _⟩ | ⟨g, cap, cur, e', _, _, h1, _⟩
      · cases e'
      · cases e'; exact h1
    have hrun := run_append_room_src w t t o.type e i ht hi g0 0 n c0 vx 0 [] hsr (by omega) (fun j hj => absurd hj (by simp)) (fun j hj => absurd hj (by simp))
    rw [if_pos hw]
    unfold Oper.wp
    simp [execOp, ho, resolve, invoke, builtin, hs, hx, hrun, Result.andThen]
    have hsc : w.setCells g0 (0 + n * i.size) [] = w := by simp [World.setCells]
    rw [Nat.zero_add] at hsc
    rw [hsc]
    exact h g0 c0 w (by simpa using hown) (grown_refl w _) (.inl rfl)
  · rcases hsrc with ⟨_, h0, _⟩ | ⟨ad, c, rfl, hl, hnews⟩
    · exact absurd h0 hm
    · exact step_append_lies w hgd s x t ho base e i z size bytes ht hi hz hsize hby hzs hsz _ n xs hs hown ad m c news hx hl hnews h1 (by omega) h63 hbytes hbase H hH (fun g c w' h2 h3 h4 h5 => h g c w' h2 h3 (by
        rcases h4 with h4 | h4
        · simp only [Value.ownBlock, Option.some.injEq] at h4; exact .inl h4
        · exact .inr h4))

theorem row_mono {B C : Nat} {w : World} {e : TypeId} {s n : Nat} {v : Value} {cs : List Value} (h : w.ownsRow B e s v n cs) (hC : C ≤ B) : w.ownsRow C e s v n cs := by
  refine ⟨h.1, ?_⟩
  rcases h.2 with hr | ⟨g, cap, cur, e, hb, hg⟩
  · exact .inl hr
  · exact .inr ⟨g, cap, cur, e, Nat.le_trans hC hb, hg⟩

end Go.Proofs.Ytdopfijoplldkaa

/- bartizanref12.Sort. -/
namespace Go.Proofs.Ytdopfijoplldkaa
set_option maxRecDepth 20000
open Go.RowKit
set_option linter.unusedVariables false

/-- the cells of entries whose texts are read in w -/
def Cells4 (w : World) (cs : List Value) (es : List EnB) : Prop :=
  cs.length = es.length * 4 ∧ ∀ j (h : j < es.length), ∃ x y, cs[j * 4]? = some x ∧ cs[j * 4 + 1]? = some (.int .u64 (es[j].2.1 : Int)) ∧ cs[j * 4 + 2]? = some (.int .u8 (es[j].2.2.1.toNat : Int)) ∧ cs[j * 4 + 3]? = some y ∧ Rd w x es[j].1 ∧ Rd w y es[j].2.2.2

theorem Cells4.nil (w : World) : Cells4 w [] [] := ⟨rfl, fun j h => absurd h (Nat.not_lt_zero _)⟩

theorem Cells4.append {w : World} {cs ds : List Value} {es fs : List EnB} (h : Cells4 w cs es) (h2 : Cells4 w ds fs) : Cells4 w (cs ++ ds) (es ++ fs) := by
  obtain ⟨hl, hj⟩ := h
  obtain ⟨hl2, hj2⟩ := h2
  refine ⟨by rw [List.length_append, List.length_append, hl, hl2]; omega, fun j hjl => ?_⟩
  by_cases hh : j < es.length
  · obtain ⟨x, y, c0, c1, c2, c3, rx, ry⟩ := hj j hh
    refine ⟨x, y, ?_, ?_, ?_, ?_, ?_, ?_⟩
    · rw [List.getElem?_append_left (by omega)]; exact c0
    · rw [List.getElem?_append_left (by omega), List.getElem_append_left hh]; exact c1
    · rw [List.getElem?_append_left (by omega), List.getElem_append_left hh]; exact c2
    · rw [List.getElem?_append_left (by omega)]; exact c3
    · rw [List.getElem_append_left hh]; exact rx
    · rw [List.getElem_append_left hh]; exact ry
  · have hk : j - es.length < fs.length := by rw [List.length_append] at hjl; omega
    obtain ⟨x, y, c0, c1, c2, c3, rx, ry⟩ := hj2 (j - es.length) hk
    refine ⟨x, y, ?_, ?_, ?_, ?_, ?_, ?_⟩
    · rw [List.getElem?_append_right (by omega), show j * 4 - cs.length = (j - es.length) * 4 by omega]; exact c0
    · rw [List.getElem?_append_right (by omega), List.getElem_append_right (by omega), show j * 4 + 1 - cs.length = (j - es.length) * 4 + 1 by omega]; exact c1
    · rw [List.getElem?_append_right (by omega), List.getElem_append_right (by omega), show j * 4 + 2 - cs.length = (j - es.length) * 4 + 2 by omega]; exact c2
    · rw [List.getElem?_append_right (by omega), show j * 4 + 3 - cs.length = (j - es.length) * 4 + 3 by omega]; exact c3
    · rw [List.getElem_append_right (by omega)]; exact rx
    · rw [List.getElem_append_right (by omega)]; exact ry

theorem Cells4.take {w : World} {cs : List Value} {es : List EnB} (h : Cells4 w cs es) (k : Nat) (hk : k ≤ es.length) : Cells4 w (cs.take (k * 4)) (es.take k) := by
  obtain ⟨hl, hj⟩ := h
  have htl : (es.take k).length = k := by rw [List.length_take]; omega
  refine ⟨by rw [List.length_take, htl]; omega, fun j hjl => ?_⟩
  rw [htl] at hjl
  obtain ⟨x, y, c0, c1, c2, c3, rx, ry⟩ := hj j (by omega)
  refine ⟨x, y, ?_, ?_, ?_, ?_, ?_, ?_⟩
  · rw [List.getElem?_take_of_lt (by omega)]; exact c0
  · rw [List.getElem?_take_of_lt (by omega), List.getElem_take]; exact c1
  · rw [List.getElem?_take_of_lt (by omega), List.getElem_take]; exact c2
  · rw [List.getElem?_take_of_lt (by omega)]; exact c3
  · rw [List.getElem_take]; exact rx
  · rw [List.getElem_take]; exact ry

theorem Cells4.drop {w : World} {cs : List Value} {es : List EnB} (h : Cells4 w cs es) (k : Nat) (hk : k ≤ es.length) : Cells4 w (cs.drop (k * 4)) (es.drop k) := by
  obtain ⟨hl, hj⟩ := h
  refine ⟨by rw [List.length_drop, List.length_drop]; omega, fun j hjl => ?_⟩
  rw [List.length_drop] at hjl
  obtain ⟨x, y, c0, c1, c2, c3, rx, ry⟩ := hj (k + j) (by omega)
  refine ⟨x, y, ?_, ?_, ?_, ?_, ?_, ?_⟩
  · rw [List.getElem?_drop, show k * 4 + j * 4 = (k + j) * 4 by omega]; exact c0
  · rw [List.getElem?_drop, List.getElem_drop, show k * 4 + (j * 4 + 1) = (k + j) * 4 + 1 by omega]; exact c1
  · rw [List.getElem?_drop, List.getElem_drop, show k * 4 + (j * 4 + 2) = (k + j) * 4 + 2 by omega]; exact c2
  · rw [List.getElem?_drop, show k * 4 + (j * 4 + 3) = (k + j) * 4 + 3 by omega]; exact c3
  · rw [List.getElem_drop]; exact rx
  · rw [List.getElem_drop]; exact ry

theorem Cells4.one {w : World} {x y : Value} (e : EnB) (hx : Rd w x e.1) (hy : Rd w y e.2.2.2) : Cells4 w [x, .int .u64 (e.2.1 : Int), .int .u8 (e.2.2.1.toNat : Int), y] [e] :=
  ⟨rfl, fun j h => by
    obtain rfl : j = 0 := by simp at h; exact h
    exact ⟨x, y, rfl, rfl, rfl, rfl, hx, hy⟩⟩

theorem rd_one4 {w : World} {v : Value} {l : List UInt8} (h : Rd w v l) : v.oneCell' = true := by
  obtain ⟨a, c, rfl⟩ := h.len; rfl

theorem Cells4.ones {w : World} {cs : List Value} {es : List EnB} (h : Cells4 w cs es) : ∀ u ∈ cs, u.oneCell' = true := by
  intro u hu
  obtain ⟨i, hi, rfl⟩ := List.getElem_of_mem hu
  have hj : i / 4 < es.length := by have := h.1; omega
  obtain ⟨x, y, c0, c1, c2, c3, rx, ry⟩ := h.2 (i / 4) hj
  have h4 : i % 4 = 0 ∨ i % 4 = 1 ∨ i % 4 = 2 ∨ i % 4 = 3 := by omega
  have hg := List.getElem?_eq_getElem hi
  rcases h4 with h | h | h | h
  · rw [show i / 4 * 4 = i by omega, hg] at c0; rw [Option.some.inj c0]; exact rd_one4 rx
  · rw [show i / 4 * 4 + 1 = i by omega, hg] at c1; rw [Option.some.inj c1]; rfl
  · rw [show i / 4 * 4 + 2 = i by omega, hg] at c2; rw [Option.some.inj c2]; rfl
  · rw [show i / 4 * 4 + 3 = i by omega, hg] at c3; rw [Option.some.inj c3]; exact rd_one4 ry

/-- entries in a row of one's own; their texts are read in w -/
def RowE (w wr : World) (v : Value) (es : List EnB) : Prop := ∃ cs, wr.ownsRow w.heap.size 45 4 v es.length cs ∧ Cells4 w cs es

theorem RowE.below {w wr w2 : World} {v : Value} {es : List EnB} (h : RowE w wr v es) (hb : Below wr.heap.size wr w2) : RowE w w2 v es := by
  obtain ⟨cs, hr, hc⟩ := h
  exact ⟨cs, row_below hr hb, hc⟩

theorem RowE.nil (w wr : World) : RowE w wr (.slice none 0 0) [] := ⟨[], World.ownsRow_nil _ _ _ _, Cells4.nil w⟩

theorem RowE.rd {w wr : World} {v : Value} {es : List EnB} (h : RowE w wr v es) (hb : Below w.heap.size w wr) : RdE wr v es := by
  obtain ⟨cs, hr, hj⟩ := h
  have hr2 := hr
  rcases hr.2 with ⟨e, hn⟩ | ⟨g, cap, cur, e, hb', hg, h1, h2, h3, h4⟩
  · exact ⟨none, 0, by rw [e, hn], by omega, Nat.zero_le _, fun j hj => by omega⟩
  · subst e
    refine ⟨_, cap, rfl, h1, h2, fun j h => ⟨g, 0, rfl, ?_⟩⟩
    obtain ⟨x, y, c0, c1, c2, c3, ox, oy⟩ := hj.2 j h
    have hc := hr2.cells (g := g) rfl
    refine ⟨x, y, ?_, ?_, ?_, ?_, ox.below hb (Nat.le_refl _), oy.below hb (Nat.le_refl _)⟩
    · have := hc _ _ c0; rwa [Addr.add_lit] at this
    · have := hc _ _ c1; rwa [Addr.add_lit] at this
    · have := hc _ _ c2; rwa [Addr.add_lit] at this
    · have := hc _ _ c3; rwa [Addr.add_lit] at this

theorem RowE.lt {w wr : World} {v : Value} {es : List EnB} (h : RowE w wr v es) : ∀ q, v.ownBlock = some q → w.heap.size ≤ q ∧ q < wr.heap.size := by
  obtain ⟨cs, hr, _⟩ := h
  exact fun q hq => hr.lt q hq

/-- v is the row's value: nil, or a block of its own -/
theorem RowE.shape {w wr : World} {v : Value} {es : List EnB} (h : RowE w wr v es) : (v = .slice none 0 0 ∧ es = []) ∨ ∃ g c, v = .slice (some ⟨g, 0, none⟩) es.length c ∧ es.length ≤ c ∧ c ≤ 9223372036854775807 := by
  obtain ⟨cs, hr, _⟩ := h
  rcases hr.2 with ⟨e, hn⟩ | ⟨g, cap, cur, e, hb', hg, h1, h2, h3, h4⟩
  · exact .inl ⟨e, List.eq_nil_of_length_eq_zero hn⟩
  · exact .inr ⟨g, cap, e, h1, by unfold maxLen at h2; omega⟩

set_option maxHeartbeats 8000000 in
theorem sort_any (w : World) (v : Value) (es : List EnB) (hv : RdE w v es) (hn : es.length ≤ 1000) :
    Calls Try.prog 11 #[v] w fun e w' => ∃ x, e = .returned x ∧ RowE w w' x (sortE es) ∧ Below w.heap.size w w' := by
  obtain ⟨i0, hi, hz0, hz1, hz2⟩ := info_parts infoEn
  have HV : Hid (RdE w v es) := hv
  obtain ⟨ao, cap, rfl, h1, h2, _⟩ := hv
  unfold maxLen at h2
  obtain ⟨N, hN⟩ : ∃ N, es.length = N := ⟨_, rfl⟩
  rw [hN] at h1 HV hn ⊢
  have HN : Hid (es.length = N) := hN
  clear hN
  go_enter Try.func11, Try.ntmps11
  go_wp2_with fail
  go_loopg [3, 12] N (fun gk pv iv wr => ∃ (j n' c' : Nat) (a' : Option Addr), gk + j = N ∧ iv = .int .i64 (j : Int) ∧ pv = .slice a' n' c' ∧ Hid (RowE w wr pv (sortTo es j)) ∧ Hid (Below w.heap.size w wr))
  case atStart => exact ⟨0, 0, 0, none, by omega, rfl, rfl, RowE.nil _ _, Below.refl _ _⟩
  case round =>
    obtain ⟨j, n', c', a', hj, rfl, rfl, HO, HB⟩ := hrel
    by_cases hlt : j < N
    · have hlt2 : j < es.length := by rw [HN.out]; exact hlt
      obtain ⟨_, _, e, _, _, h3⟩ := HV.out
      rw [HN.out] at e
      cases e
      obtain ⟨b, off, rfl, xv, yv, d0', d1', d2', d3', rx, ry⟩ := h3 j hlt2
      have hbl := World.block_lt_of_cell? w _ d0'
      have d0 := (HB.out.cell (p := ⟨b, off + j * 4, none⟩) hbl).trans d0'
      have d1 := (HB.out.cell (p := ⟨b, off + j * 4 + 1, none⟩) hbl).trans d1'
      have d2 := (HB.out.cell (p := ⟨b, off + j * 4 + 2, none⟩) hbl).trans d2'
      have d3 := (HB.out.cell (p := ⟨b, off + j * 4 + 3, none⟩) hbl).trans d3'
      clear d0' d1' d2' d3' hbl
      obtain ⟨x1, x2, ex⟩ := rx.len
      obtain ⟨y1, y2, ey⟩ := ry.len
      subst ex ey
      obtain ⟨q1, q2⟩ := gk_nxt hj hlt
      have hst := sortTo_at hlt2
      obtain ⟨E, ho⟩ : ∃ o, es[j] = o := ⟨_, rfl⟩
      rw [ho] at d0 d1 d2 d3 rx ry hst
      obtain ⟨nl, hnlq⟩ : ∃ nl, E.1.length = nl := ⟨_, rfl⟩
      obtain ⟨oln, holn⟩ : ∃ oln, E.2.2.2.length = oln := ⟨_, rfl⟩
      obtain ⟨sq, hsq⟩ : ∃ z : Int, (E.2.1 : Int) = z := ⟨_, rfl⟩
      obtain ⟨kk, hkk⟩ : ∃ z : Int, (E.2.2.1.toNat : Int) = z := ⟨_, rfl⟩
      rw [hnlq] at d0 rx
      rw [holn] at d3 ry
      rw [hsq] at d1
      rw [hkk] at d2
      have HST : Hid (sortTo es (j + 1) = insE (sortTo es j) E) := hst
      have HE : Hid ((E.1.length = nl ∧ E.2.2.2.length = oln) ∧ (E.2.1 : Int) = sq ∧ (E.2.2.1.toNat : Int) = kk) := ⟨⟨hnlq, holn⟩, hsq, hkk⟩
      have HRX : Hid (Rd w (.slice x1 nl x2) E.1 ∧ Rd w (.slice y1 oln y2) E.2.2.2) := ⟨rx, ry⟩
      obtain ⟨OUT, hOUT⟩ : ∃ O, sortTo es j = O := ⟨_, rfl⟩
      rw [hOUT] at HO HST
      have HOL : Hid (OUT.length ≤ 1000) := by show _ ≤ _; rw [← hOUT]; have := (sortTo_ok es j).1; omega
      have HNP : Hid (OUT.length = n') := by
        show _ = _
        rcases HO.out.shape with ⟨e, h⟩ | ⟨g, c, e, _⟩
        · cases e; rw [h]; rfl
        · cases e; rfl
      have hb0 := below_box4 wr (.cells #[.slice x1 nl x2, .int .u64 sq, .int .u8 kk, .slice y1 oln y2] 45)
      have BX := box4_new wr (.slice x1 nl x2) (.int .u64 sq) (.int .u8 kk) (.slice y1 oln y2) 45
      have HO0 : Hid (RowE w (wr.alloc (.cells #[.slice x1 nl x2, .int .u64 sq, .int .u8 kk, .slice y1 oln y2] 45)) (.slice a' n' c') OUT) := HO.out.below hb0
      have HB0 : Hid (Below w.heap.size w (wr.alloc (.cells #[.slice x1 nl x2, .int .u64 sq, .int .u8 kk, .slice y1 oln y2] 45))) := bsplit HB.out hb0
      have hnI : n' ≤ 1000 := by rw [← HNP.out]; exact HOL.out
      clear ho h3 rx ry hnlq holn hkk hsq hb0 hst hOUT HO HB
      have BX' := BX
      obtain ⟨z0, z1, z2, z3⟩ := BX'
      go_wp2_with fail
      obtain ⟨wb, hwb⟩ : ∃ wb, wr.alloc (.cells #[.slice x1 nl x2, .int .u64 sq, .int .u8 kk, .slice y1 oln y2] 45) = wb := ⟨_, rfl⟩
      obtain ⟨bx, hbx⟩ : ∃ bx, wr.heap.size = bx := ⟨_, rfl⟩
      rw [hwb, hbx]
      rw [hwb] at HO0 HB0
      rw [hwb, hbx] at BX
      have HBXL : Hid (bx < wb.heap.size) := BX.lt
      clear z0 z1 z2 z3 hwb hbx
      obtain ⟨G, hG⟩ : ∃ G, G = gk := ⟨_, rfl⟩
      subst hG
      clear HV
      go_loopg [6, 7, 18] n' (fun gk kv tv iv wr => ∃ (i k : Nat) (tw : Bool), gk + i = n' ∧ k ≤ i ∧ iv = .int .i64 (i : Int) ∧ kv = .int .i64 (k : Int) ∧ tv = .bool tw ∧ Hid (k = cntE (OUT.take i) E ∧ tw = anyE (OUT.take i) E) ∧ Hid (Below wb.heap.size wb wr))
      case atStart => exact ⟨0, 0, false, by omega, Nat.le_refl _, rfl, rfl, rfl, ⟨rfl, rfl⟩, Below.refl _ _⟩
      case round =>
        obtain ⟨i, k, tw, hi2, hki, rfl, rfl, rfl, HK, HBI⟩ := hrel
        by_cases hlti : i < n'
        · have l2 : i < OUT.length := by rw [HNP.out]; exact hlti
          obtain ⟨_, _, e, _, _, h4⟩ := rdE_below (HO0.out.rd HB0.out) HBI.out (Nat.le_refl _)
          rw [HNP.out] at e
          cases e
          obtain ⟨p, o, rfl, xv, yv, e0, e1, e2, e3, rx, ry⟩ := h4 i l2
          obtain ⟨u1, u2, ex⟩ := rx.len
          obtain ⟨u3, u4, ey⟩ := ry.len
          subst ex ey
          obtain ⟨q3, q4⟩ := gk_nxt hi2 hlti
          have hct := cntE_take (e := E) l2
          have hat := anyE_take (e := E) l2
          obtain ⟨X, hX⟩ : ∃ o, OUT[i] = o := ⟨_, rfl⟩
          rw [hX] at e0 e1 e2 e3 rx hct hat
          obtain ⟨m1, hm1⟩ : ∃ nl, X.1.length = nl := ⟨_, rfl⟩
          obtain ⟨m2, hm2⟩ : ∃ oln, X.2.2.2.length = oln := ⟨_, rfl⟩
          obtain ⟨sx, hsx⟩ : ∃ z : Int, (X.2.1 : Int) = z := ⟨_, rfl⟩
          obtain ⟨kx, hkx⟩ : ∃ z : Int, (X.2.2.1.toNat : Int) = z := ⟨_, rfl⟩
          rw [hm1] at e0 rx
          rw [hm2] at e3
          rw [hsx] at e1
          rw [hkx] at e2
          obtain ⟨lt, hltq⟩ : ∃ q, ltE X E = q := ⟨_, rfl⟩
          obtain ⟨sm, hsmq⟩ : ∃ q, sameE X E = q := ⟨_, rfl⟩
          have HLT : Hid (decide (Mth.cmpK X.1 sx kx E.1 sq kk < 0) = lt) := by show _ = _; rw [← hltq, ← hsx, ← hkx, ← HE.out.2.1, ← HE.out.2.2]; rfl
          have HSM : Hid (decide (X.1 = E.1 ∧ sx = sq ∧ kx = kk) = sm) := by show _ = _; rw [← hsmq, ← hsx, ← hkx, ← HE.out.2.1, ← HE.out.2.2]; rfl
          rw [hltq] at hct
          rw [hsmq] at hat
          have HCT : Hid (cntE (OUT.take (i + 1)) E = k + (if lt = true then 1 else 0) ∧ anyE (OUT.take (i + 1)) E = (tw || sm)) := by
            refine ⟨?_, ?_⟩
            · rw [hct, ← HK.out.1]
            · rw [hat, ← HK.out.2]
          have hb5 := below_box4 wr (.cells #[.slice u1 m1 u2, .int .u64 sx, .int .u8 kx, .slice u3 m2 u4] 45)
          have BY := box4_new wr (.slice u1 m1 u2) (.int .u64 sx) (.int .u8 kx) (.slice u3 m2 u4) 45
          have HB5 : Hid (Below wb.heap.size wb (wr.alloc (.cells #[.slice u1 m1 u2, .int .u64 sx, .int .u8 kx, .slice u3 m2 u4] 45))) := bsplit HBI.out hb5
          have HBW : Hid (Below w.heap.size w (wr.alloc (.cells #[.slice u1 m1 u2, .int .u64 sx, .int .u8 kx, .slice u3 m2 u4] 45))) := bsplit HB0.out HB5.out
          have hls := keyless_any (wr.alloc (.cells #[.slice u1 m1 u2, .int .u64 sx, .int .u8 kx, .slice u3 m2 u4] 45)) _ _ X.1 E.1 sx kx sq kk lt (rx.below hb5 (Nat.le_refl _)) (HRX.out.1.below HBW.out (Nat.le_refl _)) HLT.out
          have HRX2 : Hid (Rd (wr.alloc (.cells #[.slice u1 m1 u2, .int .u64 sx, .int .u8 kx, .slice u3 m2 u4] 45)) (.slice u1 m1 u2) X.1) := rx.below hb5 (Nat.le_refl _)
          have BXR := BX.below HBI.out (Nat.le_refl _)
          have BX5 := BX.below HB5.out (Nat.le_refl _)
          have BX5' := BX5
          have BY' := BY
          obtain ⟨z0, z1, z2, z3⟩ := BX5'
          obtain ⟨y0, y1', y2', y3⟩ := BY'
          have hkI : (k : Int) ≤ 1000 := by omega
          clear h4 rx ry hX hm1 hm2 hsx hkx hltq hsmq hct hat hb5
          go_wp2_with fail
          refine hls.mono ?_
          rintro e w6 ⟨rfl, hb6⟩
          clear z0 z1 z2 z3 y0 y1' y2' y3
          have HB6 : Hid (Below wb.heap.size wb w6) := bsplit HB5.out hb6
          have HBW6 : Hid (Below w.heap.size w w6) := bsplit HBW.out hb6
          have BX6 := BX5.below hb6 (Nat.le_refl _)
          have BY6 := BY.below hb6 (Nat.le_refl _)
          have hss := keysame_any w6 _ _ X.1 E.1 sx kx sq kk sm (HRX2.out.below hb6 (Nat.le_refl _)) (HRX.out.1.below HBW6.out (Nat.le_refl _)) HSM.out
          clear hls hb6 BX5 BY BXR
          obtain ⟨z0, z1, z2, z3⟩ := BX6
          obtain ⟨y0, y1', y2', y3⟩ := BY6
          cases lt with
          | true =>
            cases tw with
            | true =>
              go_wp2_with fail
              go_roundg (gk - 1)
              case measure => exact q3
              case rel => exact ⟨i + 1, k + 1, true, q4, by omega, by go_num, by go_num, rfl, ⟨by rw [HCT.out.1]; rfl, by rw [HCT.out.2]; rfl⟩, HB6⟩
            | false =>
              go_wp2_with fail
              refine hss.mono ?_
              rintro e w7 ⟨rfl, hb7⟩
              have HB7 : Hid (Below wb.heap.size wb w7) := bsplit HB6.out hb7
              clear hss hb7
              go_wp2_with fail
              go_roundg (gk - 1)
              case measure => exact q3
              case rel => exact ⟨i + 1, k + 1, sm, q4, by omega, by go_num, by go_num, rfl, ⟨by rw [HCT.out.1]; rfl, by rw [HCT.out.2]; rfl⟩, HB7⟩
          | false =>
            cases tw with
            | true =>
              go_wp2_with fail
              go_roundg (gk - 1)
              case measure => exact q3
              case rel => exact ⟨i + 1, k, true, q4, by omega, by go_num, rfl, rfl, ⟨by rw [HCT.out.1]; rfl, by rw [HCT.out.2]; rfl⟩, HB6⟩
            | false =>
              go_wp2_with fail
              refine hss.mono ?_
              rintro e w7 ⟨rfl, hb7⟩
              have HB7 : Hid (Below wb.heap.size wb w7) := bsplit HB6.out hb7
              clear hss hb7
              go_wp2_with fail
              go_roundg (gk - 1)
              case measure => exact q3
              case rel => exact ⟨i + 1, k, sm, q4, by omega, by go_num, rfl, rfl, ⟨by rw [HCT.out.1]; rfl, by rw [HCT.out.2]; rfl⟩, HB7⟩
        · have hiN : i = n' := by omega
          subst hiN
          have HK2 : Hid (k = cntE OUT E ∧ tw = anyE OUT E) := by
            have := HK.out
            rw [← HNP.out, List.take_length] at this
            exact this
          have hltI : ¬ (i : Int) < (i : Int) := by omega
          have BX7 := BX.below HBI.out (Nat.le_refl _)
          have HOR : Hid (RowE w wr (.slice a' i c') OUT) := HO0.out.below HBI.out
          have HBR : Hid (Below w.heap.size w wr) := bsplit HB0.out HBI.out
          clear HK hi2
          cases tw with
          | true =>
            have HS9 : Hid (sortTo es (j + 1) = OUT) := by show _ = _; rw [HST.out]; unfold insE; rw [if_neg]; rw [← HK2.out.2]; simp
            go_wp2_with fail
            go_roundg (G - 1)
            case measure => exact q1
            case rel => exact ⟨j + 1, _, _, _, q2, by go_num, rfl, by show RowE _ _ _ _; rw [HS9.out]; exact HOR.out, HBR⟩
          | false =>
            have h0s : 0 ≤ sq := by rw [← HE.out.2.1]; omega
            have h0k : 0 ≤ kk := by rw [← HE.out.2.2]; omega
            obtain ⟨ck, hckq⟩ : ∃ c, chk nl sq kk = c := ⟨_, rfl⟩
            have HCE : Hid (chkEn E = if ck = 0 then (if 512 < oln then 3 else 0) else ck) := by show _ = _; unfold chkEn; rw [HE.out.1.1, HE.out.1.2, HE.out.2.1, HE.out.2.2, hckq]
            have hck := refcheck_any wr x1 nl x2 sq kk h0s h0k
            rw [hckq] at hck
            have BX7' := BX7
            obtain ⟨z0, z1, z2, z3⟩ := BX7'
            clear hckq
            go_wp2_with fail
            refine hck.mono ?_
            rintro e w8 ⟨rfl, hb8⟩
            clear z0 z1 z2 z3
            have BX8 := BX7.below hb8 (Nat.le_refl _)
            have HO8 : Hid (RowE w w8 (.slice a' i c') OUT) := HOR.out.below hb8
            have HB8 : Hid (Below w.heap.size w w8) := bsplit HBR.out hb8
            clear hck hb8 BX7 HOR HBR HBI HO0 HB0 BX HBXL
            have BX8' := BX8
            obtain ⟨z0, z1, z2, z3⟩ := BX8'
            by_cases hc0 : ck = 0
            · subst hc0
              by_cases h512 : 512 < oln
              · have h5I : ¬ (oln : Int) ≤ 512 := by omega
                have h5b : decide ((oln : Int) ≤ 512) = false := decide_eq_false h5I
                have HS9 : Hid (sortTo es (j + 1) = OUT) := by show _ = _; rw [HST.out]; unfold insE; rw [if_neg]; rintro ⟨_, h9⟩; rw [HCE.out, if_pos rfl, if_pos h512] at h9; cases h9
                go_wp2_with fail
                go_roundg (G - 1)
                case measure => exact q1
                case rel => exact ⟨j + 1, _, _, _, q2, by go_num, rfl, by show RowE _ _ _ _; rw [HS9.out]; exact HO8.out, HB8⟩
              · have h5I : (oln : Int) ≤ 512 := by omega
                have HINS : Hid (sortTo es (j + 1) = (OUT.take k ++ [E]) ++ OUT.drop k) := by
                  show _ = _
                  rw [HST.out]; unfold insE
                  rw [if_pos ⟨HK2.out.2.symm, by rw [HCE.out, if_pos rfl, if_neg h512]⟩, ← HK2.out.1]
                  simp
                obtain ⟨cs, hr8, hC4⟩ := HO8.out
                rw [HNP.out] at hr8
                have HC4 : Hid (Cells4 w cs OUT) := hC4
                have HCL : Hid (cs.length = i * 4) := by show _ = _; rw [hC4.1, HNP.out]
                have HLIT : Hid (Cells4 w [.slice x1 nl x2, .int .u64 sq, .int .u8 kk, .slice y1 oln y2] [E]) := by
                  have := Cells4.one E HRX.out.1 HRX.out.2
                  rw [HE.out.2.1, HE.out.2.2] at this
                  exact this
                obtain ⟨sz, hsz⟩ : ∃ sz, w8.heap.size = sz := ⟨_, rfl⟩
                have HSZ : Hid (w8.heap.size = sz) := hsz
                have hwsz : w.heap.size ≤ sz := by rw [← hsz]; exact HB8.out.size
                have hRA0 : (w8.alloc (.cells #[] 45)).drew.ownsRow sz 45 4 (.slice (some ⟨sz, 0, none⟩) 0 0) 0 [] := by
                  have := World.ownsRow_lit w8 #[] 0 (base := sz) (size := 4) (e := 45) (by rw [← hsz]; exact Nat.le_refl _) (Nat.zero_le _) rfl
                  rw [hsz] at this
                  exact this
                have hRA01 : ((w8.alloc (.cells #[] 45)).alloc (.cells #[.slice x1 nl x2, .int .u64 sq, .int .u8 kk, .slice y1 oln y2] 45)).drew.ownsRow sz 45 4 (.slice (some ⟨sz, 0, none⟩) 0 0) 0 [] := hRA0.alloc _
                have hRA10 : ((w8.alloc (.cells #[.slice x1 nl x2, .int .u64 sq, .int .u8 kk, .slice y1 oln y2] 45)).alloc (.cells #[] 45)).drew.ownsRow sz 45 4 (.slice (some ⟨sz + 1, 0, none⟩) 0 0) 0 [] := by
                  have := World.ownsRow_lit (w8.alloc (.cells #[.slice x1 nl x2, .int .u64 sq, .int .u8 kk, .slice y1 oln y2] 45)) #[] 0 (base := sz) (size := 4) (e := 45) (by rw [show (w8.alloc (.cells #[.slice x1 nl x2, .int .u64 sq, .int .u8 kk, .slice y1 oln y2] 45)).heap.size = w8.heap.size + 1 by simp, hsz]; exact Nat.le_succ _) (Nat.zero_le _) rfl
                  rw [show (w8.alloc (.cells #[.slice x1 nl x2, .int .u64 sq, .int .u8 kk, .slice y1 oln y2] 45)).heap.size = w8.heap.size + 1 by simp, hsz] at this
                  exact this
                have pA0 : Below sz w8 (w8.alloc (.cells #[] 45)).drew := by rw [← hsz]; exact ((Below.refl _ _).alloc (Nat.le_refl _) _).drew
                have pA1 : Below sz w8 (w8.alloc (.cells #[.slice x1 nl x2, .int .u64 sq, .int .u8 kk, .slice y1 oln y2] 45)).drew := by rw [← hsz]; exact ((Below.refl _ _).alloc (Nat.le_refl _) _).drew
                have pA01 : Below sz w8 ((w8.alloc (.cells #[] 45)).alloc (.cells #[.slice x1 nl x2, .int .u64 sq, .int .u8 kk, .slice y1 oln y2] 45)).drew := by rw [← hsz]; exact (((Below.refl _ _).alloc (Nat.le_refl _) _).alloc (by simp) _).drew
                have pA10 : Below sz w8 ((w8.alloc (.cells #[.slice x1 nl x2, .int .u64 sq, .int .u8 kk, .slice y1 oln y2] 45)).alloc (.cells #[] 45)).drew := by rw [← hsz]; exact (((Below.refl _ _).alloc (Nat.le_refl _) _).alloc (by simp) _).drew
                have lA01 := laid4 (w8.alloc (.cells #[] 45)) (.slice x1 nl x2) (.int .u64 sq) (.int .u8 kk) (.slice y1 oln y2) 45
                rw [show (w8.alloc (.cells #[] 45)).heap.size = w8.heap.size + 1 by simp, hsz] at lA01
                have lA10 : ∀ j u, [.slice x1 nl x2, .int .u64 sq, .int .u8 kk, .slice y1 oln y2][j]? = some u → ((w8.alloc (.cells #[.slice x1 nl x2, .int .u64 sq, .int .u8 kk, .slice y1 oln y2] 45)).alloc (.cells #[] 45)).drew.cell? ((⟨sz, 0, none⟩ : Addr).add j) = some u := fun j u hu => by
                  have h9 := laid4 w8 (.slice x1 nl x2) (.int .u64 sq) (.int .u8 kk) (.slice y1 oln y2) 45 j u hu
                  rw [hsz] at h9
                  exact ((below_box4 (w8.alloc (.cells #[.slice x1 nl x2, .int .u64 sq, .int .u8 kk, .slice y1 oln y2] 45)) (.cells #[] 45)).cell (World.block_lt_of_cell? _ _ h9)).trans h9
                have bA0 := BX8.below pA0 (by rw [hsz]; exact Nat.le_refl _)
                have bA1 := BX8.below pA1 (by rw [hsz]; exact Nat.le_refl _)
                have bA01 := BX8.below pA01 (by rw [hsz]; exact Nat.le_refl _)
                have bA10 := BX8.below pA10 (by rw [hsz]; exact Nat.le_refl _)
                have sA0 : (w8.alloc (.cells #[] 45)).drew.heap.size = sz + 1 := by rw [← hsz]; simp
                have sA01 : ((w8.alloc (.cells #[] 45)).alloc (.cells #[.slice x1 nl x2, .int .u64 sq, .int .u8 kk, .slice y1 oln y2] 45)).drew.heap.size = sz + 2 := by rw [← hsz]; simp
                have sA10 : ((w8.alloc (.cells #[.slice x1 nl x2, .int .u64 sq, .int .u8 kk, .slice y1 oln y2] 45)).alloc (.cells #[] 45)).drew.heap.size = sz + 2 := by rw [← hsz]; simp
                have pG : ∀ o, Below sz w8 (((w8.alloc (.cells #[] 45)).alloc (.cells #[.slice x1 nl x2, .int .u64 sq, .int .u8 kk, .slice y1 oln y2] 45)).alloc o).drew.drew := fun o => by rw [← hsz]; exact ((((Below.refl _ _).alloc (Nat.le_refl _) _).alloc (by simp) _).alloc (by simp; omega) _).drew.drew
                have bG := fun o => BX8.below (pG o) (by rw [hsz]; exact Nat.le_refl _)
                have pH : ∀ o, Below sz w8 (((w8.alloc (.cells #[.slice x1 nl x2, .int .u64 sq, .int .u8 kk, .slice y1 oln y2] 45)).alloc (.cells #[] 45)).alloc o).drew.drew := fun o => by rw [← hsz]; exact ((((Below.refl _ _).alloc (Nat.le_refl _) _).alloc (by simp) _).alloc (by simp; omega) _).drew.drew
                have bH := fun o => BX8.below (pH o) (by rw [hsz]; exact Nat.le_refl _)
                have BX9 := BX8.drew
                have hON4 : ∀ u ∈ [Value.slice x1 nl x2, .int .u64 sq, .int .u8 kk, .slice y1 oln y2], u.oneCell' = true := HLIT.out.ones
                have hkl : k ≤ i := by rw [HK2.out.1, ← HNP.out]; exact cntE_le _ _
                have hT4 : Cells4 w (cs.take (k * 4)) (OUT.take k) := HC4.out.take k (by rw [HNP.out]; exact hkl)
                have hD4 : Cells4 w (cs.drop (k * 4)) (OUT.drop k) := HC4.out.drop k (by rw [HNP.out]; exact hkl)
                have hT1 : (cs.take (k * 4)).length = k * 4 := by rw [List.length_take, HCL.out]; omega
                have hD1 : (cs.drop (k * 4)).length = (i - k) * 4 := by rw [List.length_drop, HCL.out]; omega
                have hone1 := hT4.ones
                have hone2 := hD4.ones
                have HFIN : Hid (∀ (w3 : World) (g3 c3 : Nat), w3.ownsRow sz 45 4 (.slice (some ⟨g3, 0, none⟩) (i + 1) c3) (i + 1) ((([] ++ cs.take (k * 4)) ++ [.slice x1 nl x2, .int .u64 sq, .int .u8 kk, .slice y1 oln y2]) ++ cs.drop (k * 4)) → Below sz w8 w3 → RowE w w3 (.slice (some ⟨g3, 0, none⟩) (i + 1) c3) (sortTo es (j + 1)) ∧ Below w.heap.size w w3) := by
                  intro w3 g3 c3 hr hb
                  refine ⟨⟨(([] ++ cs.take (k * 4)) ++ [.slice x1 nl x2, .int .u64 sq, .int .u8 kk, .slice y1 oln y2]) ++ cs.drop (k * 4), ?_, ?_⟩, HB8.out.trans (hb.mono hwsz)⟩
                  · rw [HINS.out, show ((OUT.take k ++ [E]) ++ OUT.drop k).length = i + 1 by simp [HNP.out]; omega]
                    exact row_mono hr hwsz
                  · rw [HINS.out, List.nil_append]
                    exact (hT4.append HLIT.out).append hD4
                rcases HO8.out.shape with ⟨hov, hon⟩ | ⟨go, oc, hov, hoc1, hoc2⟩
                · cases hov
                  have hk0 : k = 0 := by omega
                  subst hk0
                  have hcs : cs = [] := List.eq_nil_of_length_eq_zero (by rw [HCL.out])
                  have hsrc1 : ∀ W : World, Below sz w8 W → SrcOf W 4 (Value.slice none 0 0) (0) (cs.take (0 * 4)) := fun W _ => .inl ⟨rfl, rfl, by simp⟩
                  have hsrc2 : ∀ W : World, Below sz w8 W → SrcOf W 4 (Value.slice none 0 0) (0 - 0) (cs.drop (0 * 4)) := fun W _ => .inl ⟨rfl, rfl, by rw [hcs]; rfl⟩
                  go_wp2_with fail
                  go_region_held3 (fun w' => w'.cell? ⟨bx, 0, none⟩ = some (.slice x1 nl x2) ∧ w'.cell? ⟨bx, 1, none⟩ = some (.int .u64 sq) ∧ w'.cell? ⟨bx, 2, none⟩ = some (.int .u8 kk) ∧ w'.cell? ⟨bx, 3, none⟩ = some (.slice y1 oln y2))
                    (first | with_reducible exact ⟨b3.c0, b3.c1, b3.c2, b3.c3⟩ | with_reducible exact ⟨b2.c0, b2.c1, b2.c2, b2.c3⟩ | with_reducible exact ⟨b1a.c0, b1a.c1, b1a.c2, b1a.c3⟩ | with_reducible exact ⟨b1.c0, b1.c1, b1.c2, b1.c3⟩ | with_reducible exact ⟨bA01.c0, bA01.c1, bA01.c2, bA01.c3⟩ | with_reducible exact ⟨bA10.c0, bA10.c1, bA10.c2, bA10.c3⟩ | with_reducible exact ⟨bA0.c0, bA0.c1, bA0.c2, bA0.c3⟩ | with_reducible exact ⟨bA1.c0, bA1.c1, bA1.c2, bA1.c3⟩ | with_reducible exact ⟨(bG _).c0, (bG _).c1, (bG _).c2, (bG _).c3⟩ | with_reducible exact ⟨(bH _).c0, (bH _).c1, (bH _).c2, (bH _).c3⟩ | exact ⟨BX9.c0, BX9.c1, BX9.c2, BX9.c3⟩)
                    (first
                      | (refine step_append_src rfl (.tmp 52) (.tmp 55) 22 rfl sz 45 i0 (.agg #[.slice none 0 0, .int .u64 0, .int .u8 0, .slice none 0 0]) 4 64 Try.underlying22 hi hz0 hz1 hz2 rfl (by decide) sz 0 0 [] rfl (by with_reducible exact hRA0) _ rfl 0 (cs.take (0 * 4)) (hsrc1 _ pA0) hone1 (by unfold maxLen; omega) (by omega) (by rw [sA0]; omega) (sz + 1) sA0 0 (Nat.zero_add _) ?_
                         intro g1 c1 w1 hw1 hg1 ha1
                         have p1 : Below sz w8 w1 := pA0.grown hg1 (by rw [sA0]; omega) (fun q e => by cases e; exact Nat.le_refl _)
                         have b1 := BX8.below p1 (by rw [HSZ.out]; exact Nat.le_refl _)
                         have b1a := b1.alloc (.cells #[.slice x1 nl x2, .int .u64 sq, .int .u8 kk, .slice y1 oln y2] 45)
                         have e1 : sz ≤ w1.heap.size := by have := p1.size; rw [HSZ.out] at this; exact this
                         have hw1a := hw1.alloc (.cells #[.slice x1 nl x2, .int .u64 sq, .int .u8 kk, .slice y1 oln y2] 45)
                         have p1a : Below sz w8 (w1.alloc (.cells #[.slice x1 nl x2, .int .u64 sq, .int .u8 kk, .slice y1 oln y2] 45)) := p1.alloc e1 _
                         have l1a := laid4 w1 (.slice x1 nl x2) (.int .u64 sq) (.int .u8 kk) (.slice y1 oln y2) 45
                         have e1a : sz ≤ (w1.alloc (.cells #[.slice x1 nl x2, .int .u64 sq, .int .u8 kk, .slice y1 oln y2] 45)).heap.size := by simp; omega)
                      | (refine step_append_src rfl (.tmp 52) (.tmp 55) 22 rfl sz 45 i0 (.agg #[.slice none 0 0, .int .u64 0, .int .u8 0, .slice none 0 0]) 4 64 Try.underlying22 hi hz0 hz1 hz2 rfl (by decide) sz 0 0 [] rfl (by with_reducible exact hRA01) _ rfl 0 (cs.take (0 * 4)) (hsrc1 _ pA01) hone1 (by unfold maxLen; omega) (by omega) (by rw [sA01]; omega) (sz + 2) sA01 0 (Nat.zero_add _) ?_
                         intro g1 c1 w1 hw1 hg1 ha1
                         have p1 : Below sz w8 w1 := pA01.grown hg1 (by rw [sA01]; omega) (fun q e => by cases e; exact Nat.le_refl _)
                         have b1 := BX8.below p1 (by rw [HSZ.out]; exact Nat.le_refl _)
                         have e1 : sz ≤ w1.heap.size := by have := p1.size; rw [HSZ.out] at this; exact this
                         have l1 : ∀ j u, [.slice x1 nl x2, .int .u64 sq, .int .u8 kk, .slice y1 oln y2][j]? = some u → w1.cell? ((⟨sz + 1, 0, none⟩ : Addr).add j) = some u := fun j u hu => by
                           have h9 := lA01 j u hu
                           rw [Addr.add_lit] at h9 ⊢
                           rw [← h9]
                           exact World.cell?_of_block (hg1.block _ (World.block_lt_of_cell? _ _ h9) (by simp)))
                      | (refine step_append_src rfl (.tmp 52) (.tmp 55) 22 rfl sz 45 i0 (.agg #[.slice none 0 0, .int .u64 0, .int .u8 0, .slice none 0 0]) 4 64 Try.underlying22 hi hz0 hz1 hz2 rfl (by decide) (sz + 1) 0 0 [] rfl (by with_reducible exact hRA10) _ rfl 0 (cs.take (0 * 4)) (hsrc1 _ pA10) hone1 (by unfold maxLen; omega) (by omega) (by rw [sA10]; omega) (sz + 2) sA10 0 (Nat.zero_add _) ?_
                         intro g1 c1 w1 hw1 hg1 ha1
                         have p1 : Below sz w8 w1 := pA10.grown hg1 (by rw [sA10]; omega) (fun q e => by cases e; exact Nat.le_succ _)
                         have b1 := BX8.below p1 (by rw [HSZ.out]; exact Nat.le_refl _)
                         have e1 : sz ≤ w1.heap.size := by have := p1.size; rw [HSZ.out] at this; exact this
                         have l1 : ∀ j u, [.slice x1 nl x2, .int .u64 sq, .int .u8 kk, .slice y1 oln y2][j]? = some u → w1.cell? ((⟨sz, 0, none⟩ : Addr).add j) = some u := fun j u hu => by
                           have h9 := lA10 j u hu
                           rw [Addr.add_lit] at h9 ⊢
                           rw [← h9]
                           exact World.cell?_of_block (hg1.block _ (World.block_lt_of_cell? _ _ h9) (by simp)))
                      | (refine step_append_src rfl (.tmp 56) (.tmp 58) 22 rfl sz 45 i0 (.agg #[.slice none 0 0, .int .u64 0, .int .u8 0, .slice none 0 0]) 4 64 Try.underlying22 hi hz0 hz1 hz2 rfl (by decide) g1 0 c1 _ rfl (by with_reducible exact hw1) _ rfl 1 [.slice x1 nl x2, .int .u64 sq, .int .u8 kk, .slice y1 oln y2] (.inr ⟨_, _, rfl, rfl, l1⟩) hON4 (by unfold maxLen; omega) (by omega) e1 _ rfl (0 + 1) rfl ?_
                         intro g2 c2 w2 hw2 hg2 ha2
                         have p2 : Below sz w8 w2 := p1.grown hg2 e1 (fun q e => by cases e; exact (hw1.lt _ rfl).1)
                         have b2 := BX8.below p2 (by rw [HSZ.out]; exact Nat.le_refl _)
                         have e2 : sz ≤ w2.heap.size := by have := p2.size; rw [HSZ.out] at this; exact this)
                      | (refine step_append_src rfl (.tmp 56) (.tmp 58) 22 rfl sz 45 i0 (.agg #[.slice none 0 0, .int .u64 0, .int .u8 0, .slice none 0 0]) 4 64 Try.underlying22 hi hz0 hz1 hz2 rfl (by decide) g1 0 c1 _ rfl (by with_reducible exact hw1a) _ rfl 1 [.slice x1 nl x2, .int .u64 sq, .int .u8 kk, .slice y1 oln y2] (.inr ⟨_, _, rfl, rfl, l1a⟩) hON4 (by unfold maxLen; omega) (by omega) e1a _ rfl (0 + 1) rfl ?_
                         intro g2 c2 w2 hw2 hg2 ha2
                         have p2 : Below sz w8 w2 := p1a.grown hg2 e1a (fun q e => by cases e; exact (hw1.lt _ rfl).1)
                         have b2 := BX8.below p2 (by rw [HSZ.out]; exact Nat.le_refl _)
                         have e2 : sz ≤ w2.heap.size := by have := p2.size; rw [HSZ.out] at this; exact this)
                      | (refine step_append_src rfl (.tmp 59) (.tmp 62) 22 rfl sz 45 i0 (.agg #[.slice none 0 0, .int .u64 0, .int .u8 0, .slice none 0 0]) 4 64 Try.underlying22 hi hz0 hz1 hz2 rfl (by decide) g2 (0 + 1) c2 _ rfl (by with_reducible exact hw2) _ rfl (0 - 0) (cs.drop (0 * 4)) (hsrc2 _ p2) hone2 (by unfold maxLen; omega) (by omega) e2 _ rfl (0 + 1) (by omega) ?_
                         intro g3 c3 w3 hw3 hg3 ha3
                         have p3 : Below sz w8 w3 := p2.grown hg3 e2 (fun q e => by cases e; exact (hw2.lt _ rfl).1)
                         have b3 := BX8.below p3 (by rw [HSZ.out]; exact Nat.le_refl _)
                         have HF3 : Hid _ := HFIN.out w3 g3 c3 hw3 p3)
                      | fail)
                  all_goals
                    clear hRA0 hRA01 hRA10 pA0 pA1 pA01 pA10 lA01 lA10 bA0 bA1 bA01 bA10 sA0 sA01 sA10 pG bG pH bH BX9 z0 z1 z2 z3
                    go_wp2_with fail
                    go_roundg (G - 1)
                    case measure => exact q1
                    case rel => exact ⟨j + 1, _, _, _, q2, by go_num, rfl, HF3.out.1, HF3.out.2⟩
                · rw [HNP.out] at hov hoc1
                  cases hov
                  have hgo : go < sz := by rw [← HSZ.out]; exact (HO8.out.lt go rfl).2
                  have hcell8 := hr8.cells (g := go) rfl
                  have hsrc1 : ∀ W : World, Below sz w8 W → SrcOf W 4 (Value.slice (some ⟨go, 0, none⟩) k c') (k) (cs.take (k * 4)) := fun W hb => .inr ⟨_, _, rfl, hT1, fun j u hu => by
                    have h9 : cs[j]? = some u := by
                      rw [List.getElem?_take] at hu
                      split at hu
                      · exact hu
                      · cases hu
                    have h8 := hcell8 j u h9
                    rw [← h8, Addr.add_lit]
                    exact hb.cell hgo⟩
                  have hkI0 : (0 : Int) ≤ (k : Int) := by omega
                  have hkI1 : (k : Int) ≤ (i : Int) := by omega
                  have hkI2 : (i : Int) ≤ (c' : Int) := by omega
                  have hkI3 : (k : Int) ≤ (c' : Int) := by omega
                  by_cases hck9 : c' = k
                  · subst hck9
                    have hki9 : i = c' := by omega
                    subst hki9
                    have hD0 : (cs.drop (i * 4)).length = 0 := by rw [hD1]; omega
                    have hsrc2 : ∀ W : World, Below sz w8 W → SrcOf W 4 (Value.slice (some ⟨go, 0, none⟩) 0 0) (0) (cs.drop (i * 4)) := fun W hb => .inr ⟨_, _, rfl, by rw [hD0], fun j u hu => by
                      rw [List.eq_nil_of_length_eq_zero hD0] at hu
                      simp at hu⟩
                    go_wp2_with fail
                    go_region_held3 (fun w' => w'.cell? ⟨bx, 0, none⟩ = some (.slice x1 nl x2) ∧ w'.cell? ⟨bx, 1, none⟩ = some (.int .u64 sq) ∧ w'.cell? ⟨bx, 2, none⟩ = some (.int .u8 kk) ∧ w'.cell? ⟨bx, 3, none⟩ = some (.slice y1 oln y2))
                      (first | with_reducible exact ⟨b3.c0, b3.c1, b3.c2, b3.c3⟩ | with_reducible exact ⟨b2.c0, b2.c1, b2.c2, b2.c3⟩ | with_reducible exact ⟨b1a.c0, b1a.c1, b1a.c2, b1a.c3⟩ | with_reducible exact ⟨b1.c0, b1.c1, b1.c2, b1.c3⟩ | with_reducible exact ⟨bA01.c0, bA01.c1, bA01.c2, bA01.c3⟩ | with_reducible exact ⟨bA10.c0, bA10.c1, bA10.c2, bA10.c3⟩ | with_reducible exact ⟨bA0.c0, bA0.c1, bA0.c2, bA0.c3⟩ | with_reducible exact ⟨bA1.c0, bA1.c1, bA1.c2, bA1.c3⟩ | with_reducible exact ⟨(bG _).c0, (bG _).c1, (bG _).c2, (bG _).c3⟩ | with_reducible exact ⟨(bH _).c0, (bH _).c1, (bH _).c2, (bH _).c3⟩ | exact ⟨BX9.c0, BX9.c1, BX9.c2, BX9.c3⟩)
                      (first
                        | (refine step_append_src rfl (.tmp 52) (.tmp 55) 22 rfl sz 45 i0 (.agg #[.slice none 0 0, .int .u64 0, .int .u8 0, .slice none 0 0]) 4 64 Try.underlying22 hi hz0 hz1 hz2 rfl (by decide) sz 0 0 [] rfl (by with_reducible exact hRA0) _ rfl i (cs.take (i * 4)) (hsrc1 _ pA0) hone1 (by unfold maxLen; omega) (by omega) (by rw [sA0]; omega) (sz + 1) sA0 i (Nat.zero_add _) ?_
                           intro g1 c1 w1 hw1 hg1 ha1
                           have p1 : Below sz w8 w1 := pA0.grown hg1 (by rw [sA0]; omega) (fun q e => by cases e; exact Nat.le_refl _)
                           have b1 := BX8.below p1 (by rw [HSZ.out]; exact Nat.le_refl _)
                           have b1a := b1.alloc (.cells #[.slice x1 nl x2, .int .u64 sq, .int .u8 kk, .slice y1 oln y2] 45)
                           have e1 : sz ≤ w1.heap.size := by have := p1.size; rw [HSZ.out] at this; exact this
                           have hw1a := hw1.alloc (.cells #[.slice x1 nl x2, .int .u64 sq, .int .u8 kk, .slice y1 oln y2] 45)
                           have p1a : Below sz w8 (w1.alloc (.cells #[.slice x1 nl x2, .int .u64 sq, .int .u8 kk, .slice y1 oln y2] 45)) := p1.alloc e1 _
                           have l1a := laid4 w1 (.slice x1 nl x2) (.int .u64 sq) (.int .u8 kk) (.slice y1 oln y2) 45
                           have e1a : sz ≤ (w1.alloc (.cells #[.slice x1 nl x2, .int .u64 sq, .int .u8 kk, .slice y1 oln y2] 45)).heap.size := by simp; omega)
                        | (refine step_append_src rfl (.tmp 52) (.tmp 55) 22 rfl sz 45 i0 (.agg #[.slice none 0 0, .int .u64 0, .int .u8 0, .slice none 0 0]) 4 64 Try.underlying22 hi hz0 hz1 hz2 rfl (by decide) sz 0 0 [] rfl (by with_reducible exact hRA01) _ rfl i (cs.take (i * 4)) (hsrc1 _ pA01) hone1 (by unfold maxLen; omega) (by omega) (by rw [sA01]; omega) (sz + 2) sA01 i (Nat.zero_add _) ?_
                           intro g1 c1 w1 hw1 hg1 ha1
                           have p1 : Below sz w8 w1 := pA01.grown hg1 (by rw [sA01]; omega) (fun q e => by cases e; exact Nat.le_refl _)
                           have b1 := BX8.below p1 (by rw [HSZ.out]; exact Nat.le_refl _)
                           have e1 : sz ≤ w1.heap.size := by have := p1.size; rw [HSZ.out] at this; exact this
                           have l1 : ∀ j u, [.slice x1 nl x2, .int .u64 sq, .int .u8 kk, .slice y1 oln y2][j]? = some u → w1.cell? ((⟨sz + 1, 0, none⟩ : Addr).add j) = some u := fun j u hu => by
                             have h9 := lA01 j u hu
                             rw [Addr.add_lit] at h9 ⊢
                             rw [← h9]
                             exact World.cell?_of_block (hg1.block _ (World.block_lt_of_cell? _ _ h9) (by simp)))
                        | (refine step_append_src rfl (.tmp 52) (.tmp 55) 22 rfl sz 45 i0 (.agg #[.slice none 0 0, .int .u64 0, .int .u8 0, .slice none 0 0]) 4 64 Try.underlying22 hi hz0 hz1 hz2 rfl (by decide) (sz + 1) 0 0 [] rfl (by with_reducible exact hRA10) _ rfl i (cs.take (i * 4)) (hsrc1 _ pA10) hone1 (by unfold maxLen; omega) (by omega) (by rw [sA10]; omega) (sz + 2) sA10 i (Nat.zero_add _) ?_
                           intro g1 c1 w1 hw1 hg1 ha1
                           have p1 : Below sz w8 w1 := pA10.grown hg1 (by rw [sA10]; omega) (fun q e => by cases e; exact Nat.le_succ _)
                           have b1 := BX8.below p1 (by rw [HSZ.out]; exact Nat.le_refl _)
                           have e1 : sz ≤ w1.heap.size := by have := p1.size; rw [HSZ.out] at this; exact this
                           have l1 : ∀ j u, [.slice x1 nl x2, .int .u64 sq, .int .u8 kk, .slice y1 oln y2][j]? = some u → w1.cell? ((⟨sz, 0, none⟩ : Addr).add j) = some u := fun j u hu => by
                             have h9 := lA10 j u hu
                             rw [Addr.add_lit] at h9 ⊢
                             rw [← h9]
                             exact World.cell?_of_block (hg1.block _ (World.block_lt_of_cell? _ _ h9) (by simp)))
                        | (refine step_append_src rfl (.tmp 56) (.tmp 58) 22 rfl sz 45 i0 (.agg #[.slice none 0 0, .int .u64 0, .int .u8 0, .slice none 0 0]) 4 64 Try.underlying22 hi hz0 hz1 hz2 rfl (by decide) g1 i c1 _ rfl (by with_reducible exact hw1) _ rfl 1 [.slice x1 nl x2, .int .u64 sq, .int .u8 kk, .slice y1 oln y2] (.inr ⟨_, _, rfl, rfl, l1⟩) hON4 (by unfold maxLen; omega) (by omega) e1 _ rfl (i + 1) rfl ?_
                           intro g2 c2 w2 hw2 hg2 ha2
                           have p2 : Below sz w8 w2 := p1.grown hg2 e1 (fun q e => by cases e; exact (hw1.lt _ rfl).1)
                           have b2 := BX8.below p2 (by rw [HSZ.out]; exact Nat.le_refl _)
                           have e2 : sz ≤ w2.heap.size := by have := p2.size; rw [HSZ.out] at this; exact this)
                        | (refine step_append_src rfl (.tmp 56) (.tmp 58) 22 rfl sz 45 i0 (.agg #[.slice none 0 0, .int .u64 0, .int .u8 0, .slice none 0 0]) 4 64 Try.underlying22 hi hz0 hz1 hz2 rfl (by decide) g1 i c1 _ rfl (by with_reducible exact hw1a) _ rfl 1 [.slice x1 nl x2, .int .u64 sq, .int .u8 kk, .slice y1 oln y2] (.inr ⟨_, _, rfl, rfl, l1a⟩) hON4 (by unfold maxLen; omega) (by omega) e1a _ rfl (i + 1) rfl ?_
                           intro g2 c2 w2 hw2 hg2 ha2
                           have p2 : Below sz w8 w2 := p1a.grown hg2 e1a (fun q e => by cases e; exact (hw1.lt _ rfl).1)
                           have b2 := BX8.below p2 (by rw [HSZ.out]; exact Nat.le_refl _)
                           have e2 : sz ≤ w2.heap.size := by have := p2.size; rw [HSZ.out] at this; exact this)
                        | (refine step_append_src rfl (.tmp 59) (.tmp 62) 22 rfl sz 45 i0 (.agg #[.slice none 0 0, .int .u64 0, .int .u8 0, .slice none 0 0]) 4 64 Try.underlying22 hi hz0 hz1 hz2 rfl (by decide) g2 (i + 1) c2 _ rfl (by with_reducible exact hw2) _ rfl 0 (cs.drop (i * 4)) (hsrc2 _ p2) hone2 (by unfold maxLen; omega) (by omega) e2 _ rfl (i + 1) (by omega) ?_
                           intro g3 c3 w3 hw3 hg3 ha3
                           have p3 : Below sz w8 w3 := p2.grown hg3 e2 (fun q e => by cases e; exact (hw2.lt _ rfl).1)
                           have b3 := BX8.below p3 (by rw [HSZ.out]; exact Nat.le_refl _)
                           have HF3 : Hid _ := HFIN.out w3 g3 c3 hw3 p3)
                        | fail)
                    all_goals
                      clear hRA0 hRA01 hRA10 pA0 pA1 pA01 pA10 lA01 lA10 bA0 bA1 bA01 bA10 sA0 sA01 sA10 pG bG pH bH BX9 z0 z1 z2 z3
                      go_wp2_with fail
                      go_roundg (G - 1)
                      case measure => exact q1
                      case rel => exact ⟨j + 1, _, _, _, q2, by go_num, rfl, HF3.out.1, HF3.out.2⟩
                  · have hck8 : ¬ (c' : Int) = (k : Int) := by omega
                    have hsrc2 : ∀ W : World, Below sz w8 W → SrcOf W 4 (Value.slice (some ⟨go, k * 4, none⟩) (i - k) (c' - k)) (i - k) (cs.drop (k * 4)) := fun W hb => .inr ⟨_, _, rfl, hD1, fun j u hu => by
                      rw [List.getElem?_drop] at hu
                      have h8 := hcell8 _ u hu
                      rw [← h8, Addr.add_lit, Addr.add_lit, Nat.zero_add]
                      exact hb.cell hgo⟩
                    go_wp2_with fail
                    go_region_held3 (fun w' => w'.cell? ⟨bx, 0, none⟩ = some (.slice x1 nl x2) ∧ w'.cell? ⟨bx, 1, none⟩ = some (.int .u64 sq) ∧ w'.cell? ⟨bx, 2, none⟩ = some (.int .u8 kk) ∧ w'.cell? ⟨bx, 3, none⟩ = some (.slice y1 oln y2))
                      (first | with_reducible exact ⟨b3.c0, b3.c1, b3.c2, b3.c3⟩ | with_reducible exact ⟨b2.c0, b2.c1, b2.c2, b2.c3⟩ | with_reducible exact ⟨b1a.c0, b1a.c1, b1a.c2, b1a.c3⟩ | with_reducible exact ⟨b1.c0, b1.c1, b1.c2, b1.c3⟩ | with_reducible exact ⟨bA01.c0, bA01.c1, bA01.c2, bA01.c3⟩ | with_reducible exact ⟨bA10.c0, bA10.c1, bA10.c2, bA10.c3⟩ | with_reducible exact ⟨bA0.c0, bA0.c1, bA0.c2, bA0.c3⟩ | with_reducible exact ⟨bA1.c0, bA1.c1, bA1.c2, bA1.c3⟩ | with_reducible exact ⟨(bG _).c0, (bG _).c1, (bG _).c2, (bG _).c3⟩ | with_reducible exact ⟨(bH _).c0, (bH _).c1, (bH _).c2, (bH _).c3⟩ | exact ⟨BX9.c0, BX9.c1, BX9.c2, BX9.c3⟩)
                      (first
                        | (refine step_append_src rfl (.tmp 52) (.tmp 55) 22 rfl sz 45 i0 (.agg #[.slice none 0 0, .int .u64 0, .int .u8 0, .slice none 0 0]) 4 64 Try.underlying22 hi hz0 hz1 hz2 rfl (by decide) sz 0 0 [] rfl (by with_reducible exact hRA0) _ rfl k (cs.take (k * 4)) (hsrc1 _ pA0) hone1 (by unfold maxLen; omega) (by omega) (by rw [sA0]; omega) (sz + 1) sA0 k (Nat.zero_add _) ?_
                           intro g1 c1 w1 hw1 hg1 ha1
                           have p1 : Below sz w8 w1 := pA0.grown hg1 (by rw [sA0]; omega) (fun q e => by cases e; exact Nat.le_refl _)
                           have b1 := BX8.below p1 (by rw [HSZ.out]; exact Nat.le_refl _)
                           have b1a := b1.alloc (.cells #[.slice x1 nl x2, .int .u64 sq, .int .u8 kk, .slice y1 oln y2] 45)
                           have e1 : sz ≤ w1.heap.size := by have := p1.size; rw [HSZ.out] at this; exact this
                           have hw1a := hw1.alloc (.cells #[.slice x1 nl x2, .int .u64 sq, .int .u8 kk, .slice y1 oln y2] 45)
                           have p1a : Below sz w8 (w1.alloc (.cells #[.slice x1 nl x2, .int .u64 sq, .int .u8 kk, .slice y1 oln y2] 45)) := p1.alloc e1 _
                           have l1a := laid4 w1 (.slice x1 nl x2) (.int .u64 sq) (.int .u8 kk) (.slice y1 oln y2) 45
                           have e1a : sz ≤ (w1.alloc (.cells #[.slice x1 nl x2, .int .u64 sq, .int .u8 kk, .slice y1 oln y2] 45)).heap.size := by simp; omega)
                        | (refine step_append_src rfl (.tmp 52) (.tmp 55) 22 rfl sz 45 i0 (.agg #[.slice none 0 0, .int .u64 0, .int .u8 0, .slice none 0 0]) 4 64 Try.underlying22 hi hz0 hz1 hz2 rfl (by decide) sz 0 0 [] rfl (by with_reducible exact hRA01) _ rfl k (cs.take (k * 4)) (hsrc1 _ pA01) hone1 (by unfold maxLen; omega) (by omega) (by rw [sA01]; omega) (sz + 2) sA01 k (Nat.zero_add _) ?_
                           intro g1 c1 w1 hw1 hg1 ha1
                           have p1 : Below sz w8 w1 := pA01.grown hg1 (by rw [sA01]; omega) (fun q e => by cases e; exact Nat.le_refl _)
                           have b1 := BX8.below p1 (by rw [HSZ.out]; exact Nat.le_refl _)
                           have e1 : sz ≤ w1.heap.size := by have := p1.size; rw [HSZ.out] at this; exact this
                           have l1 : ∀ j u, [.slice x1 nl x2, .int .u64 sq, .int .u8 kk, .slice y1 oln y2][j]? = some u → w1.cell? ((⟨sz + 1, 0, none⟩ : Addr).add j) = some u := fun j u hu => by
                             have h9 := lA01 j u hu
                             rw [Addr.add_lit] at h9 ⊢
                             rw [← h9]
                             exact World.cell?_of_block (hg1.block _ (World.block_lt_of_cell? _ _ h9) (by simp)))
                        | (refine step_append_src rfl (.tmp 52) (.tmp 55) 22 rfl sz 45 i0 (.agg #[.slice none 0 0, .int .u64 0, .int .u8 0, .slice none 0 0]) 4 64 Try.underlying22 hi hz0 hz1 hz2 rfl (by decide) (sz + 1) 0 0 [] rfl (by with_reducible exact hRA10) _ rfl k (cs.take (k * 4)) (hsrc1 _ pA10) hone1 (by unfold maxLen; omega) (by omega) (by rw [sA10]; omega) (sz + 2) sA10 k (Nat.zero_add _) ?_
                           intro g1 c1 w1 hw1 hg1 ha1
                           have p1 : Below sz w8 w1 := pA10.grown hg1 (by rw [sA10]; omega) (fun q e => by cases e; exact Nat.le_succ _)
                           have b1 := BX8.below p1 (by rw [HSZ.out]; exact Nat.le_refl _)
                           have e1 : sz ≤ w1.heap.size := by have := p1.size; rw [HSZ.out] at this; exact this
                           have l1 : ∀ j u, [.slice x1 nl x2, .int .u64 sq, .int .u8 kk, .slice y1 oln y2][j]? = some u → w1.cell? ((⟨sz, 0, none⟩ : Addr).add j) = some u := fun j u hu => by
                             have h9 := lA10 j u hu
                             rw [Addr.add_lit] at h9 ⊢
                             rw [← h9]
                             exact World.cell?_of_block (hg1.block _ (World.block_lt_of_cell? _ _ h9) (by simp)))
                        | (refine step_append_src rfl (.tmp 56) (.tmp 58) 22 rfl sz 45 i0 (.agg #[.slice none 0 0, .int .u64 0, .int .u8 0, .slice none 0 0]) 4 64 Try.underlying22 hi hz0 hz1 hz2 rfl (by decide) g1 k c1 _ rfl (by with_reducible exact hw1) _ rfl 1 [.slice x1 nl x2, .int .u64 sq, .int .u8 kk, .slice y1 oln y2] (.inr ⟨_, _, rfl, rfl, l1⟩) hON4 (by unfold maxLen; omega) (by omega) e1 _ rfl (k + 1) rfl ?_
                           intro g2 c2 w2 hw2 hg2 ha2
                           have p2 : Below sz w8 w2 := p1.grown hg2 e1 (fun q e => by cases e; exact (hw1.lt _ rfl).1)
                           have b2 := BX8.below p2 (by rw [HSZ.out]; exact Nat.le_refl _)
                           have e2 : sz ≤ w2.heap.size := by have := p2.size; rw [HSZ.out] at this; exact this)
                        | (refine step_append_src rfl (.tmp 56) (.tmp 58) 22 rfl sz 45 i0 (.agg #[.slice none 0 0, .int .u64 0, .int .u8 0, .slice none 0 0]) 4 64 Try.underlying22 hi hz0 hz1 hz2 rfl (by decide) g1 k c1 _ rfl (by with_reducible exact hw1a) _ rfl 1 [.slice x1 nl x2, .int .u64 sq, .int .u8 kk, .slice y1 oln y2] (.inr ⟨_, _, rfl, rfl, l1a⟩) hON4 (by unfold maxLen; omega) (by omega) e1a _ rfl (k + 1) rfl ?_
                           intro g2 c2 w2 hw2 hg2 ha2
                           have p2 : Below sz w8 w2 := p1a.grown hg2 e1a (fun q e => by cases e; exact (hw1.lt _ rfl).1)
                           have b2 := BX8.below p2 (by rw [HSZ.out]; exact Nat.le_refl _)
                           have e2 : sz ≤ w2.heap.size := by have := p2.size; rw [HSZ.out] at this; exact this)
                        | (refine step_append_src rfl (.tmp 59) (.tmp 62) 22 rfl sz 45 i0 (.agg #[.slice none 0 0, .int .u64 0, .int .u8 0, .slice none 0 0]) 4 64 Try.underlying22 hi hz0 hz1 hz2 rfl (by decide) g2 (k + 1) c2 _ rfl (by with_reducible exact hw2) _ rfl (i - k) (cs.drop (k * 4)) (hsrc2 _ p2) hone2 (by unfold maxLen; omega) (by omega) e2 _ rfl (i + 1) (by omega) ?_
                           intro g3 c3 w3 hw3 hg3 ha3
                           have p3 : Below sz w8 w3 := p2.grown hg3 e2 (fun q e => by cases e; exact (hw2.lt _ rfl).1)
                           have b3 := BX8.below p3 (by rw [HSZ.out]; exact Nat.le_refl _)
                           have HF3 : Hid _ := HFIN.out w3 g3 c3 hw3 p3)
                        | fail)
                    all_goals
                      clear hRA0 hRA01 hRA10 pA0 pA1 pA01 pA10 lA01 lA10 bA0 bA1 bA01 bA10 sA0 sA01 sA10 pG bG pH bH BX9 z0 z1 z2 z3
                      go_wp2_with fail
                      go_roundg (G - 1)
                      case measure => exact q1
                      case rel => exact ⟨j + 1, _, _, _, q2, by go_num, rfl, HF3.out.1, HF3.out.2⟩
            · have hcb : (ck == 0) = false := by simpa using hc0
              have HS9 : Hid (sortTo es (j + 1) = OUT) := by show _ = _; rw [HST.out]; unfold insE; rw [if_neg]; rintro ⟨_, h9⟩; rw [HCE.out, if_neg hc0] at h9; exact hc0 h9
              go_wp2_with fail
              go_roundg (G - 1)
              case measure => exact q1
              case rel => exact ⟨j + 1, _, _, _, q2, by go_num, rfl, by show RowE _ _ _ _; rw [HS9.out]; exact HO8.out, HB8⟩
    · have hjN : j = N := by omega
      subst hjN
      have HE9 : Hid (sortTo es j = sortE es) := by show _ = _; unfold sortE; rw [HN.out]
      go_wp2
      go_ret
      exact ⟨_, rfl, by rw [← HE9.out]; exact HO.out, HB.out⟩

end Go.Proofs.Ytdopfijoplldkaa

/- bartizanref03.SameEntry, SameEntries. -/
namespace Go.Proofs.Ytdopfijoplldkaa
open Go.RowKit
set_option linter.unusedVariables false

set_option maxRecDepth 20000 in
set_option maxHeartbeats 4000000 in
theorem sameen_any (w : World) (xa ya xb yb : Value) (la ma lb mb : List UInt8) (s k t j : Int) (r : Bool) (hxa : Rd w xa la) (hya : Rd w ya ma) (hxb : Rd w xb lb) (hyb : Rd w yb mb) (hr : decide ((la = lb ∧ s = t ∧ k = j) ∧ ma = mb) = r) :
    Calls Try.prog 25 #[.agg #[xa, .int .u64 s, .int .u8 k, ya], .agg #[xb, .int .u64 t, .int .u8 j, yb]] w fun e w' => e = .returned (.bool r) ∧ Below w.heap.size w w' := by
  obtain ⟨a1, a2, rfl⟩ := hxa.len
  obtain ⟨a3, a4, rfl⟩ := hya.len
  obtain ⟨b1, b2, rfl⟩ := hxb.len
  obtain ⟨b3, b4, rfl⟩ := hyb.len
  obtain ⟨n1, h1⟩ : ∃ n, la.length = n := ⟨_, rfl⟩
  obtain ⟨n2, h2⟩ : ∃ n, ma.length = n := ⟨_, rfl⟩
  obtain ⟨n3, h3⟩ : ∃ n, lb.length = n := ⟨_, rfl⟩
  obtain ⟨n4, h4⟩ : ∃ n, mb.length = n := ⟨_, rfl⟩
  rw [h1] at hxa ⊢
  rw [h2] at hya ⊢
  rw [h3] at hxb ⊢
  rw [h4] at hyb ⊢
  have hb0 := below_box4 w (.cells #[.slice a1 n1 a2, .int .u64 s, .int .u8 k, .slice a3 n2 a4] 45)
  have hb1 := below_box4 (w.alloc (.cells #[.slice a1 n1 a2, .int .u64 s, .int .u8 k, .slice a3 n2 a4] 45)) (.cells #[.slice b1 n3 b2, .int .u64 t, .int .u8 j, .slice b3 n4 b4] 45)
  have BA := (box4_new w (.slice a1 n1 a2) (.int .u64 s) (.int .u8 k) (.slice a3 n2 a4) 45).below hb1 (Nat.le_refl _)
  have BB := box4_new (w.alloc (.cells #[.slice a1 n1 a2, .int .u64 s, .int .u8 k, .slice a3 n2 a4] 45)) (.slice b1 n3 b2) (.int .u64 t) (.int .u8 j) (.slice b3 n4 b4) 45
  rw [show (w.alloc (.cells #[.slice a1 n1 a2, .int .u64 s, .int .u8 k, .slice a3 n2 a4] 45)).heap.size = w.heap.size + 1 by simp] at BB
  have hB1 := bsplit hb0 hb1
  have hks := keysame_any ((w.alloc (.cells #[.slice a1 n1 a2, .int .u64 s, .int .u8 k, .slice a3 n2 a4] 45)).alloc (.cells #[.slice b1 n3 b2, .int .u64 t, .int .u8 j, .slice b3 n4 b4] 45)) _ _ la lb s k t j (decide (la = lb ∧ s = t ∧ k = j)) (hxa.below hB1 (Nat.le_refl _)) (hxb.below hB1 (Nat.le_refl _)) rfl
  have HY : Hid (Rd w (.slice a3 n2 a4) ma ∧ Rd w (.slice b3 n4 b4) mb) := ⟨hya, hyb⟩
  have HB1 : Hid _ := hB1
  have HR : Hid (decide ((la = lb ∧ s = t ∧ k = j) ∧ ma = mb) = r) := hr
  obtain ⟨q, hq⟩ : ∃ q, decide (la = lb ∧ s = t ∧ k = j) = q := ⟨_, rfl⟩
  have HQ : Hid (decide (la = lb ∧ s = t ∧ k = j) = q) := hq
  rw [hq] at hks
  clear hxa hya hxb hyb hr h1 h2 h3 h4 hb0 hb1 hB1 hq
  go_enter Try.func25, Try.ntmps25
  cases q with
  | false =>
    have HF : Hid (r = false) := by
      show r = false
      rw [← HR.out]
      have := of_decide_eq_false HQ.out
      simp only [decide_eq_false_iff_not]
      exact fun h => this h.1
    obtain ⟨c0, c1, c2, c3⟩ := BA
    obtain ⟨d0, d1, d2, d3⟩ := BB
    go_wp2_with fail
    refine hks.mono ?_
    rintro e w1 ⟨rfl, hb⟩
    have HB2 : Hid (Below w.heap.size w w1) := bsplit HB1.out hb
    clear hks hb
    go_wp2
    go_ret
    exact ⟨ret_bool (by rw [HF.out]), HB2.out⟩
  | true =>
    have HT : Hid ((ma == mb) = r) := by
      show (ma == mb) = r
      rw [← HR.out]
      have := of_decide_eq_true HQ.out
      rw [Bool.eq_iff_iff]
      simp only [beq_iff_eq, decide_eq_true_eq]
      exact ⟨fun h => ⟨this, h⟩, fun h => h.2⟩
    have BA' := BA
    have BB' := BB
    obtain ⟨c0, c1, c2, c3⟩ := BA'
    obtain ⟨d0, d1, d2, d3⟩ := BB'
    go_wp2_with fail
    refine hks.mono ?_
    rintro e w1 ⟨rfl, hb⟩
    have HB2 : Hid (Below w.heap.size w w1) := bsplit HB1.out hb
    clear c0 c1 c2 c3 d0 d1 d2 d3
    obtain ⟨c0, c1, c2, c3⟩ := BA.below hb (Nat.le_refl _)
    obtain ⟨d0, d1, d2, d3⟩ := BB.below hb (Nat.le_refl _)
    have hsb := same_b w1 _ _ ma mb r (HY.out.1.below HB2.out (Nat.le_refl _)) (HY.out.2.below HB2.out (Nat.le_refl _)) HT.out
    clear hks hb BA BB
    go_wp2_with fail
    refine hsb.mono ?_
    rintro e w2 ⟨rfl, rfl⟩
    clear hsb
    go_wp2
    go_ret
    exact ⟨rfl, HB2.out⟩

set_option maxRecDepth 20000 in
set_option maxHeartbeats 4000000 in
theorem sameens_any (w : World) (va vb : Value) (us bs : List EnB) (r : Bool) (ha : RdE w va us) (hb : RdE w vb bs) (hr : us = bs ↔ r = true) :
    Calls Try.prog 16 #[va, vb] w fun e w' => e = .returned (.bool r) ∧ Below w.heap.size w w' := by
  have HA : Hid (RdE w va us) := ha
  have HBb : Hid (RdE w vb bs) := hb
  obtain ⟨a1, a2, rfl, ha1, ha2, _⟩ := ha
  obtain ⟨b1, b2, rfl, hb1, hb2, _⟩ := hb
  unfold maxLen at ha2 hb2
  obtain ⟨N, hN⟩ : ∃ n, us.length = n := ⟨_, rfl⟩
  obtain ⟨M, hM⟩ : ∃ n, bs.length = n := ⟨_, rfl⟩
  rw [hN] at ha1 HA ⊢
  rw [hM] at hb1 HBb ⊢
  have HNM : Hid (us.length = N ∧ bs.length = M) := ⟨hN, hM⟩
  have HR : Hid (us = bs ↔ r = true) := hr
  clear hN hM hr
  go_enter Try.func16, Try.ntmps16
  by_cases hnm : N = M
  · subst hnm
    go_wp2_with fail
    go_loopg [13] N (fun gk iv wr => ∃ j : Nat, gk + j = N ∧ iv = .int .i64 (j : Int) ∧ Hid (∀ i, i < j → us[i]? = bs[i]?) ∧ Hid (Below w.heap.size w wr))
    case atStart => exact ⟨0, by omega, rfl, fun i hi => absurd hi (Nat.not_lt_zero _), Below.refl _ _⟩
    case round =>
      obtain ⟨j, hj, rfl, HS, HB⟩ := hrel
      by_cases hlt : j < N
      · have l1 : j < us.length := by rw [HNM.out.1]; exact hlt
        have l2 : j < bs.length := by rw [HNM.out.2]; exact hlt
        obtain ⟨_, _, e, _, _, h3⟩ := rdE_below HA.out HB.out (Nat.le_refl _)
        rw [HNM.out.1] at e
        cases e
        obtain ⟨_, _, e, _, _, h4⟩ := rdE_below HBb.out HB.out (Nat.le_refl _)
        rw [HNM.out.2] at e
        cases e
        obtain ⟨p1, o1, rfl, x1, y1, c0, c1, c2, c3, rx1, ry1⟩ := h3 j l1
        obtain ⟨p2, o2, rfl, x2, y2, d0, d1, d2, d3, rx2, ry2⟩ := h4 j l2
        obtain ⟨q1, q2⟩ := gk_nxt hj hlt
        obtain ⟨t1, t2, hx1⟩ := rx1.len
        obtain ⟨t3, t4, hy1⟩ := ry1.len
        obtain ⟨t5, t6, hx2⟩ := rx2.len
        obtain ⟨t7, t8, hy2⟩ := ry2.len
        have hsm := sameen_any wr.drew x1 y1 x2 y2 us[j].1 us[j].2.2.2 bs[j].1 bs[j].2.2.2 (us[j].2.1 : Int) (us[j].2.2.1.toNat : Int) (bs[j].2.1 : Int) (bs[j].2.2.1.toNat : Int) (decide (us[j] = bs[j])) rx1.drew ry1.drew rx2.drew ry2.drew (by
          rw [decide_eq_decide]
          constructor
          · rintro ⟨⟨e1, e2, e3⟩, e4⟩
            have e2' : us[j].2.1 = bs[j].2.1 := by omega
            have e3' : us[j].2.2.1 = bs[j].2.2.1 := UInt8.toNat_inj.1 (by omega)
            exact Prod.ext e1 (Prod.ext e2' (Prod.ext e3' e4))
          · intro e
            rw [e]
            exact ⟨⟨rfl, rfl, rfl⟩, rfl⟩)
        have h1I : (j : Int) < (a2 : Int) := by omega
        have h2I : (j : Int) < (b2 : Int) := by omega
        rw [hx1] at c0 hsm
        rw [hy1] at c3 hsm
        rw [hx2] at d0 hsm
        rw [hy2] at d3 hsm
        obtain ⟨z1, hz1⟩ : ∃ z, (us[j].2.1 : Int) = z := ⟨_, rfl⟩
        obtain ⟨z2, hz2⟩ : ∃ z, (us[j].2.2.1.toNat : Int) = z := ⟨_, rfl⟩
        obtain ⟨z3, hz3⟩ : ∃ z, (bs[j].2.1 : Int) = z := ⟨_, rfl⟩
        obtain ⟨z4, hz4⟩ : ∃ z, (bs[j].2.2.1.toNat : Int) = z := ⟨_, rfl⟩
        obtain ⟨m1, hm1⟩ : ∃ z, us[j].1.length = z := ⟨_, rfl⟩
        obtain ⟨m2, hm2⟩ : ∃ z, us[j].2.2.2.length = z := ⟨_, rfl⟩
        obtain ⟨m3, hm3⟩ : ∃ z, bs[j].1.length = z := ⟨_, rfl⟩
        obtain ⟨m4, hm4⟩ : ∃ z, bs[j].2.2.2.length = z := ⟨_, rfl⟩
        rw [hz1] at c1 hsm
        rw [hz2] at c2 hsm
        rw [hz3] at d1 hsm
        rw [hz4] at d2 hsm
        rw [hm1] at c0 hsm
        rw [hm2] at c3 hsm
        rw [hm3] at d0 hsm
        rw [hm4] at d3 hsm
        obtain ⟨q, hq⟩ : ∃ q, decide (us[j] = bs[j]) = q := ⟨_, rfl⟩
        have HQ : Hid (decide (us[j] = bs[j]) = q) := hq
        rw [hq] at hsm
        have c0' := c0; have c1' := c1; have c2' := c2; have c3' := c3; have d0' := d0; have d1' := d1; have d2' := d2; have d3' := d3
        clear h3 h4 rx1 ry1 rx2 ry2 hx1 hy1 hx2 hy2 hz1 hz2 hz3 hz4 hm1 hm2 hm3 hm4 hq
        cases q with
        | true =>
          go_wp2_with fail
          go_region_held3 (fun w' => (w'.cell? ⟨p1, o1 + j * 4, none⟩ = some (.slice t1 m1 t2) ∧ w'.cell? ⟨p1, o1 + j * 4 + 1, none⟩ = some (.int .u64 z1) ∧ w'.cell? ⟨p1, o1 + j * 4 + 2, none⟩ = some (.int .u8 z2) ∧ w'.cell? ⟨p1, o1 + j * 4 + 3, none⟩ = some (.slice t3 m2 t4)) ∧ (w'.cell? ⟨p2, o2 + j * 4, none⟩ = some (.slice t5 m3 t6) ∧ w'.cell? ⟨p2, o2 + j * 4 + 1, none⟩ = some (.int .u64 z3) ∧ w'.cell? ⟨p2, o2 + j * 4 + 2, none⟩ = some (.int .u8 z4) ∧ w'.cell? ⟨p2, o2 + j * 4 + 3, none⟩ = some (.slice t7 m4 t8)))
            (first | with_reducible exact ⟨⟨e0, e1, e2, e3⟩, ⟨e4, e5, e6, e7⟩⟩ | exact ⟨⟨c0', c1', c2', c3'⟩, ⟨d0', d1', d2', d3'⟩⟩)
            (first
              | (go_at_call 25; refine hsm.mono ?_; rintro e w5 ⟨rfl, hb5⟩
                 have HB5 : Hid (Below w.heap.size w w5) := bsplit HB.out.drew hb5
                 have b1 := World.block_lt_of_cell? wr _ c0'
                 have b2 := World.block_lt_of_cell? wr _ d0'
                 have e0 := (hb5.cell (p := ⟨p1, o1 + j * 4, none⟩) b1).trans c0'
                 have e1 := (hb5.cell (p := ⟨p1, o1 + j * 4 + 1, none⟩) b1).trans c1'
                 have e2 := (hb5.cell (p := ⟨p1, o1 + j * 4 + 2, none⟩) b1).trans c2'
                 have e3 := (hb5.cell (p := ⟨p1, o1 + j * 4 + 3, none⟩) b1).trans c3'
                 have e4 := (hb5.cell (p := ⟨p2, o2 + j * 4, none⟩) b2).trans d0'
                 have e5 := (hb5.cell (p := ⟨p2, o2 + j * 4 + 1, none⟩) b2).trans d1'
                 have e6 := (hb5.cell (p := ⟨p2, o2 + j * 4 + 2, none⟩) b2).trans d2'
                 have e7 := (hb5.cell (p := ⟨p2, o2 + j * 4 + 3, none⟩) b2).trans d3')
              | fail)
          go_wp2_with fail
          go_roundg (gk - 1)
          case measure => exact q1
          case rel => exact ⟨j + 1, q2, by go_num, fun i hi => by
            by_cases e : i = j
            · subst e; rw [List.getElem?_eq_getElem l1, List.getElem?_eq_getElem l2, of_decide_eq_true HQ.out]
            · exact HS.out i (by omega), HB5⟩
        | false =>
          go_wp2_with fail
          go_region_held3 (fun w' => (w'.cell? ⟨p1, o1 + j * 4, none⟩ = some (.slice t1 m1 t2) ∧ w'.cell? ⟨p1, o1 + j * 4 + 1, none⟩ = some (.int .u64 z1) ∧ w'.cell? ⟨p1, o1 + j * 4 + 2, none⟩ = some (.int .u8 z2) ∧ w'.cell? ⟨p1, o1 + j * 4 + 3, none⟩ = some (.slice t3 m2 t4)) ∧ (w'.cell? ⟨p2, o2 + j * 4, none⟩ = some (.slice t5 m3 t6) ∧ w'.cell? ⟨p2, o2 + j * 4 + 1, none⟩ = some (.int .u64 z3) ∧ w'.cell? ⟨p2, o2 + j * 4 + 2, none⟩ = some (.int .u8 z4) ∧ w'.cell? ⟨p2, o2 + j * 4 + 3, none⟩ = some (.slice t7 m4 t8)))
            (first | with_reducible exact ⟨⟨e0, e1, e2, e3⟩, ⟨e4, e5, e6, e7⟩⟩ | exact ⟨⟨c0', c1', c2', c3'⟩, ⟨d0', d1', d2', d3'⟩⟩)
            (first
              | (go_at_call 25; refine hsm.mono ?_; rintro e w5 ⟨rfl, hb5⟩
                 have HB5 : Hid (Below w.heap.size w w5) := bsplit HB.out.drew hb5
                 have b1 := World.block_lt_of_cell? wr _ c0'
                 have b2 := World.block_lt_of_cell? wr _ d0'
                 have e0 := (hb5.cell (p := ⟨p1, o1 + j * 4, none⟩) b1).trans c0'
                 have e1 := (hb5.cell (p := ⟨p1, o1 + j * 4 + 1, none⟩) b1).trans c1'
                 have e2 := (hb5.cell (p := ⟨p1, o1 + j * 4 + 2, none⟩) b1).trans c2'
                 have e3 := (hb5.cell (p := ⟨p1, o1 + j * 4 + 3, none⟩) b1).trans c3'
                 have e4 := (hb5.cell (p := ⟨p2, o2 + j * 4, none⟩) b2).trans d0'
                 have e5 := (hb5.cell (p := ⟨p2, o2 + j * 4 + 1, none⟩) b2).trans d1'
                 have e6 := (hb5.cell (p := ⟨p2, o2 + j * 4 + 2, none⟩) b2).trans d2'
                 have e7 := (hb5.cell (p := ⟨p2, o2 + j * 4 + 3, none⟩) b2).trans d3')
              | fail)
          have HF : Hid (r = false) := by
            show r = false
            cases hrr : r with
            | false => rfl
            | true =>
              have h9 := HR.out.2 hrr
              subst h9
              exact absurd rfl (of_decide_eq_false HQ.out)
          go_wp2
          go_ret
          exact ⟨ret_bool (by rw [HF.out]), HB5.out⟩
      · have hjN : j = N := by omega
        subst hjN
        have HT : Hid (r = true) := HR.out.1 (List.ext_getElem? (fun i => by
          by_cases hi : i < j
          · exact HS.out i hi
          · rw [List.getElem?_eq_none (by rw [HNM.out.1]; omega), List.getElem?_eq_none (by rw [HNM.out.2]; omega)]))
        go_wp2
        go_ret
        exact ⟨ret_bool (by rw [HT.out]), HB.out⟩
  · have hnmI : ¬ (N : Int) = (M : Int) := by omega
    have HF : Hid (r = false) := by
      show r = false
      cases hrr : r with
      | false => rfl
      | true =>
        have h9 := HR.out.2 hrr
        exact absurd (by rw [← HNM.out.1, ← HNM.out.2, h9]) hnm
    go_wp2
    go_ret
    exact ⟨ret_bool (by rw [HF.out]), Below.refl _ _⟩

end Go.Proofs.Ytdopfijoplldkaa

/- bartizanref12's Form. -/
namespace Go.Proofs.Ytdopfijoplldkaa
set_option maxRecDepth 20000
open Go.RowKit
set_option linter.unusedVariables false

theorem tail_stepF (s k j : Nat) (hj : j < 7) : (tailB s k).take (j + 2) = (tailB s k).take (j + 1) ++ [UInt8.ofNat (s / 256 ^ j % 256)] := by
  match j, hj with
  | 0, _ => simp [tailB]
  | 1, _ => simp [tailB]
  | 2, _ => simp [tailB]
  | 3, _ => simp [tailB]
  | 4, _ => simp [tailB]
  | 5, _ => simp [tailB]
  | 6, _ => simp [tailB]

set_option maxHeartbeats 2000000 in
theorem rform_any (w : World) (v : Value) (tb : List UInt8) (s k : Nat) (hv : Rd w v tb) (hs : s ≤ 72057594037927935) (hk : k < 256) (htl : tb.length ≤ 1000) :
    Calls Try.prog 38 #[.agg #[v, .int .u64 (s : Int), .int .u8 (k : Int)]] w fun e w' => ∃ x, e = .returned x ∧ Own w.heap.size w' x (tb ++ tailB s k) ∧ Below w.heap.size w w' := by
  obtain ⟨i0, hi, hz0, hz1, hz2⟩ := info_parts info5
  obtain ⟨ao, cap, rfl⟩ := hv.len
  obtain ⟨L, hL⟩ : ∃ L, tb.length = L := ⟨_, rfl⟩
  have HL : Hid (tb.length = L) := hL
  rw [hL] at hv htl ⊢
  have hB0 := below_box w #[.slice ao L cap, .int .u64 (s : Int), .int .u8 (k : Int)] 37
  have b0 := box_new w (.slice ao L cap) (.int .u64 (s : Int)) (.int .u8 (k : Int)) 37
  have hv0 := hv.below hB0 (Nat.le_refl _)
  have hub : Value.int .u8 (k : Int) = .int .u8 ((UInt8.ofNat k).toNat : Int) := by congr 1; simp; omega
  obtain ⟨bk, hbk⟩ : ∃ bk, UInt8.ofNat k = bk := ⟨_, rfl⟩
  rw [hbk] at hub
  have HBK : Hid (UInt8.ofNat k = bk) := hbk
  have hkk : (k : Int) = (bk.toNat : Int) := by injection hub
  rw [hkk] at b0 hB0 hv0 ⊢
  have b1 := b0
  have hv1 := hv0
  have hb1 := hB0
  obtain ⟨w1, hw1⟩ : ∃ W, w.alloc (.cells #[.slice ao L cap, .int .u64 (s : Int), .int .u8 (bk.toNat : Int)] 37) = W := ⟨_, rfl⟩
  rw [hw1] at b1 hv1 hb1
  have hlt := b1.lt
  clear hv hub hbk hkk b0 hv0 hB0 hL
  go_enter Try.func38, Try.ntmps38
  go_wp2_with fail
  clear hw1
  go_cut [3] (fun pv wx => ∃ g c, pv = .slice (some ⟨g, 0, none⟩) (L + 1) c ∧ Own (w.heap.size + 1) wx pv (tb ++ [bk]) ∧ Box wx w.heap.size (.slice ao L cap) (.int .u64 (s : Int)) (.int .u8 (bk.toNat : Int)) ∧ Below w.heap.size w wx)
  case first =>
    go_region_held3 (fun w' => w'.cell? ⟨w.heap.size, 0, none⟩ = some (.slice ao L cap) ∧ w'.cell? ⟨w.heap.size, 2, none⟩ = some (.int .u8 (bk.toNat : Int)))
      (first | exact ⟨bx.c0, bx.c2⟩ | exact ⟨bt.c0, bt.c2⟩ | exact ⟨(bt.alloc _).c0, (bt.alloc _).c2⟩ | exact ⟨b1.c0, b1.c2⟩ | exact ⟨b1.drew.c0, b1.drew.c2⟩ | exact ⟨(b1.drew.alloc _).c0, (b1.drew.alloc _).c2⟩)
      (first
        | (go_at_call 18; refine (copy_any _ _ tb (by first | exact hv1.drew.arg | exact (hv1.drew.below (below_box _ _ _) (Nat.le_refl _)).arg) (by rw [HL.out]; omega)).mono ?_; rintro e wt ⟨xt, rfl, ot, hbt⟩; have bt : Box wt w.heap.size (.slice ao L cap) (.int .u64 (s : Int)) (.int .u8 (bk.toNat : Int)) := (by first | exact b1.drew.below hbt (Nat.le_refl _) | exact (b1.drew.alloc _).below hbt (Nat.le_refl _)); have hB2 : Below w.heap.size w wt := (by first | exact (hb1.drew).trans (hbt.mono hb1.size) | exact ((hb1.drew).alloc hb1.size _).trans (hbt.mono (Nat.le_trans hb1.size (by simp)))); have ot2 : Own (w.heap.size + 1) wt xt tb := ot.mono (by simp; omega); obtain ⟨gt, kt, ht⟩ := ot2.shape; rw [HL.out] at ht; subst ht; have hgt := ot2.lt.1; have hslt := hbt.size; have orow := ot2.row; rw [HL.out] at orow)
        | (refine step_append_own rfl (.tmp 7) (.tmp 10) 26 rfl (w.heap.size + 1) 5 i0 (.int .u8 0) 1 1 Try.underlying26 hi hz0 hz1 hz2 rfl (by decide) (.slice (some ⟨gt, 0, none⟩) L kt) L (bv tb) rfl (by exact orow.alloc _) ⟨wt.heap.size, 0, none⟩ 1 1 (bv [bk]) rfl rfl ((lit_row wt wt.heap.size (Nat.le_refl _) bk).cells rfl) (bv_one _) (by simp only [maxLen]; omega) (by omega) (by simp; have := bt.lt; omega) ?_; intro v' w3 ho' hgr' hn'; have bx := (bt.alloc (.cells #[.int .u8 (bk.toNat : Int)] 5)).grown hgr' (fun e => by simp [Value.ownBlock] at e; omega); have hB3 := (hB2.alloc hB2.size (.cells #[.int .u8 (bk.toNat : Int)] 5)).grown hgr' (Nat.le_trans hB2.size (by simp)) (fun k' e => by have := (orow.lt k' e).1; omega))
        | (refine step_append_own rfl (.tmp 7) (.tmp 10) 26 rfl (w.heap.size + 1) 5 i0 (.int .u8 0) 1 1 Try.underlying26 hi hz0 hz1 hz2 rfl (by decide) (.slice (some ⟨gt, 0, none⟩) L kt) L (bv tb) rfl (by exact orow) ⟨w1.heap.size, 0, none⟩ 1 1 (bv [bk]) rfl rfl ((row_below (lit_row w1.drew w1.heap.size (Nat.le_refl _) bk) hbt).cells rfl) (bv_one _) (by simp only [maxLen]; omega) (by omega) (by have := bt.lt; omega) ?_; intro v' w3 ho' hgr' hn'; have bx := bt.grown hgr' (fun e => by simp [Value.ownBlock] at e; omega); have hB3 := hB2.grown hgr' hB2.size (fun k' e => by have := (orow.lt k' e).1; omega))
        | fail)
    all_goals
      obtain ⟨gv, kv, hvv, hk1, hk2, ov⟩ := app_shape ho' HL.out rfl (fun e => by have := (hn'.1 e).1; cases this)
      subst hvv
      go_wp2_with fail
      go_meet
      exact ⟨gv, kv, rfl, ov, bx, hB3⟩
  case rest =>
    obtain ⟨g, c, rfl, ov, bx, hB⟩ := hcut
    clear b1 hv1 hb1 hlt
    have bxc1 := bx.c1
    go_wp2_with fail
    clear bxc1
    go_loopg [3, 4, 14] 7 (fun gk pv nv iv wr => ∃ j g c : Nat, gk + j = 7 ∧ iv = .int .i64 (j : Int) ∧ nv = .int .u64 ((s / 256 ^ j : Nat) : Int) ∧ pv = .slice (some ⟨g, 0, none⟩) (L + 1 + j) c ∧ Own (w.heap.size + 1) wr pv (tb ++ (tailB s k).take (j + 1)) ∧ Below w.heap.size w wr)
    case atStart =>
      have e1 : (tailB s k).take (0 + 1) = [bk] := by rw [← HBK.out]; rfl
      exact ⟨0, g, c, rfl, rfl, by simp, rfl, by rw [e1]; exact ov, hB⟩
    case round =>
      obtain ⟨j, g, c, hj, rfl, rfl, rfl, ov, hB⟩ := hrel
      by_cases h7 : j < 7
      · obtain ⟨q, hq⟩ : ∃ q, s / 256 ^ j = q := ⟨_, rfl⟩
        have hq2 : q < 18446744073709551616 := by rw [← hq]; exact Nat.lt_of_le_of_lt (Nat.div_le_self _ _) (by omega)
        have HN : Hid (s / 256 ^ (j + 1) = q / 256) := by show _ = _; rw [Nat.pow_succ, ← Nat.div_div_eq_div_mul, hq]
        have HS : Hid ((tailB s k).take (j + 1 + 1) = (tailB s k).take (j + 1) ++ [UInt8.ofNat (q % 256)]) := by show _ = _; rw [tail_stepF s k j h7, hq]
        rw [hq]
        clear hq
        have hub : Value.int .u8 ((q : Int) % 256) = .int .u8 ((UInt8.ofNat (q % 256)).toNat : Int) := by congr 1; simp
        obtain ⟨bq, hbq⟩ : ∃ bq, UInt8.ofNat (q % 256) = bq := ⟨_, rfl⟩
        rw [hbq] at hub HS
        clear hbq
        obtain ⟨pl, hpl⟩ : ∃ pl, tb ++ (tailB s k).take (j + 1) = pl := ⟨_, rfl⟩
        have hpn : pl.length = L + 1 + j := by rw [← hpl, List.length_append, List.length_take, HL.out]; have : (tailB s k).length = 8 := rfl; omega
        have HP : Hid (tb ++ (tailB s k).take (j + 1 + 1) = pl ++ [bq]) := by show _ = _; rw [HS.out, ← List.append_assoc, hpl]
        rw [hpl] at ov
        clear hpl HS
        have hrow := ov.row
        rw [hpn] at hrow
        have hrowa := hrow.alloc (.cells #[.int .u8 (bq.toNat : Int)] 5)
        have hlit := (lit_row wr wr.heap.size (Nat.le_refl _) bq).cells rfl
        have hlt := ov.lt
        go_wp2_with (at_builtin; refine wpList_append_own _ rfl (.tmp 16) (.tmp 20) 26 rfl (w.heap.size + 1) 5 i0 (.int .u8 0) 1 1 Try.underlying26 hi hz0 hz1 hz2 rfl (by decide) (.slice (some ⟨g, 0, none⟩) (L + 1 + j) c) (L + 1 + j) (bv pl) rfl hrowa ⟨wr.heap.size, 0, none⟩ 1 1 (bv [bq]) rfl rfl hlit (bv_one _) (by simp only [maxLen]; omega) (by omega) (by simp; omega) ?_; intro v' w2 ho' hgr' hn'; obtain ⟨g2, c2, hvv, hk1, hk2, ov2⟩ := app_shape ho' hpn rfl (fun e => by have := (hn'.1 e).1; cases this); subst hvv)
        go_roundg (gk - 1)
        case measure => omega
        case rel => exact ⟨j + 1, g2, c2, by omega, by go_num, by rw [HN.out]; go_num, rfl, by rw [HP.out]; exact ov2, (hB.alloc hB.size _).grown hgr' (Nat.le_trans hB.size (by simp)) (fun k' e => by have := (hrow.lt k' e).1; omega)⟩
      · obtain rfl : j = 7 := by omega
        have e8 : Hid ((tailB s k).take (7 + 1) = tailB s k) := rfl
        rw [e8.out] at ov
        go_wp2
        go_ret
        exact ⟨_, rfl, ov.mono (Nat.le_succ _), hB⟩

end Go.Proofs.Ytdopfijoplldkaa

/- bartizanref12's Build. -/
namespace Go.Proofs.Ytdopfijoplldkaa
set_option maxRecDepth 20000
open Go.RowKit
set_option linter.unusedVariables false

theorem rlbuild_err (w : World) (v : Value) (es : List EnB) (c : Int) (hv : RdE w v es) (hc : chkLf es = c) (h0 : ¬ c = 0) :
    Calls Try.prog 14 #[v] w fun e w' => e = .returned (.tuple #[.slice none 0 0, .int .i64 c]) ∧ Below w.heap.size w w' := by
  have hck := rlcheck_any w v es c hv hc
  obtain ⟨a, k, rfl⟩ := hv.shape
  have h0b : (c == 0) = false := by simpa using h0
  clear hv hc
  go_enter Try.func14, Try.ntmps14
  go_wp2_with fail
  refine hck.mono ?_
  rintro e w1 ⟨rfl, hb⟩
  clear hck
  go_wp2
  go_ret2
  exact ⟨rfl, hb⟩

theorem info3 : (Try.prog.info? 3).map (fun i => (i.zero, i.size, i.bytes)) = some (some (.int .i64 0), 1, 8) := by kernel_rfl

def iv3 (ns : List Nat) : List Value := ns.map fun (n : Nat) => Value.int .i64 (n : Int)

theorem iv3_one (ns : List Nat) : ∀ u ∈ iv3 ns, u.oneCell' = true := by
  intro u hu
  obtain ⟨n, _, rfl⟩ := List.mem_map.1 hu
  rfl

theorem iv3_len (ns : List Nat) : (iv3 ns).length = ns.length := by unfold iv3; rw [List.length_map]

/-- numbers in a row of one's own -/
def OwnI (B : Nat) (w : World) (v : Value) (ns : List Nat) : Prop := w.ownsRow B 3 1 v ns.length (iv3 ns)

/-- where the loop has come to -/
structure RBI (w wr : World) (es : List EnB) (ov sv : Value) (j : Nat) : Prop where
  bo : OwnN w.heap.size wr ov (bodyTo es j)
  so : OwnI w.heap.size wr sv (startsTo es j)
  be : Below w.heap.size w wr

theorem RBI.below {w wr w2 : World} {es : List EnB} {ov sv : Value} {j : Nat} (h : RBI w wr es ov sv j) (hb : Below wr.heap.size wr w2) : RBI w w2 es ov sv j :=
  ⟨h.bo.below hb (Nat.le_refl _), row_below h.so hb, bsplit h.be hb⟩

/-- the same, some bytes further; the places told -/
structure RBH (w wr : World) (es : List EnB) (ov sv fv : Value) (A F : List UInt8) (j : Nat) : Prop where
  bo : OwnN w.heap.size wr ov A
  so : OwnI w.heap.size wr sv (startsTo es (j + 1))
  fo : Rd wr fv F
  nf : NeB fv F ov
  be : Below w.heap.size w wr

theorem RBH.below {w wr w2 : World} {es : List EnB} {ov sv fv : Value} {A F : List UInt8} {j : Nat} (h : RBH w wr es ov sv fv A F j) (hb : Below wr.heap.size wr w2) : RBH w w2 es ov sv fv A F j :=
  ⟨h.bo.below hb (Nat.le_refl _), row_below h.so hb, h.fo.below hb (Nat.le_refl _), h.nf, bsplit h.be hb⟩

theorem RBH.drew {w wr : World} {es : List EnB} {ov sv fv : Value} {A F : List UInt8} {j : Nat} (h : RBH w wr es ov sv fv A F j) : RBH w wr.drew es ov sv fv A F j := ⟨h.bo, h.so, h.fo, h.nf, h.be.drew⟩

theorem RBI.stay {w wr : World} {es : List EnB} {ov sv fv : Value} {F : List UInt8} {j : Nat} (h : RBI w wr es ov sv j) (hj : ¬ j % 4 = 0) (hf : Rd wr fv F) (h1 : NeB fv F ov) : RBH w wr es ov sv fv (bodyTo es j) F j :=
  ⟨h.bo, by rw [startsTo, if_neg hj]; exact h.so, hf, h1, h.be⟩

theorem ne_step {w : World} {bx g : Nat} {v : Value} (h : some bx ≠ v.ownBlock) (hat : v.ownBlock = some g ∨ g = w.heap.size) (hl : bx < w.heap.size) : bx ≠ g := by
  intro e
  rcases hat with h1 | h1
  · exact h (by rw [h1, e])
  · omega

theorem ne_own {bx g n c : Nat} (h : bx ≠ g) : some bx ≠ (Value.slice (some ⟨g, 0, none⟩) n c).ownBlock := fun e => h (by simpa [Value.ownBlock] using e)

theorem src_rd {w : World} {v : Value} {l : List UInt8} {n : Nat} (h : Rd w v l) (hl : l.length = n) : SrcOf w 1 v n (bv l) := by
  subst hl
  rcases h with ⟨rfl, rfl⟩ | ⟨b, off, cap, rfl, h1, h2, h3⟩
  · exact .inl ⟨rfl, rfl, rfl⟩
  · exact .inr ⟨_, _, rfl, by rw [bv_length, Nat.mul_one], fun j u hu => by rw [Addr.add_lit]; exact h3 j u hu⟩

theorem startsTo_small {es : List EnB} (h : ∀ e ∈ es, chkEn e = 0) : ∀ j, j ≤ 64 → ∀ s ∈ startsTo es j, s < 65536
  | 0, _, s, hs => by simp [startsTo] at hs
  | j + 1, hj, s, hs => by
    rw [startsTo] at hs
    split at hs
    · rcases List.mem_append.1 hs with h1 | h1
      · exact startsTo_small h j (by omega) s h1
      · simp at h1
        have := bodyTo_most h j (by omega)
        omega
    · exact startsTo_small h j (by omega) s hs

theorem rd_row {w w' : World} {B n s : Nat} {e : TypeId} {v fv : Value} {F : List UInt8} {cs : List Value} (hf : Rd w fv F) (hg : w.grownBy w' v.ownBlock) (hn : NeB fv F v) : Rd w' fv F := rd_grown hf hg hn

theorem RBI.tell {w wr w2 : World} {es : List EnB} {ov sv fv : Value} {F : List UInt8} {j g c n2 : Nat} (h : RBI w wr es ov sv j) (hj : j % 4 = 0) (hf : Rd wr fv F) (h1 : NeB fv F ov) (h2 : NeB fv F sv)
    (hl : (startsTo es j).length = n2) (hn : w2.ownsRow w.heap.size 3 1 (.slice (some ⟨g, 0, none⟩) (n2 + 1) c) (n2 + 1) (iv3 (startsTo es j) ++ [.int .i64 ((bodyTo es j).length : Int)])) (hg : wr.grownBy w2 sv.ownBlock) : RBH w w2 es ov (.slice (some ⟨g, 0, none⟩) (n2 + 1) c) fv (bodyTo es j) F j := by
  refine ⟨ownN_kept h.bo (by decide) h.so hg, ?_, rd_grown hf hg h2, h1, h.be.grown hg h.be.size (fun k e => (h.so.lt k e).1)⟩
  unfold OwnI
  rw [startsTo, if_pos hj, List.length_append, hl]
  unfold iv3 at hn ⊢
  rw [List.map_append]
  exact hn

/-- bytes are laid behind -/
theorem RBH.push {w wr w2 : World} {es : List EnB} {ov sv fv : Value} {A F u A2 : List UInt8} {j g c n1 m N : Nat} (h : RBH w wr es ov sv fv A F j) (hA : A ++ u = A2) (hm : u.length = m)
    (hl : A.length = n1) (hN : n1 + m = N) (hn : w2.ownsRow w.heap.size 5 1 (.slice (some ⟨g, 0, none⟩) N c) N (bv A ++ bv u)) (hg : wr.grownBy w2 ov.ownBlock) (hat : ov.ownBlock = some g ∨ g = wr.heap.size) : RBH w w2 es (.slice (some ⟨g, 0, none⟩) N c) sv fv A2 F j := by
  subst hA hN
  refine ⟨.inr (own_grew hl hm hn), ?_, rd_grown h.fo hg h.nf, neb_step h.nf h.fo hat, h.be.grown hg h.be.size (fun k e => (h.bo.lt k e).1)⟩
  exact World.ownsRow.kept h.so hg (rows_ne (by decide) h.bo.row h.so)

theorem RBH.own {w wr : World} {es : List EnB} {ov sv fv : Value} {A F : List UInt8} {j : Nat} (h : RBH w wr es ov sv fv A F j) (hA : A = bodyTo es (j + 1)) : RBI w wr es ov sv (j + 1) := by
  subst hA
  exact ⟨h.bo, h.so, h.be⟩

theorem u64_len' (n : Nat) (h : n ≤ 1000000) : IntKind.u64.wrap (n : Int) = (n : Int) := by rw [IntKind.wrap_u64]; omega

theorem i64_len' (n : Nat) (h : n ≤ 1000000) : IntKind.i64.wrap (n : Int) = (n : Int) ∧ wrap64 (n : Int) = (n : Int) := by
  refine ⟨?_, ?_⟩
  · rw [IntKind.wrap_i64]; omega
  · unfold wrap64; omega

theorem numB_pos (n : Nat) : 0 < (Mth.numB n).length := by rw [Mth.numB_length]; have := Mth.numL_bd n; omega

set_option maxHeartbeats 16000000 in
theorem rlbuild_ok (w : World) (v : Value) (es : List EnB) (hv : RdE w v es) (hc : chkLf es = 0) :
    Calls Try.prog 14 #[v] w fun e w' => ∃ x, e = .returned (.tuple #[x, .int .i64 0]) ∧ Own w.heap.size w' x (leafB es) ∧ Below w.heap.size w w' := by
  obtain ⟨i0, hi, hz0, hz1, hz2⟩ := info_parts info5
  obtain ⟨i3, hi3, hy0, hy1, hy2⟩ := info_parts info3
  have hck := rlcheck_any w v es 0 hv hc
  obtain ⟨hlen, hall, hrise⟩ := chkLf_ok.1 hc
  have HV : Hid (RdE w v es) := hv
  obtain ⟨ao, cap, rfl, h1, h2, _⟩ := hv
  unfold maxLen at h2
  obtain ⟨N, hN⟩ : ∃ N, es.length = N := ⟨_, rfl⟩
  rw [hN] at h1 HV hlen hck ⊢
  have HN : Hid (es.length = N) := hN
  have HALL : Hid (∀ e ∈ es, chkEn e = 0) := hall
  have HRISE : Hid (riseB es = true) := hrise
  clear hN hc hall hrise
  go_enter Try.func14, Try.ntmps14
  go_wp2_with fail
  refine hck.mono ?_
  rintro e w1 ⟨rfl, hb1⟩
  have HB1 : Hid (Below w.heap.size w w1) := hb1
  clear hck hb1
  go_wp2_with fail
  go_loopg [5, 6, 21] N (fun gk ov sv iv wr => ∃ (j n1 c1 n2 c2 : Nat) (a1 a2 : Option Addr), gk + j = N ∧ iv = .int .i64 (j : Int) ∧ ov = .slice a1 n1 c1 ∧ sv = .slice a2 n2 c2 ∧ Hid (RBI w wr es ov sv j))
  case atStart => exact ⟨0, 0, 0, 0, 0, none, none, by omega, rfl, rfl, rfl, ⟨.inl ⟨rfl, rfl⟩, World.ownsRow_nil _ _ _ _, HB1.out⟩⟩
  case round =>
    obtain ⟨j, n1, c1, n2, c2, a1, a2, hj, rfl, rfl, rfl, HI⟩ := hrel
    have HN1 : Hid ((bodyTo es j).length = n1) := ownN_len HI.out.bo
    have HN2 : Hid ((startsTo es j).length = n2) := (ownrow_len HI.out.so).symm
    by_cases hlt : j < N
    · have hlt2 : j < es.length := by rw [HN.out]; exact hlt
      have hn1 : n1 ≤ 37760 := by rw [← HN1.out]; exact bodyTo_most HALL.out j (by omega)
      have hn2 : n2 ≤ 1000 := by rw [← HN2.out, startsTo_len]; omega
      obtain ⟨_, _, e, _, _, h3⟩ := HV.out
      rw [HN.out] at e
      cases e
      obtain ⟨b, off, rfl, xv, yv, d0', d1', d2', d3', rx, ry⟩ := h3 j hlt2
      have hbl := World.block_lt_of_cell? w _ d0'
      have d0 := (HI.out.be.cell (p := ⟨b, off + j * 4, none⟩) hbl).trans d0'
      have d1 := (HI.out.be.cell (p := ⟨b, off + j * 4 + 1, none⟩) hbl).trans d1'
      have d2 := (HI.out.be.cell (p := ⟨b, off + j * 4 + 2, none⟩) hbl).trans d2'
      have d3 := (HI.out.be.cell (p := ⟨b, off + j * 4 + 3, none⟩) hbl).trans d3'
      clear d0' d1' d2' d3' hbl
      obtain ⟨x1, x2, ex⟩ := rx.len
      obtain ⟨y1, y2, ey⟩ := ry.len
      subst ex ey
      obtain ⟨q1, q2⟩ := gk_nxt hj hlt
      have hlim := chkEn_ok (HALL.out _ (List.getElem_mem hlt2))
      have hfrm := frm_at hlt2
      have hent := entB_at hlt2
      obtain ⟨⟨ol, osq, ok, oo⟩, ho⟩ : ∃ o, es[j] = o := ⟨_, rfl⟩
      rw [ho] at d0 d1 d2 d3 rx ry hlim hfrm hent
      simp only at d0 d1 d2 d3 rx ry hlim hent
      obtain ⟨kk, hkk⟩ : ∃ kk, ok.toNat = kk := ⟨_, rfl⟩
      obtain ⟨nl, hnlq⟩ : ∃ nl, ol.length = nl := ⟨_, rfl⟩
      obtain ⟨oln, holn⟩ : ∃ oln, oo.length = oln := ⟨_, rfl⟩
      have hkb := ok.toNat_lt
      have hff : formB (ol, osq, ok, oo) = ol ++ tailB osq kk := by unfold formB; rw [← hkk]
      rw [hff] at hfrm hent
      rw [hkk] at d2 hlim hkb
      rw [hnlq] at d0 rx
      rw [holn] at d3 ry
      have hb0 := below_box4 wr (.cells #[.slice x1 nl x2, .int .u64 (osq : Int), .int .u8 (kk : Int), .slice y1 oln y2] 45)
      have BX := box4_new wr (.slice x1 nl x2) (.int .u64 (osq : Int)) (.int .u8 (kk : Int)) (.slice y1 oln y2) 45
      have HI0 : Hid (RBI w (wr.alloc (.cells #[.slice x1 nl x2, .int .u64 (osq : Int), .int .u8 (kk : Int), .slice y1 oln y2] 45)) es (.slice a1 n1 c1) (.slice a2 n2 c2) j) := HI.out.below hb0
      have hfo := rform_any (wr.alloc (.cells #[.slice x1 nl x2, .int .u64 (osq : Int), .int .u8 (kk : Int), .slice y1 oln y2] 45)) _ ol osq kk (rx.below HI0.out.be (Nat.le_refl _)) hlim.2.2.1 hkb (by have := hlim.2.1; omega)
      have HRY : Hid (Rd w (.slice y1 oln y2) oo) := ry
      have HOO : Hid (oo.length ≤ 512 ∧ oo.length = oln) := ⟨hlim.2.2.2.2.1, holn⟩
      have HNE1 : Hid (some wr.heap.size ≠ (Value.slice a1 n1 c1).ownBlock) := own_ne_new HI.out.bo.row
      have HNE2 : Hid (some wr.heap.size ≠ (Value.slice a2 n2 c2).ownBlock) := own_ne_new HI.out.so
      obtain ⟨F, hF⟩ : ∃ F, ol ++ tailB osq kk = F := ⟨_, rfl⟩
      rw [hF] at hfo hfrm hent
      have hFl : F.length = nl + 8 := by rw [← hF, List.length_append, tailB_len, hnlq]
      obtain ⟨L, hL⟩ : ∃ L, F.length = L := ⟨_, rfl⟩
      have HFR : Hid (frm es j = F ∧ F.length = L) := ⟨hfrm, hL⟩
      have HEN : Hid (entB es j = packB (shN es j) F oo) := hent
      have hsl := shN_lt HALL.out HRISE.out hlt2
      rw [hfrm, hL] at hsl
      have hL72 : L ≤ 72 := by have := hlim.2.1; omega
      have BX' := BX
      obtain ⟨z0, z1, z2, z3⟩ := BX'
      clear ho h3 rx ry hnlq holn hkk hlim hkb hb0 HI hF hFl hfrm hent hff
      go_wp2_with fail
      refine hfo.mono ?_
      rintro e w2 ⟨xf, rfl, of, hb2⟩
      obtain ⟨gf, fc, hxf⟩ := of.shape
      rw [hL] at hxf
      subst hxf
      have hfc : L ≤ fc ∧ fc ≤ 9223372036854775807 := by
        obtain ⟨g', k', c', e, _, _, h1, h2, _⟩ := of
        simp only [Value.slice.injEq] at e
        obtain ⟨_, _, rfl⟩ := e
        rw [hL] at h1
        unfold maxLen at h2
        exact ⟨h1, by omega⟩
      have HFC : Hid (L ≤ fc ∧ fc ≤ 9223372036854775807) := hfc
      have BX2 := BX.below hb2 (Nat.le_refl _)
      have HI2 : Hid (RBI w w2 es (.slice a1 n1 c1) (.slice a2 n2 c2) j) := HI0.out.below hb2
      have hlow1 : ∀ q, (Value.slice a1 n1 c1).ownBlock = some q → q < (wr.alloc (.cells #[.slice x1 nl x2, .int .u64 (osq : Int), .int .u8 (kk : Int), .slice y1 oln y2] 45)).heap.size := fun q hq => (HI0.out.bo.lt q hq).2
      have hlow2 : ∀ q, (Value.slice a2 n2 c2).ownBlock = some q → q < (wr.alloc (.cells #[.slice x1 nl x2, .int .u64 (osq : Int), .int .u8 (kk : Int), .slice y1 oln y2] 45)).heap.size := fun q hq => (HI0.out.so.lt q hq).2
      have HNF : Hid (NeB (.slice (some ⟨gf, 0, none⟩) L fc) F (.slice a1 n1 c1) ∧ NeB (.slice (some ⟨gf, 0, none⟩) L fc) F (.slice a2 n2 c2)) := ⟨neb_of of.from hlow1 of.rd, neb_of of.from hlow2 of.rd⟩
      have HRF : Hid (Rd w2 (.slice (some ⟨gf, 0, none⟩) L fc) F) := of.rd
      clear hfo hb2 z0 z1 z2 z3 BX of hlow1 hlow2 hfc HI0 hL
      have BX2' := BX2
      obtain ⟨z0, z1, z2, z3⟩ := BX2'
      by_cases h4 : j % 4 = 0
      · have h4I : (j : Int).tmod 4 = 0 := by rw [Int.tmod_eq_emod_of_nonneg (by omega)]; omega
        have HSH : Hid (shN es j = 0) := by show _ = 0; unfold shN; rw [if_pos h4]
        have hba := below_box4 w2 (.cells #[.int .i64 (n1 : Int)] 3)
        have hIa := HI2.out.below hba
        have BX3 := BX2.below hba (Nat.le_refl _)
        have hrow : (w2.alloc (.cells #[.int .i64 (n1 : Int)] 3)).ownsRow w.heap.size 3 1 (.slice a2 n2 c2) n2 (iv3 (startsTo es j)) := by have := hIa.so; unfold OwnI at this; rw [HN2.out] at this; exact this
        have hlit : ∀ j u, [Value.int .i64 (n1 : Int)][j]? = some u → (w2.alloc (.cells #[.int .i64 (n1 : Int)] 3)).cell? ((⟨w2.heap.size, 0, none⟩ : Addr).add j) = some u := by
          intro j u hu
          match j, hu with
          | 0, hu => simp at hu; subst hu; simp [Addr.add]
          | (j + 1), hu => simp at hu
        have hse := hIa.be.size
        have HIA : Hid (RBI w (w2.alloc (.cells #[.int .i64 (n1 : Int)] 3)) es (.slice a1 n1 c1) (.slice a2 n2 c2) j) := hIa
        have HRFa : Hid (Rd (w2.alloc (.cells #[.int .i64 (n1 : Int)] 3)) (.slice (some ⟨gf, 0, none⟩) L fc) F) := HRF.out.below hba (Nat.le_refl _)
        clear hba hIa BX2
        go_wp2_with (first | (at_builtin; refine wpList_append_lies _ rfl (.tmp 32) (.tmp 35) 66 rfl w.heap.size 3 i3 (.int .i64 0) 1 8 Try.underlying66 hi3 hy0 hy1 hy2 rfl (by decide) (.slice a2 n2 c2) n2 (iv3 (startsTo es j)) rfl hrow ⟨w2.heap.size, 0, none⟩ 1 1 [.int .i64 (n1 : Int)] rfl rfl hlit (by simp [Value.oneCell']) (by decide) (by unfold maxLen; omega) (by omega) hse _ rfl ?_; intro g5 c5 w5 hown hgrow hat hlt5; have HI5 : Hid (RBH w w5 es (.slice a1 n1 c1) (.slice (some ⟨g5, 0, none⟩) (n2 + 1) c5) (.slice (some ⟨gf, 0, none⟩) L fc) (bodyTo es j) F j) := (HIA.out.tell h4 HRFa.out HNF.out.1 HNF.out.2 HN2.out (by rw [HN1.out]; exact hown) hgrow); have BX5 := BX3.grown hgrow HNE2.out; clear hown hgrow hat hlt5) | fail)
        clear hrow hlit hse BX3 z0 z1 z2 z3
        have hs1 : (0 : Int) ≤ ((0 : Nat) : Int) := by omega
        have hs2 : ((0 : Nat) : Int) ≤ (L : Int) := by omega
        have hs3 : (L : Int) ≤ (fc : Int) := by have := HFC.out; omega
        have hs4 : ¬ fc = 0 := by have := HFC.out; omega
        have hs5 : ¬ (fc : Int) = ((0 : Nat) : Int) := by omega
        have HSD : Hid (0 ≤ 72 ∧ L ≤ 72 ∧ L - 0 = L ∧ 0 < L) := ⟨by omega, hL72, by omega, by omega⟩
        have hD : True := trivial
        have HI6 : Hid (RBH w w5.drew es (.slice a1 n1 c1) (.slice (some ⟨g5, 0, none⟩) (n2 + 1) c5) (.slice (some ⟨gf, 0, none⟩) L fc) (bodyTo es j) F j) := HI5.out.drew
        have BX6 := BX5.drew
        obtain ⟨A1, HA1⟩ : ∃ A, Hid (bodyTo es j ++ Mth.numB 0 = A) := ⟨_, rfl⟩
        obtain ⟨A2, HA2⟩ : ∃ A, Hid (A1 ++ Mth.numB L = A) := ⟨_, rfl⟩
        obtain ⟨A3, HA3⟩ : ∃ A, Hid (A2 ++ Mth.numB oln = A) := ⟨_, rfl⟩
        obtain ⟨m1, hm1⟩ : ∃ m, (Mth.numB 0).length = m := ⟨_, rfl⟩
        obtain ⟨m2, hm2⟩ : ∃ m, (Mth.numB L).length = m := ⟨_, rfl⟩
        obtain ⟨m3, hm3⟩ : ∃ m, (Mth.numB oln).length = m := ⟨_, rfl⟩
        have HM : Hid (((Mth.numB 0).length = m1 ∧ (Mth.numB L).length = m2 ∧ (Mth.numB oln).length = m3) ∧ (0 < m1 ∧ m1 ≤ 9) ∧ (0 < m2 ∧ m2 ≤ 9) ∧ (0 < m3 ∧ m3 ≤ 9)) := by
          refine ⟨⟨hm1, hm2, hm3⟩, ?_, ?_, ?_⟩
          · rw [← hm1, Mth.numB_length]; have := Mth.numL_bd 0; omega
          · rw [← hm2, Mth.numB_length]; have := Mth.numL_bd L; omega
          · rw [← hm3, Mth.numB_length]; have := Mth.numL_bd oln; omega
        have HLA : Hid (A1.length = n1 + m1 ∧ A2.length = n1 + m1 + m2 ∧ A3.length = n1 + m1 + m2 + m3) := by
          have l1 : A1.length = n1 + m1 := by rw [← HA1.out, List.length_append, HN1.out, hm1]
          have l2 : A2.length = n1 + m1 + m2 := by rw [← HA2.out, List.length_append, l1, hm2]
          have l3 : A3.length = n1 + m1 + m2 + m3 := by rw [← HA3.out, List.length_append, l2, hm3]
          exact ⟨l1, l2, l3⟩
        have HN1B : Hid (n1 ≤ 37760) := hn1
        have HBD : Hid ((0 < 18446744073709551616 ∧ L < 18446744073709551616 ∧ oln < 18446744073709551616) ∧ (n1 + m1 ≤ maxLen ∧ (n1 + m1) * 1 ≤ 140737488355328) ∧ (n1 + m1 + m2 ≤ maxLen ∧ (n1 + m1 + m2) * 1 ≤ 140737488355328) ∧ (n1 + m1 + m2 + m3 ≤ maxLen ∧ (n1 + m1 + m2 + m3) * 1 ≤ 140737488355328)) := by
          have k1 := HM.out.2
          have k2 := HOO.out
          have k3 := HSD.out
          unfold maxLen
          refine ⟨⟨by omega, by omega, by omega⟩, ⟨by omega, by omega⟩, ⟨by omega, by omega⟩, ⟨by omega, by omega⟩⟩
        clear hm1 hm2 hm3 hD hsl
        have HWR : Hid (0 ≤ 1000000 ∧ L ≤ 1000000 ∧ oln ≤ 1000000) := by have k2 := HOO.out; have k3 := HSD.out; exact ⟨by omega, by omega, by omega⟩
        go_wp2_with fail
        have hu1 : IntKind.u64.wrap (0 : Int) = 0 := by rw [IntKind.wrap_u64]; rfl
        have hu2 := u64_len' L HWR.out.2.1
        obtain ⟨hu4, hu5⟩ := i64_len' L HWR.out.2.1
        have hu3 := u64_len' oln HWR.out.2.2
        go_region_held3 (fun w' => w'.cell? ⟨wr.heap.size, 3, none⟩ = some (.slice y1 oln y2))
          (first | with_reducible exact b6.c3 | with_reducible exact b5.c3 | with_reducible exact b4.c3 | with_reducible exact b3.c3 | with_reducible exact b2.c3 | with_reducible exact b1.c3 | exact BX6.c3)
          (first
            | (go_at_call_of 39 (Value.int .u64 0); refine (refnum_any 0 w5.drew HBD.out.1.1).mono ?_; rintro e v1 ⟨u1, rfl, p1, q1'⟩
               obtain ⟨gu1, cu1, hu1'⟩ := p1.shape
               rw [HM.out.1.1] at hu1'
               subst hu1'
               have b1 := BX6.below q1' (Nat.le_refl _)
               have I1 := HI6.out.below q1')
            | (have hrow1 : v1.ownsRow w.heap.size 5 1 (.slice a1 n1 c1) n1 (bv (bodyTo es j)) := by have := I1.bo.row; rw [HN1.out] at this; exact this
               have hmm := HM.out.2
               refine step_append_lies _ rfl (.tmp 67) (.tmp 70) 26 rfl w.heap.size 5 i0 (.int .u8 0) 1 1 Try.underlying26 hi hz0 hz1 hz2 rfl (by decide) (.slice a1 n1 c1) n1 (bv (bodyTo es j)) rfl hrow1 ⟨gu1, 0, none⟩ m1 cu1 (bv (Mth.numB 0)) rfl (by rw [bv_length, Nat.mul_one]; exact HM.out.1.1) (rd_cells p1.rd).2 (bv_one _) hmm.1.1 HBD.out.2.1.1 HBD.out.2.1.2 I1.be.size _ rfl ?_
               intro g2 c2' v2 hown hgrow hat hltx
               have b2 := b1.grown hgrow HNE1.out
               have I2 := I1.push HA1.out HM.out.1.1 HN1.out rfl hown hgrow hat
               have hne2 := ne_step HNE1.out hat b1.lt
               clear hown hgrow hat hltx hmm hrow1 p1 I1)
            | (go_at_call_of 39 (Value.int .u64 (L : Int)); refine (refnum_any L v2 HBD.out.1.2.1).mono ?_; rintro e v3 ⟨u3, rfl, p3, q3'⟩
               obtain ⟨gu3, cu3, hu3'⟩ := p3.shape
               rw [HM.out.1.2.1] at hu3'
               subst hu3'
               have b3 := b2.below q3' (Nat.le_refl _)
               have I3 := I2.below q3')
            | (have hrow3 : v3.ownsRow w.heap.size 5 1 (.slice (some ⟨g2, 0, none⟩) (n1 + m1) c2') (n1 + m1) (bv A1) := by have := I3.bo.row; rw [HLA.out.1] at this; exact this
               have hmm := HM.out.2
               refine step_append_lies _ rfl (.tmp 71) (.tmp 77) 26 rfl w.heap.size 5 i0 (.int .u8 0) 1 1 Try.underlying26 hi hz0 hz1 hz2 rfl (by decide) (.slice (some ⟨g2, 0, none⟩) (n1 + m1) c2') (n1 + m1) (bv A1) rfl hrow3 ⟨gu3, 0, none⟩ m2 cu3 (bv (Mth.numB L)) rfl (by rw [bv_length, Nat.mul_one]; exact HM.out.1.2.1) (rd_cells p3.rd).2 (bv_one _) hmm.2.1.1 HBD.out.2.2.1.1 HBD.out.2.2.1.2 I3.be.size _ rfl ?_
               intro g4 c4' v4 hown hgrow hat hltx
               have b4 := b3.grown hgrow (ne_own hne2)
               have I4 := I3.push HA2.out HM.out.1.2.1 HLA.out.1 rfl hown hgrow hat
               have hne4 := ne_step (ne_own hne2) hat b3.lt
               clear hown hgrow hat hltx hmm hrow3 p3 I3)
            | (go_at_call_of 39 (Value.int .u64 (oln : Int)); refine (refnum_any oln v4 HBD.out.1.2.2).mono ?_; rintro e v5 ⟨u5, rfl, p5, q5'⟩
               obtain ⟨gu5, cu5, hu5'⟩ := p5.shape
               rw [HM.out.1.2.2] at hu5'
               subst hu5'
               have b5 := b4.below q5' (Nat.le_refl _)
               have I5 := I4.below q5')
            | (have hrow5 : v5.ownsRow w.heap.size 5 1 (.slice (some ⟨g4, 0, none⟩) (n1 + m1 + m2) c4') (n1 + m1 + m2) (bv A2) := by have := I5.bo.row; rw [HLA.out.2.1] at this; exact this
               have hmm := HM.out.2
               refine step_append_lies _ rfl (.tmp 78) (.tmp 83) 26 rfl w.heap.size 5 i0 (.int .u8 0) 1 1 Try.underlying26 hi hz0 hz1 hz2 rfl (by decide) (.slice (some ⟨g4, 0, none⟩) (n1 + m1 + m2) c4') (n1 + m1 + m2) (bv A2) rfl hrow5 ⟨gu5, 0, none⟩ m3 cu5 (bv (Mth.numB oln)) rfl (by rw [bv_length, Nat.mul_one]; exact HM.out.1.2.2) (rd_cells p5.rd).2 (bv_one _) hmm.2.2.1 HBD.out.2.2.2.1 HBD.out.2.2.2.2 I5.be.size _ rfl ?_
               intro g6 c6' v6 hown hgrow hat hltx
               have b6 := b5.grown hgrow (ne_own hne4)
               have HI7 : Hid (RBH w v6 es (.slice (some ⟨g6, 0, none⟩) (n1 + m1 + m2 + m3) c6') (.slice (some ⟨g5, 0, none⟩) (n2 + 1) c5) (.slice (some ⟨gf, 0, none⟩) L fc) A3 F j) := I5.push HA3.out HM.out.1.2.2 HLA.out.2.1 rfl hown hgrow hat
               have HNE6 : Hid (wr.heap.size ≠ g6) := ne_step (ne_own hne4) hat b5.lt
               clear hown hgrow hat hltx hmm hrow5 p5 I5)
            | fail)
        clear hu1 hu2 hu3 hu4 hu5
        obtain ⟨M, hM⟩ : ∃ M, n1 + m1 + m2 + m3 = M := ⟨_, rfl⟩
        have HM3 : Hid (A3.length = M ∧ M ≤ 38000) := by have k1 := HM.out.2; have k2 := HN1B.out; exact ⟨by rw [HLA.out.2.2, hM], by omega⟩
        rw [hM] at HI7 ⊢
        obtain ⟨A4, HA4⟩ : ∃ A, Hid (A3 ++ F.drop 0 = A) := ⟨_, rfl⟩
        obtain ⟨A5, HA5⟩ : ∃ A, Hid (A4 ++ oo = A) := ⟨_, rfl⟩
        have HFD : Hid ((F.drop 0).length = L) := by show _ = _; rw [List.length_drop, HFR.out.2]; exact HSD.out.2.2.1
        have HL4 : Hid (A4.length = M + L) := by show _ = _; rw [← HA4.out, List.length_append, HM3.out.1, HFD.out]
        have HA6 : Hid (A5 = bodyTo es (j + 1)) := by
          show _ = _
          rw [bodyTo, HEN.out, HSH.out, ← HA5.out, ← HA4.out, ← HA3.out, ← HA2.out, ← HA1.out]
          unfold packB
          rw [HFR.out.2, HSD.out.2.2.1, HOO.out.2]
          simp
        have HI8 : Hid (RBH w v6.drew es (.slice (some ⟨g6, 0, none⟩) M c6') (.slice (some ⟨g5, 0, none⟩) (n2 + 1) c5) (.slice (some ⟨gf, 0, none⟩) L fc) A3 F j) := HI7.out.drew
        have BX8 := b6.drew
        have HBE : Hid (((M + L ≤ maxLen ∧ (M + L) * 1 ≤ 140737488355328) ∧ (M + L + oln ≤ maxLen ∧ (M + L + oln) * 1 ≤ 140737488355328)) ∧ 0 < L) := by
          have k1 := HM3.out.2; have k2 := HOO.out; have k3 := HSD.out
          unfold maxLen
          exact ⟨⟨⟨by omega, by omega⟩, ⟨by omega, by omega⟩⟩, by omega⟩
        have HSRC : Hid (∀ jx u, (bv (F.drop 0))[jx]? = some u → v6.drew.cell? ((⟨gf, 0, none⟩ : Addr).add jx) = some u) := by
          intro jx u hu
          have h9 := (rd_cells HI8.out.fo).2
          have h8 : (bv F)[0 + jx]? = some u := by rw [← hu]; simp [bv]
          have h7 := h9 _ u h8
          rw [Addr.add_lit] at h7 ⊢
          rw [← h7]
          congr 2
          omega
        clear hM b6 I4 b1 b2 b3 b4 b5
        have hD9 := HSD.out.2.2.1
        go_wp2_with fail
        go_region_held3 (fun w' => w'.cell? ⟨wr.heap.size, 3, none⟩ = some (.slice y1 oln y2))
          (first | with_reducible exact e2.c3 | with_reducible exact e1.c3 | exact BX8.c3)
          (first
            | (have hrow7 : v6.drew.ownsRow w.heap.size 5 1 (.slice (some ⟨g6, 0, none⟩) M c6') M (bv A3) := by have := HI8.out.bo.row; rw [HM3.out.1] at this; exact this
               refine step_append_lies _ rfl (.tmp 85) (.tmp 88) 26 rfl w.heap.size 5 i0 (.int .u8 0) 1 1 Try.underlying26 hi hz0 hz1 hz2 rfl (by decide) (.slice (some ⟨g6, 0, none⟩) M c6') M (bv A3) rfl (by with_reducible exact hrow7) ⟨gf, 0, none⟩ L _ (bv (F.drop 0)) rfl (by rw [bv_length, Nat.mul_one]; exact HFD.out) HSRC.out (bv_one _) HBE.out.2 HBE.out.1.1.1 HBE.out.1.1.2 HI8.out.be.size _ rfl ?_
               intro g8 c8 v8 hown hgrow hat hltx
               have e1 := BX8.grown hgrow (ne_own HNE6.out)
               have I8 := HI8.out.push HA4.out HFD.out HM3.out.1 rfl hown hgrow hat
               have hne8 := ne_step (ne_own HNE6.out) hat BX8.lt
               clear hown hgrow hat hltx hrow7)
            | (have hrow8 : v8.ownsRow w.heap.size 5 1 (.slice (some ⟨g8, 0, none⟩) (M + L) c8) (M + L) (bv A4) := by have := I8.bo.row; rw [HL4.out] at this; exact this
               refine step_append_src rfl (.tmp 89) (.tmp 91) 26 rfl w.heap.size 5 i0 (.int .u8 0) 1 1 Try.underlying26 hi hz0 hz1 hz2 rfl (by decide) g8 (M + L) c8 (bv A4) rfl hrow8 (.slice y1 oln y2) rfl oln (bv oo) (src_rd (HRY.out.below I8.be (Nat.le_refl _)) HOO.out.2) (bv_one _) HBE.out.1.2.1 HBE.out.1.2.2 I8.be.size _ rfl (M + L + oln) rfl ?_
               intro g9 c9 v9 hown hgrow hat
               have e2 := e1.grown hgrow (ne_own (n := 0) (c := 0) hne8)
               have HI9 : Hid (RBI w v9 es (.slice (some ⟨g9, 0, none⟩) (M + L + oln) c9) (.slice (some ⟨g5, 0, none⟩) (n2 + 1) c5) (j + 1)) := (I8.push HA5.out HOO.out.2 HL4.out rfl hown hgrow (hat.imp (fun e => by rw [e]; rfl) id)).own HA6.out
               clear hown hgrow hat hrow8)
            | fail)
        all_goals
          clear hs1 hs2 hs3 hs4 hs5 hD9
          go_wp2_with fail
          go_roundg (gk - 1)
          case measure => exact q1
          case rel => exact ⟨j + 1, _, _, _, _, _, _, q2, by go_num, rfl, rfl, HI9⟩
      · obtain ⟨r4, hr4⟩ : ∃ r4, j % 4 = r4 := ⟨_, rfl⟩
        have h4I : (j : Int).tmod 4 = (r4 : Int) := by rw [Int.tmod_eq_emod_of_nonneg (by omega)]; omega
        have h4J : ¬ (r4 : Int) = 0 := by omega
        have h4K : ((r4 : Int) == 0) = false := by simpa using h4J
        obtain ⟨jp, hjp⟩ : ∃ jp, j - 1 = jp := ⟨_, rfl⟩
        have hjI : (j : Int) - 1 = (jp : Int) := by omega
        have hjpl : jp < es.length := by omega
        have HJP : Hid (ahd es j = frm es jp) := by show _ = _; rw [show j = jp + 1 by omega]; rfl
        obtain ⟨_, _, e, _, _, h3⟩ := HV.out
        rw [HN.out] at e
        cases e
        obtain ⟨b', off', e', xv, yv, d0', d1', d2', d3', rx, ry⟩ := h3 jp hjpl
        cases e'
        have hbl := World.block_lt_of_cell? w _ d0'
        have u0 := (HI2.out.be.cell (p := ⟨b, off + jp * 4, none⟩) hbl).trans d0'
        have u1 := (HI2.out.be.cell (p := ⟨b, off + jp * 4 + 1, none⟩) hbl).trans d1'
        have u2 := (HI2.out.be.cell (p := ⟨b, off + jp * 4 + 2, none⟩) hbl).trans d2'
        clear d0' d1' d2' d3' hbl
        obtain ⟨x3, x4, ex⟩ := rx.len
        subst ex
        have hlim := chkEn_ok (HALL.out _ (List.getElem_mem hjpl))
        have hfrm := frm_at hjpl
        obtain ⟨⟨pl, psq, pk, po⟩, ho⟩ : ∃ o, es[jp] = o := ⟨_, rfl⟩
        rw [ho] at u0 u1 u2 rx hlim hfrm
        simp only at u0 u1 u2 rx hlim
        obtain ⟨kq, hkq⟩ : ∃ kk, pk.toNat = kk := ⟨_, rfl⟩
        obtain ⟨pn, hpn⟩ : ∃ nl, pl.length = nl := ⟨_, rfl⟩
        have hkb := pk.toNat_lt
        have hff : formB (pl, psq, pk, po) = pl ++ tailB psq kq := by unfold formB; rw [← hkq]
        rw [hff] at hfrm
        rw [hkq] at u2 hlim hkb
        rw [hpn] at u0 rx
        have hfo := rform_any w2 _ pl psq kq (rx.below HI2.out.be (Nat.le_refl _)) hlim.2.2.1 hkb (by have := hlim.2.1; omega)
        obtain ⟨G, hG⟩ : ∃ F, pl ++ tailB psq kq = F := ⟨_, rfl⟩
        rw [hG] at hfo hfrm
        obtain ⟨LA, hLA⟩ : ∃ L, G.length = L := ⟨_, rfl⟩
        have hLA72 : LA ≤ 72 := by rw [← hLA, ← hG, List.length_append, tailB_len]; have := hlim.2.1; omega
        have HSHG : Hid (shN es j = comN F G ∧ G.length = LA) := ⟨by unfold shN; rw [if_neg h4, HJP.out, hfrm, HFR.out.1, comN_comm], hLA⟩
        have hjN : (jp : Int) < (N : Int) := by omega
        have hj0 : (0 : Int) ≤ (jp : Int) := by omega
        clear h3 rx ry ho hkq hpn hlim hkb hff hfrm hG hr4
        go_wp2_with fail
        refine hfo.mono ?_
        rintro e w3 ⟨xg, rfl, og, hb3⟩
        obtain ⟨gg, gc, hxg⟩ := og.shape
        rw [hLA] at hxg
        subst hxg
        have hgc : LA ≤ gc ∧ gc ≤ 9223372036854775807 := by
          obtain ⟨g', k', c', e, _, _, h1, h2, _⟩ := og
          simp only [Value.slice.injEq] at e
          obtain ⟨_, _, rfl⟩ := e
          rw [hLA] at h1
          unfold maxLen at h2
          exact ⟨h1, by omega⟩
        have HRG : Hid (Rd w3 (.slice (some ⟨gg, 0, none⟩) LA gc) G) := og.rd
        have BX3 := BX2.below hb3 (Nat.le_refl _)
        have HI3 : Hid (RBI w w3 es (.slice a1 n1 c1) (.slice a2 n2 c2) j) := HI2.out.below hb3
        have HRF3 : Hid (Rd w3 (.slice (some ⟨gf, 0, none⟩) L fc) F) := HRF.out.below hb3 (Nat.le_refl _)
        have hLfc : (L : Int) ≤ (fc : Int) := by have := HFC.out; omega
        have hLgc : (LA : Int) ≤ (gc : Int) := by omega
        clear hfo hb3 og hLA hgc u0 u1 u2 z0 z1 z2 z3 BX2 HI2 HRF
        obtain ⟨GK, hGK⟩ : ∃ G, G = gk := ⟨_, rfl⟩
        subst hGK
        obtain ⟨wo, hwo⟩ : ∃ W, W = wr := ⟨_, rfl⟩
        subst hwo
        go_wp2_with fail
        go_loopg [10] L (fun gk nv wr => ∃ n : Nat, gk + n = L ∧ n ≤ LA ∧ nv = .int .i64 (n : Int) ∧ Hid (∀ i, i < n → F[i]? = G[i]?) ∧ Hid (Below w3.heap.size w3 wr))
        case atStart => exact ⟨0, by omega, by omega, rfl, fun i h => absurd h (Nat.not_lt_zero _), Below.refl _ _⟩
        case round =>
          obtain ⟨n, hn, hnLA, rfl, HS, HW⟩ := hrel
          have HEND : Hid ((n < L → n < LA → F[n]? ≠ G[n]?) → comN F G = n) := fun h => comN_is n F G (by rw [HFR.out.2]; omega) (by rw [HSHG.out.2]; omega) HS.out (by rw [HFR.out.2, HSHG.out.2]; exact h)
          have hltn : n < L := by
            rcases Nat.lt_or_ge n L with h | h
            · exact h
            · have h9 := HEND.out (fun h' => absurd h' (by omega))
              rw [HSHG.out.1, h9] at hsl
              omega
          have hltI : (n : Int) < (L : Int) := by omega
          have hl1 : n < F.length := by rw [HFR.out.2]; exact hltn
          by_cases hlt2' : n < LA
          · have hltI2 : (n : Int) < (LA : Int) := by omega
            have hl2 : n < G.length := by rw [HSHG.out.2]; exact hlt2'
            have hc1 := (rd_cells (HRF3.out.below HW.out (Nat.le_refl _))).2 n _ (bv_get F n hl1)
            have hd1 := (rd_cells (HRG.out.below HW.out (Nat.le_refl _))).2 n _ (bv_get G n hl2)
            rw [Addr.add_lit, Nat.zero_add] at hc1 hd1
            obtain ⟨x, hx⟩ : ∃ x, ((F[n]).toNat : Int) = x := ⟨_, rfl⟩
            obtain ⟨y, hy⟩ : ∃ y, ((G[n]).toNat : Int) = y := ⟨_, rfl⟩
            have HXY : Hid (x = y ↔ F[n] = G[n]) := by show _ ↔ _; rw [← hx, ← hy]; exact byteI
            rw [hx] at hc1
            rw [hy] at hd1
            obtain ⟨r1, r2⟩ := gk_nxt hn hltn
            clear hx hy
            by_cases hxy : x = y
            · subst hxy
              have HS2 : Hid (∀ i, i < n + 1 → F[i]? = G[i]?) := fun i hi => by
                by_cases e : i = n
                · subst e; rw [List.getElem?_eq_getElem hl1, List.getElem?_eq_getElem hl2, HXY.out.1 rfl]
                · exact HS.out i (by omega)
              go_wp2_with fail
              go_quiet (fail)
              go_wp2_with fail
              go_roundg (gk - 1)
              case measure => exact r1
              case rel => exact ⟨n + 1, r2, by omega, by go_num, HS2, below_drewN HW.out _⟩
            · have HCN : Hid (comN F G = n) := HEND.out fun _ _ e => hxy (HXY.out.2 (by rw [List.getElem?_eq_getElem hl1, List.getElem?_eq_getElem hl2] at e; exact Option.some.inj e))
              go_wp2_with fail
              go_quiet (fail)
              obtain ⟨wq, hwq⟩ : ∃ W, wr.drewN nq = W := ⟨_, rfl⟩
              have hbq : Below w3.heap.size w3 wq := by rw [← hwq]; exact below_drewN HW.out nq
              rw [hwq]
              have HSH : Hid (shN es j = n) := by show _ = _; rw [HSHG.out.1, HCN.out]
              have HI5 : Hid (RBH w wq es (.slice a1 n1 c1) (.slice a2 n2 c2) (.slice (some ⟨gf, 0, none⟩) L fc) (bodyTo es j) F j) := (HI3.out.below hbq).stay h4 (HRF3.out.below hbq (Nat.le_refl _)) HNF.out.1
              have BX5 := BX3.below hbq (Nat.le_refl _)
              clear hbq hwq HEND HS HW
              have hs1 : (0 : Int) ≤ (n : Int) := by omega
              have hs2 : (n : Int) ≤ (L : Int) := by omega
              have hs3 : (L : Int) ≤ (fc : Int) := by have := HFC.out; omega
              have hs4 : ¬ fc = n := by have := HFC.out; omega
              have hs5 : ¬ (fc : Int) = (n : Int) := by omega
              obtain ⟨D, hD⟩ : ∃ D, L - n = D := ⟨_, rfl⟩
              have hDI : (L : Int) - (n : Int) = (D : Int) := by omega
              have hD72 : D ≤ 72 := by omega
              have hDp : 0 < D := by omega
              have HSD : Hid (n ≤ 72 ∧ D ≤ 72 ∧ L - n = D ∧ 0 < D) := ⟨by omega, hD72, hD, hDp⟩
              have HI6 : Hid (RBH w wq.drew es (.slice a1 n1 c1) (.slice a2 n2 c2) (.slice (some ⟨gf, 0, none⟩) L fc) (bodyTo es j) F j) := HI5.out.drew
              have BX6 := BX5.drew
              obtain ⟨A1, HA1⟩ : ∃ A, Hid (bodyTo es j ++ Mth.numB n = A) := ⟨_, rfl⟩
              obtain ⟨A2, HA2⟩ : ∃ A, Hid (A1 ++ Mth.numB D = A) := ⟨_, rfl⟩
              obtain ⟨A3, HA3⟩ : ∃ A, Hid (A2 ++ Mth.numB oln = A) := ⟨_, rfl⟩
              obtain ⟨m1, hm1⟩ : ∃ m, (Mth.numB n).length = m := ⟨_, rfl⟩
              obtain ⟨m2, hm2⟩ : ∃ m, (Mth.numB D).length = m := ⟨_, rfl⟩
              obtain ⟨m3, hm3⟩ : ∃ m, (Mth.numB oln).length = m := ⟨_, rfl⟩
              have HM : Hid (((Mth.numB n).length = m1 ∧ (Mth.numB D).length = m2 ∧ (Mth.numB oln).length = m3) ∧ (0 < m1 ∧ m1 ≤ 9) ∧ (0 < m2 ∧ m2 ≤ 9) ∧ (0 < m3 ∧ m3 ≤ 9)) := by
                refine ⟨⟨hm1, hm2, hm3⟩, ?_, ?_, ?_⟩
                · rw [← hm1, Mth.numB_length]; have := Mth.numL_bd n; omega
                · rw [← hm2, Mth.numB_length]; have := Mth.numL_bd D; omega
                · rw [← hm3, Mth.numB_length]; have := Mth.numL_bd oln; omega
              have HLA : Hid (A1.length = n1 + m1 ∧ A2.length = n1 + m1 + m2 ∧ A3.length = n1 + m1 + m2 + m3) := by
                have l1 : A1.length = n1 + m1 := by rw [← HA1.out, List.length_append, HN1.out, hm1]
                have l2 : A2.length = n1 + m1 + m2 := by rw [← HA2.out, List.length_append, l1, hm2]
                have l3 : A3.length = n1 + m1 + m2 + m3 := by rw [← HA3.out, List.length_append, l2, hm3]
                exact ⟨l1, l2, l3⟩
              have HN1B : Hid (n1 ≤ 37760) := hn1
              have HBD : Hid ((n < 18446744073709551616 ∧ D < 18446744073709551616 ∧ oln < 18446744073709551616) ∧ (n1 + m1 ≤ maxLen ∧ (n1 + m1) * 1 ≤ 140737488355328) ∧ (n1 + m1 + m2 ≤ maxLen ∧ (n1 + m1 + m2) * 1 ≤ 140737488355328) ∧ (n1 + m1 + m2 + m3 ≤ maxLen ∧ (n1 + m1 + m2 + m3) * 1 ≤ 140737488355328)) := by
                have k1 := HM.out.2
                have k2 := HOO.out
                have k3 := HSD.out
                unfold maxLen
                refine ⟨⟨by omega, by omega, by omega⟩, ⟨by omega, by omega⟩, ⟨by omega, by omega⟩, ⟨by omega, by omega⟩⟩
              clear hm1 hm2 hm3 hD hsl
              have HWR : Hid (n ≤ 1000000 ∧ D ≤ 1000000 ∧ oln ≤ 1000000) := by have k2 := HOO.out; have k3 := HSD.out; exact ⟨by omega, by omega, by omega⟩
              go_wp2_with fail
              have hu1 := u64_len' n HWR.out.1
              have hu2 := u64_len' D HWR.out.2.1
              obtain ⟨hu4, hu5⟩ := i64_len' D HWR.out.2.1
              have hu3 := u64_len' oln HWR.out.2.2
              go_region_held3 (fun w' => w'.cell? ⟨wo.heap.size, 3, none⟩ = some (.slice y1 oln y2))
                (first | with_reducible exact b6.c3 | with_reducible exact b5.c3 | with_reducible exact b4.c3 | with_reducible exact b3.c3 | with_reducible exact b2.c3 | with_reducible exact b1.c3 | exact BX6.c3)
                (first
                  | (go_at_call_of 39 (Value.int .u64 (n : Int)); refine (refnum_any n wq.drew HBD.out.1.1).mono ?_; rintro e v1 ⟨u1, rfl, p1, q1'⟩
                     obtain ⟨gu1, cu1, hu1'⟩ := p1.shape
                     rw [HM.out.1.1] at hu1'
                     subst hu1'
                     have b1 := BX6.below q1' (Nat.le_refl _)
                     have I1 := HI6.out.below q1')
                  | (have hrow1 : v1.ownsRow w.heap.size 5 1 (.slice a1 n1 c1) n1 (bv (bodyTo es j)) := by have := I1.bo.row; rw [HN1.out] at this; exact this
                     have hmm := HM.out.2
                     refine step_append_lies _ rfl (.tmp 67) (.tmp 70) 26 rfl w.heap.size 5 i0 (.int .u8 0) 1 1 Try.underlying26 hi hz0 hz1 hz2 rfl (by decide) (.slice a1 n1 c1) n1 (bv (bodyTo es j)) rfl hrow1 ⟨gu1, 0, none⟩ m1 cu1 (bv (Mth.numB n)) rfl (by rw [bv_length, Nat.mul_one]; exact HM.out.1.1) (rd_cells p1.rd).2 (bv_one _) hmm.1.1 HBD.out.2.1.1 HBD.out.2.1.2 I1.be.size _ rfl ?_
                     intro g2 c2' v2 hown hgrow hat hltx
                     have b2 := b1.grown hgrow HNE1.out
                     have I2 := I1.push HA1.out HM.out.1.1 HN1.out rfl hown hgrow hat
                     have hne2 := ne_step HNE1.out hat b1.lt
                     clear hown hgrow hat hltx hmm hrow1 p1 I1)
                  | (go_at_call_of 39 (Value.int .u64 (D : Int)); refine (refnum_any D v2 HBD.out.1.2.1).mono ?_; rintro e v3 ⟨u3, rfl, p3, q3'⟩
                     obtain ⟨gu3, cu3, hu3'⟩ := p3.shape
                     rw [HM.out.1.2.1] at hu3'
                     subst hu3'
                     have b3 := b2.below q3' (Nat.le_refl _)
                     have I3 := I2.below q3')
                  | (have hrow3 : v3.ownsRow w.heap.size 5 1 (.slice (some ⟨g2, 0, none⟩) (n1 + m1) c2') (n1 + m1) (bv A1) := by have := I3.bo.row; rw [HLA.out.1] at this; exact this
                     have hmm := HM.out.2
                     refine step_append_lies _ rfl (.tmp 71) (.tmp 77) 26 rfl w.heap.size 5 i0 (.int .u8 0) 1 1 Try.underlying26 hi hz0 hz1 hz2 rfl (by decide) (.slice (some ⟨g2, 0, none⟩) (n1 + m1) c2') (n1 + m1) (bv A1) rfl hrow3 ⟨gu3, 0, none⟩ m2 cu3 (bv (Mth.numB D)) rfl (by rw [bv_length, Nat.mul_one]; exact HM.out.1.2.1) (rd_cells p3.rd).2 (bv_one _) hmm.2.1.1 HBD.out.2.2.1.1 HBD.out.2.2.1.2 I3.be.size _ rfl ?_
                     intro g4 c4' v4 hown hgrow hat hltx
                     have b4 := b3.grown hgrow (ne_own hne2)
                     have I4 := I3.push HA2.out HM.out.1.2.1 HLA.out.1 rfl hown hgrow hat
                     have hne4 := ne_step (ne_own hne2) hat b3.lt
                     clear hown hgrow hat hltx hmm hrow3 p3 I3)
                  | (go_at_call_of 39 (Value.int .u64 (oln : Int)); refine (refnum_any oln v4 HBD.out.1.2.2).mono ?_; rintro e v5 ⟨u5, rfl, p5, q5'⟩
                     obtain ⟨gu5, cu5, hu5'⟩ := p5.shape
                     rw [HM.out.1.2.2] at hu5'
                     subst hu5'
                     have b5 := b4.below q5' (Nat.le_refl _)
                     have I5 := I4.below q5')
                  | (have hrow5 : v5.ownsRow w.heap.size 5 1 (.slice (some ⟨g4, 0, none⟩) (n1 + m1 + m2) c4') (n1 + m1 + m2) (bv A2) := by have := I5.bo.row; rw [HLA.out.2.1] at this; exact this
                     have hmm := HM.out.2
                     refine step_append_lies _ rfl (.tmp 78) (.tmp 83) 26 rfl w.heap.size 5 i0 (.int .u8 0) 1 1 Try.underlying26 hi hz0 hz1 hz2 rfl (by decide) (.slice (some ⟨g4, 0, none⟩) (n1 + m1 + m2) c4') (n1 + m1 + m2) (bv A2) rfl hrow5 ⟨gu5, 0, none⟩ m3 cu5 (bv (Mth.numB oln)) rfl (by rw [bv_length, Nat.mul_one]; exact HM.out.1.2.2) (rd_cells p5.rd).2 (bv_one _) hmm.2.2.1 HBD.out.2.2.2.1 HBD.out.2.2.2.2 I5.be.size _ rfl ?_
                     intro g6 c6' v6 hown hgrow hat hltx
                     have b6 := b5.grown hgrow (ne_own hne4)
                     have HI7 : Hid (RBH w v6 es (.slice (some ⟨g6, 0, none⟩) (n1 + m1 + m2 + m3) c6') (.slice a2 n2 c2) (.slice (some ⟨gf, 0, none⟩) L fc) A3 F j) := I5.push HA3.out HM.out.1.2.2 HLA.out.2.1 rfl hown hgrow hat
                     have HNE6 : Hid (wo.heap.size ≠ g6) := ne_step (ne_own hne4) hat b5.lt
                     clear hown hgrow hat hltx hmm hrow5 p5 I5)
                  | fail)
              clear hu1 hu2 hu3 hu4 hu5
              obtain ⟨M, hM⟩ : ∃ M, n1 + m1 + m2 + m3 = M := ⟨_, rfl⟩
              have HM3 : Hid (A3.length = M ∧ M ≤ 38000) := by have k1 := HM.out.2; have k2 := HN1B.out; exact ⟨by rw [HLA.out.2.2, hM], by omega⟩
              rw [hM] at HI7 ⊢
              obtain ⟨A4, HA4⟩ : ∃ A, Hid (A3 ++ F.drop n = A) := ⟨_, rfl⟩
              obtain ⟨A5, HA5⟩ : ∃ A, Hid (A4 ++ oo = A) := ⟨_, rfl⟩
              have HFD : Hid ((F.drop n).length = D) := by show _ = _; rw [List.length_drop, HFR.out.2]; exact HSD.out.2.2.1
              have HL4 : Hid (A4.length = M + D) := by show _ = _; rw [← HA4.out, List.length_append, HM3.out.1, HFD.out]
              have HA6 : Hid (A5 = bodyTo es (j + 1)) := by
                show _ = _
                rw [bodyTo, HEN.out, HSH.out, ← HA5.out, ← HA4.out, ← HA3.out, ← HA2.out, ← HA1.out]
                unfold packB
                rw [HFR.out.2, HSD.out.2.2.1, HOO.out.2]
                simp
              have HI8 : Hid (RBH w v6.drew es (.slice (some ⟨g6, 0, none⟩) M c6') (.slice a2 n2 c2) (.slice (some ⟨gf, 0, none⟩) L fc) A3 F j) := HI7.out.drew
              have BX8 := b6.drew
              have HBE : Hid (((M + D ≤ maxLen ∧ (M + D) * 1 ≤ 140737488355328) ∧ (M + D + oln ≤ maxLen ∧ (M + D + oln) * 1 ≤ 140737488355328)) ∧ 0 < D) := by
                have k1 := HM3.out.2; have k2 := HOO.out; have k3 := HSD.out
                unfold maxLen
                exact ⟨⟨⟨by omega, by omega⟩, ⟨by omega, by omega⟩⟩, by omega⟩
              have HSRC : Hid (∀ jx u, (bv (F.drop n))[jx]? = some u → v6.drew.cell? ((⟨gf, n, none⟩ : Addr).add jx) = some u) := by
                intro jx u hu
                have h9 := (rd_cells HI8.out.fo).2
                have h8 : (bv F)[n + jx]? = some u := by rw [← hu]; simp [bv]
                have h7 := h9 _ u h8
                rw [Addr.add_lit] at h7 ⊢
                rw [← h7]
                congr 2
                omega
              clear hM b6 I4 b1 b2 b3 b4 b5
              have hD9 := HSD.out.2.2.1
              go_wp2_with fail
              go_region_held3 (fun w' => w'.cell? ⟨wo.heap.size, 3, none⟩ = some (.slice y1 oln y2))
                (first | with_reducible exact e2.c3 | with_reducible exact e1.c3 | exact BX8.c3)
                (first
                  | (have hrow7 : v6.drew.ownsRow w.heap.size 5 1 (.slice (some ⟨g6, 0, none⟩) M c6') M (bv A3) := by have := HI8.out.bo.row; rw [HM3.out.1] at this; exact this
                     refine step_append_lies _ rfl (.tmp 85) (.tmp 88) 26 rfl w.heap.size 5 i0 (.int .u8 0) 1 1 Try.underlying26 hi hz0 hz1 hz2 rfl (by decide) (.slice (some ⟨g6, 0, none⟩) M c6') M (bv A3) rfl (by with_reducible exact hrow7) ⟨gf, n, none⟩ D _ (bv (F.drop n)) rfl (by rw [bv_length, Nat.mul_one]; exact HFD.out) HSRC.out (bv_one _) HBE.out.2 HBE.out.1.1.1 HBE.out.1.1.2 HI8.out.be.size _ rfl ?_
                     intro g8 c8 v8 hown hgrow hat hltx
                     have e1 := BX8.grown hgrow (ne_own HNE6.out)
                     have I8 := HI8.out.push HA4.out HFD.out HM3.out.1 rfl hown hgrow hat
                     have hne8 := ne_step (ne_own HNE6.out) hat BX8.lt
                     clear hown hgrow hat hltx hrow7)
                  | (have hrow8 : v8.ownsRow w.heap.size 5 1 (.slice (some ⟨g8, 0, none⟩) (M + D) c8) (M + D) (bv A4) := by have := I8.bo.row; rw [HL4.out] at this; exact this
                     refine step_append_src rfl (.tmp 89) (.tmp 91) 26 rfl w.heap.size 5 i0 (.int .u8 0) 1 1 Try.underlying26 hi hz0 hz1 hz2 rfl (by decide) g8 (M + D) c8 (bv A4) rfl hrow8 (.slice y1 oln y2) rfl oln (bv oo) (src_rd (HRY.out.below I8.be (Nat.le_refl _)) HOO.out.2) (bv_one _) HBE.out.1.2.1 HBE.out.1.2.2 I8.be.size _ rfl (M + D + oln) rfl ?_
                     intro g9 c9 v9 hown hgrow hat
                     have e2 := e1.grown hgrow (ne_own (n := 0) (c := 0) hne8)
                     have HI9 : Hid (RBI w v9 es (.slice (some ⟨g9, 0, none⟩) (M + D + oln) c9) (.slice a2 n2 c2) (j + 1)) := (I8.push HA5.out HOO.out.2 HL4.out rfl hown hgrow (hat.imp (fun e => by rw [e]; rfl) id)).own HA6.out
                     clear hown hgrow hat hrow8)
                  | fail)
              all_goals
                clear hs1 hs2 hs3 hs4 hs5 hD9
                go_wp2_with fail
                go_roundg (GK - 1)
                case measure => exact q1
                case rel => exact ⟨j + 1, _, _, _, _, _, _, q2, by go_num, rfl, rfl, HI9⟩
          · have hltI2 : ¬ (n : Int) < (LA : Int) := by omega
            have hlb2 : decide ((n : Int) < (LA : Int)) = false := decide_eq_false hltI2
            have HCN : Hid (comN F G = n) := HEND.out fun _ h => absurd h hlt2'
            go_wp2_with fail
            go_quiet (fail)
            obtain ⟨wq, hwq⟩ : ∃ W, wr.drewN nq = W := ⟨_, rfl⟩
            have hbq : Below w3.heap.size w3 wq := by rw [← hwq]; exact below_drewN HW.out nq
            rw [hwq]
            have HSH : Hid (shN es j = n) := by show _ = _; rw [HSHG.out.1, HCN.out]
            have HI5 : Hid (RBH w wq es (.slice a1 n1 c1) (.slice a2 n2 c2) (.slice (some ⟨gf, 0, none⟩) L fc) (bodyTo es j) F j) := (HI3.out.below hbq).stay h4 (HRF3.out.below hbq (Nat.le_refl _)) HNF.out.1
            have BX5 := BX3.below hbq (Nat.le_refl _)
            clear hbq hwq HEND HS HW
            have hs1 : (0 : Int) ≤ (n : Int) := by omega
            have hs2 : (n : Int) ≤ (L : Int) := by omega
            have hs3 : (L : Int) ≤ (fc : Int) := by have := HFC.out; omega
            have hs4 : ¬ fc = n := by have := HFC.out; omega
            have hs5 : ¬ (fc : Int) = (n : Int) := by omega
            obtain ⟨D, hD⟩ : ∃ D, L - n = D := ⟨_, rfl⟩
            have hDI : (L : Int) - (n : Int) = (D : Int) := by omega
            have hD72 : D ≤ 72 := by omega
            have hDp : 0 < D := by omega
            have HSD : Hid (n ≤ 72 ∧ D ≤ 72 ∧ L - n = D ∧ 0 < D) := ⟨by omega, hD72, hD, hDp⟩
            have HI6 : Hid (RBH w wq.drew es (.slice a1 n1 c1) (.slice a2 n2 c2) (.slice (some ⟨gf, 0, none⟩) L fc) (bodyTo es j) F j) := HI5.out.drew
            have BX6 := BX5.drew
            obtain ⟨A1, HA1⟩ : ∃ A, Hid (bodyTo es j ++ Mth.numB n = A) := ⟨_, rfl⟩
            obtain ⟨A2, HA2⟩ : ∃ A, Hid (A1 ++ Mth.numB D = A) := ⟨_, rfl⟩
            obtain ⟨A3, HA3⟩ : ∃ A, Hid (A2 ++ Mth.numB oln = A) := ⟨_, rfl⟩
            obtain ⟨m1, hm1⟩ : ∃ m, (Mth.numB n).length = m := ⟨_, rfl⟩
            obtain ⟨m2, hm2⟩ : ∃ m, (Mth.numB D).length = m := ⟨_, rfl⟩
            obtain ⟨m3, hm3⟩ : ∃ m, (Mth.numB oln).length = m := ⟨_, rfl⟩
            have HM : Hid (((Mth.numB n).length = m1 ∧ (Mth.numB D).length = m2 ∧ (Mth.numB oln).length = m3) ∧ (0 < m1 ∧ m1 ≤ 9) ∧ (0 < m2 ∧ m2 ≤ 9) ∧ (0 < m3 ∧ m3 ≤ 9)) := by
              refine ⟨⟨hm1, hm2, hm3⟩, ?_, ?_, ?_⟩
              · rw [← hm1, Mth.numB_length]; have := Mth.numL_bd n; omega
              · rw [← hm2, Mth.numB_length]; have := Mth.numL_bd D; omega
              · rw [← hm3, Mth.numB_length]; have := Mth.numL_bd oln; omega
            have HLA : Hid (A1.length = n1 + m1 ∧ A2.length = n1 + m1 + m2 ∧ A3.length = n1 + m1 + m2 + m3) := by
              have l1 : A1.length = n1 + m1 := by rw [← HA1.out, List.length_append, HN1.out, hm1]
              have l2 : A2.length = n1 + m1 + m2 := by rw [← HA2.out, List.length_append, l1, hm2]
              have l3 : A3.length = n1 + m1 + m2 + m3 := by rw [← HA3.out, List.length_append, l2, hm3]
              exact ⟨l1, l2, l3⟩
            have HN1B : Hid (n1 ≤ 37760) := hn1
            have HBD : Hid ((n < 18446744073709551616 ∧ D < 18446744073709551616 ∧ oln < 18446744073709551616) ∧ (n1 + m1 ≤ maxLen ∧ (n1 + m1) * 1 ≤ 140737488355328) ∧ (n1 + m1 + m2 ≤ maxLen ∧ (n1 + m1 + m2) * 1 ≤ 140737488355328) ∧ (n1 + m1 + m2 + m3 ≤ maxLen ∧ (n1 + m1 + m2 + m3) * 1 ≤ 140737488355328)) := by
              have k1 := HM.out.2
              have k2 := HOO.out
              have k3 := HSD.out
              unfold maxLen
              refine ⟨⟨by omega, by omega, by omega⟩, ⟨by omega, by omega⟩, ⟨by omega, by omega⟩, ⟨by omega, by omega⟩⟩
            clear hm1 hm2 hm3 hD hsl
            have HWR : Hid (n ≤ 1000000 ∧ D ≤ 1000000 ∧ oln ≤ 1000000) := by have k2 := HOO.out; have k3 := HSD.out; exact ⟨by omega, by omega, by omega⟩
            go_wp2_with fail
            have hu1 := u64_len' n HWR.out.1
            have hu2 := u64_len' D HWR.out.2.1
            obtain ⟨hu4, hu5⟩ := i64_len' D HWR.out.2.1
            have hu3 := u64_len' oln HWR.out.2.2
            go_region_held3 (fun w' => w'.cell? ⟨wo.heap.size, 3, none⟩ = some (.slice y1 oln y2))
              (first | with_reducible exact b6.c3 | with_reducible exact b5.c3 | with_reducible exact b4.c3 | with_reducible exact b3.c3 | with_reducible exact b2.c3 | with_reducible exact b1.c3 | exact BX6.c3)
              (first
                | (go_at_call_of 39 (Value.int .u64 (n : Int)); refine (refnum_any n wq.drew HBD.out.1.1).mono ?_; rintro e v1 ⟨u1, rfl, p1, q1'⟩
                   obtain ⟨gu1, cu1, hu1'⟩ := p1.shape
                   rw [HM.out.1.1] at hu1'
                   subst hu1'
                   have b1 := BX6.below q1' (Nat.le_refl _)
                   have I1 := HI6.out.below q1')
                | (have hrow1 : v1.ownsRow w.heap.size 5 1 (.slice a1 n1 c1) n1 (bv (bodyTo es j)) := by have := I1.bo.row; rw [HN1.out] at this; exact this
                   have hmm := HM.out.2
                   refine step_append_lies _ rfl (.tmp 67) (.tmp 70) 26 rfl w.heap.size 5 i0 (.int .u8 0) 1 1 Try.underlying26 hi hz0 hz1 hz2 rfl (by decide) (.slice a1 n1 c1) n1 (bv (bodyTo es j)) rfl hrow1 ⟨gu1, 0, none⟩ m1 cu1 (bv (Mth.numB n)) rfl (by rw [bv_length, Nat.mul_one]; exact HM.out.1.1) (rd_cells p1.rd).2 (bv_one _) hmm.1.1 HBD.out.2.1.1 HBD.out.2.1.2 I1.be.size _ rfl ?_
                   intro g2 c2' v2 hown hgrow hat hltx
                   have b2 := b1.grown hgrow HNE1.out
                   have I2 := I1.push HA1.out HM.out.1.1 HN1.out rfl hown hgrow hat
                   have hne2 := ne_step HNE1.out hat b1.lt
                   clear hown hgrow hat hltx hmm hrow1 p1 I1)
                | (go_at_call_of 39 (Value.int .u64 (D : Int)); refine (refnum_any D v2 HBD.out.1.2.1).mono ?_; rintro e v3 ⟨u3, rfl, p3, q3'⟩
                   obtain ⟨gu3, cu3, hu3'⟩ := p3.shape
                   rw [HM.out.1.2.1] at hu3'
                   subst hu3'
                   have b3 := b2.below q3' (Nat.le_refl _)
                   have I3 := I2.below q3')
                | (have hrow3 : v3.ownsRow w.heap.size 5 1 (.slice (some ⟨g2, 0, none⟩) (n1 + m1) c2') (n1 + m1) (bv A1) := by have := I3.bo.row; rw [HLA.out.1] at this; exact this
                   have hmm := HM.out.2
                   refine step_append_lies _ rfl (.tmp 71) (.tmp 77) 26 rfl w.heap.size 5 i0 (.int .u8 0) 1 1 Try.underlying26 hi hz0 hz1 hz2 rfl (by decide) (.slice (some ⟨g2, 0, none⟩) (n1 + m1) c2') (n1 + m1) (bv A1) rfl hrow3 ⟨gu3, 0, none⟩ m2 cu3 (bv (Mth.numB D)) rfl (by rw [bv_length, Nat.mul_one]; exact HM.out.1.2.1) (rd_cells p3.rd).2 (bv_one _) hmm.2.1.1 HBD.out.2.2.1.1 HBD.out.2.2.1.2 I3.be.size _ rfl ?_
                   intro g4 c4' v4 hown hgrow hat hltx
                   have b4 := b3.grown hgrow (ne_own hne2)
                   have I4 := I3.push HA2.out HM.out.1.2.1 HLA.out.1 rfl hown hgrow hat
                   have hne4 := ne_step (ne_own hne2) hat b3.lt
                   clear hown hgrow hat hltx hmm hrow3 p3 I3)
                | (go_at_call_of 39 (Value.int .u64 (oln : Int)); refine (refnum_any oln v4 HBD.out.1.2.2).mono ?_; rintro e v5 ⟨u5, rfl, p5, q5'⟩
                   obtain ⟨gu5, cu5, hu5'⟩ := p5.shape
                   rw [HM.out.1.2.2] at hu5'
                   subst hu5'
                   have b5 := b4.below q5' (Nat.le_refl _)
                   have I5 := I4.below q5')
                | (have hrow5 : v5.ownsRow w.heap.size 5 1 (.slice (some ⟨g4, 0, none⟩) (n1 + m1 + m2) c4') (n1 + m1 + m2) (bv A2) := by have := I5.bo.row; rw [HLA.out.2.1] at this; exact this
                   have hmm := HM.out.2
                   refine step_append_lies _ rfl (.tmp 78) (.tmp 83) 26 rfl w.heap.size 5 i0 (.int .u8 0) 1 1 Try.underlying26 hi hz0 hz1 hz2 rfl (by decide) (.slice (some ⟨g4, 0, none⟩) (n1 + m1 + m2) c4') (n1 + m1 + m2) (bv A2) rfl hrow5 ⟨gu5, 0, none⟩ m3 cu5 (bv (Mth.numB oln)) rfl (by rw [bv_length, Nat.mul_one]; exact HM.out.1.2.2) (rd_cells p5.rd).2 (bv_one _) hmm.2.2.1 HBD.out.2.2.2.1 HBD.out.2.2.2.2 I5.be.size _ rfl ?_
                   intro g6 c6' v6 hown hgrow hat hltx
                   have b6 := b5.grown hgrow (ne_own hne4)
                   have HI7 : Hid (RBH w v6 es (.slice (some ⟨g6, 0, none⟩) (n1 + m1 + m2 + m3) c6') (.slice a2 n2 c2) (.slice (some ⟨gf, 0, none⟩) L fc) A3 F j) := I5.push HA3.out HM.out.1.2.2 HLA.out.2.1 rfl hown hgrow hat
                   have HNE6 : Hid (wo.heap.size ≠ g6) := ne_step (ne_own hne4) hat b5.lt
                   clear hown hgrow hat hltx hmm hrow5 p5 I5)
                | fail)
            clear hu1 hu2 hu3 hu4 hu5
            obtain ⟨M, hM⟩ : ∃ M, n1 + m1 + m2 + m3 = M := ⟨_, rfl⟩
            have HM3 : Hid (A3.length = M ∧ M ≤ 38000) := by have k1 := HM.out.2; have k2 := HN1B.out; exact ⟨by rw [HLA.out.2.2, hM], by omega⟩
            rw [hM] at HI7 ⊢
            obtain ⟨A4, HA4⟩ : ∃ A, Hid (A3 ++ F.drop n = A) := ⟨_, rfl⟩
            obtain ⟨A5, HA5⟩ : ∃ A, Hid (A4 ++ oo = A) := ⟨_, rfl⟩
            have HFD : Hid ((F.drop n).length = D) := by show _ = _; rw [List.length_drop, HFR.out.2]; exact HSD.out.2.2.1
            have HL4 : Hid (A4.length = M + D) := by show _ = _; rw [← HA4.out, List.length_append, HM3.out.1, HFD.out]
            have HA6 : Hid (A5 = bodyTo es (j + 1)) := by
              show _ = _
              rw [bodyTo, HEN.out, HSH.out, ← HA5.out, ← HA4.out, ← HA3.out, ← HA2.out, ← HA1.out]
              unfold packB
              rw [HFR.out.2, HSD.out.2.2.1, HOO.out.2]
              simp
            have HI8 : Hid (RBH w v6.drew es (.slice (some ⟨g6, 0, none⟩) M c6') (.slice a2 n2 c2) (.slice (some ⟨gf, 0, none⟩) L fc) A3 F j) := HI7.out.drew
            have BX8 := b6.drew
            have HBE : Hid (((M + D ≤ maxLen ∧ (M + D) * 1 ≤ 140737488355328) ∧ (M + D + oln ≤ maxLen ∧ (M + D + oln) * 1 ≤ 140737488355328)) ∧ 0 < D) := by
              have k1 := HM3.out.2; have k2 := HOO.out; have k3 := HSD.out
              unfold maxLen
              exact ⟨⟨⟨by omega, by omega⟩, ⟨by omega, by omega⟩⟩, by omega⟩
            have HSRC : Hid (∀ jx u, (bv (F.drop n))[jx]? = some u → v6.drew.cell? ((⟨gf, n, none⟩ : Addr).add jx) = some u) := by
              intro jx u hu
              have h9 := (rd_cells HI8.out.fo).2
              have h8 : (bv F)[n + jx]? = some u := by rw [← hu]; simp [bv]
              have h7 := h9 _ u h8
              rw [Addr.add_lit] at h7 ⊢
              rw [← h7]
              congr 2
              omega
            clear hM b6 I4 b1 b2 b3 b4 b5
            have hD9 := HSD.out.2.2.1
            go_wp2_with fail
            go_region_held3 (fun w' => w'.cell? ⟨wo.heap.size, 3, none⟩ = some (.slice y1 oln y2))
              (first | with_reducible exact e2.c3 | with_reducible exact e1.c3 | exact BX8.c3)
              (first
                | (have hrow7 : v6.drew.ownsRow w.heap.size 5 1 (.slice (some ⟨g6, 0, none⟩) M c6') M (bv A3) := by have := HI8.out.bo.row; rw [HM3.out.1] at this; exact this
                   refine step_append_lies _ rfl (.tmp 85) (.tmp 88) 26 rfl w.heap.size 5 i0 (.int .u8 0) 1 1 Try.underlying26 hi hz0 hz1 hz2 rfl (by decide) (.slice (some ⟨g6, 0, none⟩) M c6') M (bv A3) rfl (by with_reducible exact hrow7) ⟨gf, n, none⟩ D _ (bv (F.drop n)) rfl (by rw [bv_length, Nat.mul_one]; exact HFD.out) HSRC.out (bv_one _) HBE.out.2 HBE.out.1.1.1 HBE.out.1.1.2 HI8.out.be.size _ rfl ?_
                   intro g8 c8 v8 hown hgrow hat hltx
                   have e1 := BX8.grown hgrow (ne_own HNE6.out)
                   have I8 := HI8.out.push HA4.out HFD.out HM3.out.1 rfl hown hgrow hat
                   have hne8 := ne_step (ne_own HNE6.out) hat BX8.lt
                   clear hown hgrow hat hltx hrow7)
                | (have hrow8 : v8.ownsRow w.heap.size 5 1 (.slice (some ⟨g8, 0, none⟩) (M + D) c8) (M + D) (bv A4) := by have := I8.bo.row; rw [HL4.out] at this; exact this
                   refine step_append_src rfl (.tmp 89) (.tmp 91) 26 rfl w.heap.size 5 i0 (.int .u8 0) 1 1 Try.underlying26 hi hz0 hz1 hz2 rfl (by decide) g8 (M + D) c8 (bv A4) rfl hrow8 (.slice y1 oln y2) rfl oln (bv oo) (src_rd (HRY.out.below I8.be (Nat.le_refl _)) HOO.out.2) (bv_one _) HBE.out.1.2.1 HBE.out.1.2.2 I8.be.size _ rfl (M + D + oln) rfl ?_
                   intro g9 c9 v9 hown hgrow hat
                   have e2 := e1.grown hgrow (ne_own (n := 0) (c := 0) hne8)
                   have HI9 : Hid (RBI w v9 es (.slice (some ⟨g9, 0, none⟩) (M + D + oln) c9) (.slice a2 n2 c2) (j + 1)) := (I8.push HA5.out HOO.out.2 HL4.out rfl hown hgrow (hat.imp (fun e => by rw [e]; rfl) id)).own HA6.out
                   clear hown hgrow hat hrow8)
                | fail)
            all_goals
              clear hs1 hs2 hs3 hs4 hs5 hD9
              go_wp2_with fail
              go_roundg (GK - 1)
              case measure => exact q1
              case rel => exact ⟨j + 1, _, _, _, _, _, _, q2, by go_num, rfl, rfl, HI9⟩
    · have hjN : j = es.length := by rw [HN.out]; omega
      have hltI : ¬ (j : Int) < (N : Int) := by omega
      have hn1 : n1 ≤ 37760 := by rw [← HN1.out]; exact bodyTo_most HALL.out j (by omega)
      have hcl := startsTo_len es j
      have hn2 : n2 ≤ 16 := by rw [← HN2.out]; omega
      have hba := below_box4 wr (.cells #[.int .i64 (n2 : Int)] 3)
      have hIa := HI.out.below hba
      have hrow : (wr.alloc (.cells #[.int .i64 (n2 : Int)] 3)).ownsRow w.heap.size 3 1 (.slice a2 n2 c2) n2 (iv3 (startsTo es j)) := by have := hIa.so; unfold OwnI at this; rw [HN2.out] at this; exact this
      have hlit : ∀ j u, [Value.int .i64 (n2 : Int)][j]? = some u → (wr.alloc (.cells #[.int .i64 (n2 : Int)] 3)).cell? ((⟨wr.heap.size, 0, none⟩ : Addr).add j) = some u := by
        intro j u hu
        match j, hu with
        | 0, hu => simp at hu; subst hu; simp [Addr.add]
        | (j + 1), hu => simp at hu
      have hse := hIa.be.size
      obtain ⟨PL, hPL⟩ : ∃ P, startsTo es j ++ [n2] = P := ⟨_, rfl⟩
      have HPL : Hid (PL.length = n2 + 1 ∧ (∀ s ∈ PL, s < 65536) ∧ leafB es = bodyTo es j ++ wordsB PL) := by
        refine ⟨by rw [← hPL, List.length_append, HN2.out]; rfl, ?_, ?_⟩
        · intro s hs
          rw [← hPL] at hs
          rcases List.mem_append.1 hs with h | h
          · exact startsTo_small HALL.out j (by omega) s h
          · simp at h; omega
        · unfold leafB
          rw [← hjN, HN2.out, ← hPL, wordsB_snoc]
      have HIA : Hid (RBI w (wr.alloc (.cells #[.int .i64 (n2 : Int)] 3)) es (.slice a1 n1 c1) (.slice a2 n2 c2) j) := hIa
      have HPQ : Hid (iv3 (startsTo es j) ++ [.int .i64 (n2 : Int)] = iv3 PL) := by show _ = _; rw [← hPL]; unfold iv3; rw [List.map_append]; rfl
      clear hba hIa hcl hPL hjN HI
      obtain ⟨jj, hjj⟩ : ∃ k, k = j := ⟨_, rfl⟩
      subst hjj
      go_wp2_with (first | (at_builtin; refine wpList_append_lies _ rfl (.tmp 94) (.tmp 97) 66 rfl w.heap.size 3 i3 (.int .i64 0) 1 8 Try.underlying66 hi3 hy0 hy1 hy2 rfl (by decide) (.slice a2 n2 c2) n2 (iv3 (startsTo es jj)) rfl hrow ⟨wr.heap.size, 0, none⟩ 1 1 [.int .i64 (n2 : Int)] rfl rfl hlit (by simp [Value.oneCell']) (by decide) (by unfold maxLen; omega) (by omega) hse _ rfl ?_; intro g5 c5 w5 hown hgrow hat hlt5; rw [HPQ.out] at hown; have HI5 : Hid (w5.ownsRow w.heap.size 3 1 (.slice (some ⟨g5, 0, none⟩) (n2 + 1) c5) (n2 + 1) (iv3 PL) ∧ OwnN w.heap.size w5 (.slice a1 n1 c1) (bodyTo es jj) ∧ Below w.heap.size w w5) := ⟨hown, ownN_kept HIA.out.bo (by decide) hrow hgrow, HIA.out.be.grown hgrow HIA.out.be.size (fun k e => (hrow.lt k e).1)⟩; clear hown hgrow hat hlt5) | fail)
      clear hrow hlit hse
      have hn2I : (n2 : Int) ≤ 16 := by omega
      have hc5 : (n2 : Int) + 1 ≤ (c5 : Int) := by
        rcases HI5.out.1.2 with ⟨e, _⟩ | ⟨g, cap', cur, e, _, _, h1, _⟩
        · simp at e
        · simp only [Value.slice.injEq] at e
          omega
      go_wp2_with fail
      go_loopg [5, 100] (n2 + 1) (fun gk ov iv wr => ∃ (i n3 c3 : Nat) (a3 : Option Addr), gk + i = n2 + 1 ∧ iv = .int .i64 (i : Int) ∧ ov = .slice a3 n3 c3 ∧ Hid (n3 = n1 + 2 * i) ∧ Hid (OwnN w.heap.size wr ov (bodyTo es jj ++ wordsB (PL.take i)) ∧ wr.ownsRow w.heap.size 3 1 (.slice (some ⟨g5, 0, none⟩) (n2 + 1) c5) (n2 + 1) (iv3 PL) ∧ Below w.heap.size w wr))
      case atStart => exact ⟨0, n1, c1, a1, by omega, rfl, rfl, by show _ = _; omega, ⟨by rw [List.take_zero, show wordsB [] = [] from rfl, List.append_nil]; exact HI5.out.2.1, HI5.out.1, HI5.out.2.2⟩⟩
      case round =>
        obtain ⟨i, n3, c3, a3, hi9, rfl, rfl, HN30, HR⟩ := hrel
        by_cases hli : i < n2 + 1
        · have hli2 : i < PL.length := by rw [HPL.out.1]; exact hli
          have hcell := HR.out.2.1.cells (g := g5) rfl i (.int .i64 ((PL[i]) : Int)) (by unfold iv3; rw [List.getElem?_map, List.getElem?_eq_getElem hli2]; rfl)
          rw [Addr.add_lit, Nat.zero_add] at hcell
          have hsb := HPL.out.2.1 _ (List.getElem_mem hli2)
          obtain ⟨s, hs⟩ : ∃ s, PL[i] = s := ⟨_, rfl⟩
          rw [hs] at hcell hsb
          have HTK : Hid (bodyTo es jj ++ wordsB (PL.take (i + 1)) = (bodyTo es jj ++ wordsB (PL.take i)) ++ wordB s) := by show _ = _; rw [List.take_succ_eq_append_getElem hli2, hs, wordsB_snoc, List.append_assoc]
          obtain ⟨r, hr⟩ : ∃ r, s % 256 = r := ⟨_, rfl⟩
          obtain ⟨q, hq⟩ : ∃ q, s / 256 = q := ⟨_, rfl⟩
          have hr2 : r < 256 := by omega
          have hq2 : q < 256 := by omega
          have hm1 : (s : Int).tmod 256 = (r : Int) := by rw [Int.tmod_eq_emod_of_nonneg (by omega)]; omega
          have hd1 : (s : Int).tdiv 256 = (q : Int) := by rw [Int.tdiv_eq_ediv_of_nonneg (by omega)]; omega
          have hw1 : IntKind.u8.wrap (r : Int) = (r : Int) := by rw [IntKind.wrap_u8]; omega
          have hw2 : IntKind.u8.wrap (q : Int) = (q : Int) := by rw [IntKind.wrap_u8]; omega
          have hol : Own wr.heap.size (wr.alloc (.cells #[.int .u8 (r : Int), .int .u8 (q : Int)] 5)) (.slice (some ⟨wr.heap.size, 0, none⟩) 2 2) (wordB s) := by
            have := own_lit wr wr.heap.size (Nat.le_refl _) [UInt8.ofNat r, UInt8.ofNat q] (by simp [maxLen]) #[.int .u8 (r : Int), .int .u8 (q : Int)] (by simp [bv]; omega)
            unfold wordB
            rw [hr, hq]
            exact this
          obtain ⟨PB, hPB⟩ : ∃ P, bodyTo es jj ++ wordsB (PL.take i) = P := ⟨_, rfl⟩
          have hba := below_box4 wr (.cells #[.int .u8 (r : Int), .int .u8 (q : Int)] 5)
          have hR1 := HR.out.1
          rw [hPB] at hR1 HTK
          have hPl : PB.length = n3 := ownN_len hR1
          have hRa := hR1.below hba (Nat.le_refl _)
          have hrow : (wr.alloc (.cells #[.int .u8 (r : Int), .int .u8 (q : Int)] 5)).ownsRow w.heap.size 5 1 (.slice a3 n3 c3) n3 (bv PB) := by have := hRa.row; rw [hPl] at this; exact this
          have hlit := (rd_cells hol.rd).2
          have HIN : Hid ((wr.alloc (.cells #[.int .u8 (r : Int), .int .u8 (q : Int)] 5)).ownsRow w.heap.size 3 1 (.slice (some ⟨g5, 0, none⟩) (n2 + 1) c5) (n2 + 1) (iv3 PL)) := row_below HR.out.2.1 hba
          have HBA : Hid (Below w.heap.size w (wr.alloc (.cells #[.int .u8 (r : Int), .int .u8 (q : Int)] 5))) := bsplit HR.out.2.2 hba
          have hse := HBA.out.size
          obtain ⟨r1, r2⟩ := gk_nxt hi9 hli
          have HPLN : Hid (PB.length = n3) := hPl
          have HN3 : Hid (n3 ≤ 38000 ∧ n3 + 2 = n1 + 2 * (i + 1)) := by have := HN30.out; exact ⟨by omega, by omega⟩
          have hliI : (i : Int) < (n2 : Int) + 1 := by omega
          clear hs hr hq hol hPB hba hR1 hRa hPl hsb
          go_wp2_with (first | (at_builtin; refine wpList_append_lies _ rfl (.tmp 104) (.tmp 111) 26 rfl w.heap.size 5 i0 (.int .u8 0) 1 1 Try.underlying26 hi hz0 hz1 hz2 rfl (by decide) (.slice a3 n3 c3) n3 (bv PB) rfl hrow ⟨wr.heap.size, 0, none⟩ 2 2 (bv (wordB s)) rfl rfl hlit (bv_one _) (by decide) (by have := HN3.out; unfold maxLen; omega) (by have := HN3.out; omega) hse _ rfl ?_; intro g7 c7 w7 hown hgrow hat hlt7; have HR7 : Hid (OwnN w.heap.size w7 (.slice (some ⟨g7, 0, none⟩) (n3 + 2) c7) (bodyTo es jj ++ wordsB (PL.take (i + 1))) ∧ w7.ownsRow w.heap.size 3 1 (.slice (some ⟨g5, 0, none⟩) (n2 + 1) c5) (n2 + 1) (iv3 PL) ∧ Below w.heap.size w w7) := ⟨(by rw [HTK.out]; exact .inr (own_grew HPLN.out rfl hown)), World.ownsRow.kept HIN.out hgrow (rows_ne (by decide) hrow HIN.out), HBA.out.grown hgrow HBA.out.size (fun k e => (hrow.lt k e).1)⟩; clear hown hgrow hat hlt7) | fail)
          clear hrow hlit hse hcell
          go_roundg (gk - 1)
          case measure => exact r1
          case rel => exact ⟨i + 1, n3 + 2, c7, _, r2, by go_num, rfl, HN3.out.2, HR7⟩
        · have hliI : ¬ (i : Int) < (n2 : Int) + 1 := by omega
          have HF : Hid (leafB es = bodyTo es jj ++ wordsB (PL.take i) ∧ n3 ≠ 0) := by
            have hie : i = n2 + 1 := by omega
            refine ⟨?_, by have := HN30.out; omega⟩
            rw [HPL.out.2.2, hie, ← HPL.out.1, List.take_length]
          go_wp2
          go_ret2
          refine ⟨_, rfl, ?_, HR.out.2.2⟩
          rw [HF.out.1]
          rcases HR.out.1 with ⟨e, _⟩ | h
          · exfalso
            simp only [Value.slice.injEq] at e
            exact HF.out.2 e.2.1
          · exact h

end Go.Proofs.Ytdopfijoplldkaa
