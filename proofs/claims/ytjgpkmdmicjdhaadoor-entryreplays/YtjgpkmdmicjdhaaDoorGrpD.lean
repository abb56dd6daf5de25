/- Several texts in one. -/
import Derived.Test.YtjgpkmdmicjdhaaDoorGrpB
import Derived.Test.YtjgpkmdmicjdhaaDoorGrpC
import Derived.Deep.DeepCutAuto
import Derived.Deep.CutRange
import Derived.Deep.CutBlock
import Derived.Deep.RegionHeld3
import Derived.BigQuiet
import Derived.Laws.OwnMore
import Derived.Deep.LoopGhost
import Derived.Laws.AppendOwnNone

/- What the document reads of a reel is what the program reads. -/
namespace Go.Proofs.YtjgpkmdmicjdhaaDoor
set_option maxRecDepth 20000
open Go.RowKit
set_option linter.unusedVariables false

/-- the document's pieces of a record, put together; are they whole -/
def gathR : Nat → List UInt8 → Nat → List UInt8 → List UInt8 × Bool
  | 0, _, _, t => (t, false)
  | n + 1, p, k, t => match pcAt p (k + gapN k) with
    | none => (t, false)
    | some (kd, q) => if kd.toNat = 1 ∨ kd.toNat = 4 then (t ++ q, true) else gathR n p (k + gapN k + 7 + q.length) (t ++ q)

theorem pcAt_left {p : List UInt8} {a : Nat} {q : UInt8 × List UInt8} (h : pcAt p a = some q) : 7 ≤ leftN a ∧ a + 7 ≤ p.length := by
  by_cases h1 : ((p.drop a).take (leftN a)).length < 7
  · rw [pcAt_short h1] at h; cases h
  · rw [List.length_take, List.length_drop] at h1
    omega

theorem gap_no {a : Nat} (h : 7 ≤ leftN a) : gapN a = 0 := by unfold gapN; rw [if_neg (by omega)]

theorem gath_rec : ∀ (n m : Nat) (p : List UInt8) (nx k : Nat) (t r : List UInt8) (e : Nat), k + gapN k = nx → p.length < m + nx + 7 → recG n p nx t = some (r, e) → gathR m p k t = (r, true)
  | 0, m, p, nx, k, t, r, e, _, _, h => by rw [recG] at h; cases h
  | n + 1, m, p, nx, k, t, r, e, hk, hm, h => by
    rw [recG] at h
    cases hp : pcAt p nx with
    | none => rw [hp] at h; cases h
    | some q =>
      obtain ⟨kd, q⟩ := q
      rw [hp] at h
      simp only at h
      have hl := pcAt_left hp
      obtain ⟨m', rfl⟩ : ∃ m', m = m' + 1 := ⟨m - 1, by omega⟩
      rw [gathR, hk, hp]
      simp only
      by_cases hf : kd.toNat = 1 ∨ kd.toNat = 4
      · rw [if_pos hf] at h ⊢
        simp only [Option.some.injEq, Prod.mk.injEq] at h
        rw [h.1]
      · rw [if_neg hf] at h ⊢
        have hg : gapN (nx + 7 + q.length) = 0 := by
          cases n with
          | zero => rw [recG] at h; cases h
          | succ n =>
            rw [recG] at h
            cases hp2 : pcAt p (nx + 7 + q.length) with
            | none => rw [hp2] at h; cases h
            | some _ => exact gap_no (pcAt_left hp2).1
        exact gath_rec n m' p (nx + 7 + q.length) (nx + 7 + q.length) (t ++ q) r e (by rw [hg]; rfl) (by omega) h

/-- what the document takes for the record at a place -/
theorem recAt_ref (p : List UInt8) (a : Nat) : recAt p a = if (gathR p.length p a []).2 = true ∧ (gathR p.length p a []).1.length ≤ 65536 ∧ (frameB a (gathR p.length p a []).1).length ≤ p.length - a ∧ (p.drop a).take (frameB a (gathR p.length p a []).1).length = frameB a (gathR p.length p a []).1 then some ((gathR p.length p a []).1, a + (frameB a (gathR p.length p a []).1).length) else none := by
  split
  · rename_i h
    obtain ⟨_, h2, h3, h4⟩ := h
    refine recAt_frame p ((p.drop a).drop (frameB a (gathR p.length p a []).1).length) _ a h2 ?_
    conv => lhs; rw [← List.take_append_drop (frameB a (gathR p.length p a []).1).length (p.drop a), h4]
  · rename_i hno
    cases hr : recAt p a with
    | none => rfl
    | some q =>
      obtain ⟨l, nx⟩ := q
      exfalso
      obtain ⟨h1, h2, h3, h4⟩ := recAt_some hr
      have hg : recG (p.length + 1) p (a + gapN a) [] = some (l, nx) := by
        unfold recAt at hr
        split at hr
        · cases hr
        · rename_i t' nx' hg
          split at hr
          · simp only [Option.some.injEq, Prod.mk.injEq] at hr
            rw [hg, hr.1, hr.2]
          · cases hr
      have hga := gath_rec (p.length + 1) p.length p (a + gapN a) a [] l nx rfl (by omega) hg
      apply hno
      rw [hga]
      refine ⟨rfl, h1, ?_, ?_⟩
      · have := congrArg List.length h3
        rw [List.length_drop, List.length_append] at this
        show (frameB a l).length ≤ _
        omega
      · show (p.drop a).take (frameB a l).length = frameB a l
        rw [h3, List.take_left]

theorem gathR_len : ∀ (n : Nat) (p : List UInt8) (k : Nat) (t : List UInt8), t.length ≤ p.length → k ≤ p.length → t.length ≤ k → (gathR n p k t).1.length ≤ p.length
  | 0, p, k, t, h, _, _ => by rw [gathR]; exact h
  | n + 1, p, k, t, h, hk, ht => by
    rw [gathR]
    cases hp : pcAt p (k + gapN k) with
    | none => exact h
    | some q =>
      obtain ⟨kd, q⟩ := q
      have hf := pcAt_fits hp
      simp only
      split
      · simp only [List.length_append]; omega
      · exact gathR_len n p _ (t ++ q) (by rw [List.length_append]; omega) hf (by rw [List.length_append]; omega)

theorem gathR_no {g k kk : Nat} {p t : List UInt8} (hk : k + gapN k = kk) (h : pcAt p kk = none) : gathR (g + 1) p k t = (t, false) := by rw [gathR, hk, h]
theorem gathR_fin {g k kk : Nat} {p t q : List UInt8} {kd : UInt8} (hk : k + gapN k = kk) (h : pcAt p kk = some (kd, q)) (hf : kd.toNat = 1 ∨ kd.toNat = 4) : gathR (g + 1) p k t = (t ++ q, true) := by
  rw [gathR, hk, h]
  simp only
  rw [if_pos hf]
theorem gathR_more {g k kk : Nat} {p t q : List UInt8} {kd : UInt8} (hk : k + gapN k = kk) (h : pcAt p kk = some (kd, q)) (hf : ¬ (kd.toNat = 1 ∨ kd.toNat = 4)) : gathR (g + 1) p k t = gathR g p (kk + 7 + q.length) (t ++ q) := by
  rw [gathR, hk, h]
  simp only
  rw [if_neg hf]

end Go.Proofs.YtjgpkmdmicjdhaaDoor

/- bartizanref06.Read. -/
namespace Go.Proofs.YtjgpkmdmicjdhaaDoor
set_option maxRecDepth 100000
open Go.RowKit
set_option linter.unusedVariables false

theorem row_shp {w : World} {base e size n : Nat} {v : Value} {xs : List Value} (h : w.ownsRow base e size v n xs) : ∃ a cp, v = .slice a n cp := by
  rcases h.2 with ⟨e', hn⟩ | ⟨g, cap, cur, e', r⟩
  · exact ⟨none, 0, by rw [e', hn]⟩
  · exact ⟨_, cap, e'⟩

/-- append of whatever row, nil or not, to a row of one's own, nil or not -/
theorem wpList_append_sn {P : Program} {w : World} {ops : Array Oper} {rest : List Oper} {o : Oper} {a : Act} {Q : Exit → Act → World → Prop} (hgd : o.guard = none) (s x : Operand) (t : TypeId)
    (ho : o.op = .call { callee := .builtin .append, args := #[s, x], argTypes := #[t, t] })
    (base : Nat) (e : TypeId) (i : TypeInfo) (z : Value) (size bytes : Nat) (ht : P.underlying t = some (.slice e)) (hi : P.info? e = some i) (hz : i.zero = some z)
    (hsize : i.size = size) (hby : i.bytes = bytes) (hzs : z.cells.size = size) (hsz : 0 < size)
    (v : Value) (n : Nat) (xs : List Value) (hs : a.eval s = v) (hown : w.ownsRow base e size v n xs)
    (vx : Value) (hx : a.eval x = vx) (m : Nat) (news : List Value) (hsrc : (vx = .slice none 0 0 ∧ m = 0 ∧ news = []) ∨ ∃ ad c, vx = .slice (some ad) m c ∧ news.length = m * size ∧ ∀ j u, news[j]? = some u → w.cell? (ad.add j) = some u) (h1 : ∀ u ∈ news, u.oneCell' = true)
    (h63 : n + m ≤ maxLen) (hbytes : (n + m) * bytes ≤ 140737488355328) (hbase : base ≤ w.heap.size)
    (h : ∀ g c w', w'.ownsRow base e size (.slice g (n + m) c) (n + m) (xs ++ news) → w.grownBy w' v.ownBlock → wpList P ops Q rest (a.put o.dst (.slice g (n + m) c)) w') : wpList P ops Q (o :: rest) a w := by
  rcases hsrc with ⟨rfl, rfl, rfl⟩ | ⟨ad, c, rfl, hl, hnews⟩
  · obtain ⟨g, cp, e'⟩ := row_shp hown
    have hown' := hown
    rw [e'] at hown'
    refine wpList_append_own_none hgd s x t ho base e i size ht hi v n xs hs hown hx ?_
    rw [e']
    exact h g cp w (by simpa using hown') ⟨rfl, rfl, rfl, Nat.le_refl _, fun _ _ _ => rfl⟩
  · refine wpList_append_own w hgd s x t ho base e i z size bytes ht hi hz hsize hby hzs hsz v n xs hs hown ad m c news hx hl hnews h1 h63 hbytes hbase fun v' w' h2 h3 h4 => ?_
    obtain ⟨g, cp, e'⟩ := row_shp h2
    subst e'
    exact h g cp w' h2 h3

theorem OwnN.src {B : Nat} {w : World} {y : Value} {t : List UInt8} (h : OwnN B w y t) : (y = .slice none 0 0 ∧ t.length = 0 ∧ bv t = []) ∨ ∃ ad c, y = .slice (some ad) t.length c ∧ (bv t).length = t.length * 1 ∧ ∀ j u, (bv t)[j]? = some u → w.cell? (ad.add j) = some u := by
  rcases h with ⟨rfl, rfl⟩ | h
  · exact .inl ⟨rfl, rfl, rfl⟩
  · obtain ⟨g, k, rfl⟩ := h.shape
    exact .inr ⟨_, k, rfl, by rw [bv_length, Nat.mul_one], (rd_cells h.rd).2⟩

/-- make, as one step of a region that draws its order, behind '&&' -/
theorem step_mkg {P : Program} {o : Oper} {a : Act} {w : World} {K : Act → World → Prop} {Q : Exit → Act → World → Prop}
    (l c : Operand) (t : TypeId) (hop : o.op = Op.makeSlice t l c)
    (base : Nat) (e : TypeId) (i : TypeInfo) (z : Value) (size : Nat) (h1 : P.underlying t = some (.slice e)) (h2 : P.info? e = some i) (h3 : i.zero = some z) (h4 : i.size = size)
    (kl kc : IntKind) (L C : Int) (n : Nat) (hl : a.eval l = .int kl L) (hc : a.eval c = .int kc C) (hL : L = (n : Int)) (hC : C = (n : Int)) (b2 : i.bytes * n ≤ 281474976710656) (b3 : n ≤ maxLen) (b4 : base ≤ w.heap.size)
    (hK : ∀ w', w'.ownsRow base e size (.slice (some ⟨w.heap.size, 0, none⟩) n n) n (madeCells z.cells (n * size)).toList → w.grownBy w' none → K (a.put o.dst (.slice (some ⟨w.heap.size, 0, none⟩) n n)) w') :
    Oper.wp P o a w K Q := by
  obtain ⟨w', hrun, r1, r2⟩ := run_make_full (P := P) w base t e i z size h1 h2 h3 h4 kl kc n b2 b3 b4
  subst hL
  subst hC
  unfold Oper.wp
  simp [execOp, hop, hl, hc, hrun, Result.andThen]
  exact hK w' r1 r2

theorem rowN {B : Nat} {w : World} {v : Value} {t : List UInt8} (h : w.ownsRow B 5 1 v t.length (bv t)) : OwnN B w v t := by
  by_cases hv : v = .slice none 0 0
  · refine .inl ⟨hv, ?_⟩
    rcases h.2 with ⟨_, hn⟩ | ⟨g, cap, cur, e', r⟩
    · exact List.eq_nil_of_length_eq_zero hn
    · rw [hv] at e'; cases e'
  · exact .inr (Own.of_row h hv)

set_option maxHeartbeats 4000000 in
theorem rread6_any (w : World) (b off c : Nat) (p : List UInt8) (hcs : ∀ j u, (bv p)[j]? = some u → w.cell? ⟨b, off + j, none⟩ = some u) (hb : b < w.heap.size) (hc : p.length ≤ c) (hM : c ≤ 9223372036854775807) (hp : p.length ≤ 60000) :
    Calls Tryd.prog 14 #[.slice (some ⟨b, off, none⟩) p.length c] w fun x w' => ∃ (y : Value) (n : Int), x = .returned (.tuple #[y, .int .i64 n]) ∧ OwnT w.heap.size w' y (readB p).1 ∧ Below w.heap.size w w' := by
  obtain ⟨i0, hi, hz0, hz1, hz2⟩ := info_parts info24
  obtain ⟨i5, hi5, hz50, hz51, hz52⟩ := info_parts info5
  have HCS : Hid (∀ j u, (bv p)[j]? = some u → w.cell? ⟨b, off + j, none⟩ = some u) := hcs
  obtain ⟨L, hL⟩ : ∃ L, p.length = L := ⟨_, rfl⟩
  have HL : Hid (p.length = L) := hL
  rw [hL] at hc hp ⊢
  clear hcs hL
  go_enter Tryd.func14, Tryd.ntmps14
  go_upto_block 0 with fail
  go_cut [4, 5] (fun pv iv wx => ∃ (a : Nat) (ls : List (List UInt8)) (la : Option Addr) (lc : Nat), iv = .int .i64 (a : Int) ∧ pv = .slice la ls.length lc ∧ a ≤ L ∧ Hid ((readB p).1 = ls) ∧ Hid (OwnT w.heap.size wx pv ls) ∧ Hid (Below w.heap.size w wx))
  case first =>
    go_wp2_with fail
    go_loopg [4, 5] (L + 1) (fun gk pv iv wr => ∃ (a : Nat) (ls : List (List UInt8)) (la : Option Addr) (lc : Nat), gk + a = L + 1 ∧ iv = .int .i64 (a : Int) ∧ pv = .slice la ls.length lc ∧ Hid (ReadI w wr p a pv ls))
    case atStart => exact ⟨0, [], none, 0, by omega, rfl, rfl, ⟨rfl, OwnT.nil _ _, Below.refl _ _, Nat.zero_le _, by simp⟩⟩
    case round =>
      obtain ⟨a, ls, la, lc, hga, rfl, rfl, HI⟩ := hrel
      obtain ⟨wo, hwo⟩ : ∃ wo, wo = wr := ⟨wr, rfl⟩
      subst hwo
      by_cases hlt : a < L
      · have haI : (a : Int) < (L : Int) := by omega
        obtain ⟨G1, hG1⟩ : ∃ G1, G1 = gk := ⟨gk, rfl⟩
        subst hG1
        obtain ⟨⟨T, GD⟩, hT⟩ : ∃ y, gathR p.length p a [] = y := ⟨_, rfl⟩
        have HT : Hid (gathR p.length p a [] = (T, GD)) := hT
        have hTl : T.length ≤ L := by
          have h9 := gathR_len p.length p a [] (Nat.zero_le _) HI.out.le (Nat.zero_le _)
          rw [hT] at h9
          simp only at h9
          have := HL.out
          omega
        clear hT
        go_upto_block 2 with fail
        go_cut [7, 8] (fun tv gv wx => ∃ (ba : Option Addr) (bc : Nat), tv = .slice ba T.length bc ∧ gv = .bool GD ∧ Hid (wx.ownsRow wo.heap.size 5 1 tv T.length (bv T)) ∧ Hid (Below wo.heap.size wo wx))
        case first =>
          go_wp2_with fail
          go_loopg [6, 7, 8, 23] L (fun gk kv tv gv iv wr => ∃ (i k : Nat) (t : List UInt8) (ba : Option Addr) (bc : Nat), gk + i = L ∧ iv = .int .i64 (i : Int) ∧ kv = .int .i64 (k : Int) ∧ tv = .slice ba t.length bc ∧ gv = .bool false ∧ k ≤ L ∧ t.length ≤ k ∧ Hid (gathR gk p k t = (T, GD)) ∧ Hid (wr.ownsRow wo.heap.size 5 1 tv t.length (bv t)) ∧ Hid (Below wo.heap.size wo wr))
          case atStart => exact ⟨0, a, [], none, 0, by omega, rfl, rfl, rfl, rfl, by omega, Nat.zero_le _, by show _ = _; rw [← HL.out]; exact HT.out, World.ownsRow_nil _ _ _ _, Below.refl _ _⟩
          case round =>
            obtain ⟨i, k, t, ba, bc, hgi, rfl, rfl, rfl, rfl, hkL, htk, HG, HO, HB⟩ := hrel
            by_cases hil : i < L
            · obtain ⟨g, rfl⟩ : ∃ g, gk = g + 1 := ⟨gk - 1, by omega⟩
              have hiI : (i : Int) < (L : Int) := by omega
              obtain ⟨kk, hkk⟩ : ∃ kk, k + gapN k = kk := ⟨_, rfl⟩
              have HKK : Hid (k + gapN k = kk) := hkk
              have hkb : kk ≤ 70000 := by
                rw [← hkk]
                unfold gapN leftN
                split <;> omega
              clear hkk
              go_upto_if 27 with fail
              go_cut [6] (fun kv wx => kv = .int .i64 (kk : Int) ∧ wx = wr)
              case first =>
                by_cases h57 : (57 : Int) < (k : Int) % 64
                · have hfin : Hid ((k : Int) + (64 - (k : Int) % 64) = (kk : Int)) := by
                    show _ = _
                    rw [← HKK.out]
                    unfold gapN leftN
                    split <;> omega
                  go_wp2_with fail
                  go_meet
                  exact ⟨by rw [hfin.out], rfl⟩
                · have hfin : Hid ((k : Int) = (kk : Int)) := by
                    show _ = _
                    rw [← HKK.out]
                    unfold gapN leftN
                    split <;> omega
                  go_wp2_with fail
                  go_meet
                  exact ⟨by rw [hfin.out], rfl⟩
              case rest =>
                obtain ⟨rfl, hwc⟩ := hcut
                rw [hwc]
                clear hwc
                have hpc := rpiece_at wr kk b off c p (fun j u hu => by have h9 := HCS.out j u hu; rw [(HI.out.be.trans (HB.out.mono HI.out.be.size)).cell (p := ⟨b, off + j, none⟩) hb]; exact h9) (Nat.lt_of_lt_of_le hb (HI.out.be.trans (HB.out.mono HI.out.be.size)).size) (by omega) (by rw [HL.out]; exact hc) (by unfold maxLen; exact hM) (by rw [HL.out]; omega)
                rw [HL.out] at hpc
                cases hq : pcAt p kk with
                | none =>
                  have HE : Hid (t = T ∧ false = GD) := by
                    have h9 := HG.out
                    rw [gathR_no HKK.out hq] at h9
                    simp only [Prod.mk.injEq] at h9
                    exact h9
                  rw [hq] at hpc
                  clear hq
                  go_wp2_with fail
                  refine hpc.mono ?_
                  rintro x w2 ⟨hb2, rfl⟩
                  have HO2 : Hid (w2.ownsRow wo.heap.size 5 1 (.slice ba t.length bc) t.length (bv t)) := row_below HO.out hb2
                  have HB2 : Hid (Below wo.heap.size wo w2) := HB.out.trans (hb2.mono HB.out.size)
                  clear hpc hb2
                  go_wp2_with fail
                  go_meet
                  obtain ⟨e1, e2⟩ := HE.out
                  subst e1 e2
                  exact ⟨ba, bc, rfl, rfl, HO2, HB2⟩
                | some kq =>
                  obtain ⟨kd, q⟩ := kq
                  rw [hq] at hpc
                  have hft := pcAt_fits hq
                  have HFT : Hid (kk + 7 + q.length ≤ L ∧ k ≤ kk) := by
                    show _ ∧ _
                    have := HL.out
                    have := HKK.out
                    omega
                  have HQ : Hid (pcAt p kk = some (kd, q)) := hq
                  have HBD : Hid (t.length + q.length ≤ maxLen ∧ (t.length + q.length) * 1 ≤ 140737488355328) := by
                    show _ ∧ _
                    have := HFT.out
                    unfold maxLen
                    omega
                  obtain ⟨kn, hkn⟩ : ∃ kn, kd.toNat = kn := ⟨_, rfl⟩
                  have HKN : Hid (kd.toNat = kn) := hkn
                  have hnx : ((kk + 7 + q.length : Nat) : Int) = (kk : Int) + 7 + (q.length : Int) := by omega
                  have HNX : Hid _ := hnx
                  obtain ⟨nx, hnx2⟩ : ∃ nx, kk + 7 + q.length = nx := ⟨_, rfl⟩
                  have HNX2 : Hid (kk + 7 + q.length = nx) := hnx2
                  clear hq hft hnx
                  go_wp2_with fail
                  refine hpc.mono ?_
                  rintro x w2 ⟨hb2, y, rfl, oy⟩
                  rw [hkn, hnx2]
                  have hO2 := row_below HO.out hb2
                  have hB2 := HB.out.trans (hb2.mono HB.out.size)
                  have hsr := oy.src
                  obtain ⟨yl, hyl⟩ : ∃ yl, q.length = yl := ⟨_, rfl⟩
                  obtain ⟨ya, yc, rfl⟩ := oy.rd.len
                  have hse := hB2.size
                  have HB2 : Hid (Below wo.heap.size wo w2) := hB2
                  have HO2 : Hid _ := hO2
                  clear hpc hb2 oy hB2 hkn hnx2 hyl
                  by_cases h1 : kn = 1
                  · have h1I : (kn : Int) = 1 := by omega
                    have HE : Hid (t ++ q = T ∧ true = GD) := by
                      have h9 := HG.out
                      rw [gathR_fin HKK.out HQ.out (by rw [HKN.out]; omega)] at h9
                      simp only [Prod.mk.injEq] at h9
                      exact h9
                    go_wp2_with (first | (at_builtin; refine wpList_append_sn rfl (.tmp 43) (.tmp 44) 26 rfl wo.heap.size 5 i5 (.int .u8 0) 1 1 Tryd.underlying26 hi5 hz50 hz51 hz52 rfl (by decide) (.slice ba t.length bc) t.length (bv t) rfl hO2 (.slice ya q.length yc) rfl q.length (bv q) hsr (bv_one _) HBD.out.1 HBD.out.2 hse ?_; intro g4 c4 w4 hown hgrow; have HO4 : Hid (w4.ownsRow wo.heap.size 5 1 (.slice g4 (t.length + q.length) c4) (t ++ q).length (bv (t ++ q))) := (by rw [List.length_append, bv_append]; exact hown); have HB4 : Hid (Below wo.heap.size wo w4) := HB2.out.grown hgrow HB2.out.size (fun k' e => (hO2.lt k' e).1); clear hown hgrow) | fail)
                    go_meet
                    obtain ⟨e1, e2⟩ := HE.out
                    subst e1 e2
                    exact ⟨g4, c4, by rw [List.length_append], rfl, HO4, HB4⟩
                  · have h1I : ¬ (kn : Int) = 1 := by omega
                    have h1b : ((kn : Int) == 1) = false := by simpa using h1I
                    by_cases h4 : kn = 4
                    · have h4I : (kn : Int) = 4 := by omega
                      have HE : Hid (t ++ q = T ∧ true = GD) := by
                        have h9 := HG.out
                        rw [gathR_fin HKK.out HQ.out (by rw [HKN.out]; omega)] at h9
                        simp only [Prod.mk.injEq] at h9
                        exact h9
                      go_wp2_with (first | (at_builtin; refine wpList_append_sn rfl (.tmp 43) (.tmp 44) 26 rfl wo.heap.size 5 i5 (.int .u8 0) 1 1 Tryd.underlying26 hi5 hz50 hz51 hz52 rfl (by decide) (.slice ba t.length bc) t.length (bv t) rfl hO2 (.slice ya q.length yc) rfl q.length (bv q) hsr (bv_one _) HBD.out.1 HBD.out.2 hse ?_; intro g4 c4 w4 hown hgrow; have HO4 : Hid (w4.ownsRow wo.heap.size 5 1 (.slice g4 (t.length + q.length) c4) (t ++ q).length (bv (t ++ q))) := (by rw [List.length_append, bv_append]; exact hown); have HB4 : Hid (Below wo.heap.size wo w4) := HB2.out.grown hgrow HB2.out.size (fun k' e => (hO2.lt k' e).1); clear hown hgrow) | fail)
                      go_meet
                      obtain ⟨e1, e2⟩ := HE.out
                      subst e1 e2
                      exact ⟨g4, c4, by rw [List.length_append], rfl, HO4, HB4⟩
                    · have h4I : ¬ (kn : Int) = 4 := by omega
                      have h4b : ((kn : Int) == 4) = false := by simpa using h4I
                      have HE : Hid (gathR g p nx (t ++ q) = (T, GD)) := by
                        have h9 := HG.out
                        rw [gathR_more HKK.out HQ.out (by rw [HKN.out]; omega), HNX2.out] at h9
                        exact h9
                      have HNN : Hid (nx ≤ L ∧ (t ++ q).length ≤ nx) := by
                        have h1 := HFT.out
                        have h2 := HNX2.out
                        refine ⟨by omega, ?_⟩
                        rw [List.length_append]
                        omega
                      go_wp2_with (first | (at_builtin; refine wpList_append_sn rfl (.tmp 43) (.tmp 44) 26 rfl wo.heap.size 5 i5 (.int .u8 0) 1 1 Tryd.underlying26 hi5 hz50 hz51 hz52 rfl (by decide) (.slice ba t.length bc) t.length (bv t) rfl hO2 (.slice ya q.length yc) rfl q.length (bv q) hsr (bv_one _) HBD.out.1 HBD.out.2 hse ?_; intro g4 c4 w4 hown hgrow; have HO4 : Hid (w4.ownsRow wo.heap.size 5 1 (.slice g4 (t.length + q.length) c4) (t ++ q).length (bv (t ++ q))) := (by rw [List.length_append, bv_append]; exact hown); have HB4 : Hid (Below wo.heap.size wo w4) := HB2.out.grown hgrow HB2.out.size (fun k' e => (hO2.lt k' e).1); clear hown hgrow) | fail)
                      go_roundg g
                      case measure => omega
                      case rel => exact ⟨i + 1, nx, t ++ q, g4, c4, by omega, by go_num, rfl, by rw [List.length_append], rfl, HNN.out.1, HNN.out.2, HE, HO4, HB4⟩
            · have hiI : ¬ (i : Int) < (L : Int) := by omega
              obtain rfl : gk = 0 := by omega
              have HE : Hid (t = T ∧ false = GD) := by
                have h9 := HG.out
                rw [gathR] at h9
                simp only [Prod.mk.injEq] at h9
                exact h9
              go_wp2_with fail
              go_meet
              obtain ⟨e1, e2⟩ := HE.out
              subst e1 e2
              exact ⟨ba, bc, rfl, rfl, HO, HB⟩
        case rest =>
          obtain ⟨ba, bc, rfl, rfl, HO, HBx⟩ := hcut
          have hra := recAt_ref p a
          rw [HT.out] at hra
          simp only at hra
          have HRA : Hid _ := hra
          have hLL := HL.out
          have HST : Hid (∀ nx, recAt p a = some (T, nx) → readB p = readG (p.length + 1) p nx (ls ++ [T])) := by
            intro nx h
            rw [HI.out.eq, readG_step (by omega), h]
          have HEN : Hid (recAt p a = none → (readB p).1 = ls) := by
            intro h
            rw [HI.out.eq, readG_step (by omega), h]
          have hfr := rframe_any wc a _ T (rowN HO.out).rd (fun q hq => (HO.out.lt q hq).2) (by omega)
          obtain ⟨FR, hFR⟩ : ∃ FR, frameB a T = FR := ⟨_, rfl⟩
          have hfl := frameB_long a T
          rw [hFR] at hfr HRA hfl
          have HB0 : Hid (Below w.heap.size w wc) := HI.out.be.trans (HBx.out.mono HI.out.be.size)
          have HFL : Hid (0 < FR.length) := by show 0 < _; omega
          clear hra hFR hfl
          go_wp2_with fail
          refine hfr.mono ?_
          rintro x w2 ⟨gf, cf, rfl, oF, hb2⟩
          have HB2 : Hid (Below w.heap.size w w2) := HB0.out.trans (hb2.mono HB0.out.size)
          have HOF : Hid (Rd w2 (.slice (some ⟨gf, 0, none⟩) FR.length cf) FR) := oF.rd
          have HOT : Hid (OwnT w.heap.size w2 (.slice la ls.length lc) ls) := (HI.out.ow.below HBx.out (Nat.le_refl _)).below hb2 (Nat.le_refl _)
          have HON : Hid (OwnN w.heap.size w2 (.slice ba T.length bc) T) := ((rowN HO.out).below hb2 (Nat.le_refl _)).mono HI.out.be.size
          have haL : a ≤ L := by omega
          clear hfr hb2 oF
          cases GD with
          | false =>
            have HE : Hid ((readB p).1 = ls) := HEN.out (by rw [HRA.out, if_neg (by simp)])
            go_wp2_with fail
            go_meet
            exact ⟨a, ls, la, lc, rfl, rfl, haL, HE, HOT, HB2⟩
          | true =>
            by_cases hfit : FR.length ≤ L - a
            · have hfI : ¬ ((L : Int) - (a : Int) < (FR.length : Int)) := by omega
              have hcp : ∀ j u, (bv p)[j]? = some u → w2.cell? ⟨b, off + j, none⟩ = some u := fun j u hu => by
                have h9 := HCS.out j u hu
                rw [HB2.out.cell (p := ⟨b, off + j, none⟩) hb]
                exact h9
              have hsub := rd_sub hcp a FR.length (c - a) (by omega) (by unfold maxLen; omega) (by omega)
              obtain ⟨r, hr⟩ : ∃ r, (FR == (p.drop a).take FR.length) = r := ⟨_, rfl⟩
              have hsm := same_b w2 _ _ FR ((p.drop a).take FR.length) r HOF.out hsub hr
              have HR : Hid ((FR == (p.drop a).take FR.length) = r) := hr
              have hacI : (a : Int) + (FR.length : Int) ≤ (c : Int) := by omega
              clear hcp hsub hr
              cases r with
              | false =>
                have HE : Hid ((readB p).1 = ls) := HEN.out (by
                  rw [HRA.out, if_neg]
                  rintro ⟨_, _, _, h4⟩
                  have h9 := HR.out
                  rw [h4] at h9
                  simp at h9)
                go_wp2_with fail
                refine hsm.mono ?_
                rintro x w3 ⟨rfl, hw3⟩
                subst w3
                clear hsm
                go_wp2_with fail
                go_meet
                exact ⟨a, ls, la, lc, rfl, rfl, haL, HE, HOT, HB2⟩
              | true =>
                have HEQ : Hid (readB p = readG (p.length + 1) p (a + FR.length) (ls ++ [T])) := HST.out _ (by
                  rw [HRA.out, if_pos]
                  exact ⟨rfl, by omega, by omega, (eq_of_beq HR.out).symm⟩)
                have HNX : Hid (a + FR.length ≤ L ∧ L + 1 - (a + FR.length) < G1 ∧ L + 1 - (a + FR.length) + (a + FR.length) = L + 1 ∧ ls.length ≤ a) := by
                  have h1 := HFL.out
                  have h2 := HI.out.nm
                  show _ ∧ _ ∧ _ ∧ _
                  omega
                have hbe : Below w2.heap.size w2 (w2.alloc (.cells #[.slice ba T.length bc] 26)) := (Below.refl _ _).alloc (Nat.le_refl _) _
                have hOe := HOT.out.below hbe (Nat.le_refl _)
                have oxe := HON.out.below hbe (Nat.le_refl _)
                obtain ⟨cs, hrow, hel⟩ := hOe
                have HBe : Hid (Below w.heap.size w (w2.alloc (.cells #[.slice ba T.length bc] 26))) := HB2.out.trans (hbe.mono HB2.out.size)
                have hse : w.heap.size ≤ (w2.alloc (.cells #[.slice ba T.length bc] 26)).heap.size := HBe.out.size
                have HBD : Hid (ls.length + 1 ≤ maxLen ∧ (ls.length + 1) * 24 ≤ 140737488355328) := by
                  have h2 := HI.out.nm
                  show _ ∧ _
                  unfold maxLen
                  omega
                have HOX : Hid _ := oxe
                have HEL : Hid _ := hel
                clear hbe oxe hel
                go_wp2_with fail
                refine hsm.mono ?_
                rintro x w3 ⟨rfl, hw3⟩
                subst w3
                clear hsm
                go_wp2_with (first | (at_builtin; refine wpList_append_lies _ rfl (.tmp 87) (.tmp 89) 32 rfl w.heap.size 26 i0 (.slice none 0 0) 1 24 Tryd.underlying32 hi hz0 hz1 hz2 rfl (by decide) (.slice la ls.length lc) ls.length cs rfl hrow ⟨w2.heap.size, 0, none⟩ 1 1 [.slice ba T.length bc] rfl rfl (laid1 _ _ _) (one_slice _ _ _) (by decide) HBD.out.1 HBD.out.2 hse _ rfl ?_; intro g4 c4 w4 hown hgrow hat hlt4; have HP4 : Hid (OwnT w.heap.size w4 (.slice (some ⟨g4, 0, none⟩) (ls.length + 1) c4) (ls ++ [T])) := own_push1 T hrow HEL.out HOX.out hown hgrow; have HB4 : Hid (Below w.heap.size w w4) := HBe.out.grown hgrow HBe.out.size (fun k' e => (hrow.lt k' e).1); clear hown hgrow hat hlt4) | fail)
                clear hrow
                go_roundg (L + 1 - (a + FR.length))
                case measure => exact HNX.out.2.1
                case rel => exact ⟨a + FR.length, ls ++ [T], some ⟨g4, 0, none⟩, c4, HNX.out.2.2.1, by go_num, by rw [List.length_append]; rfl, ⟨HEQ.out, HP4.out, HB4.out, by rw [HL.out]; exact HNX.out.1, by rw [List.length_append]; have h1 := HNX.out.2.2.2; have h2 := HFL.out; simp; omega⟩⟩
            · have hfI : (L : Int) - (a : Int) < (FR.length : Int) := by omega
              have HE : Hid ((readB p).1 = ls) := HEN.out (by rw [HRA.out, if_neg (by omega)])
              go_wp2_with fail
              go_meet
              exact ⟨a, ls, la, lc, rfl, rfl, haL, HE, HOT, HB2⟩
      · have haI : ¬ (a : Int) < (L : Int) := by omega
        have HE : Hid ((readB p).1 = ls) := by
          show _ = _
          rw [HI.out.eq, readG_step (by have := HL.out; omega), recAt_over (by have := HL.out; omega)]
        go_wp2_with fail
        go_meet
        exact ⟨a, ls, la, lc, rfl, rfl, by have := HI.out.le; have := HL.out; omega, HE, HI.out.ow, HI.out.be⟩
  case rest =>
    obtain ⟨a, ls, la, lc, rfl, rfl, haL, HE, HOT, HB⟩ := hcut
    have HFIN : Hid (OwnT w.heap.size wc (.slice la ls.length lc) (readB p).1) := by rw [HE.out]; exact HOT.out
    obtain ⟨n, hn⟩ : ∃ n, 64 - a % 64 = n := ⟨_, rfl⟩
    have hnI : (64 : Int) - (a : Int) % 64 = (n : Int) := by omega
    have haI : (a : Int) ≤ (L : Int) := by omega
    clear hn
    obtain ⟨d, hd⟩ : ∃ d, L - a = d := ⟨_, rfl⟩
    have hdI : (L : Int) - (a : Int) = (d : Int) := by omega
    have HD : Hid (a + d = L) := by show _ = _; omega
    clear hd
    by_cases h7 : n < 7
    · have h7I : (n : Int) < 7 := by omega
      have h7b : decide ((n : Int) < 7) = true := decide_eq_true h7I
      by_cases hln : d ≤ n
      · have hlI : (d : Int) ≤ (n : Int) := by omega
        have hlb : decide ((d : Int) ≤ (n : Int)) = true := decide_eq_true hlI
        have hcp : ∀ j u, (bv p)[j]? = some u → wc.cell? ⟨b, off + j, none⟩ = some u := fun j u hu => by
          have h9 := HCS.out j u hu
          rw [HB.out.cell (p := ⟨b, off + j, none⟩) hb]
          exact h9
        have hsub := rd_sub hcp a d (c - a) (by have := HD.out; omega) (by unfold maxLen; omega) (by have := HD.out; have := HL.out; omega)
        have HSUB : Hid _ := hsub
        obtain ⟨wm, hrun0, hom, hgm⟩ := run_make_full (P := Tryd.prog) wc.drew wc.heap.size 26 5 i5 (.int .u8 0) 1 Tryd.underlying26 hi5 hz50 hz51 .i64 .i64 d (by rw [hz52]; omega) (by unfold maxLen; omega) (Nat.le_refl _)
        rw [made_list] at hom
        have HBM : Hid (Below w.heap.size w wm) := HB.out.drew.grown hgm HB.out.size (fun k h => by cases h)
        have BC : Below wc.heap.size wc wm := (Below.refl wc.heap.size wc).drew.grown hgm (Nat.le_refl _) (fun k h => by cases h)
        have HFM : Hid (OwnT w.heap.size wm (.slice la ls.length lc) (readB p).1) := HFIN.out.below BC (Nat.le_refl _)
        have HMR : Hid (Rd wm (.slice (some ⟨wc.heap.size, 0, none⟩) d d) (List.replicate d 0)) := by have h9 := (Own.of_row (B := wc.heap.size) (w := wm) (v := .slice (some ⟨wc.heap.size, 0, none⟩) d d) (l := List.replicate d 0) (by rw [List.length_replicate]; simpa [bv] using hom) (by simp)).rd; exact h9
        have HSM : Hid (Rd wm (.slice (if c = a then some ⟨b, off, none⟩ else some ⟨b, off + a, none⟩) (L - a) (c - a)) ((p.drop a).take d)) := by
          have h9 := hsub.below BC (Nat.le_refl _)
          have h8 := HD.out
          rw [show L - a = d by omega]
          split
          · have hd0 : d = 0 := by omega
            subst hd0
            rw [List.take_zero]
            exact .inr ⟨b, off, c - a, rfl, Nat.zero_le _, by unfold maxLen; omega, fun j u hu => by simp [bv] at hu⟩
          · exact h9
        have HRUN2 : Hid _ := hrun0
        obtain ⟨r, hr⟩ : ∃ r, ((p.drop a).take d == List.replicate d 0) = r := ⟨_, rfl⟩
        have hsm := same_b wm _ (.slice (some ⟨wc.heap.size, 0, none⟩) d d) ((p.drop a).take d) (List.replicate d 0) r HSM.out HMR.out hr
        clear hcp hsub HSUB BC hom hgm hrun0 hr
        cases r with
        | false =>
          by_cases hca : c = a
          · have hsm2 := hsm
            rw [if_pos hca] at hsm2
            clear hsm
            subst hca
            rw [show L - c = 0 by omega, Nat.sub_self] at hsm2
            go_wp2_with fail
            have hwd1 : IntKind.i64.wrap (d : Int) = (d : Int) := by rw [IntKind.wrap_i64]; omega
            have hwd2 : wrap64 (d : Int) = (d : Int) := by unfold wrap64; omega
            have hrun := HRUN2.out
            go_region_held3 (fun w' => True) (trivial)
              (first
                | (go_at_call 11; refine hsm2.mono ?_; rintro x w3 ⟨rfl, hw3⟩; subst w3)
                | fail)
            all_goals clear hwd1 hwd2 hrun hsm2
            all_goals go_wp2
            all_goals refine bodyPost_ret (v := .tuple #[.slice la ls.length lc, .int .i64 (c : Int)]) (by simp [results]) rfl ?_
            all_goals exact ⟨_, _, rfl, HFM.out, HBM.out⟩
          · have hsm2 := hsm
            rw [if_neg hca] at hsm2
            clear hsm
            go_wp2_with fail
            have hwd1 : IntKind.i64.wrap (d : Int) = (d : Int) := by rw [IntKind.wrap_i64]; omega
            have hwd2 : wrap64 (d : Int) = (d : Int) := by unfold wrap64; omega
            have hrun := HRUN2.out
            go_region_held3 (fun w' => True) (trivial)
              (first
                | (go_at_call 11; refine hsm2.mono ?_; rintro x w3 ⟨rfl, hw3⟩; subst w3)
                | fail)
            all_goals clear hwd1 hwd2 hrun hsm2
            all_goals go_wp2
            all_goals refine bodyPost_ret (v := .tuple #[.slice la ls.length lc, .int .i64 (a : Int)]) (by simp [results]) rfl ?_
            all_goals exact ⟨_, _, rfl, HFM.out, HBM.out⟩
        | true =>
          by_cases hca : c = a
          · have hsm2 := hsm
            rw [if_pos hca] at hsm2
            clear hsm
            subst hca
            rw [show L - c = 0 by omega, Nat.sub_self] at hsm2
            go_wp2_with fail
            have hwd1 : IntKind.i64.wrap (d : Int) = (d : Int) := by rw [IntKind.wrap_i64]; omega
            have hwd2 : wrap64 (d : Int) = (d : Int) := by unfold wrap64; omega
            have hrun := HRUN2.out
            go_region_held3 (fun w' => True) (trivial)
              (first
                | (go_at_call 11; refine hsm2.mono ?_; rintro x w3 ⟨rfl, hw3⟩; subst w3)
                | fail)
            all_goals clear hwd1 hwd2 hrun hsm2
            all_goals go_wp2
            all_goals refine bodyPost_ret (v := .tuple #[.slice la ls.length lc, .int .i64 (L : Int)]) (by simp [results]) rfl ?_
            all_goals exact ⟨_, _, rfl, HFM.out, HBM.out⟩
          · have hsm2 := hsm
            rw [if_neg hca] at hsm2
            clear hsm
            go_wp2_with fail
            have hwd1 : IntKind.i64.wrap (d : Int) = (d : Int) := by rw [IntKind.wrap_i64]; omega
            have hwd2 : wrap64 (d : Int) = (d : Int) := by unfold wrap64; omega
            have hrun := HRUN2.out
            go_region_held3 (fun w' => True) (trivial)
              (first
                | (go_at_call 11; refine hsm2.mono ?_; rintro x w3 ⟨rfl, hw3⟩; subst w3)
                | fail)
            all_goals clear hwd1 hwd2 hrun hsm2
            all_goals go_wp2
            all_goals refine bodyPost_ret (v := .tuple #[.slice la ls.length lc, .int .i64 (L : Int)]) (by simp [results]) rfl ?_
            all_goals exact ⟨_, _, rfl, HFM.out, HBM.out⟩
      · have hlI : ¬ (d : Int) ≤ (n : Int) := by omega
        have hlb : decide ((d : Int) ≤ (n : Int)) = false := decide_eq_false hlI
        go_wp2_with fail
        have hwd1 : IntKind.i64.wrap (d : Int) = (d : Int) := by rw [IntKind.wrap_i64]; omega
        have hwd2 : wrap64 (d : Int) = (d : Int) := by unfold wrap64; omega
        go_quiet (fail)
        all_goals clear hwd1 hwd2
        all_goals go_wp2
        all_goals refine bodyPost_ret (v := .tuple #[.slice la ls.length lc, .int .i64 (a : Int)]) (by simp [results]) rfl ?_
        all_goals exact ⟨_, _, rfl, HFIN.out, below_drewN HB.out _⟩
    · have h7I : ¬ (n : Int) < 7 := by omega
      have h7b : decide ((n : Int) < 7) = false := decide_eq_false h7I
      go_wp2_with fail
      go_quiet (fail)
      all_goals go_wp2
      all_goals refine bodyPost_ret (v := .tuple #[.slice la ls.length lc, .int .i64 (a : Int)]) (by simp [results]) rfl ?_
      all_goals exact ⟨_, _, rfl, HFIN.out, below_drewN HB.out _⟩

end Go.Proofs.YtjgpkmdmicjdhaaDoor
