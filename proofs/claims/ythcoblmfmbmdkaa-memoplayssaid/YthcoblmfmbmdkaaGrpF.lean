/- Several texts in one. -/
import Derived.Test.YthcoblmfmbmdkaaGrpE
import Derived.Test.YthcoblmfmbmdkaaSpRow
import Derived.Test.YthcoblmfmbmdkaaGrpA
import Derived.Test.YthcoblmfmbmdkaaLists
import Derived.Test.YthcoblmfmbmdkaaGrpC
import Derived.Test.YthcoblmfmbmdkaaSmall
import Derived.Test.YthcoblmfmbmdkaaKeyCmp
import Derived.BigQuiet
import Derived.Deep.LoopGhost
import Derived.Deep.RegionHeld3

/- bartizanref10.Get. -/
namespace Go.Proofs.Ythcoblmfmbmdkaa
set_option maxRecDepth 100000
open Go.RowKit
set_option linter.unusedVariables false
set_option linter.unusedSimpArgs false

theorem lastS_app (Z : List (OpB × Nat)) (z : OpB × Nat) (k : List UInt8) (s : Nat) : lastS (Z ++ [z]) k s = if z.2 ≤ s ∧ covO z.1 k = true then some z else lastS Z k s := by
  unfold lastS
  rw [List.reverse_append, List.reverse_singleton, List.singleton_append, List.find?_cons]
  by_cases h : z.2 ≤ s ∧ covO z.1 k = true
  · rw [if_pos h]
    simp [h.1, h.2]
  · rw [if_neg h]
    have : (decide (z.2 ≤ s) && covO z.1 k) = false := by
      cases h1 : covO z.1 k with
      | false => simp
      | true => have : ¬ z.2 ≤ s := fun h9 => h ⟨h9, h1⟩
                simp [this]
    rw [this]

set_option maxHeartbeats 8000000 in
theorem r10get_any (G : Nat → Prop) (w : World) (x : Nat) (Z : List (OpB × Nat)) (kv : Value) (k : List UInt8) (s : Nat) (h : RefM G w x (Z.map (·.1)) (Z.map (·.2))) (hk : Rd w kv k) (hn : Z.length ≤ 100000) (hL : ∀ z ∈ Z, z.1.2.2.length ≤ 1000) :
    Calls Try.prog 23 #[.pointer (some ⟨x, 0, none⟩), kv, .int .u64 (s : Int)] w fun e w' => ∃ v, e = .returned (.tuple #[v, .int .i64 (stC (lastS Z k s))]) ∧ Rd w' v (valC (lastS Z k s)) ∧ Below w.heap.size w w' := by
  have he := eqRm x
  obtain ⟨ka, kc, rfl⟩ := hk.len
  obtain ⟨kl, hkl⟩ : ∃ z, k.length = z := ⟨_, rfl⟩
  rw [hkl] at hk ⊢
  have HK : Hid (Rd w (.slice ka kl kc) k) := hk
  obtain ⟨v, u, hbx, hro, hru⟩ := h.rd
  have HBX : Hid (Bx2 w x v u) := hbx
  have HRO : Hid (RdO w v (Z.map (·.1))) := hro
  have hro2 := hro
  obtain ⟨oa, oc, eo, _, h2, _⟩ := hro2
  subst eo
  obtain ⟨N, hN⟩ : ∃ N, Z.length = N := ⟨_, rfl⟩
  rw [List.length_map, hN] at HRO HBX
  have HN : Hid (Z.length = N) := hN
  have HRU : Hid (w.ownsRow 0 33 1 u (Z.map (·.2)).length ((Z.map (·.2)).map encU)) := hru
  have c0 := HBX.out.c0
  have hN2 : N ≤ 100000 := by rw [← hN]; exact hn
  have HLL : Hid (∀ z ∈ Z, z.1.2.2.length ≤ 1000) := hL
  obtain ⟨S, hS⟩ : ∃ S : Int, (s : Int) = S := ⟨_, rfl⟩
  have HS : Hid ((s : Int) = S) := hS
  rw [hS]
  clear hbx hro hru h hN hn hk hkl hL hS
  go_enter Try.func23, Try.ntmps23
  go_wp2_with fail
  go_loopg [8] N (fun gk iv wr => ∃ j : Nat, gk = j ∧ j ≤ N ∧ iv = .int .i64 ((j : Int) - 1) ∧ Hid (lastS Z k s = lastS (Z.take j) k s) ∧ Hid (Below w.heap.size w wr))
  case atStart => exact ⟨N, rfl, Nat.le_refl _, rfl, by show _ = _; rw [← HN.out, List.take_length], Below.refl _ _⟩
  case round =>
    obtain ⟨j, rfl, hjN, rfl, HQ, HB⟩ := hrel
    by_cases hj0 : gk = 0
    · subst hj0
      have HQ0 : Hid (lastS Z k s = none) := by show _ = _; rw [HQ.out]; simp [lastS]
      rw [show ((0 : Nat) : Int) - 1 = -1 from rfl]
      have hneg : ¬ (0 : Int) ≤ -1 := by decide
      go_wp2_with fail
      refine bodyPost_ret (v := .tuple #[.slice none 0 0, .int .i64 0]) (by simp [results, Try.results23, go_sem]) rfl ?_
      exact ⟨_, by rw [HQ0.out]; rfl, by rw [HQ0.out]; exact .inl ⟨rfl, rfl⟩, HB.out⟩
    · obtain ⟨i, rfl⟩ : ∃ i, gk = i + 1 := ⟨gk - 1, by omega⟩
      have hgeI : (0 : Int) ≤ (i : Int) := by omega
      have heI : ((i + 1 : Nat) : Int) - 1 = (i : Int) := by omega
      rw [heI]
      have hlt2 : i < Z.length := by rw [HN.out]; omega
      have hlt3 : i < (Z.map (·.1)).length := by rw [List.length_map]; exact hlt2
      have hiN : i < N := by omega
      obtain ⟨_, _, e, _, _, h3⟩ := HRO.out
      rw [List.length_map, HN.out] at e
      cases e
      obtain ⟨b, off, rfl, xv, yv, d0', d1', d2', rx, ry⟩ := h3 i hlt3
      have hbl := World.block_lt_of_cell? w _ d0'
      have d0 := (HB.out.cell (p := ⟨b, off + i * 3, none⟩) hbl).trans d0'
      have d1 := (HB.out.cell (p := ⟨b, off + i * 3 + 1, none⟩) hbl).trans d1'
      have d2 := (HB.out.cell (p := ⟨b, off + i * 3 + 2, none⟩) hbl).trans d2'
      clear d0' d1' d2' hbl
      obtain ⟨x1, x2, ex⟩ := rx.len
      obtain ⟨y1, y2, ey⟩ := ry.len
      subst ex ey
      have hst : lastS (Z.take (i + 1)) k s = if Z[i].2 ≤ s ∧ covO Z[i].1 k = true then some Z[i] else lastS (Z.take i) k s := by rw [List.take_succ_eq_append_getElem hlt2, lastS_app]
      have hzl := HLL.out _ (List.getElem_mem hlt2)
      obtain ⟨z, ho⟩ : ∃ z, Z[i] = z := ⟨_, rfl⟩
      have ho2 : (Z.map (·.1))[i] = z.1 := by rw [List.getElem_map, ho]
      rw [ho2] at d0 d1 d2 rx ry
      rw [ho] at hst hzl
      obtain ⟨nl, hnlq⟩ : ∃ nl, z.1.2.1.length = nl := ⟨_, rfl⟩
      obtain ⟨oln, holn⟩ : ∃ oln, z.1.2.2.length = oln := ⟨_, rfl⟩
      obtain ⟨sq, hsq⟩ : ∃ q : Int, (z.2 : Int) = q := ⟨_, rfl⟩
      obtain ⟨kk, hkk⟩ : ∃ q : Int, (z.1.1.toNat : Int) = q := ⟨_, rfl⟩
      rw [hnlq] at d1 rx
      rw [holn] at d2 ry
      rw [hkk] at d0
      have c0r := (HBX.out.same3 (wr := wr) HB.out).c0
      obtain ⟨g, uc, eu, hug⟩ : ∃ g uc, u = .slice (some ⟨g, 0, none⟩) N uc ∧ w.cell? ⟨g, i, none⟩ = some (.int .u64 sq) := by
        have hr := HRU.out
        rw [List.length_map, HN.out] at hr
        obtain ⟨g, c, e, _⟩ := hr.form (by omega)
        subst e
        refine ⟨g, c, rfl, ?_⟩
        rw [World.ownsRow.cellAt hr i (by omega), List.getElem?_map, List.getElem?_map, List.getElem?_eq_getElem hlt2, ho]
        show some (Value.int .u64 (z.2 : Int)) = _
        rw [hsq]
      subst eu
      have c1r := (HBX.out.same3 (wr := wr) HB.out).c1
      have dg := (HB.out.cell (p := ⟨g, i, none⟩) (World.block_lt_of_cell? w _ hug)).trans hug
      obtain ⟨cv, hcv⟩ : ∃ c, covO z.1 k = c := ⟨_, rfl⟩
      have hco := opcov_any wr (.slice x1 nl x2) (.slice y1 oln y2) (.slice ka kl kc) z.1.2.1 z.1.2.2 k kk cv (rx.below HB.out (Nat.le_refl _)) (ry.below HB.out (Nat.le_refl _)) (HK.out.below HB.out (Nat.le_refl _)) (by rw [← hkk]; exact hcv)
      have HRY : Hid (Rd w (.slice y1 oln y2) z.1.2.2 ∧ z.1.2.2.length ≤ 1000 ∧ (z.1.1.toNat : Int) = kk) := ⟨ry, hzl, hkk⟩
      have HSK : Hid (S < sq → lastS Z k s = lastS (Z.take i) k s) := fun h9 => by rw [HQ.out, hst, if_neg]; rintro ⟨h8, _⟩; have := HS.out; omega
      have HCF : Hid (cv = false → lastS Z k s = lastS (Z.take i) k s) := fun h9 => by rw [HQ.out, hst, if_neg]; rintro ⟨_, h8⟩; rw [hcv, h9] at h8; cases h8
      have HFO : Hid (¬ S < sq → cv = true → lastS Z k s = some z) := fun h9 h8 => by rw [HQ.out, hst, if_pos]; exact ⟨by have := HS.out; omega, by rw [hcv, h8]⟩
      have hmeas : i < i + 1 := by omega
      have hrelI : i ≤ N := by omega
      have D : Hid (∀ W, Below wr.heap.size wr W → W.cell? ⟨x, 0, none⟩ = some (.slice (some ⟨b, off, none⟩) N oc) ∧ W.cell? ⟨b, off + i * 3, none⟩ = some (.int .u8 kk) ∧ W.cell? ⟨b, off + i * 3 + 2, none⟩ = some (.slice y1 oln y2)) := fun W hW =>
        ⟨(hW.cell (p := ⟨x, 0, none⟩) (World.block_lt_of_cell? _ _ c0r)).trans c0r, (hW.cell (p := ⟨b, off + i * 3, none⟩) (World.block_lt_of_cell? _ _ d0)).trans d0, (hW.cell (p := ⟨b, off + i * 3 + 2, none⟩) (World.block_lt_of_cell? _ _ d2)).trans d2⟩
      clear hst ho ho2 rx ry h3 hnlq holn hsq hkk hug hcv hzl heI
      by_cases hss : S < sq
      · have HS9 := HSK.out hss
        have HS8 : Hid (lastS Z k s = lastS (Z.take i) k s) := HS9
        clear HS9
        go_wp2_with fail
        go_roundg i
        case measure => exact hmeas
        case rel => exact ⟨i, rfl, hrelI, rfl, HS8, HB⟩
      · go_wp2_with fail
        refine hco.mono ?_
        rintro e w1 ⟨rfl, hb1⟩
        have HB1 : Hid (Below w.heap.size w w1) := bsplit HB.out hb1
        obtain ⟨c0s, d0s, d2s⟩ := D.out w1 hb1
        clear hco c0r c1r d0 d1 d2 dg hb1
        cases cv with
        | false =>
          have HS8 : Hid (lastS Z k s = lastS (Z.take i) k s) := HCF.out rfl
          go_wp2_with fail
          go_roundg i
          case measure => exact hmeas
          case rel => exact ⟨i, rfl, hrelI, rfl, HS8, HB1⟩
        | true =>
          have HS8 : Hid (lastS Z k s = some z) := HFO.out hss rfl
          by_cases hk2 : kk = 2
          · have HST : Hid (stC (lastS Z k s) = 1 ∧ valC (lastS Z k s) = z.1.2.2) := by
              have h9 : z.1.1.toNat = 2 := by have := HRY.out.2.2; omega
              rw [HS8.out]
              exact ⟨by simp [stC, h9], by simp [valC, h9]⟩
            have hcp := copy_any w1 (.slice y1 oln y2) z.1.2.2 (HRY.out.1.below HB1.out (Nat.le_refl _)).arg (by have := HRY.out.2.1; omega)
            subst hk2
            go_wp2_with fail
            refine hcp.mono ?_
            rintro e w2 ⟨y, rfl, oy, hb2⟩
            obtain ⟨gy, ky, hy⟩ := oy.shape
            subst hy
            have HB2 : Hid (Below w.heap.size w w2) := bsplit HB1.out hb2
            have HOY : Hid (Rd w2 (.slice (some ⟨gy, 0, none⟩) z.1.2.2.length ky) z.1.2.2) := oy.rd
            clear hcp oy hb2 c0s d0s d2s
            go_wp2_with fail
            refine bodyPost_ret (v := .tuple #[.slice (some ⟨gy, 0, none⟩) z.1.2.2.length ky, .int .i64 1]) (by simp [results, Try.results23, go_sem]) rfl ?_
            exact ⟨_, by rw [HST.out.1], by rw [HST.out.2]; exact HOY.out, HB2.out⟩
          · have HST : Hid (stC (lastS Z k s) = 2 ∧ valC (lastS Z k s) = []) := by
              have h9 : ¬ z.1.1.toNat = 2 := by have := HRY.out.2.2; omega
              rw [HS8.out]
              exact ⟨by simp [stC, h9], by simp [valC, h9]⟩
            go_wp2_with fail
            refine bodyPost_ret (v := .tuple #[.slice none 0 0, .int .i64 2]) (by simp [results, Try.results23, go_sem]) rfl ?_
            exact ⟨_, by rw [HST.out.1], by rw [HST.out.2]; exact .inl ⟨rfl, rfl⟩, HB1.out⟩

end Go.Proofs.Ythcoblmfmbmdkaa

/- append to a row of the call's own: the row stays where it is, or lies in a block that wasn't there. -/
namespace Go.Proofs.Ythcoblmfmbmdkaa
open Go.RowKit

/-- v' lies where v lay, or in a block from n on -/
def Stays (n : Nat) (v v' : Value) : Prop := v'.ownBlock = v.ownBlock ∨ ∃ g, v'.ownBlock = some g ∧ n ≤ g

theorem run_append_new {P : Program} (w : World) (base : Nat) (t ty e : TypeId) (i : TypeInfo) (z : Value) (size bytes : Nat) (ht : P.underlying t = some (.slice e)) (hi : P.info? e = some i) (hz : i.zero = some z)
    (hsize : i.size = size) (hby : i.bytes = bytes) (hzs : z.cells.size = size) (hsz : 0 < size)
    (v : Value) (n : Nat) (xs : List Value) (hown : w.ownsRow base e size v n xs)
    (a : Addr) (m c : Nat) (news : List Value) (hl : news.length = m * size) (hnews : ∀ j u, news[j]? = some u → w.cell? (a.add j) = some u) (h1 : ∀ u ∈ news, u.oneCell' = true)
    (h63 : n + m ≤ maxLen) (hbytes : (n + m) * bytes ≤ 140737488355328) (hbase : base ≤ w.heap.size) :
    ∃ v' w', (Builtin.append_ #[t, t] ty #[v, .slice (some a) m c]).run P w = .ok v' w' ∧ w'.ownsRow base e size v' (n + m) (xs ++ news) ∧ w.grownBy w' v.ownBlock ∧
      (v' = .slice none 0 0 ↔ v = .slice none 0 0 ∧ m = 0) ∧ Stays w.heap.size v v' := by
  obtain ⟨v', w', hr, ho, hg, hn⟩ := run_append_own (P := P) w base t ty e i z size bytes ht hi hz hsize hby hzs hsz v n xs hown a m c news hl hnews h1 h63 hbytes hbase
  refine ⟨v', w', hr, ho, hg, hn, ?_⟩
  subst hsize
  subst hby
  have hsmall : n + m ≤ 9223372036854775807 := by simp only [maxLen] at h63; omega
  rcases hown.2 with ⟨rfl, rfl⟩ | ⟨g, cap, cur, rfl, hbg, hgg, hnc, hcm, hcs, htake⟩
  · by_cases hm : m = 0
    · exact .inl (by rw [hn.2 ⟨rfl, hm⟩])
    · have hr2 := run_append_nil (P := P) w t ty e i z ht hi hz a m c news hl hnews (by omega) (by omega) (by have hb := hbytes; simp only [Nat.zero_add] at hb; omega)
      rw [hr2] at hr
      simp only [Result.ok.injEq] at hr
      exact .inr ⟨w.heap.size, by rw [← hr.1]; rfl, Nat.le_refl _⟩
  · by_cases hroom : n + m ≤ cap
    · have hfit : n * i.size + news.length ≤ cur.size := by rw [hl, hcs, ← Nat.add_mul]; exact Nat.mul_le_mul_right _ hroom
      have hr2 := run_append_room (P := P) w t ty e i ht hi g n cap cur hgg a m c news hl hnews h1 hroom hfit
      rw [hr2] at hr
      simp only [Result.ok.injEq] at hr
      exact .inl (by rw [← hr.1]; rfl)
    · have holds : ∀ j u, xs[j]? = some u → w.cell? ((⟨g, 0, none⟩ : Addr).add j) = some u := hown.cells (g := g) rfl
      have hr2 := run_append_grow (P := P) w t ty e i z ht hi hz ⟨g, 0, none⟩ n cap xs hown.1 holds a m c news hl hnews (by omega) (by omega) (growslice_fits (by omega) hbytes)
      rw [hr2] at hr
      simp only [Result.ok.injEq] at hr
      exact .inr ⟨w.heap.size, by rw [← hr.1]; rfl, Nat.le_refl _⟩

theorem wpList_append_new {P : Program} (w : World) {ops : Array Oper} {rest : List Oper} {o : Oper} {a : Act} {Q : Exit → Act → World → Prop} (hgd : o.guard = none) (s x : Operand) (t : TypeId)
    (ho : o.op = .call { callee := .builtin .append, args := #[s, x], argTypes := #[t, t] })
    (base : Nat) (e : TypeId) (i : TypeInfo) (z : Value) (size bytes : Nat) (ht : P.underlying t = some (.slice e)) (hi : P.info? e = some i) (hz : i.zero = some z)
    (hsize : i.size = size) (hby : i.bytes = bytes) (hzs : z.cells.size = size) (hsz : 0 < size)
    (v : Value) (n : Nat) (xs : List Value) (hs : a.eval s = v) (hown : w.ownsRow base e size v n xs)
    (ad : Addr) (m c : Nat) (news : List Value) (hx : a.eval x = .slice (some ad) m c) (hl : news.length = m * size) (hnews : ∀ j u, news[j]? = some u → w.cell? (ad.add j) = some u) (h1 : ∀ u ∈ news, u.oneCell' = true)
    (h63 : n + m ≤ maxLen) (hbytes : (n + m) * bytes ≤ 140737488355328) (hbase : base ≤ w.heap.size)
    (h : ∀ v' w', w'.ownsRow base e size v' (n + m) (xs ++ news) → w.grownBy w' v.ownBlock → (v' = .slice none 0 0 ↔ v = .slice none 0 0 ∧ m = 0) → Stays w.heap.size v v' → wpList P ops Q rest (a.put o.dst v') w') : wpList P ops Q (o :: rest) a w := by
  refine wpList_plain hgd fun K hK => ?_
  obtain ⟨v', w', hr, h2, h3, h4, h5⟩ := run_append_new (P := P) w base t o.type e i z size bytes ht hi hz hsize hby hzs hsz v n xs hown ad m c news hl hnews h1 h63 hbytes hbase
  unfold Oper.wp execOp
  simp only [ho, resolve, invoke, builtin, Sem.run_bind, Sem.run_pure, Result.andThen_ok, List.map_toArray, List.map_cons, List.map_nil, hs, hx, hr]
  exact hK _ _ (h v' w' h2 h3 h4 h5)

end Go.Proofs.Ythcoblmfmbmdkaa

/- Parts that are gathered: each in a row of its own, apart from what is wanted. -/
namespace Go.Proofs.Ythcoblmfmbmdkaa
open Go.RowKit

theorem info24 : (Try.prog.info? 40).map (fun i => (i.zero, i.size, i.bytes)) = some (some (.slice none 0 0), 1, 24) := by kernel_rfl

/-- a row of slices and a row of bytes lie in two blocks -/
theorem rows_apart {w : World} {B B' n n' : Nat} {v v' : Value} {xs ys : List Value} (h : w.ownsRow B 40 1 v n xs) (h' : w.ownsRow B' 5 1 v' n' ys) : v.ownBlock = none ∨ v.ownBlock ≠ v'.ownBlock := by
  rcases h.2 with ⟨rfl, _⟩ | ⟨g, cap, cur, rfl, _, hg, _⟩
  · exact .inl rfl
  · right
    intro e
    rcases h'.2 with ⟨rfl, _⟩ | ⟨g', cap', cur', rfl, _, hg', _⟩
    · cases e
    · simp only [Value.ownBlock, Option.some.injEq] at e
      subst e
      rw [hg] at hg'
      simp at hg'

theorem rows_apart' {w : World} {B B' n n' : Nat} {v v' : Value} {xs ys : List Value} (h : w.ownsRow B 40 1 v n xs) (h' : w.ownsRow B' 5 1 v' n' ys) : v'.ownBlock = none ∨ v'.ownBlock ≠ v.ownBlock := by
  rcases rows_apart h h' with e | e
  · cases hb : v'.ownBlock with
    | none => exact .inl rfl
    | some k => right; rw [e]; intro h; cases h
  · exact .inr (fun h => e h.symm)

/-- each of the first k parts has a row of its own, apart from wv -/
def PartsOK (B : Nat) (w : World) (vs : List Value) (C : List (List UInt8)) (k : Nat) (wv : Value) : Prop :=
  ∀ j, j < k → ∃ g c l, C[j]? = some l ∧ vs[j]? = some (.slice (some ⟨g, 0, none⟩) l.length c) ∧ Own B w (.slice (some ⟨g, 0, none⟩) l.length c) l ∧ some g ≠ wv.ownBlock

theorem parts_zero (B : Nat) (w : World) (vs : List Value) (C : List (List UInt8)) (wv : Value) : PartsOK B w vs C 0 wv := fun _ h => absurd h (Nat.not_lt_zero _)

/-- behind a round: w0 the round's world, w2 behind the cut, w3 behind the parts' append, w4 behind the second cut, w5 behind the append to what is wanted -/
theorem parts_step {B k : Nat} {w0 w2 w3 w4 w5 : World} {vs : List Value} {C : List (List UInt8)} {pv wv wv' : Value} {c : List UInt8} {gc kc : Nat} {ps : List Value} {W : List UInt8} {n0 : Nat}
    (hp : PartsOK B w0 vs C k wv) (hvs : vs.length = k) (hC : C[k]? = some c) (hpv : w0.ownsRow B 40 1 pv n0 ps) (hwv : w0.ownsRow B 5 1 wv W.length (bv W))
    (oc : Own w0.heap.size w2 (.slice (some ⟨gc, 0, none⟩) c.length kc) c) (hb2 : Below w0.heap.size w0 w2) (hBs : B ≤ w0.heap.size)
    (hgr3 : (w2.alloc (.cells #[.slice (some ⟨gc, 0, none⟩) c.length kc] 40)).grownBy w3 pv.ownBlock)
    (hb4 : Below w3.heap.size w3 w4) (hgr5 : w4.grownBy w5 wv.ownBlock) (hst : Stays w4.heap.size wv wv') :
    PartsOK B w5 (vs ++ [.slice (some ⟨gc, 0, none⟩) c.length kc]) C (k + 1) wv' := by
  have hs2 := hb2.size
  have hs3 : w2.heap.size + 1 ≤ w3.heap.size := by have := hgr3.size; simpa using this
  have hs4 := hb4.size
  have hwlt : ∀ q, wv.ownBlock = some q → q < w0.heap.size := fun q hq => (hwv.lt q hq).2
  have hnew : ∀ g, g < w4.heap.size → some g ≠ wv.ownBlock → some g ≠ wv'.ownBlock := by
    intro g hg hne
    rcases hst with e | ⟨q, e, hq⟩
    · rw [e]; exact hne
    · rw [e]; intro h; simp only [Option.some.injEq] at h; omega
  -- a row of bytes of world w2 lives on
  have live : ∀ (g n q : Nat) (l : List UInt8), Own B w2 (.slice (some ⟨g, 0, none⟩) n q) l → some g ≠ wv.ownBlock → Own B w5 (.slice (some ⟨g, 0, none⟩) n q) l ∧ g < w4.heap.size := by
    intro g n q l ho hne
    have ha : Own B (w2.alloc (.cells #[.slice (some ⟨gc, 0, none⟩) c.length kc] 40)) (.slice (some ⟨g, 0, none⟩) n q) l := ho.below ((Below.refl _ _).alloc (Nat.le_refl _) _) (Nat.le_refl _)
    have hpv2 : (w2.alloc (.cells #[.slice (some ⟨gc, 0, none⟩) c.length kc] 40)).ownsRow B 40 1 pv n0 ps := by
      have hgg : w0.grownBy w2 none := ⟨hb2.os, hb2.tape, hb2.output, hb2.size, fun i hi _ => hb2.block i hi⟩
      exact (hpv.kept hgg (by cases pv.ownBlock <;> simp)).alloc _
    have hne3 : some g ≠ pv.ownBlock := by
      rcases rows_apart hpv2 ha.row with e | e
      · rw [e]; simp
      · exact fun h => e h.symm
    have h3 := own_kept ha hgr3 hne3
    have h4 := h3.below hb4 (Nat.le_refl _)
    exact ⟨own_kept h4 hgr5 hne, h4.row.lt g rfl |>.2⟩
  intro j hj
  by_cases hjk : j < k
  · obtain ⟨g, q, l, e1, e2, ho, hne⟩ := hp j hjk
    have hl := live g _ q l (ho.below hb2 (Nat.le_refl _)) hne
    refine ⟨g, q, l, e1, ?_, hl.1, hnew g hl.2 hne⟩
    rw [List.getElem?_append_left (by omega)]; exact e2
  · have hje : j = k := by omega
    subst hje
    have hgc := oc.row.lt gc rfl
    have hne : some gc ≠ wv.ownBlock := by
      intro h
      have := hwlt gc h.symm
      omega
    have hl := live gc _ kc c (oc.mono hBs) hne
    refine ⟨gc, kc, c, hC, ?_, hl.1, hnew gc hl.2 hne⟩
    rw [List.getElem?_append_right (by omega), hvs]; simp

/-- the parts' own row, and what is wanted, behind a round -/
theorem parts_rows {B n0 m0 : Nat} {w3 w4 w5 : World} {pv' wv : Value} {ps : List Value} {W : List UInt8} (hp : w3.ownsRow B 40 1 pv' n0 ps) (hw : w3.ownsRow B 5 1 wv m0 (bv W))
    (hb4 : Below w3.heap.size w3 w4) (hgr5 : w4.grownBy w5 wv.ownBlock) : w5.ownsRow B 40 1 pv' n0 ps := by
  have hgg : w3.grownBy w4 none := ⟨hb4.os, hb4.tape, hb4.output, hb4.size, fun i hi _ => hb4.block i hi⟩
  have h4 := hp.kept hgg (by cases pv'.ownBlock <;> simp)
  have hw4 := hw.kept hgg (by cases wv.ownBlock <;> simp)
  exact h4.kept hgr5 (rows_apart h4 hw4)

end Go.Proofs.Ythcoblmfmbmdkaa

/- Bytes of one's own are turned. -/
namespace Go.Proofs.Ythcoblmfmbmdkaa
open Go.RowKit

/-- block g begins with n bytes, whichever -/
def U8 (w : World) (g n : Nat) : Prop := ∃ (cur : Array Value) (l : List UInt8), w.heap[g]? = some (.cells cur 5 (0, 0)) ∧ l.length = n ∧ cur.toList.take n = bv l ∧ n ≤ cur.size

theorem bv_set (l : List UInt8) (i : Nat) (b : UInt8) : (bv l).set i (.int .u8 (b.toNat : Int)) = bv (l.set i b) := by simp [bv, List.map_set]

theorem u8_set {w : World} {g n : Nat} (h : U8 w g n) (g' i : Nat) (b : UInt8) : U8 (w.setCell ⟨g', i, none⟩ (.int .u8 (b.toNat : Int))) g n := by
  obtain ⟨cur, l, hg, hl, ht, hn⟩ := h
  by_cases e : g = g'
  · subst e
    refine ⟨_, l.set i b, heap_setCell_same w g i cur 5 _ hg, by simpa using hl, ?_, by simpa using hn⟩
    rw [Array.toList_setIfInBounds, List.take_set, ht, bv_set]
  · exact ⟨cur, l, by rw [Below.heap_setCell _ _ _ _ (by simpa using e)]; exact hg, hl, ht, hn⟩

theorem u8_cell {w : World} {g n : Nat} (h : U8 w g n) (i : Nat) (hi : i < n) : ∃ b : UInt8, w.cell? ⟨g, i, none⟩ = some (.int .u8 (b.toNat : Int)) ∧ w.frozen? ⟨g, i, none⟩ = false := by
  obtain ⟨cur, l, hg, hl, ht, hn⟩ := h
  refine ⟨l[i]'(by omega), ?_, frozen_of_row w g i cur 5 hg⟩
  rw [cell_of_row w g i cur 5 (0, 0) hg]
  have h1 : (cur.toList.take n)[i]? = some (.int .u8 ((l[i]'(by omega)).toNat : Int)) := by rw [ht]; exact bv_get l i (by omega)
  rw [List.getElem?_take, if_pos hi] at h1
  simpa using h1

theorem u8_of_own {B : Nat} {w : World} {g n c : Nat} {l : List UInt8} (h : Own B w (.slice (some ⟨g, 0, none⟩) n c) l) : U8 w g n ∧ n ≤ c ∧ c ≤ maxLen ∧ B ≤ g := by
  obtain ⟨g', cap, cur, e, hB, hh, h1, h2, h3, h4⟩ := h
  simp only [Value.slice.injEq, Option.some.injEq, Addr.mk.injEq, and_true] at e
  obtain ⟨rfl, rfl, rfl⟩ := e
  exact ⟨⟨cur, l, hh, rfl, h4, by omega⟩, h1, h2, hB⟩

theorem u8_below {w w' : World} {g n : Nat} (h : U8 w g n) (hb : Below w.heap.size w w') : U8 w' g n := by
  obtain ⟨cur, l, hg, r⟩ := h
  exact ⟨cur, l, by rw [hb.block g (Array.getElem?_eq_some_iff.1 hg).1]; exact hg, r⟩

theorem rd_set {w : World} {v : Value} {l : List UInt8} {g i : Nat} {u : Value} (h : Rd w v l) (hne : some g ≠ v.ownBlock) : Rd (w.setCell ⟨g, i, none⟩ u) v l := by
  rcases h with h | ⟨b, off, cap, rfl, h1, h2, h3⟩
  · exact .inl h
  · refine .inr ⟨b, off, cap, rfl, h1, h2, fun j x hx => ?_⟩
    have hb : b ≠ g := fun e => hne (by rw [e]; rfl)
    rw [World.cell?_of_block (w := w) (a := ⟨b, off + j, none⟩) (Below.heap_setCell _ _ _ _ (by simpa using hb))]
    exact h3 j x hx

theorem row_set {w : World} {B n g i m : Nat} {v u : Value} {xs : List Value} (h : w.ownsRow B 40 1 v n xs) (hu : U8 w g m) : (w.setCell ⟨g, i, none⟩ u).ownsRow B 40 1 v n xs := by
  rcases h with ⟨h1, h2⟩
  refine ⟨h1, ?_⟩
  rcases h2 with h2 | ⟨q, cap, cur, rfl, hB, hq, r⟩
  · exact .inl h2
  · refine .inr ⟨q, cap, cur, rfl, hB, ?_, r⟩
    have hne : q ≠ g := by
      rintro rfl
      obtain ⟨cur', l, hg, _⟩ := hu
      rw [hq] at hg
      simp at hg
    rw [Below.heap_setCell _ _ _ _ (by simpa using hne)]
    exact hq

/-- what holds while the parts are turned -/
def Inv (B m : Nat) (w : World) (vs : List Value) (pv wv : Value) : Prop :=
  ∀ j, j < m → ∃ g c n, vs[j]? = some (.slice (some ⟨g, 0, none⟩) n c) ∧ n ≤ 100 ∧ n ≤ c ∧ c ≤ maxLen ∧ U8 w g n ∧ some g ≠ pv.ownBlock ∧ some g ≠ wv.ownBlock ∧ B ≤ g

theorem inv_set {B m : Nat} {w : World} {vs : List Value} {pv wv : Value} (h : Inv B m w vs pv wv) (g i : Nat) (b : UInt8) : Inv B m (w.setCell ⟨g, i, none⟩ (.int .u8 (b.toNat : Int))) vs pv wv := by
  intro j hj
  obtain ⟨g', c, n, e, h1, h2, h3, h4, h5, h6, h7⟩ := h j hj
  exact ⟨g', c, n, e, h1, h2, h3, u8_set h4 g i b, h5, h6, h7⟩

theorem xor_one (b : UInt8) : Value.int .u8 (bits BinOp.xor IntKind.u8 (b.toNat : Int) 1) = .int .u8 ((b ^^^ 1).toNat : Int) := by
  have h := u8_xor_nat b.toNat 1 b.toNat_lt (by omega)
  have e : ((1 : Nat) : Int) = 1 := rfl
  rw [e] at h
  rw [h]
  congr 1

end Go.Proofs.Ythcoblmfmbmdkaa

/- Ops of one's own are turned. -/
namespace Go.Proofs.Ythcoblmfmbmdkaa
open Go.RowKit

/-- a slice of bytes of the call's own, whichever they are -/
def SomeN (B : Nat) (w : World) (x : Value) : Prop := x = .slice none 0 0 ∨ ∃ g n c, x = .slice (some ⟨g, 0, none⟩) n c ∧ U8 w g n ∧ n ≤ c ∧ c ≤ maxLen ∧ B ≤ g

theorem OwnN.some {B : Nat} {w : World} {x : Value} {l : List UInt8} (h : OwnN B w x l) : SomeN B w x := by
  rcases h with h | h
  · exact .inl h.1
  · obtain ⟨g, c, rfl⟩ := h.shape
    have := u8_of_own h
    exact .inr ⟨g, _, c, rfl, this.1, this.2.1, this.2.2.1, this.2.2.2⟩

theorem SomeN.set {B : Nat} {w : World} {x : Value} (h : SomeN B w x) (g i : Nat) (b : UInt8) : SomeN B (w.setCell ⟨g, i, none⟩ (.int .u8 (b.toNat : Int))) x := by
  rcases h with h | ⟨g', n, c, e, h1, h2, h3, h4⟩
  · exact .inl h
  · exact .inr ⟨g', n, c, e, u8_set h1 g i b, h2, h3, h4⟩

/-- a row of ops of the call's own, and slices of its own in it -/
def RowC (B : Nat) (w : World) (v : Value) (n : Nat) (cs : List Value) : Prop :=
  w.ownsRow B 63 3 v n cs ∧ ∀ j, j < n → ∃ x y, cs[j * 3 + 1]? = some x ∧ cs[j * 3 + 2]? = some y ∧ SomeN B w x ∧ SomeN B w y

theorem RowC.set {B : Nat} {w : World} {v : Value} {n : Nat} {cs : List Value} (h : RowC B w v n cs) {g m : Nat} (hu : U8 w g m) (i : Nat) (b : UInt8) : RowC B (w.setCell ⟨g, i, none⟩ (.int .u8 (b.toNat : Int))) v n cs := by
  obtain ⟨⟨h1, h2⟩, h3⟩ := h
  refine ⟨⟨h1, ?_⟩, fun j hj => ?_⟩
  · rcases h2 with h2 | ⟨q, cap, cur, rfl, hB, hq, r⟩
    · exact .inl h2
    · refine .inr ⟨q, cap, cur, rfl, hB, ?_, r⟩
      have hne : q ≠ g := by
        rintro rfl
        obtain ⟨cur', l, hg, _⟩ := hu
        rw [hq] at hg
        simp at hg
      rw [Below.heap_setCell _ _ _ _ (by simpa using hne)]
      exact hq
  · obtain ⟨x, y, e1, e2, s1, s2⟩ := h3 j hj
    exact ⟨x, y, e1, e2, s1.set g i b, s2.set g i b⟩

theorem RowC.cells {B : Nat} {w : World} {g k n : Nat} {cs : List Value} (h : RowC B w (.slice (some ⟨g, 0, none⟩) n k) n cs) (j : Nat) (hj : j < n) : ∃ x y, cs[j * 3 + 1]? = some x ∧ cs[j * 3 + 2]? = some y ∧ w.cell? ⟨g, j * 3 + 1, none⟩ = some x ∧ w.cell? ⟨g, j * 3 + 2, none⟩ = some y ∧ SomeN B w x ∧ SomeN B w y := by
  obtain ⟨x, y, e1, e2, s1, s2⟩ := h.2 j hj
  have hc := h.1.cells (g := g) rfl
  refine ⟨x, y, e1, e2, ?_, ?_, s1, s2⟩
  · have := hc _ _ e1; rw [Addr.add_lit, Nat.zero_add] at this; exact this
  · have := hc _ _ e2; rw [Addr.add_lit, Nat.zero_add] at this; exact this

theorem rowC_of {B : Nat} {w : World} {v : Value} {os : List OpB} (h : OwnO B w v os) : ∃ cs, RowC B w v os.length cs := by
  obtain ⟨cs, hr, hj⟩ := h
  refine ⟨cs, hr, fun j h => ?_⟩
  obtain ⟨x, y, _, c1, c2, ox, oy⟩ := hj j h
  exact ⟨x, y, c1, c2, ox.some, oy.some⟩

end Go.Proofs.Ythcoblmfmbmdkaa

/- bartizanref04's Same. -/
namespace Go.Proofs.Ythcoblmfmbmdkaa
open Go.RowKit

theorem same_q (w : World) (a b : Value) (l l' : List UInt8) (x : Bool) (ha : Rd w a l) (hb : Rd w b l') (hx : (l == l') = x) :
    Calls Try.prog 24 #[a, b] w fun e w' => e = .returned (.bool x) ∧ ∃ n, w' = w.drewN n :=
  (same_b w a b l l' x ha hb hx).mono fun _ _ ⟨h1, h2⟩ => ⟨h1, 0, h2⟩

theorem opb_ext {a b : OpB} (h1 : a.1 = b.1) (h2 : a.2.1 = b.2.1) (h3 : a.2.2 = b.2.2) : a = b := by
  obtain ⟨a1, a2, a3⟩ := a
  obtain ⟨b1, b2, b3⟩ := b
  simp at h1 h2 h3
  subst h1 h2 h3
  rfl

set_option maxHeartbeats 4000000 in
set_option maxRecDepth 20000 in
theorem sameops_any (w : World) (va vb : Value) (os ps : List OpB) (r : Bool) (ha : RdO w va os) (hb : RdO w vb ps) (hr : decide (os = ps) = r) :
    Calls Try.prog 38 #[va, vb] w fun e w' => e = .returned (.bool r) ∧ ∃ n, w' = w.drewN n := by
  obtain ⟨ao, ac, rfl, h1, h2, h3⟩ := ha
  obtain ⟨bo, bc, rfl, g1, g2, g3⟩ := hb
  unfold maxLen at h2 g2
  have H3 : Hid _ := h3
  have G3 : Hid _ := g3
  have HR : Hid _ := hr
  clear h3 g3 hr
  by_cases hl : os.length = ps.length
  · have HL : Hid _ := hl
    obtain ⟨n, hn⟩ : ∃ n, os.length = n := ⟨_, rfl⟩
    rw [hn] at hl h1 ⊢
    rw [← hl] at g1 ⊢
    have HN : Hid _ := hn
    clear hn hl
    go_enter Try.func38, Try.ntmps38
    go_wp2_with fail
    go_loopg [13] n (fun gk iv wr => ∃ j m : Nat, gk + j = n ∧ iv = .int .i64 (j : Int) ∧ wr = w.drewN m ∧ os.take j = ps.take j)
    case atStart => exact ⟨0, 0, rfl, rfl, rfl, by simp⟩
    case round =>
      obtain ⟨j, m, hj, rfl, hwr, ht⟩ := hrel
      have HW : Hid (∀ n, wr.drewN n = w.drewN (m + n)) := by intro n; rw [hwr]; exact World.drewN_drewN _ _ _
      have HW0 : Hid _ := hwr
      have HT : Hid _ := ht
      clear ht
      by_cases hlt : j < n
      · have hlo : j < os.length := by rw [HN.out]; exact hlt
        have hlp : j < ps.length := by rw [← HL.out, HN.out]; exact hlt
        obtain ⟨b, off, rfl, xv, yv, c0, c1, c2, rx, ry⟩ := H3.out j hlo
        obtain ⟨b', off', rfl, xv', yv', d0, d1, d2, rx', ry'⟩ := G3.out j hlp
        obtain ⟨⟨ok, ol, om⟩, ho⟩ : ∃ o, os[j] = o := ⟨_, rfl⟩
        obtain ⟨⟨pk, pl, pm⟩, hp⟩ : ∃ o, ps[j] = o := ⟨_, rfl⟩
        rw [ho] at c0 rx ry
        rw [hp] at d0 rx' ry'
        have e0 : ∀ p, w.cell? p = wr.cell? p := by intro p; rw [hwr]; rfl
        have e1 : ∀ v l, Rd w v l → Rd wr v l := by rw [hwr]; exact fun _ _ h => h
        rw [e0] at c0 c1 c2 d0 d1 d2
        replace rx := e1 _ _ rx
        replace ry := e1 _ _ ry
        replace rx' := e1 _ _ rx'
        replace ry' := e1 _ _ ry'
        clear e0 e1
        clear hwr
        have HO : Hid _ := ho
        have HP : Hid _ := hp
        clear ho hp
        by_cases hk : ok = pk
        · subst hk
          obtain ⟨q, hq⟩ : ∃ q, (ol == pl) = q := ⟨_, rfl⟩
          have HQ : Hid _ := hq
          clear hq
          cases q
          · have hno : Hid (r = false) := by
              show _ = _
              rw [← HR.out]
              apply decide_eq_false
              rintro rfl
              have e := HO.out.symm.trans HP.out
              simp only [Prod.mk.injEq, true_and] at e
              have := HQ.out
              rw [e.1] at this
              simp at this
            go_wp2_with fail
            go_quiet (first
              | (go_at_call_of 24 xv; refine Calls.quiet_of (same_q _ _ _ ol pl false (by exact rx) (by exact rx') HQ.out)))
            go_wp2
            go_ret
            exact ⟨ret_bool (by rw [hno.out]), _, HW.out _⟩
          · obtain ⟨q2, hq2⟩ : ∃ q, (om == pm) = q := ⟨_, rfl⟩
            have HQ2 : Hid _ := hq2
            clear hq2
            cases q2
            · have hno : Hid (r = false) := by
                show _ = _
                rw [← HR.out]
                apply decide_eq_false
                rintro rfl
                have e := HO.out.symm.trans HP.out
                simp only [Prod.mk.injEq, true_and] at e
                have := HQ2.out
                rw [e.2] at this
                simp at this
              go_wp2_with fail
              go_quiet (first
                | (go_at_call_of 24 xv; refine Calls.quiet_of (same_q _ _ _ ol pl true (by exact rx) (by exact rx') HQ.out))
                | (go_at_call_of 24 yv; refine Calls.quiet_of (same_q _ _ _ om pm false (by exact ry) (by exact ry') HQ2.out)))
              go_wp2
              go_ret
              exact ⟨ret_bool (by rw [hno.out]), _, HW.out _⟩
            · have hyes : Hid (os.take (j + 1) = ps.take (j + 1)) := by
                show _ = _
                rw [List.take_succ_eq_append_getElem hlo, List.take_succ_eq_append_getElem hlp, HT.out, HO.out, HP.out, eq_of_beq HQ.out, eq_of_beq HQ2.out]
              go_wp2_with fail
              go_quiet (first
                | (go_at_call_of 24 xv; refine Calls.quiet_of (same_q _ _ _ ol pl true (by exact rx) (by exact rx') HQ.out))
                | (go_at_call_of 24 yv; refine Calls.quiet_of (same_q _ _ _ om pm true (by exact ry) (by exact ry') HQ2.out)))
              go_wp2
              go_roundg (gk - 1)
              case measure => omega
              case rel => exact ⟨j + 1, _, by omega, by go_num, HW.out _, hyes.out⟩
        · have hno : Hid (r = false) := by
            show _ = _
            rw [← HR.out]
            apply decide_eq_false
            rintro rfl
            have e := HO.out.symm.trans HP.out
            simp only [Prod.mk.injEq] at e
            exact hk e.1
          have hkk : ¬ (ok.toNat : Int) = (pk.toNat : Int) := fun e => hk (UInt8.toNat_inj.1 (by omega))
          have hk1 : decide ((ok.toNat : Int) = (pk.toNat : Int)) = false := decide_eq_false hkk
          have hk2 : ((ok.toNat : Int) != (pk.toNat : Int)) = true := by simp [hkk]
          clear hk
          go_wp2_with fail
          go_quiet (fail)
          go_wp2
          go_ret
          exact ⟨ret_bool (by rw [hno.out]), _, HW.out _⟩
      · obtain rfl : j = n := by omega
        have hyes : Hid (r = true) := by
          show _ = _
          rw [← HR.out]
          apply decide_eq_true
          have e := HT.out
          rw [List.take_of_length_le (by rw [HN.out]; omega), List.take_of_length_le (by rw [← HL.out, HN.out]; omega)] at e
          exact e
        clear hwr
        go_wp2
        go_ret
        exact ⟨ret_bool (by rw [hyes.out]), _, HW0.out⟩
  · have hno : Hid (r = false) := by
      show _ = _
      rw [← HR.out]
      apply decide_eq_false
      rintro rfl
      exact hl rfl
    go_enter Try.func38, Try.ntmps38
    go_wp2
    go_ret
    exact ⟨ret_bool (by rw [hno.out]), 0, rfl⟩

end Go.Proofs.Ythcoblmfmbmdkaa

/- For bartizanlaw10.run. -/
namespace Go.Proofs.Ythcoblmfmbmdkaa
set_option maxRecDepth 20000
open Go.RowKit
set_option linter.unusedVariables false
set_option linter.unusedSimpArgs false

theorem rdo_arg {w : World} {v : Value} {os : List OpB} (h : RdO w v os) : ArgO w v os := by
  obtain ⟨ao, cap, e, h1, h2, h3⟩ := h
  refine ⟨ao, cap, e, h1, h2, fun j hj => ?_⟩
  obtain ⟨b, off, e2, x, y, c0, c1, c2, r1, r2⟩ := h3 j hj
  exact ⟨b, off, e2, x, y, c0, c1, c2, r1.arg, r2.arg⟩

/-- behind i steps -/
def RunL (PM G : Nat → Prop) (W0 wr : World) (m x : Nat) (Z0 : List (OpB × Nat)) (i : Nat) : Prop :=
  ∃ (Y : List (OpB × Nat)) (PM' G' : Nat → Prop) (L : List EnB), RunI PM G W0 wr m x (Z0 ++ Y) PM' G' L ∧ Y.length ≤ 64 * i ∧ (∀ y ∈ Y, lastN (Z0.map (·.2)) < y.2) ∧ lastN (Z0.map (·.2)) ≤ lastN ((Z0 ++ Y).map (·.2))

theorem RunL.next {PM G PM' G' : Nat → Prop} {W0 W W1 W2 Wf : World} {F : Nat → Prop} {m x s i : Nat} {Z0 Y : List (OpB × Nat)} {L : List EnB} {ps : List OpB} {hs : List Int} {c : Int} {e1 e2 : Ending} (h : RunI PM G W0 W m x (Z0 ++ Y) PM' G' L) (hY : Y.length ≤ 64 * i) (hn : ∀ y ∈ Y, lastN (Z0.map (·.2)) < y.2) (hl : lastN (Z0.map (·.2)) ≤ lastN ((Z0 ++ Y).map (·.2)))
    (hc : batC ps (s : Int) hs ((lastN ((Z0 ++ Y).map (·.2)) : Nat) : Int) = c) (hq : BatQ PM' W m L (spnP (Z0 ++ Y)) ((lastN ((Z0 ++ Y).map (·.2)) : Nat) : Int) ps s c e1 W1) (hr : R10Post G' W1 x ((Z0 ++ Y).map (·.1)) ((Z0 ++ Y).map (·.2)) ps s c e2 W2)
    (hk : Keeps F W2 Wf) (hF : ∀ q, F q → (¬ PM' q ∧ ¬ G' q) ∧ W0.heap.size ≤ q ∧ q < W.heap.size) : RunL PM G W0 Wf m x Z0 (i + 1) := by
  obtain ⟨PM2, G2, L2, hI, _, hd⟩ := h.step hc hq hr
  have hI2 := hI.keeps hk (fun q hq => by
    have h9 := hF q hq
    refine ⟨fun h8 => ?_, fun h8 => ?_, h9.2.1⟩
    · rcases hd q (.inl h8) with (h7 | h7) | h7
      · exact h9.1.1 h7
      · exact h9.1.2 h7
      · omega
    · rcases hd q (.inr h8) with (h7 | h7) | h7
      · exact h9.1.1 h7
      · exact h9.1.2 h7
      · omega)
  by_cases h0 : c = 0
  · rw [if_pos h0, List.append_assoc] at hI2
    have hz := batC_zero (hc.trans h0)
    have h64 := (chkL_mem hz.1).1
    refine ⟨Y ++ zipS ps s, PM2, G2, L2, hI2, ?_, fun y hy => ?_, ?_⟩
    · have : (zipS ps s).length = ps.length := by unfold zipS; simp
      rw [List.length_append]
      omega
    · rcases List.mem_append.1 hy with h9 | h9
      · exact hn y h9
      · have h8 := zipS_mem h9
        have := hz.2.2
        omega
    · rw [← List.append_assoc, List.map_append, zipS_snd, lastN_app]
      split
      · exact hl
      · have := hz.2.2
        omega
  · rw [if_neg h0] at hI2
    exact ⟨Y, PM2, G2, L2, hI2, by omega, hn, hl⟩

/-- ops of one's own: their row, and what stays of it elsewhere -/
theorem ownO_split {B : Nat} {w : World} {v : Value} {os : List OpB} (h : OwnO B w v os) : ∃ cs, (∀ y ∈ cs, ∀ q, y.ownBlock = some q → B ≤ q ∧ q < w.heap.size) ∧ ∀ (F : Nat → Prop) (W : World), Keeps F w W → (∀ q, B ≤ q → q < w.heap.size → ¬ F q) → RowC B W v os.length cs ∧ RdO W v os := by
  obtain ⟨cs, h1, h2⟩ := h
  refine ⟨cs, fun y hy q hq => ?_, fun F W hk hF => ?_⟩
  · obtain ⟨i, hi, rfl⟩ := List.getElem_of_mem hy
    have hl : cs.length = os.length * 3 := h1.1
    obtain ⟨x, y, c0, c1, c2, ox, oy⟩ := h2 (i / 3) (by omega)
    have hc : cs[i]? = some cs[i] := List.getElem?_eq_getElem hi
    have h3 : i = i / 3 * 3 ∨ i = i / 3 * 3 + 1 ∨ i = i / 3 * 3 + 2 := by omega
    rcases h3 with h3 | h3 | h3
    · rw [← h3, hc] at c0
      rw [Option.some.inj c0] at hq
      simp [Value.ownBlock] at hq
    · rw [← h3, hc] at c1
      rw [Option.some.inj c1] at hq
      exact ownN_lt9 ox q hq
    · rw [← h3, hc] at c2
      rw [Option.some.inj c2] at hq
      exact ownN_lt9 oy q hq
  · have hs : ∀ q, B ≤ q ∧ q < w.heap.size → W.heap[q]? = w.heap[q]? := fun q hq => hk.block q hq.2 (hF q hq.1 hq.2)
    have h1' := row_same9 h1 (fun q hq => hs q (h1.lt q hq))
    have h2' : ∀ j (h : j < os.length), ∃ x y, cs[j * 3]? = some (.int .u8 (os[j].1.toNat : Int)) ∧ cs[j * 3 + 1]? = some x ∧ cs[j * 3 + 2]? = some y ∧ OwnN B W x os[j].2.1 ∧ OwnN B W y os[j].2.2 := fun j hj => by
      obtain ⟨x, y, c0, c1, c2, ox, oy⟩ := h2 j hj
      exact ⟨x, y, c0, c1, c2, ownN_same9 ox (fun q hq => hs q (ownN_lt9 ox q hq)), ownN_same9 oy (fun q hq => hs q (ownN_lt9 oy q hq))⟩
    refine ⟨⟨h1', fun j hj => ?_⟩, OwnO.rd ⟨cs, h1', h2'⟩⟩
    obtain ⟨x, y, _, c1, c2, ox, oy⟩ := h2' j hj
    exact ⟨x, y, c1, c2, ox.some, oy.some⟩

end Go.Proofs.Ythcoblmfmbmdkaa

/- A nil memo, and the document's. -/
namespace Go.Proofs.Ythcoblmfmbmdkaa
set_option maxRecDepth 100000
open Go.RowKit
set_option linter.unusedVariables false
set_option linter.unusedSimpArgs false

theorem eqNilM : ∀ w : World, (binOp .eql 26 (.pointer none) (.pointer none)).run Try.prog w = .ok (.bool true) w := fun _ => rfl
theorem eqNilR : ∀ w : World, (binOp .eql 28 (.pointer none) (.pointer none)).run Try.prog w = .ok (.bool true) w := fun _ => rfl
theorem neNilR : ∀ w : World, (binOp .neq 28 (.pointer none) (.pointer none)).run Try.prog w = .ok (.bool false) w := fun _ => rfl

theorem mnilLast_any (w : World) : Calls Try.prog 12 #[.pointer none] w fun e w' => e = .returned (.int .u64 0) ∧ w' = w := by
  have he := eqNilM
  go_enter Try.func12, Try.ntmps12
  go_wp2
  go_ret
  exact ⟨rfl, rfl⟩

theorem mnilEntries_any (w : World) : Calls Try.prog 17 #[.pointer none] w fun e w' => e = .returned (.slice none 0 0) ∧ w' = w := by
  have he := eqNilM
  go_enter Try.func17, Try.ntmps17
  go_wp2
  go_ret
  exact ⟨rfl, rfl⟩

theorem mnilSpans_any (w : World) : Calls Try.prog 19 #[.pointer none] w fun e w' => e = .returned (.slice none 0 0) ∧ w' = w := by
  have he := eqNilM
  go_enter Try.func19, Try.ntmps19
  go_wp2
  go_ret
  exact ⟨rfl, rfl⟩

theorem mnilSize_any (w : World) : Calls Try.prog 20 #[.pointer none] w fun e w' => e = .returned (.int .i64 0) ∧ w' = w := by
  have he := eqNilM
  go_enter Try.func20, Try.ntmps20
  go_wp2
  go_ret
  exact ⟨rfl, rfl⟩

theorem mnilGet_any (w : World) (a : Option Addr) (n c : Nat) (s : Int) : Calls Try.prog 22 #[.pointer none, .slice a n c, .int .u64 s] w fun e w' => e = .returned (.tuple #[.slice none 0 0, .int .i64 0]) ∧ w' = w := by
  have he := eqNilM
  go_enter Try.func22, Try.ntmps22
  go_wp2_with fail
  refine bodyPost_ret (v := .tuple #[.slice none 0 0, .int .i64 0]) (by simp [results, Try.results22, go_sem]) rfl ?_
  exact ⟨rfl, rfl⟩

theorem mnilBatch_any (w : World) (a b : Option Addr) (n c m d : Nat) (s : Int) : Calls Try.prog 29 #[.pointer none, .slice a n c, .int .u64 s, .slice b m d] w fun e w' => e = .returned (.int .i64 6) ∧ w' = w := by
  have he := eqNilM
  go_enter Try.func29, Try.ntmps29
  go_wp2
  go_ret
  exact ⟨rfl, rfl⟩

theorem mnilDo_any (w : World) (k s hh : Int) (a b : Option Addr) (n c m d : Nat) : Calls Try.prog 30 #[.pointer none, .agg #[.int .u8 k, .slice a n c, .slice b m d], .int .u64 s, .int .i64 hh] w fun e w' => e = .returned (.int .i64 6) ∧ Below w.heap.size w w' := by
  have hb1 := below_box w #[.int .u8 k, .slice a n c, .slice b m d] 63
  have hb2 := bsplit hb1 (below_box (w.alloc (.cells #[.int .u8 k, .slice a n c, .slice b m d] 63)) #[.int .u8 k, .slice a n c, .slice b m d] 63)
  have hb3 := bsplit hb2 (below_box ((w.alloc (.cells #[.int .u8 k, .slice a n c, .slice b m d] 63)).alloc (.cells #[.int .u8 k, .slice a n c, .slice b m d] 63)) #[.int .i64 hh] 3)
  have HB : Hid _ := hb3
  clear hb1 hb2 hb3
  go_enter Try.func30, Try.ntmps30
  go_wp2_with fail
  refine (mnilBatch_any _ _ _ _ _ _ _ _).mono ?_
  rintro e w1 ⟨rfl, rfl⟩
  go_wp2
  go_ret
  exact ⟨rfl, HB.out⟩

theorem r10nilLast_any (w : World) : Calls Try.prog 13 #[.pointer none] w fun e w' => e = .returned (.int .u64 0) ∧ w' = w := by
  have he := eqNilR
  go_enter Try.func13, Try.ntmps13
  go_wp2
  go_ret
  exact ⟨rfl, rfl⟩

theorem r10nilEntries_any (w : World) : Calls Try.prog 14 #[.pointer none] w fun e w' => e = .returned (.slice none 0 0) ∧ w' = w := by
  have he := eqNilR
  go_enter Try.func14, Try.ntmps14
  go_wp2
  go_ret
  exact ⟨rfl, rfl⟩

theorem r10nilSpans_any (w : World) : Calls Try.prog 15 #[.pointer none] w fun e w' => e = .returned (.slice none 0 0) ∧ w' = w := by
  have he := neNilR
  go_enter Try.func15, Try.ntmps15
  go_wp2
  go_ret
  exact ⟨rfl, rfl⟩

theorem r10nilGet_any (w : World) (a : Option Addr) (n c : Nat) (s : Int) : Calls Try.prog 23 #[.pointer none, .slice a n c, .int .u64 s] w fun e w' => e = .returned (.tuple #[.slice none 0 0, .int .i64 0]) ∧ w' = w := by
  have he := eqNilR
  go_enter Try.func23, Try.ntmps23
  go_wp2_with fail
  refine bodyPost_ret (v := .tuple #[.slice none 0 0, .int .i64 0]) (by simp [results, Try.results23, go_sem]) rfl ?_
  exact ⟨rfl, rfl⟩

theorem r10nilBatch_any (w : World) (a b : Option Addr) (n c m d : Nat) (s : Int) : Calls Try.prog 37 #[.pointer none, .slice a n c, .int .u64 s, .slice b m d] w fun e w' => e = .returned (.int .i64 6) ∧ w' = w := by
  have he := eqNilR
  go_enter Try.func37, Try.ntmps37
  go_wp2
  go_ret
  exact ⟨rfl, rfl⟩

theorem r10nilDo_any (w : World) (k s hh : Int) (a b : Option Addr) (n c m d : Nat) : Calls Try.prog 36 #[.pointer none, .agg #[.int .u8 k, .slice a n c, .slice b m d], .int .u64 s, .int .i64 hh] w fun e w' => e = .returned (.int .i64 6) ∧ Below w.heap.size w w' := by
  have he := eqNilR
  have hb1 := below_box w #[.int .u8 k, .slice a n c, .slice b m d] 63
  have HB : Hid _ := hb1
  clear hb1
  go_enter Try.func36, Try.ntmps36
  go_wp2
  go_ret
  exact ⟨rfl, HB.out⟩

end Go.Proofs.Ythcoblmfmbmdkaa

/- bartizanlaw10.run: a script on two nil memos. -/
namespace Go.Proofs.Ythcoblmfmbmdkaa
set_option maxRecDepth 100000
open Go.RowKit
set_option linter.unusedVariables false
set_option linter.unusedSimpArgs false

set_option maxHeartbeats 8000000 in
theorem mrunnil_any (W0 : World) (v : Value) (sts : List MSt) (hv : ArgM W0 v sts) :
    Calls Try.prog 11 #[.pointer none, .pointer none, v] W0 fun e w' => e = .returned (.bool true) ∧ Below W0.heap.size W0 w' := by
  obtain ⟨i0, hi, hz0, hz1, hz2⟩ := info_parts infoI
  have HV : Hid (ArgM W0 v sts) := hv
  obtain ⟨va, vc, rfl, h1, h2, _⟩ := hv
  obtain ⟨NS, hNS⟩ : ∃ NS, sts.length = NS := ⟨_, rfl⟩
  rw [hNS] at h1 HV ⊢
  have HNS : Hid (sts.length = NS) := hNS
  clear hNS
  go_enter Try.func11, Try.ntmps11
  go_wp2_with fail
  go_loopg [17] NS (fun gk iv wr => ∃ i : Nat, gk + i = NS ∧ iv = .int .i64 (i : Int) ∧ i ≤ 30 ∧ Hid (Below W0.heap.size W0 wr))
  case atStart => exact ⟨0, by omega, rfl, by omega, Below.refl _ _⟩
  case round =>
    obtain ⟨i, hgi, rfl, hi30, HW⟩ := hrel
    obtain ⟨GK, hGK⟩ : ∃ GK, gk = GK := ⟨_, rfl⟩
    rw [hGK] at hgi
    by_cases hlt : i < NS
    · have hlt2 : i < sts.length := by rw [HNS.out]; exact hlt
      obtain ⟨q1, q2⟩ := gk_nxt hgi hlt
      obtain ⟨_, _, e9, _, _, h3⟩ := HV.out.below HW.out (Nat.le_refl _)
      rw [HNS.out] at e9
      cases e9
      obtain ⟨gb, off, rfl, v1, v3, hst⟩ := h3 i hlt2
      obtain ⟨o, ho⟩ : ∃ o, sts[i] = o := ⟨_, rfl⟩
      rw [ho] at hst
      obtain ⟨d0, d1, d2, d3, a1, a3, s2⟩ := hst
      obtain ⟨S, hS⟩ : ∃ S : Int, (o.seq : Int) = S := ⟨_, rfl⟩
      rw [hS] at d2
      obtain ⟨al, hal⟩ : ∃ al, o.alone = al := ⟨_, rfl⟩
      rw [hal] at d0
      obtain ⟨oa, oc, ev1, _⟩ := a1
      obtain ⟨ha, hl, hc, zs, ev3, hrow, hhts⟩ := a3
      subst ev1 ev3
      have hstI : MStAt wr gb (off + i * 4) o (.slice oa o.ops.length oc) (.slice ha hl hc) := (by have h9 := h3 i hlt2; obtain ⟨b', off', e', v1', v3', h8⟩ := h9; cases e'; rw [ho] at h8; have e1 := h8.c1; have e3 := h8.c3; rw [d1] at e1; rw [d3] at e3; cases e1; cases e3; exact h8)
      have HST : Hid (MStAt wr gb (off + i * 4) o (.slice oa o.ops.length oc) (.slice ha hl hc)) := hstI
      have hb0 := below_box4 wr (.cells #[.bool al, .slice oa o.ops.length oc, .int .u64 S, .slice ha hl hc] 86)
      have bx := box4f_new wr (.bool al) (.slice oa o.ops.length oc) (.int .u64 S) (.slice ha hl hc) 86
      obtain ⟨OL, hOL⟩ : ∃ OL, o.ops.length = OL := ⟨_, rfl⟩
      have hfw := fewop_any (wr.alloc (.cells #[.bool al, .slice oa o.ops.length oc, .int .u64 S, .slice ha hl hc] 86)) (.slice oa o.ops.length oc) o.ops 66 (LsO.belowA hstI.a1 hb0 (Nat.le_refl _)) (by omega)
      rw [hOL] at hfw hb0 bx d1 HST
      obtain ⟨ls, hls⟩ : ∃ ls, fewO 66 o.ops = ls := ⟨_, rfl⟩
      rw [hls] at hfw
      obtain ⟨⟨b0, b1, b2, b3⟩, _, _, _, _⟩ := bx
      have HSS : Hid ((o.seq : Int) = S ∧ o.seq < 18446744073709551616) := ⟨hS, s2⟩
      have HLS : Hid (fewO 66 o.ops = ls) := hls
      have HB0 : Hid (Below wr.heap.size wr (wr.alloc (.cells #[.bool al, .slice oa OL oc, .int .u64 S, .slice ha hl hc] 86))) := hb0
      have BX : Hid (Box4f (wr.alloc (.cells #[.bool al, .slice oa OL oc, .int .u64 S, .slice ha hl hc] 86)) wr.heap.size (.bool al) (.slice oa OL oc) (.int .u64 S) (.slice ha hl hc)) := box4f_new wr _ _ _ _ _
      clear h3 hS hal hOL hls hstI hb0 ho s2
      by_cases h30 : (30 : Int) ≤ (i : Int)
      · go_wp2
        go_ret
        exact ⟨rfl, bsplit HW.out HB0.out⟩
      · have hi29 : i + 1 ≤ 30 := by omega
        have h30b : (i : Int) < 30 := by omega
        go_wp2_with fail
        refine hfw.mono ?_
        rintro e w1 ⟨lv, rfl, ol, hb1⟩
        have HB1 : Hid (Below wr.heap.size wr w1) := bsplit HB0.out hb1
        have BX1 : Hid (Box4f w1 wr.heap.size (.bool al) (.slice oa OL oc) (.int .u64 S) (.slice ha hl hc)) := BX.out.below hb1 (Nat.le_refl _)
        have HSA : Hid (wr.heap.size < (wr.alloc (.cells #[.bool al, .slice oa OL oc, .int .u64 S, .slice ha hl hc] 86)).heap.size ∧ (wr.alloc (.cells #[.bool al, .slice oa OL oc, .int .u64 S, .slice ha hl hc] 86)).heap.size ≤ w1.heap.size) := ⟨by simp, hb1.size⟩
        have hlens : ls.length ≤ 66 ∧ ∀ p ∈ ls, p.2.1.length ≤ 1000000 ∧ p.2.2.length ≤ 1000000 := by
          rw [← HLS.out]
          unfold fewO
          refine ⟨by rw [List.length_map, List.length_take]; omega, fun p hp => ?_⟩
          obtain ⟨q, _, rfl⟩ := List.mem_map.1 hp
          unfold cutOp
          simp only [List.length_take]
          omega
        have hcp := opcopy_any w1 lv ls (rdo_arg ol.rd) (by omega) hlens.2
        have HLL : Hid (ls.length ≤ 66 ∧ ∀ p ∈ ls, p.2.1.length ≤ 1000000 ∧ p.2.2.length ≤ 1000000) := hlens
        obtain ⟨la, lc, rfl, hl1, hl2, _⟩ := ol.rd
        obtain ⟨K, hK⟩ : ∃ K, ls.length = K := ⟨_, rfl⟩
        rw [hK] at hcp ol hl1 ⊢
        have HOL : Hid (OwnO (wr.alloc (.cells #[.bool al, .slice oa OL oc, .int .u64 S, .slice ha hl hc] 86)).heap.size w1 (.slice la K lc) ls) := ol
        have HK : Hid (ls.length = K) := hK
        have hK66 : K ≤ 66 := by rw [← hK]; exact hlens.1
        unfold maxLen at hl2
        clear hfw hb1 ol hlens hK b0 b1 b2 b3 BX
        go_wp2_with fail
        refine hcp.mono ?_
        rintro e w2 ⟨mv, rfl, om, hb2⟩
        have HB2 : Hid (Below wr.heap.size wr w2) := bsplit HB1.out hb2
        have BX2 : Hid (Box4f w2 wr.heap.size (.bool al) (.slice oa OL oc) (.int .u64 S) (.slice ha hl hc)) := BX1.out.below hb2 (Nat.le_refl _)
        have HOL2 : Hid (OwnO (wr.alloc (.cells #[.bool al, .slice oa OL oc, .int .u64 S, .slice ha hl hc] 86)).heap.size w2 (.slice la K lc) ls) := HOL.out.below hb2 (Nat.le_refl _)
        obtain ⟨ma, mc, rfl, hm1, hm2, _⟩ := om.rd
        rw [HK.out] at om hm1 ⊢
        have HOM : Hid (OwnO w1.heap.size w2 (.slice ma K mc) ls) := om
        have HS12 : Hid (w1.heap.size ≤ w2.heap.size) := hb2.size
        unfold maxLen at hm2
        have HH66 : Hid (o.hts = zs.take hl) := hhts
        have hrow2 := isRow_below hrow HB2.out (Nat.le_refl _)
        have HRW : Hid (IsRow .i64 w2 ha hl hc zs) := hrow2
        obtain ⟨⟨b0, b1, b2, b3⟩, _, _, _, _⟩ := BX2.out
        clear hcp hb2 om HOL hrow hrow2 hhts HB1 BX1
        go_upto_region 7 with fail
        go_cut [11] (fun hv wx => ∃ (ha' : Option Addr) (hn hc' : Nat), hv = .slice ha' hn hc' ∧ hn ≤ 66 ∧ Hid ((o.hts.take 66).length = hn) ∧ Hid (RowI w2.heap.size wx hv (o.hts.take 66)) ∧ Hid (Below w2.heap.size w2 wx))
        case first =>
          have hown0 : (w2.alloc (.cells #[] 3)).ownsRow w2.heap.size 3 1 (.slice (some ⟨w2.heap.size, 0, none⟩) 0 0) 0 [] := World.ownsRow_lit w2 #[] 0 (Nat.le_refl _) (Nat.zero_le _) rfl
          have hbe : Below w2.heap.size w2 (w2.alloc (.cells #[] 3)) := (Below.refl _ _).alloc (Nat.le_refl _) _
          obtain ⟨⟨y0, y1, y2, y3⟩, _, _, _, _⟩ := BX2.out.below hbe (Nat.le_refl _)
          rcases HRW.out with ⟨rfl, rfl, rfl, rfl⟩ | ⟨xx, rfl, hr1, hr2, hr3, hr4, _⟩
          · have hmin : min (0 : Int) (66 : Int) = 0 := by omega
            have hnil : o.hts.take 66 = [] := by rw [HH66.out]; rfl
            have HNIL : Hid (o.hts.take 66 = []) := hnil
            have HBE : Hid (Below w2.heap.size w2 (w2.alloc (.cells #[] 3))) := hbe
            clear hnil hbe
            go_wp2_with (first | (at_builtin; refine wpList_append_own_none rfl (.tmp 29) (.tmp 36) 67 rfl w2.heap.size 3 i0 1 Try.underlying67 hi _ _ _ rfl hown0 rfl ?_) | fail)
            go_meet
            exact ⟨_, 0, 0, rfl, by omega, by rw [HNIL.out]; rfl, by rw [HNIL.out]; exact hown0, HBE⟩
          · unfold maxLen at hr2
            obtain ⟨k, hk⟩ : ∃ k, (o.hts.take 66).length = k := ⟨_, rfl⟩
            have hk2 : k = min 66 hl := by rw [← hk, HH66.out, List.length_take, List.length_take, hr3]; omega
            have hmin : min (hl : Int) (66 : Int) = (k : Int) := by omega
            have hmin2 : (if 66 < hl then (66 : Int) else (hl : Int)) = (k : Int) := by split <;> omega
            have hkl : k ≤ hl := by omega
            have hkn : k ≤ 66 := by omega
            have h4 : ∀ j u, ((o.hts.take 66).map (fun h => Value.int .i64 h))[j]? = some u → (w2.alloc (.cells #[] 3)).cell? (xx.add j) = some u := fun j u hu => by
              have hj : j < k := by have := (List.getElem?_eq_some_iff.1 hu).1; rw [List.length_map, hk] at this; exact this
              have h9 := hr4 j (by omega)
              have h8 := (hbe.cell (World.block_lt_of_cell? w2 _ h9)).trans h9
              rw [h8, ← hu, List.getElem?_map, HH66.out, List.getElem?_take_of_lt (by omega), List.getElem?_take_of_lt (by omega), List.getElem?_eq_getElem (by omega)]
              simp [List.getD_eq_getElem?_getD, List.getElem?_eq_getElem (show j < zs.length by omega)]
            have HKH : Hid ((o.hts.take 66).length = k) := hk
            have HBE : Hid (Below w2.heap.size w2 (w2.alloc (.cells #[] 3))) := hbe
            clear hk hk2 hr4 hbe
            go_wp2_with (first | (at_builtin; refine wpList_append_own _ rfl (.tmp 29) (.tmp 36) 67 rfl w2.heap.size 3 i0 (.int .i64 0) 1 8 Try.underlying67 hi hz0 hz1 hz2 rfl (by decide) (.slice (some ⟨w2.heap.size, 0, none⟩) 0 0) 0 [] rfl hown0 xx k hc ((o.hts.take 66).map (fun h => Value.int .i64 h)) rfl (by rw [List.length_map, HKH.out, Nat.mul_one]) h4 (by intro u hu; obtain ⟨a, _, rfl⟩ := List.mem_map.1 hu; rfl) (by simp only [maxLen]; omega) (by omega) (by simp) ?_; intro v' w5 ho' hgr' hn') | fail)
            go_meet
            have hri : RowI w2.heap.size w5 v' (o.hts.take 66) := by
              unfold RowI
              rw [HKH.out]
              simpa using ho'
            obtain ⟨ra, rc, er⟩ := row_slice10 hri
            rw [HKH.out] at er
            subst er
            exact ⟨_, k, _, rfl, hkn, HKH.out, hri, HBE.out.grown hgr' (by simp) (fun k' e => (hown0.lt k' e).1)⟩
        case rest =>
          obtain ⟨ha', hn, hc', rfl, hn66, HHL, HHR, HB3⟩ := hcut
          obtain ⟨wx, hwx⟩ : ∃ wx, wx = wc := ⟨_, rfl⟩
          subst hwx
          have HBx : Hid (Below wr.heap.size wr wx) := bsplit HB2.out HB3.out
          have BX3 : Hid (Box4f wx wr.heap.size (.bool al) (.slice oa OL oc) (.int .u64 S) (.slice ha hl hc)) := BX2.out.below HB3.out (Nat.le_refl _)
          have hsp := ownO_split HOM.out
          obtain ⟨cs, hcsb, hrc⟩ := hsp
          have HCB : Hid (∀ y ∈ cs, ∀ q, y.ownBlock = some q → w1.heap.size ≤ q ∧ q < w2.heap.size) := hcsb
          rw [HK.out] at hrc
          have hspl := ownO_split HOL2.out
          obtain ⟨csl, _, hrl⟩ := hspl
          rw [HK.out] at hrl
          have HRC : Hid (∀ W, Below w2.heap.size w2 W → RowC w1.heap.size W (.slice ma K mc) K cs ∧ RdO W (.slice ma K mc) ls ∧ RdO W (.slice la K lc) ls) := fun W hk => by
            have h1 := hrc (fun _ => False) W (Below.keeps hk _) (fun q h1 h2 h3 => h3)
            exact ⟨h1.1, h1.2, (hrl (fun _ => False) W (Below.keeps hk _) (fun q h1 h2 h3 => h3)).2⟩
          obtain ⟨ra, rc, er, hra, hrn, hrd⟩ := HHR.out.rdi
          rw [HHL.out] at er hrn hrd
          cases er
          have HRD : Hid (∀ W, Below wx.heap.size wx W → RdI W ha' hn (o.hts.take 66)) := fun W hk => hrd (fun _ => False) W (Below.keeps hk _) (fun q h1 h2 => h2)
          obtain ⟨⟨b0, b1, b2, b3⟩, _, _, _, _⟩ := BX3.out
          clear hcsb hrc hrl hrd BX2 HHR
          cases al
          · go_upto_if 44 with fail
            go_cut [] (fun wy => Hid (Below wx.heap.size wx wy))
            case first =>
              have HSB : Hid (∀ W, Below wx.heap.size wx W → W.cell? ⟨wr.heap.size, 2, none⟩ = some (.int .u64 S)) := fun W hk => (hk.cell (p := ⟨wr.heap.size, 2, none⟩) (World.block_lt_of_cell? _ _ b2)).trans b2
              have hb2d : wx.drew.cell? ⟨wr.heap.size, 2, none⟩ = some (.int .u64 S) := b2
              have hdx : Below wx.heap.size wx wx.drew := (Below.refl _ _).drew
              clear hra hrn
              go_wp2_with fail
              go_region_held3 (fun w' => w'.cell? ⟨wr.heap.size, 2, none⟩ = some (.int .u64 S))
                (first | with_reducible exact hb2d | fail "keep")
                (first
                  | (go_at_call 29
                     refine Calls.mono (mnilBatch_any _ _ _ _ _ _ _ _) ?_
                     rintro e w5 ⟨rfl, rfl⟩)
                  | (go_at_call 37
                     refine Calls.mono (r10nilBatch_any _ _ _ _ _ _ _ _) ?_
                     rintro e w5 ⟨rfl, rfl⟩)
                  | fail "arm")
              all_goals
                go_wp2_with fail
                go_meet
                exact hdx
            case rest =>
              obtain ⟨wy, hwy⟩ : ∃ wy, wy = wc := ⟨_, rfl⟩
              subst hwy
              have HYC : Hid (Below wx.heap.size wx wy) := hcut
              have hry := HRC.out wy (bsplit HB3.out HYC.out)
              have hsm := sameops_any wy (.slice ma K mc) (.slice la K lc) ls ls true hry.2.1 hry.2.2 (by simp)
              have HRY : Hid (RowC w1.heap.size wy (.slice ma K mc) K cs) := hry.1
              clear hry hcut
              go_wp2_with fail
              refine hsm.mono ?_
              rintro e wz ⟨rfl, nn, hwz⟩
              have HRZ : Hid (RowC w1.heap.size wz (.slice ma K mc) K cs ∧ Keeps (fun q => w1.heap.size ≤ q ∧ q < w2.heap.size) wy wz) := by
                rw [hwz]
                exact ⟨HRY.out, Below.keeps (below_drewN (Below.refl _ _) _) _⟩
              clear hsm hwz HRY
              obtain ⟨wo, hwo⟩ : ∃ wo, wo = wr := ⟨_, rfl⟩
              subst hwo
              go_wp2_with fail
              go_loopg [87] K (fun gk iv wr => ∃ j : Nat, gk + j = K ∧ iv = .int .i64 (j : Int) ∧ Hid (RowC w1.heap.size wr (.slice ma K mc) K cs ∧ Keeps (fun q => w1.heap.size ≤ q ∧ q < w2.heap.size) wy wr))
              case atStart => exact ⟨0, by omega, rfl, HRZ⟩
              case round =>
                obtain ⟨j, hj2, rfl, HR⟩ := hrel
                obtain ⟨GJ, hGJ⟩ : ∃ GJ, gk = GJ := ⟨_, rfl⟩
                rw [hGJ] at hj2
                by_cases hltj : j < K
                · obtain ⟨p1, p2⟩ := gk_nxt hj2 hltj
                  obtain ⟨g, k, hg⟩ : ∃ g k, Value.slice ma K mc = .slice (some ⟨g, 0, none⟩) K k := by
                    obtain ⟨g, k, e, _, _⟩ := HR.out.1.1.form (by omega)
                    exact ⟨g, k, e⟩
                  cases hg
                  obtain ⟨xv, yv, ex, ey, cx, cy, sx, sy⟩ := HR.out.1.cells j hltj
                  have HEY : Hid (cs[j * 3 + 2]? = some yv) := ey
                  obtain ⟨ya, yn, yc, hyy⟩ : ∃ ya yn yc, yv = .slice ya yn yc := by
                    rcases sy with h9 | ⟨g', n, c', e, _⟩
                    · exact ⟨_, _, _, h9⟩
                    · exact ⟨_, _, _, e⟩
                  subst hyy
                  have hym : yn ≤ 9223372036854775807 := by
                    rcases sy with h9 | ⟨g', n, c', e, _, h1, h2, _⟩
                    · cases h9; omega
                    · cases e; unfold maxLen at h2; omega
                  clear sx sy ex ey cx
                  obtain ⟨wp, hwp⟩ : ∃ wp, wp = wr := ⟨_, rfl⟩
                  subst hwp
                  go_wp2_with fail
                  clear cy
                  go_loopg [96] yn (fun gk iv wr => ∃ i : Nat, gk + i = yn ∧ iv = .int .i64 (i : Int) ∧ Hid (RowC w1.heap.size wr (.slice (some ⟨g, 0, none⟩) K mc) K cs ∧ Keeps (fun q => w1.heap.size ≤ q ∧ q < w2.heap.size) wy wr))
                  case atStart => exact ⟨0, by omega, rfl, HR⟩
                  case round =>
                    clear HR
                    obtain ⟨ii, hi2, rfl, HR⟩ := hrel
                    obtain ⟨xv, yv, ex, ey, cx, cy, sx, sy⟩ := HR.out.1.cells j hltj
                    obtain rfl : yv = .slice ya yn yc := by
                      have e2 := HEY.out.symm.trans ey
                      simp at e2
                      exact e2.symm
                    clear ex
                    by_cases hlt3 : ii < yn
                    · obtain ⟨p3, p4⟩ := gk_nxt hi2 hlt3
                      rcases sy with h9 | ⟨gy, n, c', e, hu, h1, h2, h3⟩
                      · cases h9; omega
                      · cases e
                        unfold maxLen at h2
                        have hblk := HCB.out _ (List.mem_of_getElem? ey) gy rfl
                        obtain ⟨bb, hcy, hfy⟩ := u8_cell hu ii hlt3
                        have hxb := bb.toNat_lt
                        have r1 := HR.out.1.set hu ii (bb ^^^ 1)
                        have r2 := HR.out.2.setCell (p := ⟨gy, ii, none⟩) hblk (.int .u8 ((bb ^^^ 1).toNat : Int))
                        have hx1 := xor_one bb
                        have HQ1 : Hid (RowC w1.heap.size (wr.setCell ⟨gy, ii, none⟩ (.int .u8 ((bb ^^^ 1).toNat : Int))) (.slice (some ⟨g, 0, none⟩) K mc) K cs ∧ Keeps (fun q => w1.heap.size ≤ q ∧ q < w2.heap.size) wy (wr.setCell ⟨gy, ii, none⟩ (.int .u8 ((bb ^^^ 1).toNat : Int)))) := ⟨r1, r2⟩
                        clear HR hu r1 r2 ey sx cx hblk
                        go_wp2
                        go_roundg (gk - 1)
                        case measure => exact p3
                        case rel => exact ⟨ii + 1, p4, by go_num, HQ1⟩
                    · obtain rfl : ii = yn := by omega
                      clear sx sy cx cy ey
                      go_wp2_with fail
                      go_roundg (GJ - 1)
                      case measure => rw [hGJ]; exact p1
                      case rel => exact ⟨j + 1, p2, by go_num, HR⟩
                · obtain rfl : j = K := by omega
                  have HNX : Hid (Below W0.heap.size W0 wr) := by
                    have a1 := HSA.out
                    have a2 := HB3.out.size
                    have a3 := HYC.out.size
                    have a4 := HW.out.size
                    exact (bsplit (bsplit HW.out HBx.out) HYC.out).trans (HR.out.2.below (fun i hi => by have h9 : w1.heap.size ≤ i := hi.1; omega) (by have := HS12.out; omega))
                  go_wp2_with fail
                  go_roundg (GK - 1)
                  case measure => rw [hGK]; exact q1
                  case rel => exact ⟨i + 1, q2, by go_num, hi29, HNX⟩
          · go_upto_if 44 with fail
            go_cut [] (fun wy => Hid (Below wx.heap.size wx wy))
            case first =>
              by_cases hK0 : 0 < K
              · have hK0I : (0 : Int) < (K : Int) := by omega
                have hdx : Below wx.heap.size wx wx.drew := (Below.refl _ _).drew
                have hK0' : 0 < ls.length := by rw [HK.out]; exact hK0
                obtain ⟨⟨k, kl, vl⟩, ho0⟩ : ∃ p, ls[0] = p := ⟨_, rfl⟩
                obtain ⟨csm, rm, em⟩ := HOM.out
                obtain ⟨xs, ys, m0, m1, m2, oxs, oys⟩ := em 0 hK0'
                rw [ho0] at m0 oxs oys
                rw [HK.out] at rm
                obtain ⟨gm, cm, eg, _⟩ := rm.form (by omega)
                cases eg
                obtain ⟨csq, rl, el⟩ := HOL2.out
                obtain ⟨xl, yl, l0, l1, l2, oxl, oyl⟩ := el 0 hK0'
                rw [ho0] at l0 oxl oyl
                rw [HK.out] at rl
                obtain ⟨gl, cl, eg, _⟩ := rl.form (by omega)
                cases eg
                simp only at m0 m1 m2 oxs oys l0 l1 l2 oxl oyl
                obtain ⟨kk, hkk⟩ : ∃ kk : Int, (k.toNat : Int) = kk := ⟨_, rfl⟩
                obtain ⟨nl, hnl⟩ : ∃ nl, kl.length = nl := ⟨_, rfl⟩
                obtain ⟨ml, hml⟩ : ∃ ml, vl.length = ml := ⟨_, rfl⟩
                obtain ⟨x1, x2, ex⟩ := oxs.rd.len
                obtain ⟨y1, y2, ey⟩ := oys.rd.len
                obtain ⟨u1, u2, eu⟩ := oxl.rd.len
                obtain ⟨v1, v2, ev⟩ := oyl.rd.len
                subst ex ey eu ev
                rw [hnl] at oxs oxl m1 l1
                rw [hml] at oys oyl m2 l2
                rw [hkk] at m0 l0
                have cm0 : w2.cell? ⟨gm, 0, none⟩ = some (.int .u8 kk) := by rw [World.ownsRow.cellAt rm 0 (by omega)]; exact m0
                have cm1 : w2.cell? ⟨gm, 1, none⟩ = some (.slice x1 nl x2) := by rw [World.ownsRow.cellAt rm 1 (by omega)]; exact m1
                have cm2 : w2.cell? ⟨gm, 2, none⟩ = some (.slice y1 ml y2) := by rw [World.ownsRow.cellAt rm 2 (by omega)]; exact m2
                have cl0 : w2.cell? ⟨gl, 0, none⟩ = some (.int .u8 kk) := by rw [World.ownsRow.cellAt rl 0 (by omega)]; exact l0
                have cl1 : w2.cell? ⟨gl, 1, none⟩ = some (.slice u1 nl u2) := by rw [World.ownsRow.cellAt rl 1 (by omega)]; exact l1
                have cl2 : w2.cell? ⟨gl, 2, none⟩ = some (.slice v1 ml v2) := by rw [World.ownsRow.cellAt rl 2 (by omega)]; exact l2
                have HSB : Hid (∀ W, Below wx.heap.size wx W → W.cell? ⟨gm, 0, none⟩ = some (.int .u8 kk) ∧ W.cell? ⟨gm, 1, none⟩ = some (.slice x1 nl x2) ∧ W.cell? ⟨gm, 2, none⟩ = some (.slice y1 ml y2) ∧ W.cell? ⟨gl, 0, none⟩ = some (.int .u8 kk) ∧ W.cell? ⟨gl, 1, none⟩ = some (.slice u1 nl u2) ∧ W.cell? ⟨gl, 2, none⟩ = some (.slice v1 ml v2) ∧ W.cell? ⟨wr.heap.size, 2, none⟩ = some (.int .u64 S)) := fun W hk => by
                  have hw2 : Below w2.heap.size w2 W := bsplit HB3.out hk
                  have gen : ∀ (p : Addr) (u : Value), w2.cell? p = some u → W.cell? p = some u := fun p u h9 => (hw2.cell (World.block_lt_of_cell? _ _ h9)).trans h9
                  exact ⟨gen _ _ cm0, gen _ _ cm1, gen _ _ cm2, gen _ _ cl0, gen _ _ cl1, gen _ _ cl2, (hk.cell (p := ⟨wr.heap.size, 2, none⟩) (World.block_lt_of_cell? _ _ b2)).trans b2⟩
                have hSD : wx.drew.cell? ⟨gm, 0, none⟩ = some (.int .u8 kk) ∧ wx.drew.cell? ⟨gm, 1, none⟩ = some (.slice x1 nl x2) ∧ wx.drew.cell? ⟨gm, 2, none⟩ = some (.slice y1 ml y2) ∧ wx.drew.cell? ⟨gl, 0, none⟩ = some (.int .u8 kk) ∧ wx.drew.cell? ⟨gl, 1, none⟩ = some (.slice u1 nl u2) ∧ wx.drew.cell? ⟨gl, 2, none⟩ = some (.slice v1 ml v2) ∧ wx.drew.cell? ⟨wr.heap.size, 2, none⟩ = some (.int .u64 S) := HSB.out _ hdx
                clear cm0 cm1 cm2 cl0 cl1 cl2 m0 m1 m2 l0 l1 l2 oxs oys oxl oyl rm rl em el ho0 hkk hnl hml hK0'
                by_cases hn0 : 0 < hn
                · obtain ⟨hb9, ho9, rfl, hcell⟩ := (HRD.out wx (Below.refl _ _)).2 0 hn0
                  rw [Nat.add_zero] at hcell
                  have hn0I : (0 : Int) < (hn : Int) := by omega
                  obtain ⟨hh, hhh⟩ : ∃ hh, (o.hts.take 66).getD 0 0 = hh := ⟨_, rfl⟩
                  rw [hhh] at hcell
                  clear hhh
                  clear hra hrn
                  go_wp2_with fail
                  go_region_held3 (fun w' => w'.cell? ⟨gm, 0, none⟩ = some (.int .u8 kk) ∧ w'.cell? ⟨gm, 1, none⟩ = some (.slice x1 nl x2) ∧ w'.cell? ⟨gm, 2, none⟩ = some (.slice y1 ml y2) ∧ w'.cell? ⟨gl, 0, none⟩ = some (.int .u8 kk) ∧ w'.cell? ⟨gl, 1, none⟩ = some (.slice u1 nl u2) ∧ w'.cell? ⟨gl, 2, none⟩ = some (.slice v1 ml v2) ∧ w'.cell? ⟨wr.heap.size, 2, none⟩ = some (.int .u64 S))
                    (first | with_reducible exact HSB.out _ HK2.out | with_reducible exact HSB.out _ HK1.out | with_reducible exact hSD | fail "keep")
                    (first
                      | (go_at_call 30
                         refine Calls.mono (mnilDo_any _ _ _ _ _ _ _ _ _ _) ?_
                         rintro e w5 ⟨rfl, hb5⟩
                         have HK1 : Hid (Below wx.heap.size wx w5) := bsplit hdx hb5)
                      | (go_at_call 36
                         refine Calls.mono (r10nilDo_any _ _ _ _ _ _ _ _ _ _) ?_
                         rintro e w6 ⟨rfl, hb6⟩
                         have HK2 : Hid (Below wx.heap.size wx w6) := bsplit HK1.out hb6)
                      | fail "arm")
                  all_goals
                    go_wp2_with fail
                    go_meet
                    exact HK2.out
                · have hn0I : ¬ (0 : Int) < (hn : Int) := by omega
                  clear hra hrn
                  go_wp2_with fail
                  go_region_held3 (fun w' => w'.cell? ⟨gm, 0, none⟩ = some (.int .u8 kk) ∧ w'.cell? ⟨gm, 1, none⟩ = some (.slice x1 nl x2) ∧ w'.cell? ⟨gm, 2, none⟩ = some (.slice y1 ml y2) ∧ w'.cell? ⟨gl, 0, none⟩ = some (.int .u8 kk) ∧ w'.cell? ⟨gl, 1, none⟩ = some (.slice u1 nl u2) ∧ w'.cell? ⟨gl, 2, none⟩ = some (.slice v1 ml v2) ∧ w'.cell? ⟨wr.heap.size, 2, none⟩ = some (.int .u64 S))
                    (first | with_reducible exact HSB.out _ HK2.out | with_reducible exact HSB.out _ HK1.out | with_reducible exact hSD | fail "keep")
                    (first
                      | (go_at_call 30
                         refine Calls.mono (mnilDo_any _ _ _ _ _ _ _ _ _ _) ?_
                         rintro e w5 ⟨rfl, hb5⟩
                         have HK1 : Hid (Below wx.heap.size wx w5) := bsplit hdx hb5)
                      | (go_at_call 36
                         refine Calls.mono (r10nilDo_any _ _ _ _ _ _ _ _ _ _) ?_
                         rintro e w6 ⟨rfl, hb6⟩
                         have HK2 : Hid (Below wx.heap.size wx w6) := bsplit HK1.out hb6)
                      | fail "arm")
                  all_goals
                    go_wp2_with fail
                    go_meet
                    exact HK2.out
              · have HSB : Hid (∀ W, Below wx.heap.size wx W → W.cell? ⟨wr.heap.size, 2, none⟩ = some (.int .u64 S)) := fun W hk => (hk.cell (p := ⟨wr.heap.size, 2, none⟩) (World.block_lt_of_cell? _ _ b2)).trans b2
                have hb2d : wx.drew.cell? ⟨wr.heap.size, 2, none⟩ = some (.int .u64 S) := b2
                have hdx : Below wx.heap.size wx wx.drew := (Below.refl _ _).drew
                clear hra hrn
                go_wp2_with fail
                go_region_held3 (fun w' => w'.cell? ⟨wr.heap.size, 2, none⟩ = some (.int .u64 S))
                  (first | with_reducible exact hb2d | fail "keep")
                  (first
                    | (go_at_call 29
                       refine Calls.mono (mnilBatch_any _ _ _ _ _ _ _ _) ?_
                       rintro e w5 ⟨rfl, rfl⟩)
                    | (go_at_call 37
                       refine Calls.mono (r10nilBatch_any _ _ _ _ _ _ _ _) ?_
                       rintro e w5 ⟨rfl, rfl⟩)
                    | fail "arm")
                all_goals
                  go_wp2_with fail
                  go_meet
                  exact hdx
            case rest =>
              obtain ⟨wy, hwy⟩ : ∃ wy, wy = wc := ⟨_, rfl⟩
              subst hwy
              have HYC : Hid (Below wx.heap.size wx wy) := hcut
              have hry := HRC.out wy (bsplit HB3.out HYC.out)
              have hsm := sameops_any wy (.slice ma K mc) (.slice la K lc) ls ls true hry.2.1 hry.2.2 (by simp)
              have HRY : Hid (RowC w1.heap.size wy (.slice ma K mc) K cs) := hry.1
              clear hry hcut
              go_wp2_with fail
              refine hsm.mono ?_
              rintro e wz ⟨rfl, nn, hwz⟩
              have HRZ : Hid (RowC w1.heap.size wz (.slice ma K mc) K cs ∧ Keeps (fun q => w1.heap.size ≤ q ∧ q < w2.heap.size) wy wz) := by
                rw [hwz]
                exact ⟨HRY.out, Below.keeps (below_drewN (Below.refl _ _) _) _⟩
              clear hsm hwz HRY
              obtain ⟨wo, hwo⟩ : ∃ wo, wo = wr := ⟨_, rfl⟩
              subst hwo
              go_wp2_with fail
              go_loopg [87] K (fun gk iv wr => ∃ j : Nat, gk + j = K ∧ iv = .int .i64 (j : Int) ∧ Hid (RowC w1.heap.size wr (.slice ma K mc) K cs ∧ Keeps (fun q => w1.heap.size ≤ q ∧ q < w2.heap.size) wy wr))
              case atStart => exact ⟨0, by omega, rfl, HRZ⟩
              case round =>
                obtain ⟨j, hj2, rfl, HR⟩ := hrel
                obtain ⟨GJ, hGJ⟩ : ∃ GJ, gk = GJ := ⟨_, rfl⟩
                rw [hGJ] at hj2
                by_cases hltj : j < K
                · obtain ⟨p1, p2⟩ := gk_nxt hj2 hltj
                  obtain ⟨g, k, hg⟩ : ∃ g k, Value.slice ma K mc = .slice (some ⟨g, 0, none⟩) K k := by
                    obtain ⟨g, k, e, _, _⟩ := HR.out.1.1.form (by omega)
                    exact ⟨g, k, e⟩
                  cases hg
                  obtain ⟨xv, yv, ex, ey, cx, cy, sx, sy⟩ := HR.out.1.cells j hltj
                  have HEY : Hid (cs[j * 3 + 2]? = some yv) := ey
                  obtain ⟨ya, yn, yc, hyy⟩ : ∃ ya yn yc, yv = .slice ya yn yc := by
                    rcases sy with h9 | ⟨g', n, c', e, _⟩
                    · exact ⟨_, _, _, h9⟩
                    · exact ⟨_, _, _, e⟩
                  subst hyy
                  have hym : yn ≤ 9223372036854775807 := by
                    rcases sy with h9 | ⟨g', n, c', e, _, h1, h2, _⟩
                    · cases h9; omega
                    · cases e; unfold maxLen at h2; omega
                  clear sx sy ex ey cx
                  obtain ⟨wp, hwp⟩ : ∃ wp, wp = wr := ⟨_, rfl⟩
                  subst hwp
                  go_wp2_with fail
                  clear cy
                  go_loopg [96] yn (fun gk iv wr => ∃ i : Nat, gk + i = yn ∧ iv = .int .i64 (i : Int) ∧ Hid (RowC w1.heap.size wr (.slice (some ⟨g, 0, none⟩) K mc) K cs ∧ Keeps (fun q => w1.heap.size ≤ q ∧ q < w2.heap.size) wy wr))
                  case atStart => exact ⟨0, by omega, rfl, HR⟩
                  case round =>
                    clear HR
                    obtain ⟨ii, hi2, rfl, HR⟩ := hrel
                    obtain ⟨xv, yv, ex, ey, cx, cy, sx, sy⟩ := HR.out.1.cells j hltj
                    obtain rfl : yv = .slice ya yn yc := by
                      have e2 := HEY.out.symm.trans ey
                      simp at e2
                      exact e2.symm
                    clear ex
                    by_cases hlt3 : ii < yn
                    · obtain ⟨p3, p4⟩ := gk_nxt hi2 hlt3
                      rcases sy with h9 | ⟨gy, n, c', e, hu, h1, h2, h3⟩
                      · cases h9; omega
                      · cases e
                        unfold maxLen at h2
                        have hblk := HCB.out _ (List.mem_of_getElem? ey) gy rfl
                        obtain ⟨bb, hcy, hfy⟩ := u8_cell hu ii hlt3
                        have hxb := bb.toNat_lt
                        have r1 := HR.out.1.set hu ii (bb ^^^ 1)
                        have r2 := HR.out.2.setCell (p := ⟨gy, ii, none⟩) hblk (.int .u8 ((bb ^^^ 1).toNat : Int))
                        have hx1 := xor_one bb
                        have HQ1 : Hid (RowC w1.heap.size (wr.setCell ⟨gy, ii, none⟩ (.int .u8 ((bb ^^^ 1).toNat : Int))) (.slice (some ⟨g, 0, none⟩) K mc) K cs ∧ Keeps (fun q => w1.heap.size ≤ q ∧ q < w2.heap.size) wy (wr.setCell ⟨gy, ii, none⟩ (.int .u8 ((bb ^^^ 1).toNat : Int)))) := ⟨r1, r2⟩
                        clear HR hu r1 r2 ey sx cx hblk
                        go_wp2
                        go_roundg (gk - 1)
                        case measure => exact p3
                        case rel => exact ⟨ii + 1, p4, by go_num, HQ1⟩
                    · obtain rfl : ii = yn := by omega
                      clear sx sy cx cy ey
                      go_wp2_with fail
                      go_roundg (GJ - 1)
                      case measure => rw [hGJ]; exact p1
                      case rel => exact ⟨j + 1, p2, by go_num, HR⟩
                · obtain rfl : j = K := by omega
                  have HNX : Hid (Below W0.heap.size W0 wr) := by
                    have a1 := HSA.out
                    have a2 := HB3.out.size
                    have a3 := HYC.out.size
                    have a4 := HW.out.size
                    exact (bsplit (bsplit HW.out HBx.out) HYC.out).trans (HR.out.2.below (fun i hi => by have h9 : w1.heap.size ≤ i := hi.1; omega) (by have := HS12.out; omega))
                  go_wp2_with fail
                  go_roundg (GK - 1)
                  case measure => rw [hGK]; exact q1
                  case rel => exact ⟨i + 1, q2, by go_num, hi29, HNX⟩
    · have hiN : i = NS := by omega
      subst hiN
      go_wp2
      go_ret
      exact ⟨rfl, HW.out⟩

end Go.Proofs.Ythcoblmfmbmdkaa

/- bartizanlaw10.run: a script on both memos. -/
namespace Go.Proofs.Ythcoblmfmbmdkaa
set_option maxRecDepth 100000
open Go.RowKit
set_option linter.unusedVariables false
set_option linter.unusedSimpArgs false

set_option maxHeartbeats 8000000 in
theorem mrun_any (PM G : Nat → Prop) (W0 : World) (m x : Nat) (Z0 : List (OpB × Nat)) (L0 : List EnB) (v : Value) (sts : List MSt) (h : RunI PM G W0 W0 m x Z0 PM G L0) (hv : ∀ W, Keeps (fun q => PM q ∨ G q) W0 W → ArgM W v sts) (hlen : Z0.length + 1920 ≤ 4000) :
    Calls Try.prog 11 #[.pointer (some ⟨m, 0, none⟩), .pointer (some ⟨x, 0, none⟩), v] W0 fun e w' => e = .returned (.bool true) ∧ ∃ i, i ≤ 30 ∧ RunL PM G W0 w' m x Z0 i := by
  obtain ⟨i0, hi, hz0, hz1, hz2⟩ := info_parts infoI
  have HV : Hid (∀ W, Keeps (fun q => PM q ∨ G q) W0 W → ArgM W v sts) := hv
  have HR0 : Hid (RunI PM G W0 W0 m x Z0 PM G L0) := h
  obtain ⟨va, vc, rfl, h1, h2, _⟩ := hv W0 (Keeps.refl _ _)
  obtain ⟨NS, hNS⟩ : ∃ NS, sts.length = NS := ⟨_, rfl⟩
  rw [hNS] at h1 HV ⊢
  have HNS : Hid (sts.length = NS) := hNS
  have HLEN : Hid (Z0.length + 1920 ≤ 4000) := hlen
  clear hv h hNS hlen
  go_enter Try.func11, Try.ntmps11
  go_wp2_with fail
  go_loopg [17] NS (fun gk iv wr => ∃ i : Nat, gk + i = NS ∧ iv = .int .i64 (i : Int) ∧ i ≤ 30 ∧ Hid (RunL PM G W0 wr m x Z0 i))
  case atStart => exact ⟨0, by omega, rfl, by omega, ⟨[], PM, G, L0, by rw [List.append_nil]; exact HR0.out, by simp, by simp, by simp⟩⟩
  case round =>
    obtain ⟨i, hgi, rfl, hi30, HI⟩ := hrel
    obtain ⟨GK, hGK⟩ : ∃ GK, gk = GK := ⟨_, rfl⟩
    rw [hGK] at hgi
    by_cases hlt : i < NS
    · have hlt2 : i < sts.length := by rw [HNS.out]; exact hlt
      obtain ⟨q1, q2⟩ := gk_nxt hgi hlt
      obtain ⟨Y, PM', G', L, hI, hY, hYn, hYl⟩ := HI.out
      obtain ⟨_, _, e9, _, _, h3⟩ := HV.out wr hI.kp
      rw [HNS.out] at e9
      cases e9
      obtain ⟨gb, off, rfl, v1, v3, hst⟩ := h3 i hlt2
      obtain ⟨o, ho⟩ : ∃ o, sts[i] = o := ⟨_, rfl⟩
      rw [ho] at hst
      obtain ⟨d0, d1, d2, d3, a1, a3, s2⟩ := hst
      obtain ⟨S, hS⟩ : ∃ S : Int, (o.seq : Int) = S := ⟨_, rfl⟩
      rw [hS] at d2
      obtain ⟨al, hal⟩ : ∃ al, o.alone = al := ⟨_, rfl⟩
      rw [hal] at d0
      obtain ⟨oa, oc, ev1, _⟩ := a1
      obtain ⟨ha, hl, hc, zs, ev3, hrow, hhts⟩ := a3
      subst ev1 ev3
      have hstI : MStAt wr gb (off + i * 4) o (.slice oa o.ops.length oc) (.slice ha hl hc) := (by have h9 := h3 i hlt2; obtain ⟨b', off', e', v1', v3', h8⟩ := h9; cases e'; rw [ho] at h8; have e1 := h8.c1; have e3 := h8.c3; rw [d1] at e1; rw [d3] at e3; cases e1; cases e3; exact h8)
      have HST : Hid (MStAt wr gb (off + i * 4) o (.slice oa o.ops.length oc) (.slice ha hl hc)) := hstI
      have hb0 := below_box4 wr (.cells #[.bool al, .slice oa o.ops.length oc, .int .u64 S, .slice ha hl hc] 86)
      have bx := box4f_new wr (.bool al) (.slice oa o.ops.length oc) (.int .u64 S) (.slice ha hl hc) 86
      obtain ⟨OL, hOL⟩ : ∃ OL, o.ops.length = OL := ⟨_, rfl⟩
      have HIW : Hid (RunI PM G W0 wr m x (Z0 ++ Y) PM' G' L) := hI
      have HYY : Hid (Y.length ≤ 64 * i ∧ (∀ y ∈ Y, lastN (Z0.map (·.2)) < y.2) ∧ lastN (Z0.map (·.2)) ≤ lastN ((Z0 ++ Y).map (·.2))) := ⟨hY, hYn, hYl⟩
      have hfw := fewop_any (wr.alloc (.cells #[.bool al, .slice oa o.ops.length oc, .int .u64 S, .slice ha hl hc] 86)) (.slice oa o.ops.length oc) o.ops 66 (LsO.belowA hstI.a1 hb0 (Nat.le_refl _)) (by omega)
      rw [hOL] at hfw hb0 bx d1 HST
      obtain ⟨ls, hls⟩ : ∃ ls, fewO 66 o.ops = ls := ⟨_, rfl⟩
      rw [hls] at hfw
      obtain ⟨⟨b0, b1, b2, b3⟩, _, _, _, _⟩ := bx
      have HSS : Hid ((o.seq : Int) = S ∧ o.seq < 18446744073709551616) := ⟨hS, s2⟩
      have HLS : Hid (fewO 66 o.ops = ls) := hls
      have HB0 : Hid (Below wr.heap.size wr (wr.alloc (.cells #[.bool al, .slice oa OL oc, .int .u64 S, .slice ha hl hc] 86))) := hb0
      have BX : Hid (Box4f (wr.alloc (.cells #[.bool al, .slice oa OL oc, .int .u64 S, .slice ha hl hc] 86)) wr.heap.size (.bool al) (.slice oa OL oc) (.int .u64 S) (.slice ha hl hc)) := box4f_new wr _ _ _ _ _
      clear hY hYn hYl hI h3 hS hal hOL hls hstI hb0 ho s2 HI
      by_cases h30 : (30 : Int) ≤ (i : Int)
      · go_wp2
        go_ret
        refine ⟨rfl, i, hi30, Y, PM', G', L, HIW.out.below HB0.out, HYY.out⟩
      · have hi29 : i + 1 ≤ 30 := by omega
        have h30b : (i : Int) < 30 := by omega
        go_wp2_with fail
        refine hfw.mono ?_
        rintro e w1 ⟨lv, rfl, ol, hb1⟩
        have HB1 : Hid (Below wr.heap.size wr w1) := bsplit HB0.out hb1
        have BX1 : Hid (Box4f w1 wr.heap.size (.bool al) (.slice oa OL oc) (.int .u64 S) (.slice ha hl hc)) := BX.out.below hb1 (Nat.le_refl _)
        have HSA : Hid (wr.heap.size < (wr.alloc (.cells #[.bool al, .slice oa OL oc, .int .u64 S, .slice ha hl hc] 86)).heap.size ∧ (wr.alloc (.cells #[.bool al, .slice oa OL oc, .int .u64 S, .slice ha hl hc] 86)).heap.size ≤ w1.heap.size) := ⟨by simp, hb1.size⟩
        have hlens : ls.length ≤ 66 ∧ ∀ p ∈ ls, p.2.1.length ≤ 1000000 ∧ p.2.2.length ≤ 1000000 := by
          rw [← HLS.out]
          unfold fewO
          refine ⟨by rw [List.length_map, List.length_take]; omega, fun p hp => ?_⟩
          obtain ⟨q, _, rfl⟩ := List.mem_map.1 hp
          unfold cutOp
          simp only [List.length_take]
          omega
        have hcp := opcopy_any w1 lv ls (rdo_arg ol.rd) (by omega) hlens.2
        have HLL : Hid (ls.length ≤ 66 ∧ ∀ p ∈ ls, p.2.1.length ≤ 1000000 ∧ p.2.2.length ≤ 1000000) := hlens
        obtain ⟨la, lc, rfl, hl1, hl2, _⟩ := ol.rd
        obtain ⟨K, hK⟩ : ∃ K, ls.length = K := ⟨_, rfl⟩
        rw [hK] at hcp ol hl1 ⊢
        have HOL : Hid (OwnO (wr.alloc (.cells #[.bool al, .slice oa OL oc, .int .u64 S, .slice ha hl hc] 86)).heap.size w1 (.slice la K lc) ls) := ol
        have HK : Hid (ls.length = K) := hK
        have hK66 : K ≤ 66 := by rw [← hK]; exact hlens.1
        unfold maxLen at hl2
        clear hfw hb1 ol hlens hK b0 b1 b2 b3 BX
        go_wp2_with fail
        refine hcp.mono ?_
        rintro e w2 ⟨mv, rfl, om, hb2⟩
        have HB2 : Hid (Below wr.heap.size wr w2) := bsplit HB1.out hb2
        have BX2 : Hid (Box4f w2 wr.heap.size (.bool al) (.slice oa OL oc) (.int .u64 S) (.slice ha hl hc)) := BX1.out.below hb2 (Nat.le_refl _)
        have HOL2 : Hid (OwnO (wr.alloc (.cells #[.bool al, .slice oa OL oc, .int .u64 S, .slice ha hl hc] 86)).heap.size w2 (.slice la K lc) ls) := HOL.out.below hb2 (Nat.le_refl _)
        obtain ⟨ma, mc, rfl, hm1, hm2, _⟩ := om.rd
        rw [HK.out] at om hm1 ⊢
        have HOM : Hid (OwnO w1.heap.size w2 (.slice ma K mc) ls) := om
        have HS12 : Hid (w1.heap.size ≤ w2.heap.size) := hb2.size
        unfold maxLen at hm2
        have HH66 : Hid (o.hts = zs.take hl) := hhts
        have hrow2 := isRow_below hrow HB2.out (Nat.le_refl _)
        have HRW : Hid (IsRow .i64 w2 ha hl hc zs) := hrow2
        obtain ⟨⟨b0, b1, b2, b3⟩, _, _, _, _⟩ := BX2.out
        clear hcp hb2 om HOL hrow hrow2 hhts HB1 BX1
        go_upto_region 7 with fail
        go_cut [11] (fun hv wx => ∃ (ha' : Option Addr) (hn hc' : Nat), hv = .slice ha' hn hc' ∧ hn ≤ 66 ∧ Hid ((o.hts.take 66).length = hn) ∧ Hid (RowI w2.heap.size wx hv (o.hts.take 66)) ∧ Hid (Below w2.heap.size w2 wx))
        case first =>
          have hown0 : (w2.alloc (.cells #[] 3)).ownsRow w2.heap.size 3 1 (.slice (some ⟨w2.heap.size, 0, none⟩) 0 0) 0 [] := World.ownsRow_lit w2 #[] 0 (Nat.le_refl _) (Nat.zero_le _) rfl
          have hbe : Below w2.heap.size w2 (w2.alloc (.cells #[] 3)) := (Below.refl _ _).alloc (Nat.le_refl _) _
          obtain ⟨⟨y0, y1, y2, y3⟩, _, _, _, _⟩ := BX2.out.below hbe (Nat.le_refl _)
          rcases HRW.out with ⟨rfl, rfl, rfl, rfl⟩ | ⟨xx, rfl, hr1, hr2, hr3, hr4, _⟩
          · have hmin : min (0 : Int) (66 : Int) = 0 := by omega
            have hnil : o.hts.take 66 = [] := by rw [HH66.out]; rfl
            have HNIL : Hid (o.hts.take 66 = []) := hnil
            have HBE : Hid (Below w2.heap.size w2 (w2.alloc (.cells #[] 3))) := hbe
            clear hnil hbe
            go_wp2_with (first | (at_builtin; refine wpList_append_own_none rfl (.tmp 29) (.tmp 36) 67 rfl w2.heap.size 3 i0 1 Try.underlying67 hi _ _ _ rfl hown0 rfl ?_) | fail)
            go_meet
            exact ⟨_, 0, 0, rfl, by omega, by rw [HNIL.out]; rfl, by rw [HNIL.out]; exact hown0, HBE⟩
          · unfold maxLen at hr2
            obtain ⟨k, hk⟩ : ∃ k, (o.hts.take 66).length = k := ⟨_, rfl⟩
            have hk2 : k = min 66 hl := by rw [← hk, HH66.out, List.length_take, List.length_take, hr3]; omega
            have hmin : min (hl : Int) (66 : Int) = (k : Int) := by omega
            have hmin2 : (if 66 < hl then (66 : Int) else (hl : Int)) = (k : Int) := by split <;> omega
            have hkl : k ≤ hl := by omega
            have hkn : k ≤ 66 := by omega
            have h4 : ∀ j u, ((o.hts.take 66).map (fun h => Value.int .i64 h))[j]? = some u → (w2.alloc (.cells #[] 3)).cell? (xx.add j) = some u := fun j u hu => by
              have hj : j < k := by have := (List.getElem?_eq_some_iff.1 hu).1; rw [List.length_map, hk] at this; exact this
              have h9 := hr4 j (by omega)
              have h8 := (hbe.cell (World.block_lt_of_cell? w2 _ h9)).trans h9
              rw [h8, ← hu, List.getElem?_map, HH66.out, List.getElem?_take_of_lt (by omega), List.getElem?_take_of_lt (by omega), List.getElem?_eq_getElem (by omega)]
              simp [List.getD_eq_getElem?_getD, List.getElem?_eq_getElem (show j < zs.length by omega)]
            have HKH : Hid ((o.hts.take 66).length = k) := hk
            have HBE : Hid (Below w2.heap.size w2 (w2.alloc (.cells #[] 3))) := hbe
            clear hk hk2 hr4 hbe
            go_wp2_with (first | (at_builtin; refine wpList_append_own _ rfl (.tmp 29) (.tmp 36) 67 rfl w2.heap.size 3 i0 (.int .i64 0) 1 8 Try.underlying67 hi hz0 hz1 hz2 rfl (by decide) (.slice (some ⟨w2.heap.size, 0, none⟩) 0 0) 0 [] rfl hown0 xx k hc ((o.hts.take 66).map (fun h => Value.int .i64 h)) rfl (by rw [List.length_map, HKH.out, Nat.mul_one]) h4 (by intro u hu; obtain ⟨a, _, rfl⟩ := List.mem_map.1 hu; rfl) (by simp only [maxLen]; omega) (by omega) (by simp) ?_; intro v' w5 ho' hgr' hn') | fail)
            go_meet
            have hri : RowI w2.heap.size w5 v' (o.hts.take 66) := by
              unfold RowI
              rw [HKH.out]
              simpa using ho'
            obtain ⟨ra, rc, er⟩ := row_slice10 hri
            rw [HKH.out] at er
            subst er
            exact ⟨_, k, _, rfl, hkn, HKH.out, hri, HBE.out.grown hgr' (by simp) (fun k' e => (hown0.lt k' e).1)⟩
        case rest =>
          obtain ⟨ha', hn, hc', rfl, hn66, HHL, HHR, HB3⟩ := hcut
          obtain ⟨wx, hwx⟩ : ∃ wx, wx = wc := ⟨_, rfl⟩
          subst hwx
          have HBx : Hid (Below wr.heap.size wr wx) := bsplit HB2.out HB3.out
          have HIx : Hid (RunI PM G W0 wx m x (Z0 ++ Y) PM' G' L) := HIW.out.below HBx.out
          have BX3 : Hid (Box4f wx wr.heap.size (.bool al) (.slice oa OL oc) (.int .u64 S) (.slice ha hl hc)) := BX2.out.below HB3.out (Nat.le_refl _)
          have HPQ : Hid (∀ q, PM' q ∨ G' q → q < wr.heap.size) := fun q hq => hq.elim (fun h9 => HIW.out.lt q h9) (fun h9 => HIW.out.rf.lt h9)
          have hsp := ownO_split HOM.out
          obtain ⟨cs, hcsb, hrc⟩ := hsp
          have HCB : Hid (∀ y ∈ cs, ∀ q, y.ownBlock = some q → w1.heap.size ≤ q ∧ q < w2.heap.size) := hcsb
          rw [HK.out] at hrc
          have hspl := ownO_split HOL2.out
          obtain ⟨csl, _, hrl⟩ := hspl
          rw [HK.out] at hrl
          have HRC : Hid (∀ W, Keeps (fun q => PM' q ∨ G' q) w2 W → RowC w1.heap.size W (.slice ma K mc) K cs ∧ RdO W (.slice ma K mc) ls ∧ RdO W (.slice la K lc) ls) := fun W hk => by
            have h1 := hrc _ W hk (fun q h1 h2 h3 => by have := HPQ.out q h3; have := HSA.out; omega)
            exact ⟨h1.1, h1.2, (hrl _ W hk (fun q h1 h2 h3 => by have := HPQ.out q h3; have := HSA.out; omega)).2⟩
          obtain ⟨ra, rc, er, hra, hrn, hrd⟩ := HHR.out.rdi
          rw [HHL.out] at er hrn hrd
          cases er
          have HRD : Hid (∀ W, Keeps (fun q => PM' q ∨ G' q) wx W → RdI W ha' hn (o.hts.take 66)) := fun W hk => hrd _ W hk (fun q h1 h2 => by have := HPQ.out q h2; have := HB2.out.size; omega)
          obtain ⟨⟨b0, b1, b2, b3⟩, _, _, _, _⟩ := BX3.out
          obtain ⟨LN, hLN⟩ : ∃ LN : Nat, lastN ((Z0 ++ Y).map (·.2)) = LN := ⟨_, rfl⟩
          have HZL : Hid ((Z0 ++ Y).length ≤ 3936) := by
            show _ ≤ _
            rw [List.length_append]
            have := HYY.out.1
            have := HLEN.out
            omega
          clear hcsb hrc hrl hrd BX2 HHR
          cases al
          · go_upto_if 44 with fail
            go_cut [] (fun wy => Hid (∃ (W W1 : World) (ps : List OpB) (hs : List Int) (c : Int) (e1 e2 : Ending), Below wx.heap.size wx W ∧ batC ps (o.seq : Int) hs ((lastN ((Z0 ++ Y).map (·.2)) : Nat) : Int) = c ∧ BatQ PM' W m L (spnP (Z0 ++ Y)) ((lastN ((Z0 ++ Y).map (·.2)) : Nat) : Int) ps o.seq c e1 W1 ∧ R10Post G' W1 x ((Z0 ++ Y).map (·.1)) ((Z0 ++ Y).map (·.2)) ps o.seq c e2 wy))
            case first =>
              have hL9 : L.length ≤ 3936 ∧ (spnP (Z0 ++ Y)).length ≤ 3936 := by
                have h1 := HIx.out.pr.length_eq
                have h2 := verP_len (Z0 ++ Y)
                have := HZL.out
                omega
              have hlast9 : ∀ e ∈ L, (e.2.1 : Int) ≤ ((lastN ((Z0 ++ Y).map (·.2)) : Nat) : Int) := fun e he => by
                obtain ⟨z, hz, _, h2, _⟩ := verP_mem (HIx.out.pr.mem_iff.1 he)
                have := HIx.out.up z hz
                omega
              have hml : ((Z0 ++ Y).map (·.1)).length + 66 ≤ 100000 ∧ ((Z0 ++ Y).map (·.2)).length + 66 ≤ 100000 := by
                rw [List.length_map, List.length_map]
                have := HZL.out
                omega
              have HBN : Hid (L.length ≤ 3936 ∧ (spnP (Z0 ++ Y)).length ≤ 3936 ∧ (∀ e ∈ L, (e.2.1 : Int) ≤ ((lastN ((Z0 ++ Y).map (·.2)) : Nat) : Int)) ∧ ((Z0 ++ Y).map (·.1)).length + 66 ≤ 100000 ∧ ((Z0 ++ Y).map (·.2)).length + 66 ≤ 100000) := ⟨hL9.1, hL9.2, hlast9, hml⟩
              clear hL9 hlast9 hml
              have hdx : Below wx.heap.size wx wx.drew := (Below.refl _ _).drew
              have hba := mmP_batch PM' wx.drew m L (spnP (Z0 ++ Y)) ((lastN ((Z0 ++ Y).map (·.2)) : Nat) : Int) (.slice ma K mc) ls o.seq ha' hn hc' (o.hts.take 66) (HIx.out.mm.below hdx)
                (fun W' hk => (HRC.out W' ((Below.keeps HB3.out _).trans ((Below.keeps hdx _).trans (hk.mono (fun i h9 => Or.inl h9))))).2.1) (fun W' hk => HRD.out W' ((Below.keeps hdx _).trans (hk.mono (fun i h9 => Or.inl h9)))) hra hrn (by omega) (fun h0 => by have := (chkL_mem h0).1; have := HBN.out.1; omega) (by have := HBN.out.2.1; omega) HBN.out.2.2.1 HSS.out.2
              obtain ⟨c, hc⟩ : ∃ c, batC ls (o.seq : Int) (o.hts.take 66) ((lastN ((Z0 ++ Y).map (·.2)) : Nat) : Int) = c := ⟨_, rfl⟩
              have HRB : Hid (∀ W1 : World, Keeps PM' wx.drew W1 → Calls Try.prog 37 #[.pointer (some ⟨x, 0, none⟩), .slice la K lc, .int .u64 S, .slice ha' hn hc'] W1 (R10Post G' W1 x ((Z0 ++ Y).map (·.1)) ((Z0 ++ Y).map (·.2)) ls o.seq c)) := fun W1 hk => by
                have h9 := r10batch_any G' W1 x ((Z0 ++ Y).map (·.1)) ((Z0 ++ Y).map (·.2)) (.slice la K lc) ls o.seq ha' hn hc' (o.hts.take 66) ((HIx.out.rf.below hdx).keeps hk (fun q hq hp => HIx.out.ap q hp hq))
                  (fun W' hk' => (HRC.out W' (((Below.keeps HB3.out _).trans ((Below.keeps hdx _).trans (hk.mono (fun i h9 => Or.inl h9)))).trans (hk'.mono (fun i h9 => Or.inr h9)))).2.2) (HRD.out W1 ((Below.keeps hdx _).trans (hk.mono (fun i h9 => Or.inl h9)))) hrn (by omega) HLL.out.2 (by rw [HK.out]; have := HBN.out; omega) (by rw [HK.out]; have := HBN.out; omega) HSS.out.2
                rw [hc, HSS.out.1] at h9
                exact h9
              rw [hc, HSS.out.1] at hba
              have HC : Hid (batC ls (o.seq : Int) (o.hts.take 66) ((lastN ((Z0 ++ Y).map (·.2)) : Nat) : Int) = c) := hc
              have HSB : Hid (∀ W, Keeps (fun q => PM' q ∨ G' q) wx W → W.cell? ⟨wr.heap.size, 2, none⟩ = some (.int .u64 S)) := fun W hk => hk.cell (p := ⟨wr.heap.size, 2, none⟩) (fun h9 => absurd (HPQ.out wr.heap.size h9) (Nat.lt_irrefl _)) b2
              have hb2d : wx.drew.cell? ⟨wr.heap.size, 2, none⟩ = some (.int .u64 S) := b2
              clear hc hra hrn
              go_wp2_with fail
              go_region_held3 (fun w' => w'.cell? ⟨wr.heap.size, 2, none⟩ = some (.int .u64 S))
                (first | with_reducible exact HSB.out _ HK2.out | with_reducible exact HSB.out _ HK1.out | with_reducible exact hb2d | fail "keep")
                (first
                  | (go_at_call 29
                     refine Calls.mono hba ?_
                     rintro e w5 hq
                     have HQ : Hid (BatQ PM' wx.drew m L (spnP (Z0 ++ Y)) ((lastN ((Z0 ++ Y).map (·.2)) : Nat) : Int) ls o.seq c e w5) := hq
                     have HK1 : Hid (Keeps (fun q => PM' q ∨ G' q) wx w5) := (Below.keeps hdx _).trans (hq.2.1.mono (fun i h9 => Or.inl h9))
                     have HKP : Hid (Keeps PM' wx.drew w5) := hq.2.1
                     obtain ⟨he5, _⟩ := hq
                     subst he5
                     clear hba)
                  | (go_at_call 37
                     refine Calls.mono (HRB.out _ HKP.out) ?_
                     rintro e w6 hr
                     have HR : Hid (R10Post G' w5 x ((Z0 ++ Y).map (·.1)) ((Z0 ++ Y).map (·.2)) ls o.seq c e w6) := hr
                     have HK2 : Hid (Keeps (fun q => PM' q ∨ G' q) wx w6) := HK1.out.trans (hr.2.1.mono (fun i h9 => Or.inr h9))
                     obtain ⟨he6, _⟩ := hr
                     subst he6
                     clear HRB)
                  | fail "arm")
              all_goals
                go_wp2_with fail
                go_meet
                exact ⟨wx.drew, w5, ls, o.hts.take 66, c, _, _, hdx, HC.out, HQ.out, HR.out⟩
            case rest =>
              obtain ⟨wy, hwy⟩ : ∃ wy, wy = wc := ⟨_, rfl⟩
              subst hwy
              have HKY : Hid (Keeps (fun q => PM' q ∨ G' q) wx wy ∧ Below wx.heap.size wx wx) := by
                obtain ⟨W, W1, ps, hs, c, e1, e2, hbW, _, hq, hr⟩ := hcut.out
                exact ⟨((Below.keeps hbW _).trans (hq.2.1.mono (fun i h9 => Or.inl h9))).then (hr.2.1.mono (fun i h9 => Or.inr h9)) (fun i h9 => .inl h9), Below.refl _ _⟩
              have HYC : Hid _ := hcut
              have hry := HRC.out wy ((Below.keeps HB3.out _).trans HKY.out.1)
              have hsm := sameops_any wy (.slice ma K mc) (.slice la K lc) ls ls true hry.2.1 hry.2.2 (by simp)
              have HRY : Hid (RowC w1.heap.size wy (.slice ma K mc) K cs) := hry.1
              clear hry hcut
              go_wp2_with fail
              refine hsm.mono ?_
              rintro e wz ⟨rfl, nn, hwz⟩
              have HRZ : Hid (RowC w1.heap.size wz (.slice ma K mc) K cs ∧ Keeps (fun q => w1.heap.size ≤ q ∧ q < w2.heap.size) wy wz) := by
                rw [hwz]
                exact ⟨HRY.out, Below.keeps (below_drewN (Below.refl _ _) _) _⟩
              clear hsm hwz HRY
              obtain ⟨wo, hwo⟩ : ∃ wo, wo = wr := ⟨_, rfl⟩
              subst hwo
              go_wp2_with fail
              go_loopg [87] K (fun gk iv wr => ∃ j : Nat, gk + j = K ∧ iv = .int .i64 (j : Int) ∧ Hid (RowC w1.heap.size wr (.slice ma K mc) K cs ∧ Keeps (fun q => w1.heap.size ≤ q ∧ q < w2.heap.size) wy wr))
              case atStart => exact ⟨0, by omega, rfl, HRZ⟩
              case round =>
                obtain ⟨j, hj2, rfl, HR⟩ := hrel
                obtain ⟨GJ, hGJ⟩ : ∃ GJ, gk = GJ := ⟨_, rfl⟩
                rw [hGJ] at hj2
                by_cases hltj : j < K
                · obtain ⟨p1, p2⟩ := gk_nxt hj2 hltj
                  obtain ⟨g, k, hg⟩ : ∃ g k, Value.slice ma K mc = .slice (some ⟨g, 0, none⟩) K k := by
                    obtain ⟨g, k, e, _, _⟩ := HR.out.1.1.form (by omega)
                    exact ⟨g, k, e⟩
                  cases hg
                  obtain ⟨xv, yv, ex, ey, cx, cy, sx, sy⟩ := HR.out.1.cells j hltj
                  have HEY : Hid (cs[j * 3 + 2]? = some yv) := ey
                  obtain ⟨ya, yn, yc, hyy⟩ : ∃ ya yn yc, yv = .slice ya yn yc := by
                    rcases sy with h9 | ⟨g', n, c', e, _⟩
                    · exact ⟨_, _, _, h9⟩
                    · exact ⟨_, _, _, e⟩
                  subst hyy
                  have hym : yn ≤ 9223372036854775807 := by
                    rcases sy with h9 | ⟨g', n, c', e, _, h1, h2, _⟩
                    · cases h9; omega
                    · cases e; unfold maxLen at h2; omega
                  clear sx sy ex ey cx
                  obtain ⟨wp, hwp⟩ : ∃ wp, wp = wr := ⟨_, rfl⟩
                  subst hwp
                  go_wp2_with fail
                  clear cy
                  go_loopg [96] yn (fun gk iv wr => ∃ i : Nat, gk + i = yn ∧ iv = .int .i64 (i : Int) ∧ Hid (RowC w1.heap.size wr (.slice (some ⟨g, 0, none⟩) K mc) K cs ∧ Keeps (fun q => w1.heap.size ≤ q ∧ q < w2.heap.size) wy wr))
                  case atStart => exact ⟨0, by omega, rfl, HR⟩
                  case round =>
                    clear HR
                    obtain ⟨ii, hi2, rfl, HR⟩ := hrel
                    obtain ⟨xv, yv, ex, ey, cx, cy, sx, sy⟩ := HR.out.1.cells j hltj
                    obtain rfl : yv = .slice ya yn yc := by
                      have e2 := HEY.out.symm.trans ey
                      simp at e2
                      exact e2.symm
                    clear ex
                    by_cases hlt3 : ii < yn
                    · obtain ⟨p3, p4⟩ := gk_nxt hi2 hlt3
                      rcases sy with h9 | ⟨gy, n, c', e, hu, h1, h2, h3⟩
                      · cases h9; omega
                      · cases e
                        unfold maxLen at h2
                        have hblk := HCB.out _ (List.mem_of_getElem? ey) gy rfl
                        obtain ⟨bb, hcy, hfy⟩ := u8_cell hu ii hlt3
                        have hxb := bb.toNat_lt
                        have r1 := HR.out.1.set hu ii (bb ^^^ 1)
                        have r2 := HR.out.2.setCell (p := ⟨gy, ii, none⟩) hblk (.int .u8 ((bb ^^^ 1).toNat : Int))
                        have hx1 := xor_one bb
                        have HQ1 : Hid (RowC w1.heap.size (wr.setCell ⟨gy, ii, none⟩ (.int .u8 ((bb ^^^ 1).toNat : Int))) (.slice (some ⟨g, 0, none⟩) K mc) K cs ∧ Keeps (fun q => w1.heap.size ≤ q ∧ q < w2.heap.size) wy (wr.setCell ⟨gy, ii, none⟩ (.int .u8 ((bb ^^^ 1).toNat : Int)))) := ⟨r1, r2⟩
                        clear HR hu r1 r2 ey sx cx hblk
                        go_wp2
                        go_roundg (gk - 1)
                        case measure => exact p3
                        case rel => exact ⟨ii + 1, p4, by go_num, HQ1⟩
                    · obtain rfl : ii = yn := by omega
                      clear sx sy cx cy ey
                      go_wp2_with fail
                      go_roundg (GJ - 1)
                      case measure => rw [hGJ]; exact p1
                      case rel => exact ⟨j + 1, p2, by go_num, HR⟩
                · obtain rfl : j = K := by omega
                  have HNX : Hid (RunL PM G W0 wr m x Z0 (i + 1)) := by
                    obtain ⟨W, W1, ps, hs, c, e1, e2, hbW, hc9, hq, hr⟩ := HYC.out
                    refine RunL.next (HIx.out.below hbW) HYY.out.1 HYY.out.2.1 HYY.out.2.2 hc9 hq hr HR.out.2 (fun q hq9 => ?_)
                    have a1 := HSA.out
                    have a2 := HB3.out.size
                    have a3 := hbW.size
                    have a4 := HIW.out.kp.size
                    refine ⟨⟨fun h9 => ?_, fun h9 => ?_⟩, by omega, by omega⟩
                    · have := HPQ.out q (.inl h9); omega
                    · have := HPQ.out q (.inr h9); omega
                  go_wp2_with fail
                  go_roundg (GK - 1)
                  case measure => rw [hGK]; exact q1
                  case rel => exact ⟨i + 1, q2, by go_num, hi29, HNX⟩
          · go_upto_if 44 with fail
            go_cut [] (fun wy => Hid (∃ (W W1 : World) (ps : List OpB) (hs : List Int) (c : Int) (e1 e2 : Ending), Below wx.heap.size wx W ∧ batC ps (o.seq : Int) hs ((lastN ((Z0 ++ Y).map (·.2)) : Nat) : Int) = c ∧ BatQ PM' W m L (spnP (Z0 ++ Y)) ((lastN ((Z0 ++ Y).map (·.2)) : Nat) : Int) ps o.seq c e1 W1 ∧ R10Post G' W1 x ((Z0 ++ Y).map (·.1)) ((Z0 ++ Y).map (·.2)) ps o.seq c e2 wy))
            case first =>
              have hL9 : L.length ≤ 3936 ∧ (spnP (Z0 ++ Y)).length ≤ 3936 := by
                have h1 := HIx.out.pr.length_eq
                have h2 := verP_len (Z0 ++ Y)
                have := HZL.out
                omega
              have hlast9 : ∀ e ∈ L, (e.2.1 : Int) ≤ ((lastN ((Z0 ++ Y).map (·.2)) : Nat) : Int) := fun e he => by
                obtain ⟨z, hz, _, h2, _⟩ := verP_mem (HIx.out.pr.mem_iff.1 he)
                have := HIx.out.up z hz
                omega
              have hml : ((Z0 ++ Y).map (·.1)).length + 66 ≤ 100000 ∧ ((Z0 ++ Y).map (·.2)).length + 66 ≤ 100000 := by
                rw [List.length_map, List.length_map]
                have := HZL.out
                omega
              have HBN : Hid (L.length ≤ 3936 ∧ (spnP (Z0 ++ Y)).length ≤ 3936 ∧ (∀ e ∈ L, (e.2.1 : Int) ≤ ((lastN ((Z0 ++ Y).map (·.2)) : Nat) : Int)) ∧ ((Z0 ++ Y).map (·.1)).length + 66 ≤ 100000 ∧ ((Z0 ++ Y).map (·.2)).length + 66 ≤ 100000) := ⟨hL9.1, hL9.2, hlast9, hml⟩
              clear hL9 hlast9 hml
              by_cases hK0 : 0 < K
              · have hK0I : (0 : Int) < (K : Int) := by omega
                have hdx : Below wx.heap.size wx wx.drew := (Below.refl _ _).drew
                have hK0' : 0 < ls.length := by rw [HK.out]; exact hK0
                obtain ⟨⟨k, kl, vl⟩, ho0⟩ : ∃ p, ls[0] = p := ⟨_, rfl⟩
                have hbo := HLL.out.2 _ (List.getElem_mem hK0')
                rw [ho0] at hbo
                obtain ⟨csm, rm, em⟩ := HOM.out
                obtain ⟨xs, ys, m0, m1, m2, oxs, oys⟩ := em 0 hK0'
                rw [ho0] at m0 oxs oys
                rw [HK.out] at rm
                obtain ⟨gm, cm, eg, _⟩ := rm.form (by omega)
                cases eg
                obtain ⟨csq, rl, el⟩ := HOL2.out
                obtain ⟨xl, yl, l0, l1, l2, oxl, oyl⟩ := el 0 hK0'
                rw [ho0] at l0 oxl oyl
                rw [HK.out] at rl
                obtain ⟨gl, cl, eg, _⟩ := rl.form (by omega)
                cases eg
                simp only at m0 m1 m2 oxs oys l0 l1 l2 oxl oyl hbo
                obtain ⟨kk, hkk⟩ : ∃ kk : Int, (k.toNat : Int) = kk := ⟨_, rfl⟩
                obtain ⟨nl, hnl⟩ : ∃ nl, kl.length = nl := ⟨_, rfl⟩
                obtain ⟨ml, hml⟩ : ∃ ml, vl.length = ml := ⟨_, rfl⟩
                obtain ⟨x1, x2, ex⟩ := oxs.rd.len
                obtain ⟨y1, y2, ey⟩ := oys.rd.len
                obtain ⟨u1, u2, eu⟩ := oxl.rd.len
                obtain ⟨v1, v2, ev⟩ := oyl.rd.len
                subst ex ey eu ev
                rw [hnl] at oxs oxl m1 l1
                rw [hml] at oys oyl m2 l2
                rw [hkk] at m0 l0
                have cm0 : w2.cell? ⟨gm, 0, none⟩ = some (.int .u8 kk) := by rw [World.ownsRow.cellAt rm 0 (by omega)]; exact m0
                have cm1 : w2.cell? ⟨gm, 1, none⟩ = some (.slice x1 nl x2) := by rw [World.ownsRow.cellAt rm 1 (by omega)]; exact m1
                have cm2 : w2.cell? ⟨gm, 2, none⟩ = some (.slice y1 ml y2) := by rw [World.ownsRow.cellAt rm 2 (by omega)]; exact m2
                have cl0 : w2.cell? ⟨gl, 0, none⟩ = some (.int .u8 kk) := by rw [World.ownsRow.cellAt rl 0 (by omega)]; exact l0
                have cl1 : w2.cell? ⟨gl, 1, none⟩ = some (.slice u1 nl u2) := by rw [World.ownsRow.cellAt rl 1 (by omega)]; exact l1
                have cl2 : w2.cell? ⟨gl, 2, none⟩ = some (.slice v1 ml v2) := by rw [World.ownsRow.cellAt rl 2 (by omega)]; exact l2
                have hgm := (rm.lt gm rfl).1
                have hgl := (rl.lt gl rfl).1
                have HSB : Hid (∀ W, Keeps (fun q => PM' q ∨ G' q) wx W → W.cell? ⟨gm, 0, none⟩ = some (.int .u8 kk) ∧ W.cell? ⟨gm, 1, none⟩ = some (.slice x1 nl x2) ∧ W.cell? ⟨gm, 2, none⟩ = some (.slice y1 ml y2) ∧ W.cell? ⟨gl, 0, none⟩ = some (.int .u8 kk) ∧ W.cell? ⟨gl, 1, none⟩ = some (.slice u1 nl u2) ∧ W.cell? ⟨gl, 2, none⟩ = some (.slice v1 ml v2) ∧ W.cell? ⟨wr.heap.size, 2, none⟩ = some (.int .u64 S)) := fun W hk => by
                  have hw2 : Keeps (fun q => PM' q ∨ G' q) w2 W := (Below.keeps HB3.out _).trans hk
                  have nm : ¬ (PM' gm ∨ G' gm) := fun h9 => by have := HPQ.out gm h9; have := HSA.out; omega
                  have nl' : ¬ (PM' gl ∨ G' gl) := fun h9 => by have := HPQ.out gl h9; have := HSA.out; omega
                  exact ⟨hw2.cell (p := ⟨gm, 0, none⟩) nm cm0, hw2.cell (p := ⟨gm, 1, none⟩) nm cm1, hw2.cell (p := ⟨gm, 2, none⟩) nm cm2, hw2.cell (p := ⟨gl, 0, none⟩) nl' cl0, hw2.cell (p := ⟨gl, 1, none⟩) nl' cl1, hw2.cell (p := ⟨gl, 2, none⟩) nl' cl2, hk.cell (p := ⟨wr.heap.size, 2, none⟩) (fun h9 => absurd (HPQ.out wr.heap.size h9) (Nat.lt_irrefl _)) b2⟩
                have hSD : wx.drew.cell? ⟨gm, 0, none⟩ = some (.int .u8 kk) ∧ wx.drew.cell? ⟨gm, 1, none⟩ = some (.slice x1 nl x2) ∧ wx.drew.cell? ⟨gm, 2, none⟩ = some (.slice y1 ml y2) ∧ wx.drew.cell? ⟨gl, 0, none⟩ = some (.int .u8 kk) ∧ wx.drew.cell? ⟨gl, 1, none⟩ = some (.slice u1 nl u2) ∧ wx.drew.cell? ⟨gl, 2, none⟩ = some (.slice v1 ml v2) ∧ wx.drew.cell? ⟨wr.heap.size, 2, none⟩ = some (.int .u64 S) := HSB.out _ (Below.keeps hdx _)
                have HRR : Hid (∀ W, Keeps (fun q => PM' q ∨ G' q) w2 W → (Rd W (.slice x1 nl x2) kl ∧ Rd W (.slice y1 ml y2) vl) ∧ Rd W (.slice u1 nl u2) kl ∧ Rd W (.slice v1 ml v2) vl) := fun W hk => by
                  have gen : ∀ (B : Nat) (z : Value) (l : List UInt8), wr.heap.size ≤ B → OwnN B w2 z l → Rd W z l := fun B z l hB hz => rd_keep hz.rd hk (fun q hq h9 => by have := (ownN_lt9 hz q hq).1; have := HPQ.out q h9; omega)
                  have := HSA.out
                  exact ⟨⟨gen _ _ _ (by omega) oxs, gen _ _ _ (by omega) oys⟩, gen _ _ _ (by omega) oxl, gen _ _ _ (by omega) oyl⟩
                have HHC : Hid (∀ hh : Int, ∃ c, batC [(k, kl, vl)] (o.seq : Int) [hh] ((lastN ((Z0 ++ Y).map (·.2)) : Nat) : Int) = c ∧ Calls Try.prog 30 #[.pointer (some ⟨m, 0, none⟩), .agg #[.int .u8 kk, .slice x1 nl x2, .slice y1 ml y2], .int .u64 S, .int .i64 hh] wx.drew (BatQ PM' wx.drew m L (spnP (Z0 ++ Y)) ((lastN ((Z0 ++ Y).map (·.2)) : Nat) : Int) [(k, kl, vl)] o.seq c) ∧ (∀ W1 : World, Keeps PM' wx.drew W1 → Calls Try.prog 36 #[.pointer (some ⟨x, 0, none⟩), .agg #[.int .u8 kk, .slice u1 nl u2, .slice v1 ml v2], .int .u64 S, .int .i64 hh] W1 (R10Post G' W1 x ((Z0 ++ Y).map (·.1)) ((Z0 ++ Y).map (·.2)) [(k, kl, vl)] o.seq c))) := fun hh => by
                  refine ⟨_, rfl, ?_, fun W1 hk => ?_⟩
                  · have h9 := mmP_do PM' wx.drew m L (spnP (Z0 ++ Y)) ((lastN ((Z0 ++ Y).map (·.2)) : Nat) : Int) k (.slice x1 nl x2) (.slice y1 ml y2) kl vl o.seq hh (HIx.out.mm.below hdx)
                      (fun W' hk => (HRR.out W' ((Below.keeps HB3.out _).trans ((Below.keeps hdx _).trans (hk.mono (fun i h9 => Or.inl h9))))).1) (by have := HBN.out.1; omega) (by have := HBN.out.2.1; omega) HBN.out.2.2.1 HSS.out.2
                    rw [hkk] at h9
                    have e9 := HSS.out.1
                    rw [← e9]
                    exact h9
                  · have hr9 := (HRR.out W1 ((Below.keeps HB3.out _).trans ((Below.keeps hdx _).trans (hk.mono (fun i h9 => Or.inl h9))))).2
                    have h9 := r10do_any G' W1 x ((Z0 ++ Y).map (·.1)) ((Z0 ++ Y).map (·.2)) k (.slice u1 nl u2) (.slice v1 ml v2) kl vl o.seq hh ((HIx.out.rf.below hdx).keeps hk (fun q hq hp => HIx.out.ap q hp hq)) hr9.1 hr9.2 hbo.1 hbo.2 (by have := HBN.out; omega) (by have := HBN.out; omega) HSS.out.2
                    rw [hkk] at h9
                    have e9 := HSS.out.1
                    rw [← e9]
                    exact h9
                clear cm0 cm1 cm2 cl0 cl1 cl2 m0 m1 m2 l0 l1 l2 oxs oys oxl oyl rm rl em el hgm hgl ho0 hbo hkk hnl hml hK0'
                by_cases hn0 : 0 < hn
                · obtain ⟨hb9, ho9, rfl, hcell⟩ := (HRD.out wx (Keeps.refl _ _)).2 0 hn0
                  rw [Nat.add_zero] at hcell
                  have hn0I : (0 : Int) < (hn : Int) := by omega
                  obtain ⟨hh, hhh⟩ : ∃ hh, (o.hts.take 66).getD 0 0 = hh := ⟨_, rfl⟩
                  rw [hhh] at hcell
                  obtain ⟨c, hc, hba, HRB0⟩ := HHC.out hh
                  have HRB : Hid _ := HRB0
                  clear hhh HRB0 HHC
                  have HC : Hid _ := hc
                  clear hc hra hrn
                  go_wp2_with fail
                  go_region_held3 (fun w' => w'.cell? ⟨gm, 0, none⟩ = some (.int .u8 kk) ∧ w'.cell? ⟨gm, 1, none⟩ = some (.slice x1 nl x2) ∧ w'.cell? ⟨gm, 2, none⟩ = some (.slice y1 ml y2) ∧ w'.cell? ⟨gl, 0, none⟩ = some (.int .u8 kk) ∧ w'.cell? ⟨gl, 1, none⟩ = some (.slice u1 nl u2) ∧ w'.cell? ⟨gl, 2, none⟩ = some (.slice v1 ml v2) ∧ w'.cell? ⟨wr.heap.size, 2, none⟩ = some (.int .u64 S))
                    (first | with_reducible exact HSB.out _ HK2.out | with_reducible exact HSB.out _ HK1.out | with_reducible exact hSD | fail "keep")
                    (first
                      | (go_at_call 30
                         refine Calls.mono hba ?_
                         rintro e w5 hq
                         have HQ : Hid (BatQ PM' wx.drew m L (spnP (Z0 ++ Y)) ((lastN ((Z0 ++ Y).map (·.2)) : Nat) : Int) [(k, kl, vl)] o.seq c e w5) := hq
                         have HK1 : Hid (Keeps (fun q => PM' q ∨ G' q) wx w5) := (Below.keeps hdx _).trans (hq.2.1.mono (fun i h9 => Or.inl h9))
                         have HKP : Hid (Keeps PM' wx.drew w5) := hq.2.1
                         obtain ⟨he5, _⟩ := hq
                         subst he5
                         clear hba)
                      | (go_at_call 36
                         refine Calls.mono (HRB.out _ HKP.out) ?_
                         rintro e w6 hr
                         have HR : Hid (R10Post G' w5 x ((Z0 ++ Y).map (·.1)) ((Z0 ++ Y).map (·.2)) [(k, kl, vl)] o.seq c e w6) := hr
                         have HK2 : Hid (Keeps (fun q => PM' q ∨ G' q) wx w6) := HK1.out.trans (hr.2.1.mono (fun i h9 => Or.inr h9))
                         obtain ⟨he6, _⟩ := hr
                         subst he6
                         clear HRB)
                      | fail "arm")
                  all_goals
                    go_wp2_with fail
                    go_meet
                    exact ⟨wx.drew, w5, [(k, kl, vl)], _, c, _, _, hdx, HC.out, HQ.out, HR.out⟩
                · have hn0I : ¬ (0 : Int) < (hn : Int) := by omega
                  obtain ⟨hh, hhh⟩ : ∃ hh : Int, (1 : Int) = hh := ⟨_, rfl⟩
                  obtain ⟨c, hc, hba, HRB0⟩ := HHC.out 1
                  have HRB : Hid _ := HRB0
                  clear hhh HRB0 HHC
                  have HC : Hid _ := hc
                  clear hc hra hrn
                  go_wp2_with fail
                  go_region_held3 (fun w' => w'.cell? ⟨gm, 0, none⟩ = some (.int .u8 kk) ∧ w'.cell? ⟨gm, 1, none⟩ = some (.slice x1 nl x2) ∧ w'.cell? ⟨gm, 2, none⟩ = some (.slice y1 ml y2) ∧ w'.cell? ⟨gl, 0, none⟩ = some (.int .u8 kk) ∧ w'.cell? ⟨gl, 1, none⟩ = some (.slice u1 nl u2) ∧ w'.cell? ⟨gl, 2, none⟩ = some (.slice v1 ml v2) ∧ w'.cell? ⟨wr.heap.size, 2, none⟩ = some (.int .u64 S))
                    (first | with_reducible exact HSB.out _ HK2.out | with_reducible exact HSB.out _ HK1.out | with_reducible exact hSD | fail "keep")
                    (first
                      | (go_at_call 30
                         refine Calls.mono hba ?_
                         rintro e w5 hq
                         have HQ : Hid (BatQ PM' wx.drew m L (spnP (Z0 ++ Y)) ((lastN ((Z0 ++ Y).map (·.2)) : Nat) : Int) [(k, kl, vl)] o.seq c e w5) := hq
                         have HK1 : Hid (Keeps (fun q => PM' q ∨ G' q) wx w5) := (Below.keeps hdx _).trans (hq.2.1.mono (fun i h9 => Or.inl h9))
                         have HKP : Hid (Keeps PM' wx.drew w5) := hq.2.1
                         obtain ⟨he5, _⟩ := hq
                         subst he5
                         clear hba)
                      | (go_at_call 36
                         refine Calls.mono (HRB.out _ HKP.out) ?_
                         rintro e w6 hr
                         have HR : Hid (R10Post G' w5 x ((Z0 ++ Y).map (·.1)) ((Z0 ++ Y).map (·.2)) [(k, kl, vl)] o.seq c e w6) := hr
                         have HK2 : Hid (Keeps (fun q => PM' q ∨ G' q) wx w6) := HK1.out.trans (hr.2.1.mono (fun i h9 => Or.inr h9))
                         obtain ⟨he6, _⟩ := hr
                         subst he6
                         clear HRB)
                      | fail "arm")
                  all_goals
                    go_wp2_with fail
                    go_meet
                    exact ⟨wx.drew, w5, [(k, kl, vl)], _, c, _, _, hdx, HC.out, HQ.out, HR.out⟩
              · have hdx : Below wx.heap.size wx wx.drew := (Below.refl _ _).drew
                have hba := mmP_batch PM' wx.drew m L (spnP (Z0 ++ Y)) ((lastN ((Z0 ++ Y).map (·.2)) : Nat) : Int) (.slice ma K mc) ls o.seq ha' hn hc' (o.hts.take 66) (HIx.out.mm.below hdx)
                  (fun W' hk => (HRC.out W' ((Below.keeps HB3.out _).trans ((Below.keeps hdx _).trans (hk.mono (fun i h9 => Or.inl h9))))).2.1) (fun W' hk => HRD.out W' ((Below.keeps hdx _).trans (hk.mono (fun i h9 => Or.inl h9)))) hra hrn (by omega) (fun h0 => by have := (chkL_mem h0).1; have := HBN.out.1; omega) (by have := HBN.out.2.1; omega) HBN.out.2.2.1 HSS.out.2
                obtain ⟨c, hc⟩ : ∃ c, batC ls (o.seq : Int) (o.hts.take 66) ((lastN ((Z0 ++ Y).map (·.2)) : Nat) : Int) = c := ⟨_, rfl⟩
                have HRB : Hid (∀ W1 : World, Keeps PM' wx.drew W1 → Calls Try.prog 37 #[.pointer (some ⟨x, 0, none⟩), .slice la K lc, .int .u64 S, .slice ha' hn hc'] W1 (R10Post G' W1 x ((Z0 ++ Y).map (·.1)) ((Z0 ++ Y).map (·.2)) ls o.seq c)) := fun W1 hk => by
                  have h9 := r10batch_any G' W1 x ((Z0 ++ Y).map (·.1)) ((Z0 ++ Y).map (·.2)) (.slice la K lc) ls o.seq ha' hn hc' (o.hts.take 66) ((HIx.out.rf.below hdx).keeps hk (fun q hq hp => HIx.out.ap q hp hq))
                    (fun W' hk' => (HRC.out W' (((Below.keeps HB3.out _).trans ((Below.keeps hdx _).trans (hk.mono (fun i h9 => Or.inl h9)))).trans (hk'.mono (fun i h9 => Or.inr h9)))).2.2) (HRD.out W1 ((Below.keeps hdx _).trans (hk.mono (fun i h9 => Or.inl h9)))) hrn (by omega) HLL.out.2 (by rw [HK.out]; have := HBN.out; omega) (by rw [HK.out]; have := HBN.out; omega) HSS.out.2
                  rw [hc, HSS.out.1] at h9
                  exact h9
                rw [hc, HSS.out.1] at hba
                have HC : Hid (batC ls (o.seq : Int) (o.hts.take 66) ((lastN ((Z0 ++ Y).map (·.2)) : Nat) : Int) = c) := hc
                have HSB : Hid (∀ W, Keeps (fun q => PM' q ∨ G' q) wx W → W.cell? ⟨wr.heap.size, 2, none⟩ = some (.int .u64 S)) := fun W hk => hk.cell (p := ⟨wr.heap.size, 2, none⟩) (fun h9 => absurd (HPQ.out wr.heap.size h9) (Nat.lt_irrefl _)) b2
                have hb2d : wx.drew.cell? ⟨wr.heap.size, 2, none⟩ = some (.int .u64 S) := b2
                clear hc hra hrn
                go_wp2_with fail
                go_region_held3 (fun w' => w'.cell? ⟨wr.heap.size, 2, none⟩ = some (.int .u64 S))
                  (first | with_reducible exact HSB.out _ HK2.out | with_reducible exact HSB.out _ HK1.out | with_reducible exact hb2d | fail "keep")
                  (first
                    | (go_at_call 29
                       refine Calls.mono hba ?_
                       rintro e w5 hq
                       have HQ : Hid (BatQ PM' wx.drew m L (spnP (Z0 ++ Y)) ((lastN ((Z0 ++ Y).map (·.2)) : Nat) : Int) ls o.seq c e w5) := hq
                       have HK1 : Hid (Keeps (fun q => PM' q ∨ G' q) wx w5) := (Below.keeps hdx _).trans (hq.2.1.mono (fun i h9 => Or.inl h9))
                       have HKP : Hid (Keeps PM' wx.drew w5) := hq.2.1
                       obtain ⟨he5, _⟩ := hq
                       subst he5
                       clear hba)
                    | (go_at_call 37
                       refine Calls.mono (HRB.out _ HKP.out) ?_
                       rintro e w6 hr
                       have HR : Hid (R10Post G' w5 x ((Z0 ++ Y).map (·.1)) ((Z0 ++ Y).map (·.2)) ls o.seq c e w6) := hr
                       have HK2 : Hid (Keeps (fun q => PM' q ∨ G' q) wx w6) := HK1.out.trans (hr.2.1.mono (fun i h9 => Or.inr h9))
                       obtain ⟨he6, _⟩ := hr
                       subst he6
                       clear HRB)
                    | fail "arm")
                all_goals
                  go_wp2_with fail
                  go_meet
                  exact ⟨wx.drew, w5, ls, o.hts.take 66, c, _, _, hdx, HC.out, HQ.out, HR.out⟩
            case rest =>
              obtain ⟨wy, hwy⟩ : ∃ wy, wy = wc := ⟨_, rfl⟩
              subst hwy
              have HKY : Hid (Keeps (fun q => PM' q ∨ G' q) wx wy ∧ Below wx.heap.size wx wx) := by
                obtain ⟨W, W1, ps, hs, c, e1, e2, hbW, _, hq, hr⟩ := hcut.out
                exact ⟨((Below.keeps hbW _).trans (hq.2.1.mono (fun i h9 => Or.inl h9))).then (hr.2.1.mono (fun i h9 => Or.inr h9)) (fun i h9 => .inl h9), Below.refl _ _⟩
              have HYC : Hid _ := hcut
              have hry := HRC.out wy ((Below.keeps HB3.out _).trans HKY.out.1)
              have hsm := sameops_any wy (.slice ma K mc) (.slice la K lc) ls ls true hry.2.1 hry.2.2 (by simp)
              have HRY : Hid (RowC w1.heap.size wy (.slice ma K mc) K cs) := hry.1
              clear hry hcut
              go_wp2_with fail
              refine hsm.mono ?_
              rintro e wz ⟨rfl, nn, hwz⟩
              have HRZ : Hid (RowC w1.heap.size wz (.slice ma K mc) K cs ∧ Keeps (fun q => w1.heap.size ≤ q ∧ q < w2.heap.size) wy wz) := by
                rw [hwz]
                exact ⟨HRY.out, Below.keeps (below_drewN (Below.refl _ _) _) _⟩
              clear hsm hwz HRY
              obtain ⟨wo, hwo⟩ : ∃ wo, wo = wr := ⟨_, rfl⟩
              subst hwo
              go_wp2_with fail
              go_loopg [87] K (fun gk iv wr => ∃ j : Nat, gk + j = K ∧ iv = .int .i64 (j : Int) ∧ Hid (RowC w1.heap.size wr (.slice ma K mc) K cs ∧ Keeps (fun q => w1.heap.size ≤ q ∧ q < w2.heap.size) wy wr))
              case atStart => exact ⟨0, by omega, rfl, HRZ⟩
              case round =>
                obtain ⟨j, hj2, rfl, HR⟩ := hrel
                obtain ⟨GJ, hGJ⟩ : ∃ GJ, gk = GJ := ⟨_, rfl⟩
                rw [hGJ] at hj2
                by_cases hltj : j < K
                · obtain ⟨p1, p2⟩ := gk_nxt hj2 hltj
                  obtain ⟨g, k, hg⟩ : ∃ g k, Value.slice ma K mc = .slice (some ⟨g, 0, none⟩) K k := by
                    obtain ⟨g, k, e, _, _⟩ := HR.out.1.1.form (by omega)
                    exact ⟨g, k, e⟩
                  cases hg
                  obtain ⟨xv, yv, ex, ey, cx, cy, sx, sy⟩ := HR.out.1.cells j hltj
                  have HEY : Hid (cs[j * 3 + 2]? = some yv) := ey
                  obtain ⟨ya, yn, yc, hyy⟩ : ∃ ya yn yc, yv = .slice ya yn yc := by
                    rcases sy with h9 | ⟨g', n, c', e, _⟩
                    · exact ⟨_, _, _, h9⟩
                    · exact ⟨_, _, _, e⟩
                  subst hyy
                  have hym : yn ≤ 9223372036854775807 := by
                    rcases sy with h9 | ⟨g', n, c', e, _, h1, h2, _⟩
                    · cases h9; omega
                    · cases e; unfold maxLen at h2; omega
                  clear sx sy ex ey cx
                  obtain ⟨wp, hwp⟩ : ∃ wp, wp = wr := ⟨_, rfl⟩
                  subst hwp
                  go_wp2_with fail
                  clear cy
                  go_loopg [96] yn (fun gk iv wr => ∃ i : Nat, gk + i = yn ∧ iv = .int .i64 (i : Int) ∧ Hid (RowC w1.heap.size wr (.slice (some ⟨g, 0, none⟩) K mc) K cs ∧ Keeps (fun q => w1.heap.size ≤ q ∧ q < w2.heap.size) wy wr))
                  case atStart => exact ⟨0, by omega, rfl, HR⟩
                  case round =>
                    clear HR
                    obtain ⟨ii, hi2, rfl, HR⟩ := hrel
                    obtain ⟨xv, yv, ex, ey, cx, cy, sx, sy⟩ := HR.out.1.cells j hltj
                    obtain rfl : yv = .slice ya yn yc := by
                      have e2 := HEY.out.symm.trans ey
                      simp at e2
                      exact e2.symm
                    clear ex
                    by_cases hlt3 : ii < yn
                    · obtain ⟨p3, p4⟩ := gk_nxt hi2 hlt3
                      rcases sy with h9 | ⟨gy, n, c', e, hu, h1, h2, h3⟩
                      · cases h9; omega
                      · cases e
                        unfold maxLen at h2
                        have hblk := HCB.out _ (List.mem_of_getElem? ey) gy rfl
                        obtain ⟨bb, hcy, hfy⟩ := u8_cell hu ii hlt3
                        have hxb := bb.toNat_lt
                        have r1 := HR.out.1.set hu ii (bb ^^^ 1)
                        have r2 := HR.out.2.setCell (p := ⟨gy, ii, none⟩) hblk (.int .u8 ((bb ^^^ 1).toNat : Int))
                        have hx1 := xor_one bb
                        have HQ1 : Hid (RowC w1.heap.size (wr.setCell ⟨gy, ii, none⟩ (.int .u8 ((bb ^^^ 1).toNat : Int))) (.slice (some ⟨g, 0, none⟩) K mc) K cs ∧ Keeps (fun q => w1.heap.size ≤ q ∧ q < w2.heap.size) wy (wr.setCell ⟨gy, ii, none⟩ (.int .u8 ((bb ^^^ 1).toNat : Int)))) := ⟨r1, r2⟩
                        clear HR hu r1 r2 ey sx cx hblk
                        go_wp2
                        go_roundg (gk - 1)
                        case measure => exact p3
                        case rel => exact ⟨ii + 1, p4, by go_num, HQ1⟩
                    · obtain rfl : ii = yn := by omega
                      clear sx sy cx cy ey
                      go_wp2_with fail
                      go_roundg (GJ - 1)
                      case measure => rw [hGJ]; exact p1
                      case rel => exact ⟨j + 1, p2, by go_num, HR⟩
                · obtain rfl : j = K := by omega
                  have HNX : Hid (RunL PM G W0 wr m x Z0 (i + 1)) := by
                    obtain ⟨W, W1, ps, hs, c, e1, e2, hbW, hc9, hq, hr⟩ := HYC.out
                    refine RunL.next (HIx.out.below hbW) HYY.out.1 HYY.out.2.1 HYY.out.2.2 hc9 hq hr HR.out.2 (fun q hq9 => ?_)
                    have a1 := HSA.out
                    have a2 := HB3.out.size
                    have a3 := hbW.size
                    have a4 := HIW.out.kp.size
                    refine ⟨⟨fun h9 => ?_, fun h9 => ?_⟩, by omega, by omega⟩
                    · have := HPQ.out q (.inl h9); omega
                    · have := HPQ.out q (.inr h9); omega
                  go_wp2_with fail
                  go_roundg (GK - 1)
                  case measure => rw [hGK]; exact q1
                  case rel => exact ⟨i + 1, q2, by go_num, hi29, HNX⟩
    · have hjN : i = NS := by omega
      subst hjN
      go_wp2
      go_ret
      exact ⟨rfl, i, hi30, HI.out⟩

end Go.Proofs.Ythcoblmfmbmdkaa
