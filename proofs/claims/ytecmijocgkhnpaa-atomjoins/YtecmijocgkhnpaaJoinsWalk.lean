/- AtomJoins answers true: whatever is put together stands there in order, apart from what it was. -/
import Derived.Test.YtecmijocgkhnpaaFlips
namespace Go.Proofs.Ytecmijocgkhnpaa
open Go.RowKit

/-- the texts that are put together: at most thirty, of at most 100 bytes each -/
def cutj (ls : List (List UInt8)) : List (List UInt8) := (ls.take 30).map fun t => t.take 100
theorem cutj_length (ls : List (List UInt8)) : (cutj ls).length = min ls.length 30 := by simp [cutj, Nat.min_comm]
theorem cutj_get (ls : List (List UInt8)) (k : Nat) (h : k < (cutj ls).length) (h' : k < ls.length) : (cutj ls)[k] = (ls[k]).take 100 := by simp [cutj]
theorem flat_le (l : List (List UInt8)) (c : Nat) (h : ∀ x ∈ l, x.length ≤ c) : l.flatten.length ≤ c * l.length := by
  induction l with
  | nil => simp
  | cons x l ih =>
    have h1 := h x (by simp)
    have h2 := ih (fun y hy => h y (by simp [hy]))
    rw [List.flatten_cons, List.length_append, List.length_cons, Nat.mul_add]
    omega
theorem cutj_flat (ls : List (List UInt8)) : (cutj ls).flatten.length ≤ 3000 := by
  have := flat_le (cutj ls) 100 (fun x hx => by
    simp only [cutj, List.mem_map] at hx
    obtain ⟨y, _, rfl⟩ := hx
    exact List.length_take_le _ _)
  have hl := cutj_length ls
  omega

set_option maxHeartbeats 4000000 in
set_option maxRecDepth 20000 in
theorem joins_walk (w : World) (b off cap : Nat) (ls : List (List UInt8)) (h0 : 0 < ls.length) (h1 : ls.length ≤ cap) (_h2 : cap ≤ maxLen) (h3 : ∀ j (h : j < ls.length), ∃ u, w.cell? ⟨b, off + j, none⟩ = some u ∧ Arg w u (ls[j])) :
    Calls Try.prog 7 #[.slice (some ⟨b, off, none⟩) ls.length cap] w fun e w' => e = .returned (.bool true) ∧ Below w.heap.size w w' := by
  obtain ⟨i0, hi, hz0, hz1, hz2⟩ := info_parts info5
  obtain ⟨j0, gi, gz0, gz1, gz2⟩ := info_parts info23
  obtain ⟨m, hm⟩ : ∃ m, min ls.length 30 = m := ⟨_, rfl⟩
  have hml : m ≤ ls.length := by omega
  have hm0 : 0 < m := by omega
  have hm30 : m ≤ 30 := by omega
  have hmin : min (ls.length : Int) 30 = (m : Int) := by omega
  have HTL : Hid ((cutj ls).length = m) := by show _ = _; rw [cutj_length, hm]
  have hfl := cutj_flat ls
  obtain ⟨C, hC⟩ : ∃ C, cutj ls = C := ⟨_, rfl⟩
  have HTG : Hid (∀ k (h : k < C.length) (h' : k < ls.length), C[k] = (ls[k]).take 100) := by
    subst hC; exact fun k h h' => cutj_get ls k h h'
  rw [hC] at HTL hfl
  clear hm hC
  unfold maxLen at _h2
  go_enter Try.func7, Try.ntmps7
  go_wp2_with fail
  refine (awake_any _).mono ?_
  rintro e w1 ⟨rfl, hb1⟩
  have h31 : ∀ j (h : j < ls.length), ∃ u, w1.cell? ⟨b, off + j, none⟩ = some u ∧ Arg w1 u (ls[j]) := fun j hj => by
    obtain ⟨u, hc, ha⟩ := h3 j hj
    refine ⟨u, ?_, ha.below hb1 (Nat.le_refl _)⟩
    rw [hb1.cell (p := ⟨b, off + j, none⟩) (World.block_lt_of_cell? w _ hc)]; exact hc
  have hsz := hb1.size
  clear h3
  go_wp2
  go_loopw [3, 4, 20] (fun pv wv iv wr => ∃ (k : Nat) (vs : List Value), k ≤ m ∧ iv = .int .i64 (k : Int) ∧ wr.ownsRow w1.heap.size 23 1 pv k vs ∧ wr.ownsRow w1.heap.size 5 1 wv (pre C k).length (bv (pre C k)) ∧ PartsOK w1.heap.size wr vs C k wv ∧ Below w1.heap.size w1 wr) (fun _ _ iv _ => m - (intOf iv).toNat)
  case atStart => exact ⟨0, [], Nat.zero_le _, rfl, World.ownsRow_nil _ _ _ _, by rw [pre_zero]; exact World.ownsRow_nil _ _ _ _, parts_zero _ _ _ _ _, Below.refl _ _⟩
  case round =>
    obtain ⟨k, vs, hk, rfl, hpv, hwv, hpo, hbl⟩ := hrel
    by_cases hlt : k < m
    · obtain ⟨u, hc, ha⟩ := h31 k (by omega)
      have hc2 : wr.cell? ⟨b, off + k, none⟩ = some u := by rw [hbl.cell (p := ⟨b, off + k, none⟩) (World.block_lt_of_cell? w1 _ hc)]; exact hc
      have ha2 := ha.below hbl (Nat.le_refl _)
      have hkC : k < C.length := by rw [HTL.out]; exact hlt
      obtain ⟨c, hcc⟩ : ∃ c, (ls[k]).take 100 = c := ⟨_, rfl⟩
      have hcl : c.length ≤ 100 := by rw [← hcc]; exact List.length_take_le _ _
      have HC : Hid ((ls[k]).take 100 = c) := hcc
      have HCk : Hid (C[k]? = some c) := by show _ = _; rw [List.getElem?_eq_getElem hkC, HTG.out k hkC (by omega), hcc]
      have HPS : Hid (pre C (k + 1) = pre C k ++ c) := by show _ = _; rw [pre_succ C k hkC, HTG.out k hkC (by omega), hcc]
      have hpl := pre_le C (k + 1)
      rw [HPS.out, List.length_append] at hpl
      have hvl : vs.length = k := by have := hpv.1; omega
      have HVL : Hid (vs.length = k) := hvl
      obtain ⟨uo, uc, huv⟩ := ha2.shape
      subst huv
      clear h31 hc hcc hvl hkC
      go_wp2_with fail
      refine (cut_any _ _ _ 100 ha2 (by omega)).mono ?_
      rintro e w2 ⟨vc, rfl, oc, hb2⟩
      rw [HC.out] at oc
      obtain ⟨gc, kc, hvc⟩ := oc.shape
      subst hvc
      have ha3 := ha2.below hb2 (Nat.le_refl _)
      have hpv2 := row_below hpv hb2
      have hwv2 := row_below hwv hb2
      have hB2 := hbl.trans (hb2.mono hbl.size)
      have hpa := hpv2.alloc (.cells #[.slice (some ⟨gc, 0, none⟩) c.length kc] 23)
      have hwa := hwv2.alloc (.cells #[.slice (some ⟨gc, 0, none⟩) c.length kc] 23)
      have haa := ha3.below ((Below.refl w2.heap.size w2).alloc (Nat.le_refl _) (.cells #[.slice (some ⟨gc, 0, none⟩) c.length kc] 23)) (Nat.le_refl _)
      have hBa := hB2.alloc hB2.size (.cells #[.slice (some ⟨gc, 0, none⟩) c.length kc] 23)
      have hlc : ∀ (j : Nat) (u : Value), [Value.slice (some ⟨gc, 0, none⟩) c.length kc][j]? = some u → (w2.alloc (.cells #[.slice (some ⟨gc, 0, none⟩) c.length kc] 23)).cell? ((⟨w2.heap.size, 0, none⟩ : Addr).add j) = some u := by
        intro j u hu
        match j, hu with
        | 0, hu => simp at hu; subst hu; simp [Addr.add]
      go_wp2_with (first | (at_builtin; refine wpList_append_own _ rfl (.tmp 24) (.tmp 27) 42 rfl w1.heap.size 23 j0 (.slice none 0 0) 1 24 Try.underlying42 gi gz0 gz1 gz2 rfl (by decide) u3 k vs rfl hpa ⟨w2.heap.size, 0, none⟩ 1 1 [.slice (some ⟨gc, 0, none⟩) c.length kc] rfl rfl hlc (by intro u hu; simp at hu; subst hu; rfl) (by simp only [maxLen]; omega) (by omega) (by simp; exact Nat.le_trans hB2.size (by omega)) ?_; intro pv' w3 hpv3 hgr3 hn3) | fail)
      have hB3 : Below w1.heap.size w1 w3 := hBa.grown hgr3 hBa.size (fun k' e => (hpa.lt k' e).1)
      have hwv3 := hwa.kept hgr3 (rows_apart' hpa hwa)
      have ha4 := ha.below hB3 (Nat.le_refl _)
      clear haa hBa hlc hn3 ha3 hwa hpa hB2 hpv2 hwv2 ha2 hc2
      refine (cut_any _ _ _ 100 ha4 (by omega)).mono ?_
      rintro e w4 ⟨vt, rfl, ot, hb4⟩
      rw [HC.out] at ot
      obtain ⟨gt, kt, hvt⟩ := ot.shape
      subst hvt
      have hB4 := hB3.trans (hb4.mono hB3.size)
      have hwv4 := row_below hwv3 hb4
      have hcs := ot.row.cells (g := gt) rfl
      go_wp2_with (first | (at_builtin; refine wpList_append_new _ rfl (.tmp 29) (.tmp 31) 23 rfl w1.heap.size 5 i0 (.int .u8 0) 1 1 Try.underlying23 hi hz0 hz1 hz2 rfl (by decide) u4 _ _ rfl hwv4 ⟨gt, 0, none⟩ c.length kt (bv c) rfl (by rw [bv_length, Nat.mul_one]) hcs (bv_one _) (by simp only [maxLen]; omega) (by omega) hB4.size ?_; intro wv' w5 hwv5 hgr5 hn5 hst5) | fail)
      have hB5 : Below w1.heap.size w1 w5 := hB4.grown hgr5 hB4.size (fun k' e => (hwv4.lt k' e).1)
      have hpo5 := parts_step hpo HVL.out HCk.out hpv hwv oc hb2 hbl.size hgr3 hb4 hgr5 hst5
      have hpv5 := parts_rows hpv3 hwv3 hb4 hgr5
      have hwv5' : w5.ownsRow w1.heap.size 5 1 wv' (pre C (k + 1)).length (bv (pre C (k + 1))) := by rw [HPS.out, List.length_append, bv_append]; exact hwv5
      clear hwv5 hgr5 hn5 hst5 hcs hwv4 hB4 hb4 ot hwv3 hB3 hgr3 hpv3 oc hb2 hpo hbl hpv hwv ha ha4
      go_roundw
      case rel => exact ⟨k + 1, _, by omega, by go_num, hpv5, hwv5', hpo5, hB5⟩
      case measure => simp [intOf]; omega
    · have hke : k = m := by omega
      subst hke
      obtain ⟨gp, kp, hpvv, hpk⟩ : ∃ gp kp, u3 = .slice (some ⟨gp, 0, none⟩) k kp ∧ k ≤ kp ∧ kp ≤ maxLen := by
        rcases hpv.2 with ⟨_, e⟩ | ⟨g, cp, cur, e, _, _, h1', h2', _⟩
        · omega
        · exact ⟨g, cp, e, h1', h2'⟩
      subst hpvv
      obtain ⟨hpk1, hpk2⟩ := hpk
      have hCk : ∀ j (h : j < C.length), (C[j]).length ≤ 100 := fun j h => by
        rw [HTG.out j h (by rw [HTL.out] at h; omega)]; exact List.length_take_le _ _
      have hrl : RdL wr (.slice (some ⟨gp, 0, none⟩) k kp) C := by
        refine .inr ⟨gp, 0, kp, by rw [HTL.out], by rw [HTL.out]; exact hpk1, hpk2, fun j hj => ?_⟩
        obtain ⟨g, c, l, e1, e2, ho, _⟩ := hpo j (by rw [HTL.out] at hj; exact hj)
        refine ⟨.slice (some ⟨g, 0, none⟩) l.length c, ?_, ?_⟩
        · rw [Nat.zero_add, hpv.cellAt j (by rw [HTL.out] at hj; omega)]; exact e2
        · rw [List.getElem?_eq_getElem hj] at e1
          simp only [Option.some.injEq] at e1
          rw [e1]; exact ho.rd
      have hwr : Rd wr u4 C.flatten := by
        rw [← pre_end C, HTL.out]
        rcases row_shape hwv with ⟨e, e2, _⟩ | ⟨g, cp, e⟩
        · exact .inl ⟨e, e2⟩
        · exact (Own.of_row hwv (by rw [e]; simp)).rd
      obtain ⟨P, hP⟩ : ∃ P, C.flatten = P := ⟨_, rfl⟩
      go_wp2_with fail
      refine (join_any _ _ C hrl (by omega)).mono ?_
      rintro e w2 ⟨vp, rfl, op, hb2⟩
      rw [hP] at op hwr
      obtain ⟨gq, kq, hvq⟩ := op.shape
      subst hvq
      have hgq := op.row.lt gq rfl
      have hpv2 := row_below hpv hb2
      have hwr2 := hwr.below hb2 (Nat.le_refl _)
      have hB2 := hbl.trans (hb2.mono hbl.size)
      have rp2 := op.rd
      have hinv : Inv w1.heap.size k w2 vs (.slice (some ⟨gq, 0, none⟩) P.length kq) u4 := by
        intro j hj
        obtain ⟨g, c, l, e1, e2, ho, hne⟩ := hpo j hj
        obtain ⟨a1, a2, a3, a4⟩ := u8_of_own ho
        have hgl := (ho.row.lt g rfl).2
        refine ⟨g, c, l.length, e2, ?_, a2, a3, u8_below a1 hb2, ?_, hne, a4⟩
        · have hjC : j < C.length := by rw [HTL.out]; exact hj
          rw [List.getElem?_eq_getElem hjC] at e1
          simp only [Option.some.injEq] at e1
          rw [← e1]; exact hCk j hjC
        · simp only [Value.ownBlock]; intro h; simp only [Option.some.injEq] at h; omega
      clear hb2 op hwr hrl hCk hP hpo hwv hbl hpv hgq h31
      go_wp2
      go_loopw [38] (fun iv wr => ∃ j : Nat, j ≤ k ∧ iv = .int .i64 (j : Int) ∧ wr.ownsRow w1.heap.size 23 1 (.slice (some ⟨gp, 0, none⟩) k kp) k vs ∧ Inv w1.heap.size k wr vs (.slice (some ⟨gq, 0, none⟩) P.length kq) u4 ∧ Rd wr (.slice (some ⟨gq, 0, none⟩) P.length kq) P ∧ Rd wr u4 P ∧ Below w1.heap.size w1 wr) (fun iv _ => k - (intOf iv).toNat)
      case atStart => exact ⟨0, Nat.zero_le _, rfl, hpv2, hinv, rp2, hwr2, hB2⟩
      case round =>
        clear hpv2 hinv rp2 hwr2 hB2
        obtain ⟨j, hj, rfl, hpv, hinv, rp, rw', hbl⟩ := hrel
        by_cases hlt2 : j < k
        · obtain ⟨g, c, n, e2, hn100, hnc, hcm, hu, hne1, hne2, hBg⟩ := hinv j hlt2
          have hcell := hpv.cellAt j (by omega)
          rw [e2] at hcell
          unfold maxLen at hcm
          clear e2
          go_wp2
          go_loopw [44] (fun iv wq => ∃ i : Nat, i ≤ n ∧ iv = .int .i64 (i : Int) ∧ wq.ownsRow w1.heap.size 23 1 (.slice (some ⟨gp, 0, none⟩) k kp) k vs ∧ Inv w1.heap.size k wq vs (.slice (some ⟨gq, 0, none⟩) P.length kq) u4 ∧ Rd wq (.slice (some ⟨gq, 0, none⟩) P.length kq) P ∧ Rd wq u4 P ∧ Below w1.heap.size w1 wq ∧ U8 wq g n) (fun iv _ => n - (intOf iv).toNat)
          case atStart => exact ⟨0, Nat.zero_le _, rfl, hpv, hinv, rp, rw', hbl, hu⟩
          case round =>
            clear hpv hinv rp rw' hbl hu hcell
            obtain ⟨i, hi', rfl, hpv, hinv, rp, rw', hbl, hu⟩ := hrel
            by_cases hlt3 : i < n
            · obtain ⟨x, hcx, hfx⟩ := u8_cell hu i hlt3
              have hxb := x.toNat_lt
              have q1 := row_set (i := i) (u := .int .u8 ((x ^^^ 1).toNat : Int)) hpv hu
              have q2 := inv_set hinv g i (x ^^^ 1)
              have q3 := rd_set (i := i) (u := .int .u8 ((x ^^^ 1).toNat : Int)) rp hne1
              have q4 := rd_set (i := i) (u := .int .u8 ((x ^^^ 1).toNat : Int)) rw' hne2
              have q5 := hbl.setCell (p := ⟨g, i, none⟩) hBg (.int .u8 ((x ^^^ 1).toNat : Int))
              have q6 := u8_set hu g i (x ^^^ 1)
              rw [← xor_one] at q1 q2 q3 q4 q5 q6
              clear hpv hinv rp rw' hbl hu
              go_wp2
              go_roundw
              case rel => exact ⟨i + 1, by omega, by go_num, q1, q2, q3, q4, q5, q6⟩
              case measure => simp [intOf]; omega
            · go_wp2
              go_roundw
              case rel => exact ⟨j + 1, by omega, by go_num, hpv, hinv, rp, rw', hbl⟩
              case measure => simp [intOf]; omega
        · have hje : j = k := by omega
          subst hje
          go_wp2_with fail
          refine (same_b _ _ _ _ _ true rp rw' (by simp)).mono ?_
          rintro e w3 ⟨rfl, hw⟩
          subst hw
          go_wp2_with fail
          refine (join_any _ _ [] (.inl ⟨rfl, rfl⟩) (by simp)).mono ?_
          rintro e w4 ⟨x, rfl, ox, hb4⟩
          obtain ⟨gx, kx, hvx⟩ := ox.shape
          subst hvx
          go_wp2
          go_ret
          exact ⟨rfl, hb1.trans ((hbl.trans (hb4.mono hbl.size)).mono hsz)⟩

set_option maxHeartbeats 2000000 in
set_option maxRecDepth 20000 in
theorem joins_none (w : World) (ao : Option Addr) (cap : Nat) (h : ao = none → cap = 0) (h2 : cap ≤ maxLen) :
    Calls Try.prog 7 #[.slice ao 0 cap] w fun e w' => e = .returned (.bool true) ∧ Below w.heap.size w w' := by
  have hmin : min (0 : Int) 30 = 0 := by omega
  unfold maxLen at h2
  have hn : ∀ w0 : World, Rd w0 (.slice none 0 0) [] := fun w0 => .inl ⟨rfl, rfl⟩
  cases ao with
  | none =>
    have := h rfl
    subst this
    go_enter Try.func7, Try.ntmps7
    go_wp2_with fail
    refine (awake_any _).mono ?_
    rintro e w1 ⟨rfl, hb1⟩
    go_wp2
    refine wp_loop_rounds 1 ?_
    rw [rounds_succ]
    go_wp2_with fail
    refine (join_any _ _ [] (.inl ⟨rfl, rfl⟩) (by simp)).mono ?_
    rintro e w2 ⟨vp, rfl, op, hb2⟩
    have hB2 := hb1.trans (hb2.mono hb1.size)
    have rp := op.rd
    clear hb1 hb2
    go_wp2
    refine wp_loop_rounds 1 ?_
    rw [rounds_succ]
    go_wp2_with fail
    refine (same_b _ _ _ _ _ true rp (hn _) (by simp)).mono ?_
    rintro e w3 ⟨rfl, hw⟩
    subst hw
    go_wp2_with fail
    refine (join_any _ _ [] (.inl ⟨rfl, rfl⟩) (by simp)).mono ?_
    rintro e w4 ⟨x, rfl, ox, hb4⟩
    obtain ⟨gx, kx, hvx⟩ := ox.shape
    subst hvx
    go_wp2
    go_ret
    exact ⟨rfl, hB2.trans (hb4.mono hB2.size)⟩
  | some a =>
    go_enter Try.func7, Try.ntmps7
    go_wp2_with fail
    refine (awake_any _).mono ?_
    rintro e w1 ⟨rfl, hb1⟩
    go_wp2
    refine wp_loop_rounds 1 ?_
    rw [rounds_succ]
    go_wp2_with fail
    refine (join_any _ _ [] (.inl ⟨rfl, rfl⟩) (by simp)).mono ?_
    rintro e w2 ⟨vp, rfl, op, hb2⟩
    have hB2 := hb1.trans (hb2.mono hb1.size)
    have rp := op.rd
    clear hb1 hb2
    go_wp2
    refine wp_loop_rounds 1 ?_
    rw [rounds_succ]
    go_wp2_with fail
    refine (same_b _ _ _ _ _ true rp (hn _) (by simp)).mono ?_
    rintro e w3 ⟨rfl, hw⟩
    subst hw
    go_wp2_with fail
    refine (join_any _ _ [] (.inl ⟨rfl, rfl⟩) (by simp)).mono ?_
    rintro e w4 ⟨x, rfl, ox, hb4⟩
    obtain ⟨gx, kx, hvx⟩ := ox.shape
    subst hvx
    go_wp2
    go_ret
    exact ⟨rfl, hB2.trans (hb4.mono hB2.size)⟩

theorem atomJoins_walk (a0 : Option Addr) (len0 cap0 : Nat) (l0 : List (List UInt8)) (w : World) (w0 : ArgL w (.slice a0 len0 cap0) l0) :
    Calls Try.prog 7 #[.slice a0 len0 cap0] w fun e w' => e = .returned (.bool true) ∧ Below w.heap.size w w' := by
  rcases w0 with ⟨rfl, ao, cap, e, h, h2⟩ | ⟨b, off, cap, e, h0, h1, h2, h3⟩
  · rw [e]
    exact joins_none w ao cap h h2
  · rw [e]
    exact joins_walk w b off cap l0 h0 h1 h2 h3

end Go.Proofs.Ytecmijocgkhnpaa
