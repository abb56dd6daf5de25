/- LocksMove: the script. -/
import Derived.Test.YthiogpojccohgaaGrpM
import Derived.Deep.DeepCutAuto
import Derived.Deep.CutBlock
import Derived.Maps.RangeWalk
namespace Go.Proofs.Ythiogpojccohgaa
set_option maxRecDepth 100000
open Go.RowKit Go.Maps
set_option linter.unusedVariables false
set_option linter.unusedSimpArgs false

/-- the table, and those that were seen, where nobody waits in a ring -/
structure MvE (B mb : Nat) (w1 wr : World) (t j : Nat) : Prop where
  ex : ∃ n gs qs l, LkX B (fun b => b = mb) wr t 60 60 gs qs ∧ MapG wr mb n l ∧ Dis qs ∧ Stk gs qs ∧ Acy (waitL gs qs) ∧ (∀ z ∈ prsL gs qs, z ∈ l) ∧ gs.length + qs.length ≤ 40 ∧ n ≤ 40 ∧ gs.length + qs.length ≤ j ∧ n ≤ j
  hb : Below B w1 wr
  mb : B ≤ mb ∧ mb < wr.heap.size

/-- behind a request, as the ring is broken up -/
structure MvK (B mb lb : Nat) (wr : World) (t j : Nat) (k : Nat) (l : List Nat) (n : Nat) (c : Nat) : Prop where
  ex : ∃ gs qs, LkX B (fun b => b = mb ∨ b = lb) wr t 60 60 gs qs ∧ Dis qs ∧ Stk gs qs ∧ Acy (butE (waitL gs qs) k) ∧ (∀ z ∈ prsL gs qs, z ∈ l ∨ z = k) ∧ gs.length + qs.length ≤ 40 ∧ gs.length + qs.length ≤ j ∧ qs.length + c ≤ 40
  mg : MapG wr mb n l
  bx : wr.cell? ⟨lb, 0, none⟩ = some (.int .u64 (k : Int))

/-- and broken up -/
structure MvL (B mb lb : Nat) (w1 wr : World) (t j : Nat) (k : Nat) (l : List Nat) (n : Nat) : Prop where
  ex : ∃ gs qs, LkX B (fun b => b = mb ∨ b = lb) wr t 60 60 gs qs ∧ Dis qs ∧ Stk gs qs ∧ Acy (waitL gs qs) ∧ (∀ z ∈ prsL gs qs, z ∈ l ∨ z = k) ∧ gs.length + qs.length ≤ 40 ∧ gs.length + qs.length ≤ j
  mg : MapG wr mb n l
  bx : wr.cell? ⟨lb, 0, none⟩ = some (.int .u64 (k : Int))
  hb : Below B w1 wr
  mb : B ≤ mb ∧ mb < wr.heap.size

theorem MapG.keeps9 {F : Nat → Prop} {w w' : World} {b n : Nat} {l : List Nat} (h : MapG w b n l) (hk : Keeps F w w') (hF : ¬ F b) : MapG w' b n l := h.same (hk.block b h.lt hF)

/-- the law's walk -/
theorem ranges_same {w w' : World} {b r n cnt : Nat} {R : Value → Option (DataW Unit × List MemPlace)} {D : DataW Unit} {left : Lit → Bool} (h : w.ranges Try.prog 29 R b r n D left cnt) (h1 : w'.heap[b]? = w.heap[b]?) (h2 : w'.heap[r]? = w.heap[r]?) : w'.ranges Try.prog 29 R b r n D left cnt := by
  obtain ⟨es, clock, since, seen, c0, hb, F, hs, hD, hr, rest⟩ := h
  exact ⟨es, clock, since, seen, c0, h1.trans hb, F, hs, hD, h2.trans hr, rest⟩

theorem keyM_lit {x : Int} {kl : Lit} (h : keyOf Try.prog 29 (.int .u64 x) = some kl) : ∃ k : Nat, x = (k : Int) ∧ kl = litU k ∧ k < 18446744073709551616 := by
  obtain ⟨y, e, r⟩ := Maps.keyOf_int_inv Try.underlying29 h
  cases e
  obtain ⟨rfl, hw⟩ := r
  have h1 := bounds_u64 hw
  obtain ⟨k, rfl⟩ : ∃ k : Nat, x = (k : Int) := ⟨x.toNat, by omega⟩
  exact ⟨k, rfl, rfl, by omega⟩

theorem keyM_inv : ∀ (key : Value) (kl : Lit), keyOf Try.prog 29 key = some kl → ∃ x, key = Value.int .u64 x := by
  intro key kl h
  obtain ⟨x, e, _⟩ := Maps.keyOf_int_inv Try.underlying29 h
  exact ⟨x, e⟩

theorem boolM_inv : ∀ (v : Value) (y : DataW Unit × List MemPlace), plainElem Try.prog 4 v = some y → ∃ c, v = Value.bool c := by
  intro v y h
  obtain ⟨b, e, _⟩ := plainElem_boolU_inv Try.underlying4 h
  exact ⟨b, e⟩

/-- the numbers that a map has -/
theorem keys_list {w : World} {b n : Nat} {R : Value → Option (DataW Unit × List MemPlace)} {D : DataW Unit} (h : w.ownsMap Try.prog 29 R b n D) : ∃ S : List Nat, S.length = Maps.size D ∧ ∀ k, has D (litU k) = true → k ∈ S := by
  obtain ⟨es, rfl, hk⟩ := Go.World.ownsMap.keysOf h
  refine ⟨es.map fun p => match p.1 with | .int _ x => x.toNat | _ => 0, by rw [List.length_map]; rfl, fun k hh => ?_⟩
  rw [has_eq, List.any_eq_true] at hh
  obtain ⟨p, hp, hs⟩ := hh
  obtain ⟨v, hv⟩ := hk p hp
  obtain ⟨x, rfl⟩ := keyM_inv v p.1 hv
  obtain ⟨m, rfl, e, _⟩ := keyM_lit hv
  refine List.mem_map.2 ⟨p, hp, ?_⟩
  rw [e] at hs ⊢
  have hmk : m = k := by
    unfold litU at hs
    simp only [Lit.sameKey] at hs
    simp at hs
    omega
  subst hmk
  simp [litU]

theorem LkQ.nums {B : Nat} {w : World} {t : Nat} {mo ea : Int} {gs : List Lk} {qs : List Rq} (h : LkQ B w t mo ea gs qs) : ∀ z ∈ prsL gs qs, z < 18446744073709551616 := by
  obtain ⟨_, G, ⟨gv, qv, hat⟩, _⟩ := h
  intro z hz
  unfold prsL at hz
  rcases List.mem_append.1 hz with h | h
  · obtain ⟨g, hg, rfl⟩ := List.mem_map.1 h
    exact (hat.og g hg).2.2.1
  · obtain ⟨q, hq, rfl⟩ := List.mem_map.1 h
    exact (hat.oq q hq).2.2.1

/-- each that waits waits for somebody, and in no ring -/
theorem wait_some {gs : List Lk} {qs : List Rq} (hd : Dis qs) (hs : Stk gs qs) {k : Nat} (hk : k ∈ qs.map (·.l.n)) : waitL gs qs k ≠ [] := by
  obtain ⟨r, hr, rfl⟩ := List.mem_map.1 hk
  obtain ⟨pre, post, rfl⟩ := List.append_of_mem hr
  rw [waitL_split hd]
  exact hs pre r post rfl

/-- the passes over those that were seen -/
structure MvO (B mb n : Nat) (D : DataW Unit) (S : List Nat) (w1 wr : World) (t i : Nat) : Prop where
  ex : ∃ gs qs, LkX B (fun b => b = mb) wr t 60 60 gs qs ∧ Dis qs ∧ Stk gs qs ∧ Acy (waitL gs qs) ∧ (∀ z ∈ prsL gs qs, has D (litU z) = true) ∧ gs.length + qs.length ≤ 40 ∧ (qs = [] ∨ prsN S gs qs + i ≤ S.length)
  mp : wr.ownsMap Try.prog 29 (plainElem Try.prog 4) mb n D
  hb : Below B w1 wr
  mb : B ≤ mb ∧ mb < wr.heap.size

/-- within a pass -/
structure MvR (B mb rb n b : Nat) (D : DataW Unit) (gs0 : List Lk) (qs0 : List Rq) (w1 wr : World) (t : Nat) (left : Lit → Bool) (cnt : Nat) : Prop where
  rg : wr.ranges Try.prog 29 (plainElem Try.prog 4) mb rb n D left cnt
  ex : ∃ gs qs, LkX B (fun b => b = mb ∨ b = rb) wr t 60 60 gs qs ∧ Dis qs ∧ Stk gs qs ∧ Acy (waitL gs qs) ∧ (∀ z ∈ prsL gs qs, z ∈ prsL gs0 qs0) ∧ (∀ z ∈ qs.map (·.l.n), z ∈ qs0.map (·.l.n)) ∧ gs.length + qs.length ≤ 40 ∧ (left (litU b) = true ∨ b ∉ prsL gs qs)
  hb : Below B w1 wr
  lt : mb < wr.heap.size ∧ rb < wr.heap.size ∧ mb ≠ rb ∧ B ≤ rb

set_option maxHeartbeats 2000000 in
theorem lmove (v : Value) (os : List LOp) (w : World) (hv : ArgLO w v os) :
    Calls Try.prog 3 #[v] w fun e w' => e = .returned (.bool true) ∧ Below w.heap.size w w' := by
  have HV : Hid (ArgLO w v os) := hv
  obtain ⟨va, vc, rfl, hlc, hcm, _⟩ := hv
  obtain ⟨N, hN⟩ : ∃ N, os.length = N := ⟨_, rfl⟩
  have HN : Hid (os.length = N) := hN
  rw [hN] at HV hlc ⊢
  clear hN
  go_enter Try.func3, Try.ntmps3
  have hw := lkawake_any w
  go_wp2_with fail
  refine hw.mono ?_
  rintro e w1 ⟨rfl, hb1⟩
  have HB1 : Hid (Below w.heap.size w w1) := hb1
  clear hw hb1
  have hnw := lknew_any w1 60 60 (by decide) (by decide) (by decide) (by decide)
  go_wp2_with fail
  refine hnw.mono ?_
  rintro e w2 ⟨t, rfl, hp2, ht, hs2, hb2⟩
  have HT : Hid (LkX w1.heap.size (fun b => b = w2.heap.size) w2 t 60 60 [] [] ∧ Below w1.heap.size w1 w2) := ⟨⟨hb2.size, _, hp2, fun b hb => ⟨by rw [hb, ht]; exact Nat.le_refl _, fun h9 => by omega⟩⟩, hb2⟩
  clear hnw hp2 ht hs2 hb2
  have hmk : ∀ w : World, (Instr.makeMap 28 none).run Try.prog w = .ok (.map (some w.heap.size)) (w.alloc (.map #[] 0)) := fun w => run_makeMap _ w
  go_upto_block 0 with fail
  have HI0 : Hid (MvE w1.heap.size w2.heap.size w1 (w2.alloc (.map #[] 0)) t 0) := by
    have hba := below_box4 w2 (.map #[] 0)
    exact ⟨⟨0, [], [], [], HT.out.1.below hba, MapG.made w2, List.nodup_nil, fun pre r post e => by simp at e, fun n k h => by have := reach_out k n n h; exact this rfl, fun z hz => by simp [prsL] at hz, by simp, by simp, by simp, by simp⟩, HT.out.2.trans (hba.mono HT.out.2.size), HT.out.2.size, by simp⟩
  obtain ⟨mb, hmb⟩ : ∃ mb, w2.heap.size = mb := ⟨_, rfl⟩
  rw [hmb] at HI0 ⊢
  generalize w2.alloc (.map #[] 0) = w3 at HI0 ⊢
  clear HT hmb
  go_cut [6, 7, 8, 9, 10] from 27 to 68 (fun a1 a2 a3 a4 a5 wx => Hid (MvE w1.heap.size mb w1 wx t 40))
  case first =>
    go_wp2_with fail
    go_loopg [27] N (fun gk iv wr => ∃ j : Nat, gk + j = N ∧ iv = .int .i64 (j : Int) ∧ Hid (MvE w1.heap.size mb w1 wr t j))
    case atStart => exact ⟨0, by omega, rfl, HI0.out⟩
    case round =>
      obtain ⟨j, hj, rfl, HI⟩ := hrel
      by_cases hlt : j < N
      · have hlt2 : j < os.length := by rw [HN.out]; exact hlt
        obtain ⟨q1, q2⟩ := gk_nxt hj hlt
        obtain ⟨a9, c9, e9, _, _, hat9⟩ := (HV.out.below HB1.out (Nat.le_refl _)).below HI.out.hb (Nat.le_refl _)
        obtain ⟨ab, ao, ea, x0, y0, hop⟩ := hat9 j hlt2
        obtain ⟨j1, hj1⟩ : ∃ j1, j + 1 = j1 := ⟨_, rfl⟩
        have ej1 : (j : Int) + 1 = (j1 : Int) := by omega
        have HJ1 : Hid (j + 1 = j1) := hj1
        have HG : Hid (gk - 1 < gk ∧ gk - 1 + j1 = N) := ⟨q1, by omega⟩
        rw [ea] at e9
        cases e9
        obtain ⟨o, ho⟩ : ∃ o, os[j] = o := ⟨_, rfl⟩
        rw [ho] at hop
        obtain ⟨c0, c1, c2, c3, c4, c5, ax, ay, hon, hou⟩ := hop
        obtain ⟨x1, x2, ex⟩ := ax.shape
        obtain ⟨y1, y2, ey⟩ := ay.shape
        have HO : Hid (Arg wr x0 o.f ∧ Arg wr y0 o.t ∧ o.n < 18446744073709551616 ∧ o.u < 18446744073709551616) := ⟨ax, ay, hon, hou⟩
        subst ex ey
        obtain ⟨d0, hd0⟩ : ∃ z : Int, (o.dop.toNat : Int) = z := ⟨_, rfl⟩
        rw [hd0] at c0
        clear hat9 ax ay hon hou ho hd0
        have BX := BoxS6.new wr (.int .u8 d0) (.int .u64 (o.n : Int)) (.slice x1 o.f.length x2) (.slice y1 o.t.length y2) (.int .u8 (o.m.toNat : Int)) (.int .u64 (o.u : Int)) 34
        have hba := below_box4 wr (.cells #[.int .u8 d0, .int .u64 (o.n : Int), .slice x1 o.f.length x2, .slice y1 o.t.length y2, .int .u8 (o.m.toNat : Int), .int .u64 (o.u : Int)] 34)
        have HBX : Hid (BoxS6 (wr.alloc (.cells #[.int .u8 d0, .int .u64 (o.n : Int), .slice x1 o.f.length x2, .slice y1 o.t.length y2, .int .u8 (o.m.toNat : Int), .int .u64 (o.u : Int)] 34)) wr.heap.size (.int .u8 d0) (.int .u64 (o.n : Int)) (.slice x1 o.f.length x2) (.slice y1 o.t.length y2) (.int .u8 (o.m.toNat : Int)) (.int .u64 (o.u : Int))) := BX
        have HBA : Hid (Below wr.heap.size wr (wr.alloc (.cells #[.int .u8 d0, .int .u64 (o.n : Int), .slice x1 o.f.length x2, .slice y1 o.t.length y2, .int .u8 (o.m.toNat : Int), .int .u64 (o.u : Int)] 34))) := hba
        obtain ⟨o1, o2, o3, o4, o5, o6⟩ := BX
        clear hj1 q1 q2 hj
        by_cases h40 : j < 40
        · have h40i : ¬ (40 : Int) ≤ (j : Int) := by omega
          have y1b : j1 < 1152921504606846976 := by have := HJ1.out; omega
          have hfew := few_any (wr.alloc (.cells #[.int .u8 d0, .int .u64 (o.n : Int), .slice x1 o.f.length x2, .slice y1 o.t.length y2, .int .u8 (o.m.toNat : Int), .int .u64 (o.u : Int)] 34)) _ _ o.f o.t (o.n : Int) (o.m.toNat : Int) (HO.out.1.below hba (Nat.le_refl _)) (HO.out.2.1.below hba (Nat.le_refl _))
          unfold lkV at hfew
          clear hba
          go_wp2_with fail
          refine Calls.mono hfew ?_
          rintro e wx ⟨x', y', rfl, ox, oy, hbx⟩
          obtain ⟨g1, k1, eg1⟩ := ox.rd.len
          obtain ⟨g2, k2, eg2⟩ := oy.rd.len
          obtain ⟨m1, hm1⟩ : ∃ z, (o.f.take 80).length = z := ⟨_, rfl⟩
          obtain ⟨m2, hm2⟩ : ∃ z, (o.t.take 80).length = z := ⟨_, rfl⟩
          rw [hm1] at eg1
          rw [hm2] at eg2
          subst eg1 eg2
          have HBx : Hid (Below wr.heap.size wr wx) := bsplit HBA.out hbx
          have hbl := below_box4 wx (.cells #[.int .u64 (o.n : Int), .slice g1 m1 k1, .slice g2 m2 k2, .int .u8 (o.m.toNat : Int)] 32)
          have bl := box4_new wx (.int .u64 (o.n : Int)) (.slice g1 m1 k1) (.slice g2 m2 k2) (.int .u8 (o.m.toNat : Int)) 32
          have b6 := (HBX.out.below hbx).below hbl
          obtain ⟨z0, z1, z2, z3⟩ := bl
          obtain ⟨r1, r2, r3, r4, r5, r6⟩ := b6
          clear hfew
          obtain ⟨n, gs, qs, l, hx0, hm0, hd0, hs0, ha0, hp0, hl1, hl2, hl3, hl4⟩ := HI.out.ex
          have HS : Hid (LkX w1.heap.size (fun b => b = mb) wr t 60 60 gs qs ∧ MapG wr mb n l ∧ Dis qs ∧ Stk gs qs ∧ Acy (waitL gs qs) ∧ (∀ z ∈ prsL gs qs, z ∈ l) ∧ gs.length + qs.length ≤ 40 ∧ n ≤ 40 ∧ gs.length + qs.length ≤ j ∧ n ≤ j) := ⟨hx0, hm0, hd0, hs0, ha0, hp0, hl1, hl2, hl3, hl4⟩
          have HBy : Hid (Below wr.heap.size wr (wx.alloc (.cells #[.int .u64 (o.n : Int), .slice g1 m1 k1, .slice g2 m2 k2, .int .u8 (o.m.toNat : Int)] 32))) := bsplit HBx.out hbl
          have HRD : Hid (Rd (wx.alloc (.cells #[.int .u64 (o.n : Int), .slice g1 m1 k1, .slice g2 m2 k2, .int .u8 (o.m.toNat : Int)] 32)) (.slice g1 m1 k1) (o.f.take 80) ∧ Rd (wx.alloc (.cells #[.int .u64 (o.n : Int), .slice g1 m1 k1, .slice g2 m2 k2, .int .u8 (o.m.toNat : Int)] 32)) (.slice g2 m2 k2) (o.t.take 80) ∧ wr.heap.size ≤ wx.heap.size) := ⟨ox.rd.below hbl (Nat.le_refl _), oy.rd.below hbl (Nat.le_refl _), HBx.out.size⟩
          clear hx0 hm0 hd0 hs0 ha0 hp0 hl1 hl2 hl3 hl4 ox oy hbx hbl hm1 hm2
          by_cases h6 : d0 = 6
          · subst h6
            have hcl := relx_any w1.heap.size (fun b => b = mb) _ t 60 60 gs qs o.n (HS.out.1.below HBy.out) (fun b hb => by have h1 := HI.out.mb.2; have h2 := HBy.out.size; omega) (by have := HS.out.2.2.2.2.2.2; omega)
            go_wp2_with fail
            refine Calls.mono hcl ?_
            rintro e w5 ⟨v5, rfl, hv5, hk5, hx5⟩
            obtain ⟨a5, c5, ev5, _⟩ := row_slice9 hv5
            subst ev5
            clear hv5
            have HR5 : Hid (MvE w1.heap.size mb w1 w5 t j1) := by
              have hr := rel_spec (gs := gs) o.n HS.out.2.2.1
              obtain ⟨s1, s2, s3, s4, s5, s6, s7, s8, s9, s10⟩ := HS.out
              have hle := hr.len
              refine ⟨⟨n, _, _, l, hx5, (s2.below HBy.out).keeps9 hk5 (fun h => h.2 rfl), hr.dis, hr.stk, hr.acy s5, fun z hz => s6 z (hr.prs z hz).1, by omega, s8, by have := HJ1.out; omega, by have := HJ1.out; omega⟩, ?_, HI.out.mb.1, ?_⟩
              · exact (HI.out.hb.trans (HBy.out.mono HI.out.hb.size)).trans (hk5.below (fun i h => h.1) (Nat.le_trans HI.out.hb.size HBy.out.size))
              · exact Nat.lt_of_lt_of_le HI.out.mb.2 (Nat.le_trans HBy.out.size hk5.size)
            clear hcl hk5 hx5
            go_wp2_with fail
            go_roundg (gk - 1)
            case measure => exact HG.out.1
            case rel => exact ⟨j1, HG.out.2, rfl, HR5.out⟩
          · have h6' : (d0 == 6) = false := by simpa using h6
            clear h6
            obtain ⟨lb, hlb⟩ : ∃ lb, wx.heap.size = lb := ⟨_, rfl⟩
            have hXl : ∀ b, b = mb ∨ b = lb → b < (wx.alloc (.cells #[.int .u64 (o.n : Int), .slice g1 m1 k1, .slice g2 m2 k2, .int .u8 (o.m.toNat : Int)] 32)).heap.size := by
              intro b hb
              have h1 := HI.out.mb.2
              have h2 := HRD.out.2.2
              have h3 : wx.heap.size < (wx.alloc (.cells #[.int .u64 (o.n : Int), .slice g1 m1 k1, .slice g2 m2 k2, .int .u8 (o.m.toNat : Int)] 32)).heap.size := by simp
              omega
            have hcl := askx_any w1.heap.size (fun b => b = mb ∨ b = lb) _ t 60 60 gs qs o.n o.m (.slice g1 m1 k1) (.slice g2 m2 k2) (o.f.take 80) (o.t.take 80) o.u ((HS.out.1.off (fun b hb => hb.elim .inl (fun h9 => .inr (by rw [h9, ← hlb]; exact HRD.out.2.2)))).below HBy.out) hXl (by have := HS.out.2.2.2.2.2.2; omega) HRD.out.1 HRD.out.2.1 HO.out.2.2.1 HO.out.2.2.2
            unfold lkV at hcl
            have HLB : Hid (wx.heap.size = lb) := hlb
            clear hXl
            have z0b := z0
            rw [hlb] at z0 z1 z2 z3
            go_wp2_with fail
            clear hlb
            refine Calls.mono hcl ?_
            rintro e w5 ⟨x2', y2', rfl, hk5, hx5⟩
            have hAs := ask_spec (mo := 60) (ea := 60) (gs := gs) (qs := qs) o.n (o.f.take 80) (o.t.take 80) o.m (.slice g1 m1 k1) (.slice g2 m2 k2) x2' y2' o.u HS.out.2.2.1 HS.out.2.2.2.1 HS.out.2.2.2.2.1
            obtain ⟨A, hA⟩ : ∃ A, askB 60 60 gs qs ⟨o.n, o.f.take 80, o.t.take 80, o.m, .slice g1 m1 k1, .slice g2 m2 k2⟩ ⟨o.n, o.f.take 80, o.t.take 80, o.m, x2', y2'⟩ o.u = A := ⟨_, rfl⟩
            rw [hA] at hAs hx5 ⊢
            obtain ⟨c, gs', qs'⟩ := A
            have hAs : Dis qs' ∧ Stk gs' qs' ∧ Acy (butE (waitL gs' qs') o.n) ∧ (c ≠ 3 → Acy (waitL gs' qs')) ∧ (∀ z ∈ prsL gs' qs', z ∈ prsL gs qs ∨ z = o.n) ∧ gs'.length + qs'.length ≤ gs.length + qs.length + 1 := hAs
            have z0' : w5.cell? ⟨lb, 0, none⟩ = some (.int .u64 (o.n : Int)) := by
              rw [← HLB.out]
              exact (World.cell?_of_block (a := ⟨wx.heap.size, 0, none⟩) (hk5.block wx.heap.size (World.block_lt_of_cell? _ _ z0b) (fun h9 => h9.2 (.inr HLB.out)))).trans z0b
            have HMD : Hid (MapG w5 mb n l ∧ Below w1.heap.size w1 w5 ∧ w1.heap.size ≤ mb ∧ mb < w5.heap.size) :=
              ⟨(HS.out.2.1.below HBy.out).keeps9 hk5 (fun h => h.2 (.inl rfl)), (HI.out.hb.trans (HBy.out.mono HI.out.hb.size)).trans (hk5.below (fun i h => h.1) (Nat.le_trans HI.out.hb.size HBy.out.size)), HI.out.mb.1, Nat.lt_of_lt_of_le HI.out.mb.2 (Nat.le_trans HBy.out.size hk5.size)⟩
            have HK5 : Hid (MvK w1.heap.size mb lb w5 t j1 o.n l n 0) := by
              obtain ⟨s1, s2, s3, s4, s5, s6, s7, s8, s9, s10⟩ := HS.out
              obtain ⟨u1, u2, u3, u4, u5, u6⟩ := hAs
              exact ⟨⟨gs', qs', hx5, u1, u2, u3, fun z hz => (u5 z hz).imp (s6 z) id, by omega, by have := HJ1.out; omega, by omega⟩, HMD.out.1, z0'⟩
            have HL5 : Hid (c ≠ 3 → MvL w1.heap.size mb lb w1 w5 t j1 o.n l n) := fun hc => by
              obtain ⟨s1, s2, s3, s4, s5, s6, s7, s8, s9, s10⟩ := HS.out
              obtain ⟨u1, u2, u3, u4, u5, u6⟩ := hAs
              exact ⟨⟨gs', qs', hx5, u1, u2, u4 hc, fun z hz => (u5 z hz).imp (s6 z) id, by omega, by have := HJ1.out; omega⟩, HMD.out.1, z0', HMD.out.2.1, HMD.out.2.2⟩
            clear hcl hAs hA hk5 hx5 HBX HBA HBx HBy HRD z1 z2 z3 r1 r2 r3 r4 r5 r6 o1 o2 o3 o4 o5 o6 z0 z0b
            go_upto_if 49 with fail
            go_cut [9, 10] from 50 to 64 (fun a1 a2 wy => Hid (MvL w1.heap.size mb lb w1 wy t j1 o.n l n))
            case first =>
              by_cases hc3 : c = 3
              · subst hc3
                obtain ⟨GA, hGA⟩ : ∃ GA, gk = GA := ⟨_, rfl⟩
                go_wp2_with fail
                go_loopg [50] 60 (fun gk iv wr => ∃ c : Nat, gk + c = 60 ∧ iv = .int .i64 (c : Int) ∧ Hid (MvK w1.heap.size mb lb wr t j1 o.n l n c ∧ Below w1.heap.size w1 wr ∧ w1.heap.size ≤ mb ∧ mb < wr.heap.size))
                case atStart => exact ⟨0, rfl, rfl, HK5.out, HMD.out.2⟩
                case round =>
                  obtain ⟨c, hgc, rfl, HKK⟩ := hrel
                  obtain ⟨⟨⟨gs2, qs2, u1, u2, u3, u4, u5, u6, u7, u8⟩, umg, ubx⟩, uhb, umb1, umb2⟩ := HKK.out
                  have hc40 : c ≤ 40 := by omega
                  have hc60 : (c : Int) < 60 := by omega
                  have hvi := tvictim_any w1.heap.size wr t 60 60 gs2 qs2 o.n u1.q (by omega) HO.out.2.2.1
                  obtain ⟨c1', hc1'⟩ : ∃ c1', c + 1 = c1' := ⟨_, rfl⟩
                  have ec1 : (c : Int) + 1 = (c1' : Int) := by omega
                  have yc1 : c1' < 1152921504606846976 := by omega
                  have HGC : Hid (gk - 1 < gk ∧ gk - 1 + c1' = 60 ∧ c + 1 = c1') := ⟨by omega, by omega, hc1'⟩
                  have HU : Hid (LkX w1.heap.size (fun b => b = mb ∨ b = lb) wr t 60 60 gs2 qs2 ∧ Dis qs2 ∧ Stk gs2 qs2 ∧ Acy (butE (waitL gs2 qs2) o.n) ∧ (∀ z ∈ prsL gs2 qs2, z ∈ l ∨ z = o.n) ∧ gs2.length + qs2.length ≤ 40 ∧ gs2.length + qs2.length ≤ j1 ∧ qs2.length + c ≤ 40 ∧ MapG wr mb n l ∧ wr.cell? ⟨lb, 0, none⟩ = some (.int .u64 (o.n : Int)) ∧ Below w1.heap.size w1 wr ∧ w1.heap.size ≤ mb ∧ mb < wr.heap.size) := ⟨u1, u2, u3, u4, u5, u6, u7, u8, umg, ubx, uhb, umb1, umb2⟩
                  have hlbw : lb < wr.heap.size := World.block_lt_of_cell? wr _ ubx
                  clear u1 u2 u3 u4 u5 u6 u7 u8 umg uhb umb1 umb2 HKK hc1' hgc hc40
                  go_wp2_with fail
                  refine hvi.mono ?_
                  intro e6 w6 hp6
                  obtain ⟨hb6, hc6⟩ := hp6
                  clear hvi
                  rcases hc6 with ⟨rfl, hn6⟩ | ⟨M, rfl, hM, _⟩
                  · have HLL : Hid (MvL w1.heap.size mb lb w1 w6 t j1 o.n l n) := by
                      obtain ⟨u1, u2, u3, u4, u5, u6, u7, u8, umg, ubx, uhb, umb1, umb2⟩ := HU.out
                      exact ⟨⟨gs2, qs2, u1.below hb6, u2, u3, but_all u4 (fun k hr => hn6 k o.n hr rfl), u5, u6, u7⟩, umg.below hb6, (hb6.cell (p := ⟨lb, 0, none⟩) hlbw).trans ubx, bsplit uhb hb6, umb1, Nat.lt_of_lt_of_le umb2 hb6.size⟩
                    clear hb6 hn6 ubx hlbw HU
                    go_wp2_with fail
                    go_meet
                    exact HLL.out
                  · have hMq := waitL_in hM
                    have hcl := relx_any w1.heap.size (fun b => b = mb ∨ b = lb) w6 t 60 60 gs2 qs2 M (HU.out.1.below hb6) (fun b hb => by
                      have h1 := HU.out.2.2.2.2.2.2.2.2.2.2.2.2
                      have h2 := hb6.size
                      rcases hb with hb | hb <;> omega) (by have := HU.out.2.2.2.2.2.1; omega)
                    have hsp := rel_spec (gs := gs2) M HU.out.2.1
                    have HB6 : Hid (Below wr.heap.size wr w6 ∧ lb < wr.heap.size) := ⟨hb6, hlbw⟩
                    clear hb6 hM ubx hlbw
                    go_wp2_with fail
                    refine Calls.mono hcl ?_
                    rintro e7 w7 ⟨v7, rfl, hv7, hk7, hx7⟩
                    obtain ⟨a7, c7, ev7, _⟩ := row_slice9 hv7
                    subst ev7
                    have HN7 : Hid (MvK w1.heap.size mb lb w7 t j1 o.n l n c1' ∧ Below w1.heap.size w1 w7 ∧ w1.heap.size ≤ mb ∧ mb < w7.heap.size) := by
                      obtain ⟨u1, u2, u3, u4, u5, u6, u7, u8, umg, ubx, uhb, umb1, umb2⟩ := HU.out
                      have hcc := HGC.out.2.2
                      have hle := hsp.len
                      have hless := hsp.less hMq
                      have h6s := HB6.out.1.size
                      refine ⟨⟨⟨_, _, hx7, hsp.dis, hsp.stk, hsp.but u4, fun z hz => u5 z (hsp.prs z hz).1, by omega, by omega, by omega⟩, (umg.below HB6.out.1).keeps9 hk7 (fun h => h.2 (.inl rfl)), ?_⟩, ?_, umb1, by have := hk7.size; omega⟩
                      · exact hk7.cell (show ¬ (_ ∧ ¬ (lb = mb ∨ lb = lb)) from fun h => h.2 (.inr rfl)) ((HB6.out.1.cell (p := ⟨lb, 0, none⟩) HB6.out.2).trans ubx)
                      · exact (uhb.trans (HB6.out.1.mono uhb.size)).trans (hk7.below (fun i h => h.1) (Nat.le_trans uhb.size h6s))
                    clear hcl hsp hv7 hk7 hx7 hMq HU HB6
                    go_wp2_with fail
                    go_roundg (gk - 1)
                    case measure => exact HGC.out.1
                    case rel => exact ⟨c1', HGC.out.2.1, rfl, HN7.out⟩
              · have hc3' : (c == 3) = false := by simpa using hc3
                have HLL : Hid (MvL w1.heap.size mb lb w1 w5 t j1 o.n l n) := HL5.out hc3
                go_wp2_with fail
                go_meet
                exact HLL.out
            case rest =>
              have HL := hcut
              clear hcut HL5 HK5 HMD z0'
              have z9 := HL.out.bx
              obtain ⟨D, hm, hat⟩ := HL.out.mg
              have HD : Hid (∀ k, k < 18446744073709551616 → D.atKey (litU k) (.lit (.bool false)) = .lit (.bool (decide (k ∈ l)))) := hat
              have HM : Hid (wc.ownsMap Try.prog 29 (plainElem Try.prog 4) mb n D) := hm
              clear hat
              go_wp2_with (first
                | (at_mapUpdate
                   refine wpList_mapUpdate_own _ rfl _ _ _ 28 rfl 29 4 (int_keyed Try.underlying29) Try.underlying28 _ mb n D rfl hm (by have := HS.out.2.2.2.2.2.2; unfold maxLen; omega) _ _ _ rfl rfl (keyU HO.out.2.2.1) (.lit (.bool true)) [] (plainElem_bool Try.underlying4 true) ?_
                   intro w6 hown6 hgrow6
                   have HR6 : Hid (MvE w1.heap.size mb w1 w6 t j1) := by
                     obtain ⟨gs2, qs2, u1, u2, u3, u4, u5, u6, u7⟩ := HL.out.ex
                     obtain ⟨s1, s2, s3, s4, s5, s6, s7, s8, s9, s10⟩ := HS.out
                     have hk6 := keeps_grownS hgrow6
                     have hjj := HJ1.out
                     exact ⟨⟨n + 1, gs2, qs2, l ++ [o.n], (u1.off (fun b hb => .inl (.inl hb))).keeps hk6 (fun b hb => hb), MapG.put HM.out HD.out hown6, u2, u3, u4, fun z hz => List.mem_append.2 ((u5 z hz).imp id (fun e => by rw [e]; simp)), u6, by omega, u7, by omega⟩, HL.out.hb.trans (hk6.below (fun i e => by rw [e]; exact HL.out.mb.1) HL.out.hb.size), HL.out.mb.1, Nat.lt_of_lt_of_le HL.out.mb.2 hk6.size⟩
                   clear hm hown6 hgrow6)
                | fail)
              go_roundg (gk - 1)
              case measure => exact HG.out.1
              case rel => exact ⟨j1, HG.out.2, rfl, HR6.out⟩
        · have h40i : (40 : Int) ≤ (j : Int) := by omega
          have HE : Hid (MvE w1.heap.size mb w1 (wr.alloc (.cells #[.int .u8 d0, .int .u64 (o.n : Int), .slice x1 o.f.length x2, .slice y1 o.t.length y2, .int .u8 (o.m.toNat : Int), .int .u64 (o.u : Int)] 34)) t 40) := by
            obtain ⟨n, gs, qs, l, s1, s2, s3, s4, s5, s6, s7, s8, s9, s10⟩ := HI.out.ex
            exact ⟨⟨n, gs, qs, l, s1.below hba, s2.below hba, s3, s4, s5, s6, s7, s8, s7, s8⟩, HI.out.hb.trans (hba.mono HI.out.hb.size), HI.out.mb.1, Nat.lt_of_lt_of_le HI.out.mb.2 hba.size⟩
          clear hba HI
          go_wp2_with fail
          go_meet
          exact HE.out
      · have hnI : ¬ (j : Int) < (N : Int) := by omega
        have HE : Hid (MvE w1.heap.size mb w1 wr t 40) := by
          obtain ⟨n, gs, qs, l, s1, s2, s3, s4, s5, s6, s7, s8, s9, s10⟩ := HI.out.ex
          exact ⟨⟨n, gs, qs, l, s1, s2, s3, s4, s5, s6, s7, s8, s7, s8⟩, HI.out.hb, HI.out.mb⟩
        clear hlt hj HI
        go_wp2_with fail
        go_meet
        exact HE.out
  case rest =>
    obtain ⟨⟨n, gs, qs, l, s1, s2, s3, s4, s5, s6, s7, s8, _, _⟩, shb, smb⟩ := hcut.out
    have hqu := queueq_any w1.heap.size wc t 60 60 gs qs s1.q (by omega)
    have HS : Hid (LkX w1.heap.size (fun b => b = mb) wc t 60 60 gs qs ∧ MapG wc mb n l ∧ Dis qs ∧ Stk gs qs ∧ Acy (waitL gs qs) ∧ (∀ z ∈ prsL gs qs, z ∈ l) ∧ gs.length + qs.length ≤ 40 ∧ n ≤ 40 ∧ Below w1.heap.size w1 wc ∧ w1.heap.size ≤ mb ∧ mb < wc.heap.size) := ⟨s1, s2, s3, s4, s5, s6, s7, s8, shb, smb⟩
    clear s1 s2 s3 s4 s5 s6 s7 s8 shb smb hcut HI0
    go_wp2_with fail
    refine hqu.mono ?_
    rintro e w3 ⟨qv, rfl, hqv, hb3⟩
    obtain ⟨qa, qc, eqv, _⟩ := row_slice9 hqv
    obtain ⟨L, hL⟩ : ∃ L, qs.length = L := ⟨_, rfl⟩
    rw [List.length_map, hL] at eqv
    subst eqv
    have HL : Hid (qs.length = L) := hL
    have HQ : Hid (RdU w3 (.slice qa L qc) (qs.map (·.l.n)) ∧ Below wc.heap.size wc w3) := ⟨hqv.rd, hb3⟩
    clear hqu hqv hb3 hL
    go_wp2_with fail
    go_loopg [72] L (fun gk iv wr => ∃ j : Nat, gk + j = L ∧ iv = .int .i64 (j : Int) ∧ Hid (RdU wr (.slice qa L qc) (qs.map (·.l.n)) ∧ Below wc.heap.size wc wr))
    case atStart => exact ⟨0, by omega, rfl, HQ.out⟩
    case round =>
      obtain ⟨j, hgj, rfl, HJ⟩ := hrel
      by_cases hlt : j < L
      · have hltI : (j : Int) < (L : Int) := by omega
        have hjl : j < qs.length := by rw [HL.out]; exact hlt
        obtain ⟨b, c, e9, _, c0⟩ := HJ.out.1.at j (by rw [List.length_map]; exact hjl)
        rw [List.length_map, HL.out] at e9
        cases e9
        rw [List.getElem_map] at c0
        obtain ⟨k, hk⟩ : ∃ k, qs[j].l.n = k := ⟨_, rfl⟩
        have hkq : k ∈ qs.map (·.l.n) := by rw [← hk]; exact List.mem_map.2 ⟨_, List.getElem_mem hjl, rfl⟩
        have hkn : k < 18446744073709551616 := HS.out.1.q.nums k (List.mem_append.2 (.inr hkq))
        rw [hk] at c0
        have hws := wait_some HS.out.2.2.1 HS.out.2.2.2.1 hkq
        have hqr : LkQ w1.heap.size wr t 60 60 gs qs := HS.out.1.q.below HJ.out.2
        have hbk := blockersq_any w1.heap.size wr t 60 60 gs qs k hqr (by have := HS.out.2.2.2.2.2.2.1; omega)
        obtain ⟨j1, hj1⟩ : ∃ j1, j + 1 = j1 := ⟨_, rfl⟩
        have ej1 : (j : Int) + 1 = (j1 : Int) := by omega
        have y1 : j1 < 1152921504606846976 := by have := HS.out.2.2.2.2.2.2.1; have := HL.out; omega
        have HG : Hid (gk - 1 < gk ∧ gk - 1 + j1 = L) := ⟨by omega, by omega⟩
        clear hlt hjl hk hj1 hgj
        go_wp2_with fail
        refine hbk.mono ?_
        rintro e4 w4 ⟨bv, ns, rfl, hns, hbv, hb4⟩
        obtain ⟨ba, bc, ebv, _⟩ := row_slice9 hbv
        obtain ⟨bl, hbl⟩ : ∃ bl, ns.length = bl := ⟨_, rfl⟩
        rw [hbl] at ebv
        subst ebv
        have hbl0 : ¬ (bl : Int) = 0 := by
          have hne : ns ≠ [] := fun e => by
            obtain ⟨x, hx⟩ := List.exists_mem_of_ne_nil _ hws
            have := (hns.wait.2 x).2 hx
            rw [e] at this
            simp at this
          have := List.length_pos_iff.2 hne
          omega
        have hvi := tvictim_any w1.heap.size w4 t 60 60 gs qs k (hqr.below hb4) (by have := HS.out.2.2.2.2.2.2.1; omega) hkn
        have HB4 : Hid (Below wr.heap.size wr w4) := hb4
        clear hbk hns hbv hb4 hbl
        go_wp2_with fail
        refine hvi.mono ?_
        intro e5 w5 hp5
        obtain ⟨hb5, hc5⟩ := hp5
        clear hvi
        rcases hc5 with ⟨rfl, _⟩ | ⟨M, rfl, _, kk, hr⟩
        · have HN5 : Hid (RdU w5 (.slice (some ⟨b, 0, none⟩) L qc) (qs.map (·.l.n)) ∧ Below wc.heap.size wc w5) := by
            have hb := bsplit HB4.out hb5
            exact ⟨rdU_keeps HJ.out.1 (Below.keeps hb (fun _ => False)) (fun _ _ h => h), bsplit HJ.out.2 hb⟩
          clear hb5 hws hqr hkq c0 HJ
          go_wp2_with fail
          go_roundg (gk - 1)
          case measure => exact HG.out.1
          case rel => exact ⟨j1, HG.out.2, rfl, HN5.out⟩
        · exact absurd hr (HS.out.2.2.2.2.1 k kk)
      · have hnI : ¬ (j : Int) < (L : Int) := by omega
        obtain ⟨D, hm, hat⟩ := HS.out.2.1.below HJ.out.2
        obtain ⟨S, hS1, hS2⟩ := keys_list hm
        obtain ⟨Z, hZ⟩ : ∃ Z, Maps.size D = Z := ⟨_, rfl⟩
        have hZ40 : Z ≤ 40 := by have := World.ownsMap.size_le hm; have := HS.out.2.2.2.2.2.2.2.1; omega
        have HZ : Hid (Maps.size D = Z ∧ S.length = Z ∧ ∀ k, has D (litU k) = true → k ∈ S) := ⟨hZ, by rw [hS1, hZ], hS2⟩
        obtain ⟨Z1, hZ1⟩ : ∃ Z1, Z + 1 = Z1 := ⟨_, rfl⟩
        have eZ1 : (Z : Int) + 1 = (Z1 : Int) := by omega
        have yZ1 : Z1 < 1152921504606846976 := by omega
        have HZ1 : Hid (Z + 1 = Z1) := hZ1
        have HO : Hid (MvO w1.heap.size mb n D S w1 wr t 0) := by
          obtain ⟨s1, s2, s3, s4, s5, s6, s7, s8, s9, s10, s11⟩ := HS.out
          have hbr := HJ.out.2
          refine ⟨⟨gs, qs, s1.below hbr, s3, s4, s5, fun z hz => ?_, s7, .inr ?_⟩, hm, bsplit s9 hbr, s10, Nat.lt_of_lt_of_le s11 hbr.size⟩
          · have hzn := s1.q.nums z hz
            have h1 := hat z hzn
            rw [decide_eq_true (s6 z hz)] at h1
            cases hh : has D (litU z) with
            | true => rfl
            | false =>
              rw [atKey_of_not_has hh] at h1
              simp at h1
          · exact List.length_filter_le _ _
        have hm9 := hm
        clear hm hat hS1 hS2 hZ1 hlt hgj HJ
        go_wp2_with (first | (at_len; refine wpList_len_own _ rfl _ 28 rfl 29 4 Try.underlying28 _ mb n D rfl hm9 ?_; rw [hZ]) | fail)
        clear hm9 hZ
        go_loopg [92] Z1 (fun gk iv wr => ∃ i : Nat, gk + i = Z1 ∧ iv = .int .i64 (i : Int) ∧ Hid (MvO w1.heap.size mb n D S w1 wr t i))
        case atStart => exact ⟨0, by omega, rfl, HO.out⟩
        case round =>
          clear HO
          obtain ⟨i, hgi, rfl, HO⟩ := hrel
          obtain ⟨⟨gs2, qs2, u1, u2, u3, u4, u5, u6, u7⟩, ump, uhb, umb⟩ := HO.out
          have hqu := queueq_any w1.heap.size wr t 60 60 gs2 qs2 u1.q (by omega)
          by_cases hlt : i < Z1
          · have hltI : (i : Int) < (Z1 : Int) := by omega
            go_wp2_with fail
            refine hqu.mono ?_
            rintro e3 w3 ⟨qv, rfl, hqv, hb3⟩
            obtain ⟨qa3, qc3, eqv, _⟩ := row_slice9 hqv
            obtain ⟨L3, hL3⟩ : ∃ L3, qs2.length = L3 := ⟨_, rfl⟩
            rw [List.length_map, hL3] at eqv
            subst eqv
            by_cases h0 : L3 = 0
            · subst h0
              have HF : Hid (Below w.heap.size w w3) := bsplit HB1.out (bsplit uhb hb3)
              clear hqu hqv hb3 hL3 u1 u2 u3 u4 u5 u6 u7 ump uhb umb HO
              go_wp2
              try simp only [Exit.inBlock, Exit.then]
              refine bodyPost_ret (results_tmp rfl _ _ _) rfl ?_
              exact ⟨rfl, HF.out⟩
            · have h0I : ¬ (L3 : Int) = 0 := by omega
              have hbq : ((L3 : Int) == 0) = false := by simpa using h0
              have hq0 : qs2 ≠ [] := fun e => by rw [e] at hL3; exact h0 hL3.symm
              obtain ⟨b, hb1, hb2⟩ := holder u2 u3 u4 hq0
              have hbS : prsN S gs2 qs2 + i ≤ S.length := u7.elim (fun e => absurd e hq0) id
              have hpc : 1 ≤ prsN S gs2 qs2 := by
                have := prsN_less (S := S) (gs := gs2) (gs' := []) (qs := qs2) (qs' := []) (b := b) (fun n hn => by simp [prsL] at hn) (HZ.out.2.2 b (u5 b hb1)) hb1 (by simp [prsL])
                omega
              obtain ⟨i1, hi1⟩ : ∃ i1, i + 1 = i1 := ⟨_, rfl⟩
              have ei1 : (i : Int) + 1 = (i1 : Int) := by omega
              have y1 : i1 < 1152921504606846976 := by omega
              have HI : Hid (gk - 1 < gk ∧ gk - 1 + i1 = Z1 ∧ i + 1 = i1) := ⟨by omega, by omega, hi1⟩
              have hmp3 : w3.ownsMap Try.prog 29 (plainElem Try.prog 4) mb n D := ownsMap_block ump (hb3.block mb umb.2)
              have HU : Hid (LkX w1.heap.size (fun b => b = mb) w3 t 60 60 gs2 qs2 ∧ Dis qs2 ∧ Stk gs2 qs2 ∧ Acy (waitL gs2 qs2) ∧ (∀ z ∈ prsL gs2 qs2, has D (litU z) = true) ∧ gs2.length + qs2.length ≤ 40 ∧ prsN S gs2 qs2 + i ≤ S.length ∧ Below w1.heap.size w1 w3 ∧ w1.heap.size ≤ mb ∧ mb < w3.heap.size ∧ b ∈ prsL gs2 qs2 ∧ b ∉ qs2.map (·.l.n)) :=
                ⟨u1.below hb3, u2, u3, u4, u5, u6, hbS, bsplit uhb hb3, umb.1, Nat.lt_of_lt_of_le umb.2 hb3.size, hb1, hb2⟩
              have HMP3 : Hid (w3.ownsMap Try.prog 29 (plainElem Try.prog 4) mb n D) := hmp3
              obtain ⟨GA, hGA⟩ : ∃ GA, gk = GA := ⟨_, rfl⟩
              obtain ⟨GB, hGB⟩ : ∃ GB, gk - 1 = GB := ⟨_, rfl⟩
              rw [hGB] at HI
              clear hqu hqv hb3 hL3 u1 u2 u3 u4 u5 u6 u7 ump uhb umb HO hb1 hb2 hbS hpc hq0 hi1 hgi hlt hGB hGA
              go_wp2_with (first | (at_range; refine wpList_range_own _ rfl _ 28 rfl 29 4 (int_keyed Try.underlying29) Try.underlying28 (plainElem Try.prog 4) mb n D rfl hmp3 ?_; intro w0 hrg0 hg0 hs0) | fail)
              try go_frame
              have HR0 : Hid (MvR w1.heap.size mb w3.heap.size n b D gs2 qs2 w1 w0 t (Maps.has D) (Maps.size D)) := by
                obtain ⟨s1, s2, s3, s4, s5, s6, s7, s8, s9, s10, s11, s12⟩ := HU.out
                have hb0 : Below w3.heap.size w3 w0 := (Below.refl _ _).grown hg0 (Nat.le_refl _) (fun k e => by cases e)
                exact ⟨hrg0, ⟨gs2, qs2, (s1.off (fun q hq => hq.elim .inl (fun h => .inr (by rw [h]; exact Nat.le_refl _)))).below hb0, s2, s3, s4, fun z hz => hz, fun z hz => hz, s6, .inl (s5 b s11)⟩, bsplit s8 hb0, by omega, by omega, by omega, s8.size⟩
              obtain ⟨rb, hrb⟩ : ∃ rb, w3.heap.size = rb := ⟨_, rfl⟩
              rw [hrb] at HR0 ⊢
              clear hrg0 hg0 hs0 hmp3 hrb
              try rw [hbq]
              go_loopg [] (Maps.size D) (fun gk wr => ∃ left, Hid (MvR w1.heap.size mb rb n b D gs2 qs2 w1 wr t left gk))
              case atStart => exact ⟨_, HR0.out⟩
              case round =>
                clear HR0
                obtain ⟨left, HR⟩ := hrel
                have hrg := HR.out.rg
                go_wp2_with (first | (at_next; refine wpList_next_ranges _ rfl _ rfl 29 (int_keyed Try.underlying29) (plainElem Try.prog 4) (Value.int .u64) Value.bool keyM_inv boolM_inv mb rb n D left gk rfl hrg ?_ ?_; intro hc0 hl0; rotate_left; intro x c kl y wn cnt1 hkey hlk hv hat hrg1 hlt9 hg1 hs1 hen; rotate_left) | fail)
                · have HN1 : Hid (MvO w1.heap.size mb n D S w1 wr t i1) := by
                    obtain ⟨hrg9, ⟨gs3, qs3, v1, v2, v3, v4, v5, v6, v7, v8⟩, vhb, vlt⟩ := HR.out
                    obtain ⟨s1, s2, s3, s4, s5, s6, s7, s8, s9, s10, s11, s12⟩ := HU.out
                    have hbn : b ∉ prsL gs3 qs3 := v8.elim (fun e => by rw [hl0] at e; cases e) id
                    have hless := prsN_less (S := S) (gs := gs2) (gs' := gs3) (qs := qs2) (qs' := qs3) v5 (HZ.out.2.2 b (s5 b s11)) s11 hbn
                    have hii := HI.out.2.2
                    exact ⟨⟨gs3, qs3, v1.off (fun q hq => .inl (.inl hq)), v2, v3, v4, fun z hz => s5 z (v5 z hz), v7, .inr (by omega)⟩, hrg9.owns, vhb, s9, vlt.1⟩
                  clear hrg hc0 hl0 HR
                  go_wp2_with fail
                  go_roundg GB
                  case measure => exact HI.out.1
                  case rel => exact ⟨i1, HI.out.2.1, rfl, HN1.out⟩
                · obtain ⟨m, rfl, rfl, hmn⟩ := keyM_lit hkey
                  obtain ⟨_, ⟨gs3, qs3, v1, v2, v3, v4, v5, v6, v7, v8⟩, vhb, vlt⟩ := HR.out
                  have hkn : Keeps (fun q => q = rb) wr wn := keeps_grownS hg1
                  have hxn := v1.keeps hkn (fun q hq => .inr hq)
                  have hrbB : w1.heap.size ≤ rb := vlt.2.2.2
                  have hwt := waitsq_any w1.heap.size wn t 60 60 gs3 qs3 m hxn.q (by omega)
                  have HV9 : Hid (LkX w1.heap.size (fun q => q = mb ∨ q = rb) wn t 60 60 gs3 qs3 ∧ Dis qs3 ∧ Stk gs3 qs3 ∧ Acy (waitL gs3 qs3) ∧ (∀ z ∈ prsL gs3 qs3, z ∈ prsL gs2 qs2) ∧ (∀ z ∈ qs3.map (·.l.n), z ∈ qs2.map (·.l.n)) ∧ gs3.length + qs3.length ≤ 40 ∧ (left (litU b) = true ∨ b ∉ prsL gs3 qs3) ∧ Below w1.heap.size w1 wn ∧ mb < wn.heap.size ∧ rb < wn.heap.size ∧ (mb ≠ rb ∧ w1.heap.size ≤ rb) ∧ wn.ranges Try.prog 29 (plainElem Try.prog 4) mb rb n D (fun z => left z && !z.sameKey (litU m)) cnt1) :=
                    ⟨hxn, v2, v3, v4, v5, v6, v7, v8, vhb.trans (hkn.below (fun q hq => by rw [hq]; exact hrbB) vhb.size), by rw [hs1]; exact vlt.1, by rw [hs1]; exact vlt.2.1, vlt.2.2, hrg1⟩
                  obtain ⟨r, hr⟩ : ∃ r, (qs3.any fun q => decide (q.l.n = m)) = r := ⟨_, rfl⟩
                  have HRR : Hid ((qs3.any fun q => decide (q.l.n = m)) = r) := hr
                  rw [hr] at hwt
                  have HLT : Hid (cnt1 < gk) := hlt9
                  clear v1 v2 v3 v4 v5 v6 v7 v8 vhb vlt hkn hxn hrbB hrg1 hg1 hs1 hv hat hlk hkey hrg HR hlt9 hr
                  refine hwt.mono ?_
                  rintro e5 w5 ⟨rn, rm, ra1, ra2, rl1, rc1, rl2, rc2, rfl, hb5⟩
                  have hba := below_box4 w5 (.cells #[.int .u64 rn, .slice ra1 rl1 rc1, .slice ra2 rl2 rc2, .int .u8 rm] 32)
                  have HB5 : Hid (Below wn.heap.size wn (w5.alloc (.cells #[.int .u64 rn, .slice ra1 rl1 rc1, .slice ra2 rl2 rc2, .int .u8 rm] 32))) := bsplit hb5 hba
                  have hcl := relx_any w1.heap.size (fun q => q = mb ∨ q = rb) (w5.alloc (.cells #[.int .u64 rn, .slice ra1 rl1 rc1, .slice ra2 rl2 rc2, .int .u8 rm] 32)) t 60 60 gs3 qs3 m (HV9.out.1.below HB5.out) (fun q hq => by
                    have h1 := HV9.out.2.2.2.2.2.2.2.2.2
                    have h2 := HB5.out.size
                    rcases hq with hq | hq <;> omega) (by have := HV9.out.2.2.2.2.2.2.1; omega)
                  clear hwt hb5 hba
                  cases r with
                  | true =>
                    have HN5 : Hid (MvR w1.heap.size mb rb n b D gs2 qs2 w1 (w5.alloc (.cells #[.int .u64 rn, .slice ra1 rl1 rc1, .slice ra2 rl2 rc2, .int .u8 rm] 32)) t (fun z => left z && !z.sameKey (litU m)) cnt1) := by
                      obtain ⟨v1, v2, v3, v4, v5, v6, v7, v8, vhb, vl1, vl2, vl3, vrg⟩ := HV9.out
                      have hb := HB5.out
                      refine ⟨ranges_same vrg (hb.block mb vl1) (hb.block rb vl2), ⟨gs3, qs3, v1.below hb, v2, v3, v4, v5, v6, v7, ?_⟩, bsplit vhb hb, Nat.lt_of_lt_of_le vl1 hb.size, Nat.lt_of_lt_of_le vl2 hb.size, vl3⟩
                      rcases v8 with h | h
                      · left
                        have hne : b ≠ m := fun e => by
                          obtain ⟨q, hq1, hq2⟩ := List.any_eq_true.1 HRR.out
                          have := v6 m (List.mem_map.2 ⟨q, hq1, of_decide_eq_true hq2⟩)
                          rw [← e] at this
                          exact HU.out.2.2.2.2.2.2.2.2.2.2.2 this
                        simp only [h, Bool.true_and]
                        rw [litU_same]
                        simp [hne]
                      · exact .inr h
                    clear hcl
                    go_wp2_with fail
                    go_roundg cnt1
                    case measure => exact HLT.out
                    case rel => exact ⟨_, HN5.out⟩
                  | false =>
                    have hsp := rel_spec (gs := gs3) m HV9.out.2.1
                    go_wp2_with fail
                    refine Calls.mono hcl ?_
                    rintro e7 w7 ⟨v7, rfl, hv7, hk7, hx7⟩
                    obtain ⟨a7, c7, ev7, _⟩ := row_slice9 hv7
                    subst ev7
                    have HN5 : Hid (MvR w1.heap.size mb rb n b D gs2 qs2 w1 w7 t (fun z => left z && !z.sameKey (litU m)) cnt1) := by
                      obtain ⟨v1, v2, v3, v4, v5, v6, v7, v8, vhb, vl1, vl2, vl3, vrg⟩ := HV9.out
                      have hb := HB5.out
                      have hle := hsp.len
                      have e1 := hk7.block mb (Nat.lt_of_lt_of_le vl1 hb.size) (fun h => h.2 (.inl rfl))
                      have e2 := hk7.block rb (Nat.lt_of_lt_of_le vl2 hb.size) (fun h => h.2 (.inr rfl))
                      refine ⟨ranges_same vrg (e1.trans (hb.block mb vl1)) (e2.trans (hb.block rb vl2)), ⟨_, _, hx7, hsp.dis, hsp.stk, hsp.acy v4, fun z hz => v5 z (hsp.prs z hz).1, fun z hz => v6 z (hsp.wt z hz).1, by omega, ?_⟩, (bsplit vhb hb).trans (hk7.below (fun q h => h.1) (Nat.le_trans vhb.size hb.size)), Nat.lt_of_lt_of_le vl1 (Nat.le_trans hb.size hk7.size), Nat.lt_of_lt_of_le vl2 (Nat.le_trans hb.size hk7.size), vl3⟩
                      by_cases hbm : b = m
                      · exact .inr fun hz => (hsp.prs b hz).2 hbm
                      · rcases v8 with h | h
                        · left
                          simp only [h, Bool.true_and]
                          rw [litU_same]
                          simp [hbm]
                        · exact .inr fun hz => h (hsp.prs b hz).1
                    clear hcl hsp hv7 hk7 hx7
                    go_wp2_with fail
                    go_roundg cnt1
                    case measure => exact HLT.out
                    case rel => exact ⟨_, HN5.out⟩
          · have hnI : ¬ (i : Int) < (Z1 : Int) := by omega
            have hq0 : qs2 = [] := by
              rcases u7 with e | e
              · exact e
              · exfalso
                have h1 := HZ.out.2.1
                have h2 := HZ1.out
                omega
            subst hq0
            have HU : Hid (Below w1.heap.size w1 wr) := uhb
            clear u1 u2 u3 u4 u5 u6 u7 ump uhb umb HO hlt hgi
            go_wp2_with fail
            refine hqu.mono ?_
            rintro e3 w3 ⟨qv, rfl, hqv, hb3⟩
            obtain ⟨qa3, qc3, eqv, _⟩ := row_slice9 hqv
            simp only [List.map_nil, List.length_nil] at eqv
            subst eqv
            have HF : Hid (Below w.heap.size w w3) := bsplit HB1.out (bsplit HU.out hb3)
            clear hqu hqv hb3
            go_wp2
            go_ret
            exact ⟨rfl, HF.out⟩

theorem locksMove_walk (a : Option Addr) (len cap : Nat) (os : List LOp) (w : World) (ho : ArgLO w (.slice a len cap) os) :
    Calls Try.prog 3 #[.slice a len cap] w fun e w' => e = .returned (.bool true) ∧ Below w.heap.size w w' := lmove _ os w ho

end Go.Proofs.Ythiogpojccohgaa
