/- reel.Read. -/
import Derived.Test.YtppoimmoohfbnaaDoorReelRec
namespace Go.Proofs.YtppoimmoohfbnaaDoor
open Go.RowKit
set_option linter.unusedVariables false

set_option maxRecDepth 100000 in
set_option maxHeartbeats 4000000 in
theorem record_nil (w : World) (v : Value) (hv : Rd w v []) :
    Calls Tryd.prog 29 #[v, .int .i64 0] w fun e w' => e = .returned (.tuple #[.slice none 0 0, .int .i64 0, .bool false]) ∧ w' = w := by
  have hgap := gap_any w 0 (by omega)
  have hpc := piece_out w 0 v [] hv (.inr (by simp))
  have e0 : (gapN 0 : Int) = 0 := by decide
  rw [e0, show ((0 : Nat) : Int) = 0 from rfl] at hgap
  obtain ⟨ao, cap, hvv⟩ := hv.len
  subst hvv
  clear hv e0
  go_enter Tryd.func29, Tryd.ntmps29
  go_wp2_with fail
  refine hgap.mono ?_
  rintro e w0 ⟨rfl, rfl⟩
  clear hgap
  go_wp2_with fail
  go_loopg [7, 8] 1 (fun gk tv nv wr => tv = .slice none 0 0 ∧ nv = .int .i64 0 ∧ wr = w0)
  case atStart => exact ⟨rfl, rfl, rfl⟩
  case round =>
    obtain ⟨rfl, rfl, rfl⟩ := hrel
    go_wp2_with fail
    refine hpc.mono ?_
    rintro x w1 ⟨rfl, rfl⟩
    clear hpc
    go_wp2
    refine bodyPost_ret (v := .tuple #[.slice none 0 0, .int .i64 0, .bool false]) (by simp [results]) rfl ?_
    exact ⟨rfl, rfl⟩

/-- what reel.Read answers -/
def ReadPost (w : World) (p : List UInt8) (x : Ending) (w' : World) : Prop :=
  Below w.heap.size w w' ∧ ∃ y, x = .returned (.tuple #[y, .int .i64 (readN p : Int)]) ∧ OwnT w.heap.size w' y (readB p).1

/-- where the loop has come to -/
structure ReadI (w wr : World) (p : List UInt8) (a : Nat) (lv : Value) (ls : List (List UInt8)) : Prop where
  eq : readB p = readG (p.length + 1) p a ls
  ow : OwnT w.heap.size wr lv ls
  be : Below w.heap.size w wr
  le : a ≤ p.length
  nm : ls.length ≤ a

theorem read_end {p : List UInt8} {a : Nat} {ls : List (List UInt8)} (h : readB p = readG (p.length + 1) p a ls) (hr : recAt p a = none) : readB p = (ls, a) := by
  rw [h, readG_step (by omega), hr]

theorem readN_is {p : List UInt8} {a : Nat} {ls : List (List UInt8)} (h : readB p = (ls, a)) : readN p = if (p.drop a).length = gapN a ∧ (p.drop a).all (· == 0) = true then p.length else a := by
  unfold readN
  rw [h]

theorem read_nums {a L c : Nat} (ha : a ≤ L) (hc : L ≤ c) (hL : L ≤ 1000000) : (a : Int) ≤ (L : Int) ∧ (L : Int) ≤ (c : Int) ∧ (a : Int) ≤ 1000000 ∧ (L : Int) ≤ 1000000 ∧ (0 : Int) ≤ (a : Int) := by omega

theorem noughts_n (w : World) (v : Value) (l : List UInt8) (r : Bool) (n : Nat) (hv : Rd w v l) (hr : l.all (· == 0) = r) :
    Calls Tryd.prog 30 #[v] w fun e w' => e = .returned (.bool r) ∧ w' = w := noughts_any w v l r hv hr

set_option maxRecDepth 100000 in
set_option maxHeartbeats 8000000 in
theorem read_nil (w : World) (v : Value) (hv : Rd w v []) : Calls Tryd.prog 16 #[v] w (ReadPost w []) := by
  have hgap := gap_any w 0 (by omega)
  have hrc := record_nil w v hv
  have e0 : (gapN 0 : Int) = 0 := by decide
  rw [e0, show ((0 : Nat) : Int) = 0 from rfl] at hgap
  have hno := noughts_any w v [] true hv rfl
  have HPO : Hid (readN [] = 0 ∧ (readB []).1 = []) := by
    have : readB [] = ([], 0) := readB_all [] (by simp)
    refine ⟨?_, by rw [this]⟩
    exact readN_end (by rw [this]; rfl)
  have HV : Hid (Rd w v []) := hv
  rcases hv with ⟨rfl, _⟩ | ⟨b, off, cap, rfl, h1, h2, h3⟩
  · clear e0
    go_enter Tryd.func16, Tryd.ntmps16
    go_wp2_with fail
    go_loopg [4, 5] 1 (fun gk lv iv wr => lv = .slice none 0 0 ∧ iv = .int .i64 0 ∧ wr = w)
    case atStart => exact ⟨rfl, rfl, rfl⟩
    case round =>
      obtain ⟨rfl, rfl, rfl⟩ := hrel
      go_wp2_with fail
      refine hrc.mono ?_
      rintro x w1 ⟨rfl, rfl⟩
      clear hrc
      go_wp2_with fail
      refine hgap.mono ?_
      rintro x w1 ⟨rfl, rfl⟩
      clear hgap
      go_wp2_with fail
      refine hno.mono ?_
      rintro x w1 ⟨rfl, rfl⟩
      clear hno
      go_wp2
      refine bodyPost_ret (v := .tuple #[.slice none 0 0, .int .i64 0]) (by simp [results]) rfl ?_
      refine ⟨Below.refl _ _, .slice none 0 0, by rw [HPO.out.1]; rfl, by rw [HPO.out.2]; exact OwnT.nil _ _⟩
  · clear e0 h1 h3 hno
    unfold maxLen at h2
    have hcI : (0 : Int) ≤ (cap : Int) := Int.natCast_nonneg _
    rw [show ([] : List UInt8).length = 0 from rfl] at *
    go_enter Tryd.func16, Tryd.ntmps16
    go_wp2_with fail
    go_loopg [4, 5] 1 (fun gk lv iv wr => lv = .slice none 0 0 ∧ iv = .int .i64 0 ∧ wr = w)
    case atStart => exact ⟨rfl, rfl, rfl⟩
    case round =>
      obtain ⟨rfl, rfl, rfl⟩ := hrel
      go_wp2_with fail
      refine hrc.mono ?_
      rintro x w1 ⟨rfl, rfl⟩
      clear hrc
      go_wp2_with fail
      all_goals
        refine hgap.mono ?_
        rintro x w1 ⟨rfl, rfl⟩
        clear hgap
        go_wp2_with fail
        refine (noughts_any _ _ [] true (rd_none _ _ _ (by unfold maxLen; omega)) rfl).mono ?_
        rintro x w1 ⟨rfl, rfl⟩
        go_wp2
        refine bodyPost_ret (v := .tuple #[.slice none 0 0, .int .i64 0]) (by simp [results]) rfl ?_
        refine ⟨Below.refl _ _, .slice none 0 0, by rw [HPO.out.1]; rfl, by rw [HPO.out.2]; exact OwnT.nil _ _⟩

set_option maxRecDepth 100000 in
set_option maxHeartbeats 8000000 in
theorem read_at (w : World) (b off c : Nat) (p : List UInt8) (hcs : ∀ j u, (bv p)[j]? = some u → w.cell? ⟨b, off + j, none⟩ = some u) (hb : b < w.heap.size) (hc : p.length ≤ c) (hM : c ≤ maxLen) (hp : p.length ≤ 1000000) (hT : Tab w) :
    Calls Tryd.prog 16 #[.slice (some ⟨b, off, none⟩) p.length c] w (ReadPost w p) := by
  obtain ⟨i0, hi, hz0, hz1, hz2⟩ := info_parts info24
  obtain ⟨L, hL⟩ : ∃ L, p.length = L := ⟨_, rfl⟩
  have HI0 : Hid (ReadI w w p 0 (.slice none 0 0) []) := ⟨rfl, OwnT.nil _ _, Below.refl _ _, by omega, by simp⟩
  rw [hL] at hc hp ⊢
  have HC : Hid _ := hcs
  have HB : Hid (b < w.heap.size) := hb
  have HM : Hid (c ≤ maxLen ∧ L ≤ c ∧ L ≤ 1000000) := ⟨hM, hc, hp⟩
  have HT : Hid (Tab w) := hT
  have HL : Hid (p.length = L) := hL
  have hcM : c ≤ 9223372036854775807 := by unfold maxLen at hM; omega
  clear hcs hb hM hc hp hT hL
  go_enter Tryd.func16, Tryd.ntmps16
  go_wp2_with fail
  go_loopg [4, 5] (L + 1) (fun gk lv iv wr => ∃ (a : Nat) (ls : List (List UInt8)) (la : Option Addr) (lc : Nat), gk + a = L + 1 ∧ iv = .int .i64 (a : Int) ∧ lv = .slice la ls.length lc ∧ Hid (ReadI w wr p a lv ls))
  case atStart => exact ⟨0, [], none, 0, rfl, rfl, rfl, HI0⟩
  case round =>
    obtain ⟨a, ls, la, lc, hgk, rfl, rfl, HI⟩ := hrel
    have haL : a ≤ L := by have := HI.out.le; rw [HL.out] at this; exact this
    obtain ⟨n1, n2, n3, n4, n5⟩ := read_nums haL HM.out.2.1 HM.out.2.2
    have hrc := record_at wr a b off c p (rd_low_cells HC.out HI.out.be) (Nat.lt_of_lt_of_le HB.out HI.out.be.size) HI.out.le (by rw [HL.out]; exact HM.out.2.1) HM.out.1 (by rw [HL.out]; exact HM.out.2.2) (HT.out.below HI.out.be (Nat.le_refl _))
    rw [HL.out] at hrc
    obtain ⟨Q, hQ⟩ : ∃ Q, recAt p a = Q := ⟨_, rfl⟩
    rw [hQ] at hrc
    cases Q with
    | none =>
      have hre := read_end HI.out.eq hQ
      have HRB : Hid (readB p = (ls, a)) := hre
      obtain ⟨rest, hrest⟩ : ∃ rest, p.drop a = rest := ⟨_, rfl⟩
      obtain ⟨zb, hzb⟩ : ∃ zb, rest.all (· == 0) = zb := ⟨_, rfl⟩
      have HRN : Hid (readN p = if L - a = gapN a ∧ zb = true then L else a) := by
        show _ = _
        rw [readN_is hre, hrest, hzb, ← hrest, List.length_drop, HL.out]
      obtain ⟨off', f1, f2, f3, _⟩ := rd_drop HC.out (by rw [HL.out]; exact HM.out.2.1) HM.out.1 a HI.out.le
      rw [hrest, HL.out] at f3
      obtain ⟨ga, hga⟩ : ∃ ga, gapN a = ga := ⟨_, rfl⟩
      have hgap := fun w' => gap_any w' a (by omega)
      rw [hga] at hgap HRN
      obtain ⟨ln, hln⟩ : ∃ ln, L - a = ln := ⟨_, rfl⟩
      rw [hln] at HRN f3
      have hln' : (ln : Int) = (L : Int) - (a : Int) := by omega
      have HR : Hid (Rd w (.slice (some ⟨b, off', none⟩) ln (c - a)) rest) := f3
      have hgb := gap_bd a
      rw [hga] at hgb
      have HZB : Hid _ := hzb
      have hgI : (ga : Int) ≤ 6 := by omega
      clear hQ hre hrest hzb f3 hga hgb
      go_wp2_with fail
      refine hrc.mono ?_
      rintro x w1 ⟨hb1, rfl⟩
      have HB1 : Hid (Below w.heap.size w w1) := HI.out.be.trans (hb1.mono HI.out.be.size)
      have HO1 : Hid (OwnT w.heap.size w1 (.slice la ls.length lc) ls) := HI.out.ow.below hb1 (Nat.le_refl _)
      clear hb1 hrc
      have hno := noughts_any w1 _ rest zb (HR.out.below HB1.out (Nat.le_refl _)) HZB.out
      obtain ⟨d, hd⟩ : ∃ d, c - a = d := ⟨_, rfl⟩
      rw [hd] at hno
      have hlnd : ln ≤ d := by have := HM.out.2.1; omega
      have fin : ∀ (n : Nat), Hid (readN p = n) → ReadPost w p (.returned (.tuple #[.slice la ls.length lc, .int .i64 (n : Int)])) w1 := fun n hn => ⟨HB1.out, _, by rw [hn.out], by rw [HRB.out]; exact HO1.out⟩
      have HFIN : Hid _ := fin
      clear fin
      by_cases hca : c = a
      · obtain rfl := f2 hca
        clear f1 f2
        obtain rfl : L = a := by have := HM.out.2.1; omega
        subst hca
        obtain rfl : ln = 0 := by omega
        obtain rfl : d = 0 := by omega
        have HZ1 : Hid (readN p = c) := by
          show _ = _
          rw [HRN.out]
          split <;> rfl
        by_cases hq : 0 = ga
        · subst hq
          cases zb
          all_goals
            go_wp2_with fail
            refine (hgap _).mono ?_
            rintro x w2 ⟨rfl, rfl⟩
            clear hgap
            go_wp2_with fail
            refine hno.mono ?_
            rintro x w2 ⟨rfl, rfl⟩
            clear hno
            go_wp2
            refine bodyPost_ret (v := .tuple #[.slice la ls.length lc, .int .i64 (c : Int)]) (by simp [results]) rfl ?_
            exact HFIN.out _ HZ1
        · have hqI : ¬ (0 : Int) = (ga : Int) := by omega
          have hbq : ((0 : Int) == (ga : Int)) = false := by simpa using hqI
          go_wp2_with fail
          refine (hgap _).mono ?_
          rintro x w2 ⟨rfl, rfl⟩
          clear hgap
          go_wp2
          refine bodyPost_ret (v := .tuple #[.slice la ls.length lc, .int .i64 (c : Int)]) (by simp [results]) rfl ?_
          exact HFIN.out _ HZ1
      · obtain rfl := f1 hca
        clear f1 f2
        by_cases hq : ln = ga
        · subst hq
          cases zb
          · have HZ1 : Hid (readN p = a) := by
              show _ = _
              rw [HRN.out, if_neg (by simp)]
            go_wp2_with fail
            refine (hgap _).mono ?_
            rintro x w2 ⟨rfl, rfl⟩
            clear hgap
            go_wp2_with fail
            refine hno.mono ?_
            rintro x w2 ⟨rfl, rfl⟩
            clear hno
            go_wp2
            refine bodyPost_ret (v := .tuple #[.slice la ls.length lc, .int .i64 (a : Int)]) (by simp [results]) rfl ?_
            exact HFIN.out _ HZ1
          · have HZ1 : Hid (readN p = L) := by
              show _ = _
              rw [HRN.out, if_pos ⟨rfl, rfl⟩]
            go_wp2_with fail
            refine (hgap _).mono ?_
            rintro x w2 ⟨rfl, rfl⟩
            clear hgap
            go_wp2_with fail
            refine hno.mono ?_
            rintro x w2 ⟨rfl, rfl⟩
            clear hno
            go_wp2
            refine bodyPost_ret (v := .tuple #[.slice la ls.length lc, .int .i64 (L : Int)]) (by simp [results]) rfl ?_
            exact HFIN.out _ HZ1
        · have hqI : ¬ (ln : Int) = (ga : Int) := by omega
          have hbq : ((ln : Int) == (ga : Int)) = false := by simpa using hqI
          have HZ1 : Hid (readN p = a) := by
            show _ = _
            rw [HRN.out, if_neg (fun h => hq h.1)]
          go_wp2_with fail
          refine (hgap _).mono ?_
          rintro x w2 ⟨rfl, rfl⟩
          clear hgap
          go_wp2
          refine bodyPost_ret (v := .tuple #[.slice la ls.length lc, .int .i64 (a : Int)]) (by simp [results]) rfl ?_
          exact HFIN.out _ HZ1
    | some r =>
      obtain ⟨t, nx⟩ := r
      have hrs := recAt_some hQ
      have hfl := frameB_long a t
      have hst := HI.out.eq
      rw [readG_step (by omega), hQ] at hst
      simp only at hst
      have HST : Hid (readB p = readG (p.length + 1) p nx (ls ++ [t])) := hst
      have HNX : Hid (nx ≤ L ∧ a < nx ∧ L + 1 - nx < gk ∧ L + 1 - nx + nx = L + 1) := by
        have := hrs.2.2.2
        have := HL.out
        show _ ∧ _ ∧ _ ∧ _
        omega
      have HBD : Hid (ls.length + 1 ≤ maxLen ∧ (ls.length + 1) * 24 ≤ 140737488355328) := by
        have := HI.out.nm
        have := HM.out.2.2
        show _ ∧ _
        unfold maxLen
        omega
      clear hQ hrs hfl hst
      go_wp2_with fail
      refine hrc.mono ?_
      rintro x w1 ⟨hb1, y, rfl, oy⟩
      obtain ⟨y1, y2, rfl⟩ := oy.rd.len
      have HB1 : Hid (Below w.heap.size w w1) := HI.out.be.trans (hb1.mono HI.out.be.size)
      have hbe : Below w1.heap.size w1 (w1.alloc (.cells #[.slice y1 t.length y2] 22)) := (Below.refl _ _).alloc (Nat.le_refl _) _
      have hOe := (HI.out.ow.below hb1 (Nat.le_refl _)).below hbe (Nat.le_refl _)
      have oxe := (oy.below hbe (Nat.le_refl _)).mono (C := w.heap.size) HI.out.be.size
      obtain ⟨cs, hrow, hel⟩ := hOe
      have HBe : Hid (Below w.heap.size w (w1.alloc (.cells #[.slice y1 t.length y2] 22))) := HB1.out.trans (hbe.mono HB1.out.size)
      have HSZ : Hid (w.heap.size ≤ (w1.alloc (.cells #[.slice y1 t.length y2] 22)).heap.size) := HBe.out.size
      clear hb1 oy hbe hrc
      go_wp2_with (first | (at_builtin; refine wpList_append_lies _ rfl (.tmp 19) (.tmp 21) 33 rfl w.heap.size 22 i0 (.slice none 0 0) 1 24 Tryd.underlying33 hi hz0 hz1 hz2 rfl (by decide) (.slice la ls.length lc) ls.length cs rfl hrow ⟨w1.heap.size, 0, none⟩ 1 1 [.slice y1 t.length y2] rfl rfl (laid1 _ _ _) (one_slice _ _ _) (by decide) HBD.out.1 HBD.out.2 HSZ.out _ rfl ?_; intro g4 c4 w4 hown hgrow hat hlt4; have HP : Hid (OwnT w.heap.size w4 (.slice (some ⟨g4, 0, none⟩) (ls.length + 1) c4) (ls ++ [t])) := own_push1 t hrow hel oxe hown hgrow; have HB4 : Hid (Below w.heap.size w w4) := HBe.out.grown hgrow HSZ.out (fun k' e => (hrow.lt k' e).1); clear hown hgrow hat hlt4) | fail)
      clear hrow hel oxe
      go_roundg (L + 1 - nx)
      case measure => exact HNX.out.2.2.1
      case rel => exact ⟨nx, ls ++ [t], _, c4, HNX.out.2.2.2, rfl, by rw [List.length_append]; rfl, ⟨HST.out, HP.out, HB4.out, by rw [HL.out]; exact HNX.out.1, by rw [List.length_append]; have := HI.out.nm; have := HNX.out.2.1; simp; omega⟩⟩

theorem read_any (w : World) (v : Value) (p : List UInt8) (hv : Rd w v p) (hvb : ∀ b, v.ownBlock = some b → b < w.heap.size) (hp : p.length ≤ 1000000) (hT : Tab w) :
    Calls Tryd.prog 16 #[v] w (ReadPost w p) := by
  rcases rd_shape hv hvb with ⟨rfl, rfl⟩ | ⟨b, off, c, rfl, h1, h2, h3, h4⟩
  · exact read_nil w _ (.inl ⟨rfl, rfl⟩)
  · exact read_at w b off c p h4 h3 h1 (by unfold maxLen; omega) hp hT

end Go.Proofs.YtppoimmoohfbnaaDoor
