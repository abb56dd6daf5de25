/- bartizanref06.Few: texts in a row of one's own. -/
import Derived.Test.YtlonomjepipjlaaDoorReelPieceF
import Derived.Test.YtlonomjepipjlaaDoorLists
import Derived.Test.YtlonomjepipjlaaDoorParts
import Derived.Deep.AppendLies
namespace Go.Proofs.YtlonomjepipjlaaDoor
open Go.RowKit
set_option linter.unusedVariables false

/-- texts in a row of one's own, each one's own -/
def OwnT (B : Nat) (w : World) (v : Value) (ls : List (List UInt8)) : Prop :=
  ∃ vs, w.ownsRow B 26 1 v ls.length vs ∧ ∀ j (h : j < ls.length), ∃ x, vs[j]? = some x ∧ OwnN B w x ls[j]

theorem OwnT.nil (B : Nat) (w : World) : OwnT B w (.slice none 0 0) [] := ⟨[], World.ownsRow_nil w B 26 1, fun j h => by simp at h⟩

theorem OwnT.below {B C : Nat} {w w' : World} {v : Value} {ls : List (List UInt8)} (h : OwnT B w v ls) (hb : Below C w w') (hC : w.heap.size ≤ C) : OwnT B w' v ls := by
  obtain ⟨cs, hr, hj⟩ := h
  have hb' : Below w.heap.size w w' := ⟨hb.os, hb.tape, hb.output, hb.size, fun i hi => hb.block i (Nat.lt_of_lt_of_le hi hC)⟩
  refine ⟨cs, row_below hr hb', fun j h => ?_⟩
  obtain ⟨x, c0, ox⟩ := hj j h
  exact ⟨x, c0, ox.below hb hC⟩

theorem OwnT.rd {B : Nat} {w : World} {v : Value} {ls : List (List UInt8)} (h : OwnT B w v ls) : RdL w v ls := by
  obtain ⟨cs, hr, hj⟩ := h
  have hr2 := hr
  rcases hr.2 with ⟨e, hn⟩ | ⟨g, cap, cur, e, hb, hg, h1, h2, h3, h4⟩
  · exact .inl ⟨e, List.eq_nil_of_length_eq_zero hn⟩
  · subst e
    refine .inr ⟨g, 0, cap, rfl, h1, h2, fun j h => ?_⟩
    obtain ⟨x, c0, ox⟩ := hj j h
    have := hr2.cells (g := g) rfl _ _ c0
    rw [Addr.add_lit] at this
    exact ⟨x, this, ox.rd⟩

theorem OwnT.shape {B : Nat} {w : World} {v : Value} {ls : List (List UInt8)} (h : OwnT B w v ls) : ∃ a c, v = .slice a ls.length c := by
  obtain ⟨cs, hr, _⟩ := h
  rcases hr.2 with ⟨e, hn⟩ | ⟨g, cap, cur, e, _⟩
  · exact ⟨none, 0, by rw [hn]; exact e⟩
  · exact ⟨_, cap, e⟩

theorem ownN_grown {w w' : World} {B B' n : Nat} {v x : Value} {cs : List Value} {l : List UInt8} (h : OwnN B' w x l) (hr : w.ownsRow B 26 1 v n cs) (hg : w.grownBy w' v.ownBlock) : OwnN B' w' x l := by
  rcases h with h | h
  · exact .inl h
  · obtain ⟨g, c, rfl⟩ := h.shape
    refine .inr (own_kept h hg ?_)
    rcases rows_apart hr h.row with e | e
    · rw [e]; simp
    · exact fun h => e h.symm

theorem own_push1 {B : Nat} {w w' : World} {v v' x : Value} {ls : List (List UInt8)} {cs : List Value} (a : List UInt8) (hrow : w.ownsRow B 26 1 v ls.length cs)
    (hel : ∀ j (h : j < ls.length), ∃ x, cs[j]? = some x ∧ OwnN B w x ls[j])
    (hx : OwnN B w x a) (hn : w'.ownsRow B 26 1 v' (ls.length + 1) (cs ++ [x])) (hg : w.grownBy w' v.ownBlock) : OwnT B w' v' (ls ++ [a]) := by
  have hcl : cs.length = ls.length := by have := hrow.1; omega
  refine ⟨_, by rw [List.length_append]; exact hn, fun j h => ?_⟩
  by_cases hj : j < ls.length
  · obtain ⟨x', c0, ox⟩ := hel j hj
    exact ⟨x', by rw [List.getElem?_append_left (by omega)]; exact c0, by rw [List.getElem_append_left hj]; exact ownN_grown ox hrow hg⟩
  · have hj3 : j = ls.length := by rw [List.length_append] at h; simp at h; omega
    subst hj3
    exact ⟨x, by rw [List.getElem?_append_right (by omega), show ls.length - cs.length = 0 by omega]; rfl, by simpa using ownN_grown hx hrow hg⟩

def fewT (n long : Nat) (ls : List (List UInt8)) : List (List UInt8) := (ls.take n).map fun l => l.take long

theorem few_snoc (n long j : Nat) (ls : List (List UInt8)) (hj : j < ls.length) (hn : j < n) : fewT n long (ls.take (j + 1)) = fewT n long (ls.take j) ++ [ls[j].take long] := by
  unfold fewT
  rw [List.take_take, List.take_take, Nat.min_eq_right (by omega), Nat.min_eq_right (by omega), List.take_succ_eq_append_getElem hj, List.map_append]
  rfl

theorem few_over (n long j : Nat) (ls : List (List UInt8)) (hn : ¬ j < n) : fewT n long (ls.take (j + 1)) = fewT n long (ls.take j) := by
  unfold fewT
  rw [List.take_take, List.take_take, Nat.min_eq_left (by omega), Nat.min_eq_left (by omega)]

theorem few_len (n long : Nat) (ls : List (List UInt8)) : (fewT n long ls).length ≤ n := by
  unfold fewT
  rw [List.length_map, List.length_take]
  omega

theorem one_slice (a : Option Addr) (n c : Nat) : ∀ u ∈ [Value.slice a n c], u.oneCell' = true := by
  intro u hu
  simp at hu
  subst hu
  rfl

theorem laid1 (w : World) (v0 : Value) (t : TypeId) : ∀ j u, [v0][j]? = some u → (w.alloc (.cells #[v0] t)).cell? ((⟨w.heap.size, 0, none⟩ : Addr).add j) = some u := by
  intro j u hj
  match j, hj with
  | 0, hj => simp at hj; subst hj; simp [Addr.add]

theorem few_bd {m n : Nat} (h : m ≤ n) (hn : n ≤ 1000) : m + 1 ≤ maxLen ∧ (m + 1) * 24 ≤ 140737488355328 := by unfold maxLen; omega

set_option maxRecDepth 100000 in
set_option maxHeartbeats 4000000 in
theorem few_any (w : World) (v : Value) (ls : List (List UInt8)) (n long : Nat) (hv : ArgL w v ls) (hn : n ≤ 1000) (hlong : long ≤ 100000) :
    Calls Tryd.prog 8 #[v, .int .i64 (n : Int), .int .i64 (long : Int)] w fun e w' => ∃ x, e = .returned x ∧ OwnT w.heap.size w' x (fewT n long ls) ∧ Below w.heap.size w w' := by
  obtain ⟨i0, hi, hz0, hz1, hz2⟩ := info_parts info24
  obtain ⟨ao, cap, rfl, h1, h2, h3⟩ := hv.places
  have hcap : cap ≤ 9223372036854775807 := by unfold maxLen at h2; omega
  have H3 : Hid (∀ j (h : j < ls.length), ∃ b off, ao = some ⟨b, off, none⟩ ∧ ∃ u, w.cell? ⟨b, off + j, none⟩ = some u ∧ Arg w u (ls[j])) := h3
  obtain ⟨N, hN⟩ : ∃ N, ls.length = N := ⟨_, rfl⟩
  rw [hN] at h1
  rw [hN]
  have HN : Hid _ := hN
  have HLG : Hid (long ≤ 1099511627776 ∧ n ≤ 1000) := by show _ ∧ _; omega
  clear h3 hv h2 hN hn hlong
  go_enter Tryd.func8, Tryd.ntmps8
  go_wp2_with fail
  go_loopg [7, 12] N (fun gk pv iv wr => ∃ (j : Nat) (T : List (List UInt8)) (a' : Option Addr) (c' : Nat), gk + j = N ∧ iv = .int .i64 (j : Int) ∧ pv = .slice a' T.length c' ∧ Hid (T = fewT n long (ls.take j)) ∧ Hid (OwnT w.heap.size wr pv T) ∧ Hid (Below w.heap.size w wr))
  case atStart => exact ⟨0, [], none, 0, by omega, rfl, rfl, by show _ = _; simp [fewT], OwnT.nil _ _, Below.refl _ _⟩
  case round =>
    obtain ⟨j, T, a', c', hj, rfl, rfl, HT, HO, HB⟩ := hrel
    by_cases hlt : j < N
    · have hlt2 : j < ls.length := by rw [HN.out]; exact hlt
      obtain ⟨b, off, rfl, u, hu, hau⟩ := H3.out j hlt2
      have hur := (HB.out.cell (p := ⟨b, off + j, none⟩) (World.block_lt_of_cell? w _ hu)).trans hu
      have haur := hau.below HB.out (Nat.le_refl _)
      obtain ⟨u1, u2, hus⟩ := haur.shape
      obtain ⟨lj, hlj⟩ : ∃ lj, ls[j] = lj := ⟨_, rfl⟩
      rw [hlj] at haur hus
      subst hus
      obtain ⟨q1, q2⟩ := gk_nxt hj hlt
      by_cases hjn : j < n
      · have hjI : (j : Int) < (n : Int) := by omega
        have HSN : Hid (fewT n long (ls.take (j + 1)) = T ++ [lj.take long]) := by show _ = _; rw [few_snoc n long j ls hlt2 hjn, hlj, HT.out]
        have HBD : Hid _ := few_bd (show T.length ≤ n by rw [HT.out]; exact few_len _ _ _) HLG.out.2
        have HAU : Hid (Arg wr (.slice u1 lj.length u2) lj) := haur
        clear hu hau haur hlj
        go_wp2_with fail
        refine (cut_any wr _ lj long HAU.out HLG.out.1).mono ?_
        rintro e w2 ⟨x, rfl, ox, hb2⟩
        obtain ⟨tk, HTK⟩ : ∃ tk, Hid (lj.take long = tk) := ⟨_, rfl⟩
        rw [HTK.out] at ox HSN
        obtain ⟨gx, kx, hxx⟩ := ox.shape
        subst hxx
        have hsz := Nat.le_trans HB.out.size hb2.size
        have hbe : Below w2.heap.size w2 (w2.alloc (.cells #[.slice (some ⟨gx, 0, none⟩) tk.length kx] 26)) := (Below.refl _ _).alloc (Nat.le_refl _) _
        have hOe := (HO.out.below hb2 (Nat.le_refl _)).below hbe (Nat.le_refl _)
        have oxe := (ox.below hbe (Nat.le_refl _)).mono (C := w.heap.size) HB.out.size
        obtain ⟨cs, hrow, hel⟩ := hOe
        have HBe : Hid (Below w.heap.size w (w2.alloc (.cells #[.slice (some ⟨gx, 0, none⟩) tk.length kx] 26))) := (HB.out.trans (hb2.mono HB.out.size)).trans (hbe.mono hsz)
        have HSZ : Hid (w.heap.size ≤ (w2.alloc (.cells #[.slice (some ⟨gx, 0, none⟩) tk.length kx] 26)).heap.size) := HBe.out.size
        clear hb2 ox hbe hur hsz
        go_wp2_with (first | (at_builtin; refine wpList_append_lies _ rfl (.tmp 20) (.tmp 24) 22 rfl w.heap.size 26 i0 (.slice none 0 0) 1 24 Tryd.underlying22 hi hz0 hz1 hz2 rfl (by decide) (.slice a' T.length c') T.length cs rfl hrow ⟨w2.heap.size, 0, none⟩ 1 1 [.slice (some ⟨gx, 0, none⟩) tk.length kx] rfl rfl (laid1 _ _ _) (one_slice _ _ _) (by decide) HBD.out.1 HBD.out.2 HSZ.out _ rfl ?_; intro g4 c4 w4 hown hgrow hat hlt4; have HP : Hid (OwnT w.heap.size w4 (.slice (some ⟨g4, 0, none⟩) (T.length + 1) c4) (T ++ [tk])) := own_push1 tk hrow hel (.inr oxe) hown hgrow; have HB4 : Hid (Below w.heap.size w w4) := HBe.out.grown hgrow HSZ.out (fun k' e => (hrow.lt k' e).1); clear hown hgrow hat hlt4) | fail)
        clear hrow hel oxe
        go_roundg (gk - 1)
        case measure => exact q1
        case rel => exact ⟨j + 1, T ++ [tk], _, c4, q2, by go_num, by rw [List.length_append]; rfl, HSN.out.symm, HP, HB4⟩
      · have hjI : ¬ (j : Int) < (n : Int) := by omega
        have HSN : Hid (fewT n long (ls.take (j + 1)) = T) := by show _ = _; rw [few_over n long j ls hjn, HT.out]
        clear hu hau haur hlj
        go_wp2_with fail
        go_roundg (gk - 1)
        case measure => exact q1
        case rel => exact ⟨j + 1, T, _, c', q2, by go_num, rfl, HSN.out.symm, HO, HB⟩
    · have hjN : j = N := by omega
      subst hjN
      have HE : Hid (fewT n long ls = T) := by show _ = _; rw [HT.out, ← HN.out, List.take_length]
      go_wp2
      go_ret
      rw [HE.out]
      exact ⟨_, rfl, HO.out, HB.out⟩

end Go.Proofs.YtlonomjepipjlaaDoor
