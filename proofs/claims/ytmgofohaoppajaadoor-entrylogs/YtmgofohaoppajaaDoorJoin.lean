/- atom.Join. -/
import Derived.Test.YtmgofohaoppajaaDoorFresh
namespace Go.Proofs.YtmgofohaoppajaaDoor
open Go.RowKit

/-- the second loop's relation carries this of what has been gathered -/
def Gath (B : Nat) (w : World) (v : Value) (l : List UInt8) : Prop := w.ownsRow B 5 1 v l.length (bv l) ∧ v ≠ .slice none 0 0

theorem Gath.own {B : Nat} {w : World} {v : Value} {l : List UInt8} (h : Gath B w v l) : Own B w v l := Own.of_row h.1 h.2

theorem gath_add {B : Nat} {w w' : World} {v v' : Value} {l m : List UInt8} {k : Nat} (hv : Gath B w v l) (hk : k = m.length) (ho : w'.ownsRow B 5 1 v' (l.length + k) (bv l ++ bv m))
    (hn : v' = .slice none 0 0 ↔ v = .slice none 0 0 ∧ k = 0) : Gath B w' v' (l ++ m) := by
  subst hk
  refine ⟨?_, fun e => hv.2 (hn.1 e).1⟩
  rw [List.length_append, bv_append]
  exact ho

set_option maxHeartbeats 1000000 in
theorem join_any (w : World) (v : Value) (ls : List (List UInt8)) (hv : RdL w v ls) (hl : ls.flatten.length ≤ 1099511627776) :
    Calls Tryd.prog 35 #[v] w fun e w' => ∃ x, e = .returned x ∧ Own w.heap.size w' x ls.flatten ∧ Below w.heap.size w w' := by
  obtain ⟨i0, hi, hz0, hz1, hz2⟩ := info_parts info5
  obtain ⟨all, hall⟩ : ∃ all, ls.flatten = all := ⟨_, rfl⟩
  have hpe : Hid (pre ls ls.length = all) := by show _ = _; rw [pre_end, hall]
  have hple : ∀ k, (pre ls k).length ≤ all.length := fun k => by rw [← hall]; exact pre_le ls k
  rw [hall] at hl ⊢
  have hv' := hv
  rcases hv with ⟨rfl, rfl⟩ | ⟨b, off, cap, rfl, h1, h2, h3⟩
  · obtain rfl : all = [] := by rw [← hall]; rfl
    clear hple
    go_enter Tryd.func35, Tryd.ntmps35
    go_wp2
    refine wp_loop_rounds 1 ?_
    rw [rounds_succ]
    go_wp2_with (at_make; refine wpList_make_own _ rfl (.const (.int .i64 0)) (.tmp 20) 26 rfl w.heap.size 5 i0 (.int .u8 0) 1 Tryd.underlying26 hi hz0 hz1 .i64 .i64 _ 0 rfl rfl (by rfl) (by omega) (by simp only [maxLen]; omega) (Nat.le_refl _) ?_; intro w1 hown hgr)
    refine wp_loop_rounds 1 ?_
    rw [rounds_succ]
    go_wp2
    go_ret
    exact ⟨_, rfl, Own.of_row hown (by simp), (Below.refl _ _).grown hgr (Nat.le_refl _) (fun k h => by cases h)⟩
  · unfold maxLen at h2
    clear hall
    go_enter Tryd.func35, Tryd.ntmps35
    go_wp2
    go_loop [3, 11] (fun sv iv => ∃ k : Nat, k ≤ ls.length ∧ iv = .int .i64 (k : Int) ∧ sv = .int .i64 ((pre ls k).length : Int)) (fun _ iv => ls.length - (intOf iv).toNat)
    case atStart => exact ⟨0, Nat.zero_le _, rfl, by rw [pre_zero]; rfl⟩
    case round =>
      obtain ⟨k, hk, rfl, rfl⟩ := hrel
      by_cases hlt : k < ls.length
      · obtain ⟨u, hc, hr⟩ := h3 k hlt
        obtain ⟨ao, cp, rfl⟩ := hr.len
        have hfs : Hid ((pre ls (k + 1)).length = (pre ls k).length + ls[k].length) := by show _ = _; rw [pre_succ ls k hlt, List.length_append]
        have hfl2 := hple (k + 1)
        rw [hfs.out] at hfl2
        clear h3 hple hv' hr
        go_wp2
        go_round
        case rel => exact ⟨k + 1, by omega, by go_num, by rw [hfs.out]; go_num⟩
        case measure => simp [intOf]; omega
      · have hke : k = ls.length := by omega
        subst hke
        rw [hpe.out]
        clear h3
        go_wp2_with (at_make; refine wpList_make_own _ rfl (.const (.int .i64 0)) (.tmp 20) 26 rfl w.heap.size 5 i0 (.int .u8 0) 1 Tryd.underlying26 hi hz0 hz1 .i64 .i64 _ all.length rfl rfl (by rfl) (by rw [hz2]; omega) (by simp only [maxLen]; omega) (Nat.le_refl _) ?_; intro w1 hown hgr)
        have hb1 : Below w.heap.size w w1 := (Below.refl _ _).grown hgr (Nat.le_refl _) (fun k h => by cases h)
        have hg1 : Gath w.heap.size w1 (.slice (some ⟨w.heap.size, 0, none⟩) 0 all.length) [] := ⟨hown, by simp⟩
        clear hown hgr
        go_loopw [6, 24] (fun av iv wr => ∃ k : Nat, k ≤ ls.length ∧ iv = .int .i64 (k : Int) ∧ Gath w.heap.size wr av (pre ls k) ∧ Below w.heap.size w wr) (fun _ iv _ => ls.length - (intOf iv).toNat)
        case atStart => exact ⟨0, Nat.zero_le _, rfl, by rw [pre_zero]; exact hg1, hb1⟩
        case round =>
          clear hg1 hb1
          obtain ⟨k, hk, rfl, hg, hb⟩ := hrel
          by_cases hlt : k < ls.length
          · rcases hv' with ⟨e, _⟩ | ⟨b', off', cap', e, _, _, h3⟩
            · cases e
            · simp only [Value.slice.injEq, Option.some.injEq, Addr.mk.injEq, and_true, true_and] at e
              obtain ⟨⟨rfl, rfl⟩, rfl⟩ := e
              obtain ⟨u, hc, hr⟩ := h3 k hlt
              have hc2 : wr.cell? ⟨b, off + k, none⟩ = some u := by rw [hb.cell (p := ⟨b, off + k, none⟩) (World.block_lt_of_cell? w _ hc)]; exact hc
              have hr2 := hr.below hb (Nat.le_refl _)
              have hfs : Hid (pre ls (k + 1) = pre ls k ++ ls[k]) := pre_succ ls k hlt
              have hfl2 := hple (k + 1)
              rw [hfs.out, List.length_append] at hfl2
              clear h3 hple hr hc
              rcases hr2 with ⟨rfl, hnil⟩ | ⟨b2, off2, cp2, rfl, g1, g2, g3⟩
              · rw [hnil, List.append_nil] at hfs
                clear hnil
                go_wp2_with (at_builtin; refine wpList_append_own_none rfl (.tmp 28) (.tmp 29) 26 rfl w.heap.size 5 i0 1 Tryd.underlying26 hi _ _ _ rfl hg.1 rfl ?_)
                go_roundw
                case rel => exact ⟨k + 1, by omega, by go_num, by rw [hfs.out]; exact hg, hb⟩
                case measure => simp [intOf]; omega
              · have g3' : ∀ j u, (bv ls[k])[j]? = some u → wr.cell? ((⟨b2, off2, none⟩ : Addr).add j) = some u := fun j u hu => by rw [Addr.add_lit]; exact g3 j u hu
                obtain ⟨lk, hlk⟩ : ∃ lk, ls[k] = lk := ⟨_, rfl⟩
                rw [hlk] at hfl2 hfs g3' hc2
                clear g3 hlk
                go_wp2_with (at_builtin; refine wpList_append_own _ rfl (.tmp 28) (.tmp 29) 26 rfl w.heap.size 5 i0 (.int .u8 0) 1 1 Tryd.underlying26 hi hz0 hz1 hz2 rfl (by decide) _ _ _ rfl hg.1 ⟨b2, off2, none⟩ lk.length cp2 (bv lk) rfl (by rw [bv_length, Nat.mul_one]) g3' (bv_one _) (by simp only [maxLen]; omega) (by omega) hb.size ?_; intro v' w2 ho' hgr' hn')
                have hg2 := gath_add hg rfl ho' hn'
                have hb2 : Below w.heap.size w w2 := hb.grown hgr' hb.size (fun k' e => (hg.1.lt k' e).1)
                clear ho' hgr' hn' hg hb
                go_roundw
                case rel => exact ⟨k + 1, by omega, by go_num, by rw [hfs.out]; exact hg2, hb2⟩
                case measure => simp [intOf]; omega
          · have hke : k = ls.length := by omega
            subst hke
            rw [hpe.out] at hg
            go_wp2
            go_ret
            exact ⟨_, rfl, hg.own, hb⟩

end Go.Proofs.YtmgofohaoppajaaDoor
