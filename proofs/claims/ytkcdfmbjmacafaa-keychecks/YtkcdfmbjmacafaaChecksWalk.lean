/- KeyChecks answers true: of any version it is told whether it is right, and what isn't. -/
import Derived.Test.YtkcdfmbjmacafaaKeyAwake
import Derived.Test.YtkcdfmbjmacafaaKeyArg
namespace Go.Proofs.Ytkcdfmbjmacafaa
open Go.RowKit

set_option maxHeartbeats 1000000 in
theorem checks_walk (w : World) (v : Value) (l : List UInt8) (s k : Int) (hv : Arg w v l) (hs : 0 ≤ s) (hk : 0 ≤ k) :
    Calls Try.prog 9 #[.agg #[v, .int .u64 s, .int .u8 k]] w fun e w' => e = .returned (.bool true) ∧ Below w.heap.size w w' := by
  have hsh : ∃ ao cap, v = .slice ao l.length cap := by
    rcases hv with ⟨rfl, rfl⟩ | ⟨a, cap, rfl, _⟩
    · exact ⟨_, _, rfl⟩
    · exact ⟨_, _, rfl⟩
  obtain ⟨ao, cap, rfl⟩ := hsh
  obtain ⟨c, hc⟩ : ∃ c, l.take 80 = c := ⟨_, rfl⟩
  have HC : Hid _ := hc
  clear hc
  have hB0 := below_box w #[.slice ao l.length cap, .int .u64 s, .int .u8 k] 25
  have b0 := box_new w (.slice ao l.length cap) (.int .u64 s) (.int .u8 k) 25
  have hv0 := hv.below hB0 (Nat.le_refl _)
  clear hv
  go_enter Try.func9, Try.ntmps9
  go_wp2_with fail
  refine (small_any _ _ l s k hv0).mono ?_
  rintro e w1 ⟨x, rfl, ox, hb⟩
  rw [HC.out] at ox
  obtain ⟨gx, kx, hx⟩ := ox.shape
  subst hx
  have hB1 := hB0.trans (hb.mono hB0.size)
  have b1 := (b0.below hb (Nat.le_refl _)).store (.slice (some ⟨gx, 0, none⟩) c.length kx) (.int .u64 s) (.int .u8 k)
  have hB2 := below_store3 hB1 (b := w.heap.size) (Nat.le_refl _) (.slice (some ⟨gx, 0, none⟩) c.length kx) (.int .u64 s) (.int .u8 k)
  obtain ⟨c0, c1, c2, f0, f1, f2⟩ := b0.below hb (Nat.le_refl _)
  clear hB0 b0 hv0 hb ox hB1
  go_wp2_with fail
  clear c0 c1 c2 f0 f1 f2
  generalize (((w1.setCell ⟨w.heap.size, 0, none⟩ (.slice (some ⟨gx, 0, none⟩) c.length kx)).setCell ⟨w.heap.size, 1, none⟩ (.int .u64 s)).setCell ⟨w.heap.size, 2, none⟩ (.int .u8 k)) = w2 at *
  have hlt := b1.lt
  go_region_with (first
    | (go_at_call 10; refine (kawake_any _).mono ?_; rintro e wa ⟨rfl, hba⟩; have b2 := b1.drew.below hba (Nat.le_refl _); have c0 := b2.c0; have c1 := b2.c1; have c2 := b2.c2)
    | (go_at_call 18; refine (check_any _ _ _ _ s k hs hk).mono ?_; rintro e wb ⟨rfl, hbb⟩; have b3 := b2.below hbb (Nat.le_refl _); have d0 := b3.c0; have d1 := b3.c1; have d2 := b3.c2)
    | (go_at_call 23; refine (refcheck_any _ _ _ _ s k hs hk).mono ?_; rintro e wc ⟨rfl, hbc⟩))
  go_goals
  all_goals
    have h1 : Below w.heap.size w wa := (hB2.drew).trans (hba.mono hB2.size)
    have h2 := h1.trans (hbb.mono h1.size)
    have h3 := h2.trans (hbc.mono h2.size)
    go_wp2
    go_ret
    exact ⟨ret_bool (by simp), h3⟩

theorem keyChecks_walk (a0 : Option Addr) (len0 cap0 : Nat) (z0 : List Int) (s0 k0 : Int) (w : World) (w0 : IsRow .u8 w a0 len0 cap0 z0) (ws0 : (Lit.int .u64 s0).wf = true) (wk0 : (Lit.int .u8 k0).wf = true) :
    Calls Try.prog 9 #[.agg #[.slice a0 len0 cap0, .int .u64 s0, .int .u8 k0]] w fun e w' => e = .returned (.bool true) ∧ Below w.heap.size w w' :=
  checks_walk w _ _ s0 k0 (arg_of w0) (bounds_u64 ws0).1 (bounds_u8 wk0).1

end Go.Proofs.Ytkcdfmbjmacafaa
