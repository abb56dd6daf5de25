/- Several texts in one. -/
import Derived.Test.YtekmlbbfipldoaaGrpA
import Derived.Test.YtekmlbbfipldoaaGrpP
import Derived.Test.YtekmlbbfipldoaaGrpB

/- A nil list, and a row that there isn't: nothing is handed out. -/
namespace Go.Proofs.Ytekmlbbfipldoaa
open Go.RowKit Go.Shelf
set_option linter.unusedVariables false

attribute [local go_sem] Oper.semAt_some

abbrev NoTow := {t : Tow // t ∈ ([] : List Tow)}

theorem noTow (x : NoTow) : False := by have := x.2; simp at this

set_option maxRecDepth 100000 in
theorem row_no (n : Nat) (hn : 1 ≤ n) (n0 : Nat) (w : World) (pv : Option Addr) (h : Int) (hno : pv = none ∨ ¬ (1 ≤ h ∧ h ≤ 8)) (Bl Bh : Nat) (cl : w.cell? ⟨Bl, 0, none⟩ = some (.pointer pv)) (ch : w.cell? ⟨Bh, 0, none⟩ = some (.int .i64 h)) :
    SeqStopsK Fence.wide n Try.prog 47 #[.pointer (some ⟨Bl, 0, none⟩), .pointer (some ⟨Bh, 0, none⟩)] (fun t : NoTow => #[enV t.1.x (t.1.e.2.1 : Int) (t.1.e.2.2.1.toNat : Int) t.1.y]) (KpR n0 Bh) (fun xs => xs = []) (fun pre => pre = []) 1 w := fun yl J Jx W hW hJ hJx hY h0 => by
  have clW : W.cell? ⟨Bl, 0, none⟩ = some (.pointer pv) := by rw [hW.cell (p := ⟨Bl, 0, none⟩) (World.block_lt_of_cell? w _ cl)]; exact cl
  have chW : W.cell? ⟨Bh, 0, none⟩ = some (.int .i64 h) := by rw [hW.cell (p := ⟨Bh, 0, none⟩) (World.block_lt_of_cell? w _ ch)]; exact ch
  have HJ0 : Hid (J [] W) := h0
  clear hJ hJx h0 hW cl ch hY
  refine callsIn_of_wp Try.func47 rfl trivial ?_ rfl
  simp only [Try.ntmps47, List.size_toArray, List.length_cons, List.length_nil, Nat.reduceAdd, Nat.reduceSub, Array.replicate_succ, Array.replicate_zero, List.push_toArray, List.append_toArray, List.nil_append, List.cons_append]
  rcases pv with _ | ad
  · clear hno
    gi_wp2_with fail
    refine ⟨trivial, ?_⟩
    gi_wp2
    refine bodyPost_ret (results_none rfl _ _ _) rfl ?_
    exact ⟨⟨_, rfl⟩, .inl ⟨[], rfl, HJ0.out⟩⟩
  · have hnot : ¬ (1 ≤ h ∧ h ≤ 8) := by
      rcases hno with e | e
      · cases e
      · exact e
    have hIr := isRow_any W h false (decide_eq_false hnot)
    clear hno hnot
    gi_wp2_with fail
    refine ⟨trivial, ?_⟩
    refine (callsIn_wide.2 hIr).mono ?_
    rintro e w1 ⟨rfl, hw1⟩
    subst w1
    gi_wp2
    refine bodyPost_ret (results_none rfl _ _ _) rfl ?_
    exact ⟨⟨_, rfl⟩, .inl ⟨[], rfl, HJ0.out⟩⟩

set_option maxRecDepth 100000 in
set_option maxHeartbeats 4000000 in
theorem sklen_nil (w : World) :
    Calls Try.prog 18 #[.pointer none] w fun e w' => e = .returned (.int .i64 0) ∧ Below w.heap.size w w' := by
  have c0 := cell_new_l w (.int .i64 0) 3
  have hB1 : Below w.heap.size w (w.alloc (.cells #[.int .i64 0] 3)) := (Below.refl _ w).alloc (Nat.le_refl _) _
  have hrw := skrow_any (w.alloc (.cells #[.int .i64 0] 3)) none 1
  have hs1 : (w.alloc (.cells #[.int .i64 0] 3)).heap.size = w.heap.size + 1 := by simp
  rw [hs1] at hrw
  have c1 := cell_new_l (w.alloc (.cells #[.int .i64 0] 3)) (.pointer none) 25
  have c2 := cell_new_l ((w.alloc (.cells #[.int .i64 0] 3)).alloc (.cells #[.pointer none] 25)) (.int .i64 1) 3
  have d0 := cell_alloc_l (.cells #[.int .i64 1] 3) (cell_alloc_l (.cells #[.pointer none] 25) c0.1)
  have d0f := frozen_alloc_l (.cells #[.int .i64 1] 3) (cell_alloc_l (.cells #[.pointer none] 25) c0.1) (frozen_alloc_l (.cells #[.pointer none] 25) c0.1 c0.2)
  have d1 := cell_alloc_l (.cells #[.int .i64 1] 3) c1.1
  have hB3 : Below w.heap.size w (((w.alloc (.cells #[.int .i64 0] 3)).alloc (.cells #[.pointer none] 25)).alloc (.cells #[.int .i64 1] 3)) := (hB1.alloc hB1.size _).alloc (hB1.alloc hB1.size _).size _
  simp only [World.size_alloc] at c1 c2 d1
  have hz3 : (((w.alloc (.cells #[.int .i64 0] 3)).alloc (.cells #[.pointer none] 25)).alloc (.cells #[.int .i64 1] 3)).heap.size = w.heap.size + 3 := by simp
  refine (callsIn_wide (n := 4)).1 ?_
  refine callsIn_of_wp_marks Try.func18 rfl trivial ?_ rfl
  simp only [Try.ntmps18, List.size_toArray, List.length_cons, List.length_nil, Nat.reduceAdd, Nat.reduceSub, Array.replicate_succ, Array.replicate_zero, List.push_toArray, List.append_toArray, List.nil_append, List.cons_append]
  gi_wp2_with fail
  refine ⟨trivial, ?_⟩
  refine (callsIn_wide.2 hrw).mono ?_
  rintro e w3 ⟨rfl, hw3⟩
  rw [← hw3] at c2 d0 d0f d1 hB3 hz3
  clear hw3 c0 c1 hB1 hrw hs1
  have HB3 : Hid (Below w.heap.size w w3) := hB3
  gi_wp2_with fail
  refine wpIn_rangeFunc_ownF rfl (by omega) (gf := 47) (lb := #[.pointer (some ⟨w.heap.size + 1, 0, none⟩), .pointer (some ⟨w.heap.size + 1 + 1, 0, none⟩)]) rfl trivial (enters_of Try.func47 (by kernel_rfl) rfl)
    (row_no 3 (by omega) w.heap.size w3 none 1 (.inl rfl) _ _ d1 c2.1) kpR_t (kpR_b (by omega)) (Below.refl _ _) (fun _ => rfl)
    (fun (pre : List NoTow) W => (W.cell? ⟨w.heap.size, 0, none⟩ = some (.int .i64 (pre.length : Int)) ∧ W.frozen? ⟨w.heap.size, 0, none⟩ = false) ∧ Below w.heap.size w W)
    (fun c (pre : List NoTow) W => False)
    (OwnFrom.and (Go.Own.from (fun s A B row hs hg hr => ⟨cell_kept hs.1 hg hr, (frozen_kept hs.1 hg hr).trans hs.2⟩) _) (ownFrom_below (Nat.le_refl _) (by omega)))
    (fun c s A B row hs hg hr => hs)
    ⟨⟨d0, d0f⟩, hB3⟩
    (fun (x : NoTow) => { tmps := #[.pointer none, undef, .int .i64 0, .pointer (some ⟨w.heap.size, 0, none⟩), .pointer none, .func (.func 47) #[] #[.pointer (some ⟨w.heap.size + 1, 0, none⟩), .pointer (some ⟨w.heap.size + 1 + 1, 0, none⟩)], enV x.1.x (x.1.e.2.1 : Int) (x.1.e.2.2.1.toNat : Int) x.1.y, undef, undef, undef], defers := [] }) ?assign ?body ?done ?stop
  case assign => intros; exfalso; exact noTow (by assumption)
  case body => intros; exfalso; exact noTow (by assumption)
  case done =>
    rintro D ys W hD hys ⟨⟨hc, hf⟩, hBW⟩ hK
    subst hys
    gi_wp2
    refine ⟨by simp, .inl ⟨_, _, rfl, run_takeDeferred hK, ?_⟩⟩
    refine ⟨.int .i64 0, ?_, rfl, hBW.trans (belowK_b (w := w) (Nat.le_refl _) _ D _ _ (by omega) hK rfl rfl)⟩
    simp [results, Try.f18, go_sem]
  case stop =>
    rintro D c pre W hD hpre hF hK
    exact hF.elim

set_option maxRecDepth 100000 in
set_option maxHeartbeats 4000000 in
theorem sksize_nil (w : World) :
    Calls Try.prog 19 #[.pointer none] w fun e w' => e = .returned (.int .i64 0) ∧ Below w.heap.size w w' := by
  have c0 := cell_new_l w (.int .i64 0) 3
  have hB1 : Below w.heap.size w (w.alloc (.cells #[.int .i64 0] 3)) := (Below.refl _ w).alloc (Nat.le_refl _) _
  have hrw := skrow_any (w.alloc (.cells #[.int .i64 0] 3)) none 1
  have hs1 : (w.alloc (.cells #[.int .i64 0] 3)).heap.size = w.heap.size + 1 := by simp
  rw [hs1] at hrw
  have c1 := cell_new_l (w.alloc (.cells #[.int .i64 0] 3)) (.pointer none) 25
  have c2 := cell_new_l ((w.alloc (.cells #[.int .i64 0] 3)).alloc (.cells #[.pointer none] 25)) (.int .i64 1) 3
  have d0 := cell_alloc_l (.cells #[.int .i64 1] 3) (cell_alloc_l (.cells #[.pointer none] 25) c0.1)
  have d0f := frozen_alloc_l (.cells #[.int .i64 1] 3) (cell_alloc_l (.cells #[.pointer none] 25) c0.1) (frozen_alloc_l (.cells #[.pointer none] 25) c0.1 c0.2)
  have d1 := cell_alloc_l (.cells #[.int .i64 1] 3) c1.1
  have hB3 : Below w.heap.size w (((w.alloc (.cells #[.int .i64 0] 3)).alloc (.cells #[.pointer none] 25)).alloc (.cells #[.int .i64 1] 3)) := (hB1.alloc hB1.size _).alloc (hB1.alloc hB1.size _).size _
  simp only [World.size_alloc] at c1 c2 d1
  have hz3 : (((w.alloc (.cells #[.int .i64 0] 3)).alloc (.cells #[.pointer none] 25)).alloc (.cells #[.int .i64 1] 3)).heap.size = w.heap.size + 3 := by simp
  refine (callsIn_wide (n := 4)).1 ?_
  refine callsIn_of_wp_marks Try.func19 rfl trivial ?_ rfl
  simp only [Try.ntmps19, List.size_toArray, List.length_cons, List.length_nil, Nat.reduceAdd, Nat.reduceSub, Array.replicate_succ, Array.replicate_zero, List.push_toArray, List.append_toArray, List.nil_append, List.cons_append]
  gi_wp2_with fail
  refine ⟨trivial, ?_⟩
  refine (callsIn_wide.2 hrw).mono ?_
  rintro e w3 ⟨rfl, hw3⟩
  rw [← hw3] at c2 d0 d0f d1 hB3 hz3
  clear hw3 c0 c1 hB1 hrw hs1
  have HB3 : Hid (Below w.heap.size w w3) := hB3
  gi_wp2_with fail
  refine wpIn_rangeFunc_ownH rfl (by omega) (gf := 47) (lb := #[.pointer (some ⟨w.heap.size + 1, 0, none⟩), .pointer (some ⟨w.heap.size + 1 + 1, 0, none⟩)]) rfl trivial (enters_of Try.func47 (by kernel_rfl) rfl)
    (row_no 3 (by omega) w.heap.size w3 none 1 (.inl rfl) _ _ d1 c2.1) kpR_t (kpR_b (by omega)) (Below.refl _ _) (fun _ => rfl)
    (fun (pre : List NoTow) W => ((W.cell? ⟨w.heap.size, 0, none⟩ = some (.int .i64 (sizS pre : Int)) ∧ W.frozen? ⟨w.heap.size, 0, none⟩ = false)) ∧ Below w.heap.size w W)
    (fun c (pre : List NoTow) W => False)
    (OwnFrom.and (Go.Own.from (fun s A B row hs hg hr => ⟨cell_kept hs.1 hg hr, (frozen_kept hs.1 hg hr).trans hs.2⟩) _) (ownFrom_below (Nat.le_refl _) (by omega)))
    (fun c s A B row hs hg hr => hs)
    ⟨⟨d0, d0f⟩, hB3⟩
    (fun (x : NoTow) a' W => ∃ Bx, w.heap.size < Bx ∧ Box4 W Bx x.1.x (.int .u64 (x.1.e.2.1 : Int)) (.int .u8 (x.1.e.2.2.1.toNat : Int)) x.1.y ∧ a' = { tmps := #[.pointer none, undef, .int .i64 0, .pointer (some ⟨w.heap.size, 0, none⟩), .pointer (some ⟨Bx, 0, none⟩), .pointer none, .func (.func 47) #[] #[.pointer (some ⟨w.heap.size + 1, 0, none⟩), .pointer (some ⟨w.heap.size + 1 + 1, 0, none⟩)], enV x.1.x (x.1.e.2.1 : Int) (x.1.e.2.2.1.toNat : Int) x.1.y, undef, undef, undef, undef, undef, undef, undef, undef, undef, undef, undef, undef], defers := [] })
    (fun x a' _ X Y row hs hg hr => by
      obtain ⟨Bx, h1, h2, h3⟩ := hs
      exact ⟨Bx, h1, ⟨cell_kept h2.c0 hg (fun r e => (hr r e).2), cell_kept h2.c1 hg (fun r e => (hr r e).2), cell_kept h2.c2 hg (fun r e => (hr r e).2), cell_kept h2.c3 hg (fun r e => (hr r e).2)⟩, h3⟩)
    ?assign ?body ?done ?stop
  case assign => intros; exfalso; exact noTow (by assumption)
  case body => intros; exfalso; exact noTow (by assumption)
  case done =>
    rintro D ys W hD hys ⟨⟨hc, hf⟩, hBW⟩ hK
    subst hys
    have hz : sizS ([] : List NoTow) = 0 := rfl
    rw [hz] at hc
    gi_wp2
    refine ⟨by simp, .inl ⟨_, _, rfl, run_takeDeferred hK, ?_⟩⟩
    refine ⟨.int .i64 0, ?_, rfl, hBW.trans (belowK_b (w := w) (Nat.le_refl _) _ D _ _ (by omega) hK rfl rfl)⟩
    simp [results, Try.f19, go_sem]
  case stop =>
    rintro D c pre W hD hpre hF hK
    exact hF.elim

set_option maxRecDepth 100000 in
set_option maxHeartbeats 4000000 in
theorem skall_nil (w : World) :
    Calls Try.prog 17 #[.pointer none] w fun e w' => e = .returned (.slice none 0 0) ∧ Below w.heap.size w w' := by
  have c0 := cell_new_l w (.slice none 0 0) 28
  have hB1 : Below w.heap.size w (w.alloc (.cells #[.slice none 0 0] 28)) := (Below.refl _ w).alloc (Nat.le_refl _) _
  have hrw := skrow_any (w.alloc (.cells #[.slice none 0 0] 28)) none 1
  have hs1 : (w.alloc (.cells #[.slice none 0 0] 28)).heap.size = w.heap.size + 1 := by simp
  rw [hs1] at hrw
  have c1 := cell_new_l (w.alloc (.cells #[.slice none 0 0] 28)) (.pointer none) 25
  have c2 := cell_new_l ((w.alloc (.cells #[.slice none 0 0] 28)).alloc (.cells #[.pointer none] 25)) (.int .i64 1) 3
  have d0 := cell_alloc_l (.cells #[.int .i64 1] 3) (cell_alloc_l (.cells #[.pointer none] 25) c0.1)
  have d0f := frozen_alloc_l (.cells #[.int .i64 1] 3) (cell_alloc_l (.cells #[.pointer none] 25) c0.1) (frozen_alloc_l (.cells #[.pointer none] 25) c0.1 c0.2)
  have d1 := cell_alloc_l (.cells #[.int .i64 1] 3) c1.1
  have hB3 : Below w.heap.size w (((w.alloc (.cells #[.slice none 0 0] 28)).alloc (.cells #[.pointer none] 25)).alloc (.cells #[.int .i64 1] 3)) := (hB1.alloc hB1.size _).alloc (hB1.alloc hB1.size _).size _
  simp only [World.size_alloc] at c1 c2 d1
  have hz3 : (((w.alloc (.cells #[.slice none 0 0] 28)).alloc (.cells #[.pointer none] 25)).alloc (.cells #[.int .i64 1] 3)).heap.size = w.heap.size + 3 := by simp
  refine (callsIn_wide (n := 4)).1 ?_
  refine callsIn_of_wp_marks Try.func17 rfl trivial ?_ rfl
  simp only [Try.ntmps17, List.size_toArray, List.length_cons, List.length_nil, Nat.reduceAdd, Nat.reduceSub, Array.replicate_succ, Array.replicate_zero, List.push_toArray, List.append_toArray, List.nil_append, List.cons_append]
  gi_wp2_with fail
  refine ⟨trivial, ?_⟩
  refine (callsIn_wide.2 hrw).mono ?_
  rintro e w3 ⟨rfl, hw3⟩
  rw [← hw3] at c2 d0 d0f d1 hB3 hz3
  clear hw3 c0 c1 hB1 hrw hs1
  have HB3 : Hid (Below w.heap.size w w3) := hB3
  gi_wp2_with fail
  refine wpIn_rangeFunc_ownH rfl (by omega) (gf := 47) (lb := #[.pointer (some ⟨w.heap.size + 1, 0, none⟩), .pointer (some ⟨w.heap.size + 1 + 1, 0, none⟩)]) rfl trivial (enters_of Try.func47 (by kernel_rfl) rfl)
    (row_no 3 (by omega) w.heap.size w3 none 1 (.inl rfl) _ _ d1 c2.1) kpR_t (kpR_b (by omega)) (Below.refl _ _) (fun _ => rfl)
    (fun (pre : List NoTow) W => (W.cell? ⟨w.heap.size, 0, none⟩ = some (.slice none 0 0) ∧ W.frozen? ⟨w.heap.size, 0, none⟩ = false) ∧ Below w.heap.size w W)
    (fun c (pre : List NoTow) W => False)
    (OwnFrom.and (Go.Own.from (fun s A B row hs hg hr => ⟨cell_kept hs.1 hg hr, (frozen_kept hs.1 hg hr).trans hs.2⟩) _) (ownFrom_below (Nat.le_refl _) (by omega)))
    (fun c s A B row hs hg hr => hs)
    ⟨⟨d0, d0f⟩, hB3⟩
    (fun (x : NoTow) a' W => ∃ Bx, w.heap.size < Bx ∧ Box4 W Bx x.1.x (.int .u64 (x.1.e.2.1 : Int)) (.int .u8 (x.1.e.2.2.1.toNat : Int)) x.1.y ∧ a' = { tmps := #[.pointer none, undef, .slice none 0 0, .pointer (some ⟨w.heap.size, 0, none⟩), .pointer (some ⟨Bx, 0, none⟩), .pointer none, .func (.func 47) #[] #[.pointer (some ⟨w.heap.size + 1, 0, none⟩), .pointer (some ⟨w.heap.size + 1 + 1, 0, none⟩)], enV x.1.x (x.1.e.2.1 : Int) (x.1.e.2.2.1.toNat : Int) x.1.y, undef, undef, undef, undef, undef, undef], defers := [] })
    (fun x a' _ X Y row hs hg hr => by
      obtain ⟨Bx, h1, h2, h3⟩ := hs
      exact ⟨Bx, h1, ⟨cell_kept h2.c0 hg (fun r e => (hr r e).2), cell_kept h2.c1 hg (fun r e => (hr r e).2), cell_kept h2.c2 hg (fun r e => (hr r e).2), cell_kept h2.c3 hg (fun r e => (hr r e).2)⟩, h3⟩)
    ?assign ?body ?done ?stop
  case assign => intros; exfalso; exact noTow (by assumption)
  case body => intros; exfalso; exact noTow (by assumption)
  case done =>
    rintro D ys W hD hys ⟨⟨hc, hf⟩, hBW⟩ hK
    gi_wp2
    refine ⟨by simp, .inl ⟨_, _, rfl, run_takeDeferred hK, ?_⟩⟩
    refine ⟨.slice none 0 0, ?_, rfl, hBW.trans (belowK_b (w := w) (Nat.le_refl _) _ D _ _ (by omega) hK rfl rfl)⟩
    simp [results, Try.f17, go_sem]
  case stop =>
    rintro D c pre W hD hpre hF hK
    exact hF.elim

set_option maxRecDepth 100000 in
set_option maxHeartbeats 4000000 in
theorem skrows_no (w : World) (pv : Option Addr) (h : Int) (hno : pv = none ∨ ¬ (1 ≤ h ∧ h ≤ 8)) :
    Calls Try.prog 21 #[.pointer pv, .int .i64 h] w fun e w' => e = .returned (.slice none 0 0) ∧ Below w.heap.size w w' := by
  have HNO : Hid (pv = none ∨ ¬ (1 ≤ h ∧ h ≤ 8)) := hno
  clear hno
  have c0 := cell_new_l w (.slice none 0 0) 23
  have hB1 : Below w.heap.size w (w.alloc (.cells #[.slice none 0 0] 23)) := (Below.refl _ w).alloc (Nat.le_refl _) _
  have hrw := skrow_any (w.alloc (.cells #[.slice none 0 0] 23)) pv h
  have hs1 : (w.alloc (.cells #[.slice none 0 0] 23)).heap.size = w.heap.size + 1 := by simp
  rw [hs1] at hrw
  have c1 := cell_new_l (w.alloc (.cells #[.slice none 0 0] 23)) (.pointer pv) 25
  have c2 := cell_new_l ((w.alloc (.cells #[.slice none 0 0] 23)).alloc (.cells #[.pointer pv] 25)) (.int .i64 h) 3
  have d0 := cell_alloc_l (.cells #[.int .i64 h] 3) (cell_alloc_l (.cells #[.pointer pv] 25) c0.1)
  have d0f := frozen_alloc_l (.cells #[.int .i64 h] 3) (cell_alloc_l (.cells #[.pointer pv] 25) c0.1) (frozen_alloc_l (.cells #[.pointer pv] 25) c0.1 c0.2)
  have d1 := cell_alloc_l (.cells #[.int .i64 h] 3) c1.1
  have hB3 : Below w.heap.size w (((w.alloc (.cells #[.slice none 0 0] 23)).alloc (.cells #[.pointer pv] 25)).alloc (.cells #[.int .i64 h] 3)) := (hB1.alloc hB1.size _).alloc (hB1.alloc hB1.size _).size _
  simp only [World.size_alloc] at c1 c2 d1
  have hz3 : (((w.alloc (.cells #[.slice none 0 0] 23)).alloc (.cells #[.pointer pv] 25)).alloc (.cells #[.int .i64 h] 3)).heap.size = w.heap.size + 3 := by simp
  refine (callsIn_wide (n := 4)).1 ?_
  refine callsIn_of_wp_marks Try.func21 rfl trivial ?_ rfl
  simp only [Try.ntmps21, List.size_toArray, List.length_cons, List.length_nil, Nat.reduceAdd, Nat.reduceSub, Array.replicate_succ, Array.replicate_zero, List.push_toArray, List.append_toArray, List.nil_append, List.cons_append]
  gi_wp2_with fail
  refine ⟨trivial, ?_⟩
  refine (callsIn_wide.2 hrw).mono ?_
  rintro e w3 ⟨rfl, hw3⟩
  rw [← hw3] at c2 d0 d0f d1 hB3 hz3
  clear hw3 c0 c1 hB1 hrw hs1
  have HB3 : Hid (Below w.heap.size w w3) := hB3
  gi_wp2_with fail
  refine wpIn_rangeFunc_ownH rfl (by omega) (gf := 47) (lb := #[.pointer (some ⟨w.heap.size + 1, 0, none⟩), .pointer (some ⟨w.heap.size + 1 + 1, 0, none⟩)]) rfl trivial (enters_of Try.func47 (by kernel_rfl) rfl)
    (row_no 3 (by omega) w.heap.size w3 pv h HNO.out _ _ d1 c2.1) kpR_t (kpR_b (by omega)) (Below.refl _ _) (fun _ => rfl)
    (fun (pre : List NoTow) W => (W.cell? ⟨w.heap.size, 0, none⟩ = some (.slice none 0 0) ∧ W.frozen? ⟨w.heap.size, 0, none⟩ = false) ∧ Below w.heap.size w W)
    (fun c (pre : List NoTow) W => False)
    (OwnFrom.and (Go.Own.from (fun s A B row hs hg hr => ⟨cell_kept hs.1 hg hr, (frozen_kept hs.1 hg hr).trans hs.2⟩) _) (ownFrom_below (Nat.le_refl _) (by omega)))
    (fun c s A B row hs hg hr => hs)
    ⟨⟨d0, d0f⟩, hB3⟩
    (fun (x : NoTow) a' W => ∃ Bx, w.heap.size < Bx ∧ Box4 W Bx x.1.x (.int .u64 (x.1.e.2.1 : Int)) (.int .u8 (x.1.e.2.2.1.toNat : Int)) x.1.y ∧ a' = { tmps := #[.pointer pv, .int .i64 h, undef, undef, .slice none 0 0, .pointer (some ⟨w.heap.size, 0, none⟩), .pointer (some ⟨Bx, 0, none⟩), .pointer pv, .int .i64 h, .func (.func 47) #[] #[.pointer (some ⟨w.heap.size + 1, 0, none⟩), .pointer (some ⟨w.heap.size + 1 + 1, 0, none⟩)], enV x.1.x (x.1.e.2.1 : Int) (x.1.e.2.2.1.toNat : Int) x.1.y, undef, undef, undef, undef, undef, undef, undef], defers := [] })
    (fun x a' _ X Y row hs hg hr => by
      obtain ⟨Bx, h1, h2, h3⟩ := hs
      exact ⟨Bx, h1, ⟨cell_kept h2.c0 hg (fun r e => (hr r e).2), cell_kept h2.c1 hg (fun r e => (hr r e).2), cell_kept h2.c2 hg (fun r e => (hr r e).2), cell_kept h2.c3 hg (fun r e => (hr r e).2)⟩, h3⟩)
    ?assign ?body ?done ?stop
  case assign => intros; exfalso; exact noTow (by assumption)
  case body => intros; exfalso; exact noTow (by assumption)
  case done =>
    rintro D ys W hD hys ⟨⟨hc, hf⟩, hBW⟩ hK
    gi_wp2
    refine ⟨by simp, .inl ⟨_, _, rfl, run_takeDeferred hK, ?_⟩⟩
    refine ⟨.slice none 0 0, ?_, rfl, hBW.trans (belowK_b (w := w) (Nat.le_refl _) _ D _ _ (by omega) hK rfl rfl)⟩
    simp [results, Try.f21, go_sem]
  case stop =>
    rintro D c pre W hD hpre hF hK
    exact hF.elim

theorem skinsert_nil (w : World) (xa ya : Option Addr) (xn xc yn yc : Nat) (s k h : Int) :
    Calls Try.prog 13 #[.pointer none, enV (.slice xa xn xc) s k (.slice ya yn yc), .int .i64 h] w fun e w' => e = .returned (.int .i64 6) ∧ Below w.heap.size w w' := by
  have hb := below_box4 w (.cells #[.slice xa xn xc, .int .u64 s, .int .u8 k, .slice ya yn yc] 38)
  have HB : Hid _ := hb
  clear hb
  simp only [enV]
  go_enter Try.func13, Try.ntmps13
  go_wp2
  go_ret
  exact ⟨rfl, HB.out⟩

end Go.Proofs.Ytekmlbbfipldoaa

/- (*skip.List).From and Before of a nil list; the document's Insert of none. -/
namespace Go.Proofs.Ytekmlbbfipldoaa
open Go.RowKit Go.Shelf
set_option linter.unusedVariables false

theorem skfrom_nil (w : World) (ka : Option Addr) (kn kc : Nat) (ks kk : Int) :
    Calls Try.prog 23 #[.pointer none, .agg #[.slice ka kn kc, .int .u64 ks, .int .u8 kk]] w fun e w' => e = .returned (.tuple #[enV (.slice none 0 0) 0 0 (.slice none 0 0), .bool false]) ∧ Below w.heap.size w w' := by
  have hb0 := below_box4 w (.cells #[.slice ka kn kc, .int .u64 ks, .int .u8 kk] 36)
  have hb1 := below_box4 (w.alloc (.cells #[.slice ka kn kc, .int .u64 ks, .int .u8 kk] 36)) (.cells #[.slice none 0 0, .int .u64 0, .int .u8 0, .slice none 0 0] 38)
  have s1 : (w.alloc (.cells #[.slice ka kn kc, .int .u64 ks, .int .u8 kk] 36)).heap.size = w.heap.size + 1 := by simp
  have BR := box4f_new (w.alloc (.cells #[.slice ka kn kc, .int .u64 ks, .int .u8 kk] 36)) (.slice none 0 0) (.int .u64 0) (.int .u8 0) (.slice none 0 0) 38
  rw [s1] at BR
  have HB : Hid (Below w.heap.size w ((w.alloc (.cells #[.slice ka kn kc, .int .u64 ks, .int .u8 kk] 36)).alloc (.cells #[.slice none 0 0, .int .u64 0, .int .u8 0, .slice none 0 0] 38))) := bsplit hb0 hb1
  obtain ⟨⟨r0, r1, r2, r3⟩, f0, f1, f2, f3⟩ := BR
  clear hb0 hb1 s1
  go_enter Try.func23, Try.ntmps23
  go_wp2
  refine bodyPost_ret (v := .tuple #[enV (.slice none 0 0) 0 0 (.slice none 0 0), .bool false]) (by simp [results, Try.results23, go_sem, r0, r1, r2, r3]) rfl ⟨rfl, HB.out⟩

theorem skbefore_nil (w : World) (ka : Option Addr) (kn kc : Nat) (ks kk : Int) :
    Calls Try.prog 25 #[.pointer none, .agg #[.slice ka kn kc, .int .u64 ks, .int .u8 kk]] w fun e w' => e = .returned (.tuple #[enV (.slice none 0 0) 0 0 (.slice none 0 0), .bool false]) ∧ Below w.heap.size w w' := by
  have hb0 := below_box4 w (.cells #[.slice ka kn kc, .int .u64 ks, .int .u8 kk] 36)
  have hb1 := below_box4 (w.alloc (.cells #[.slice ka kn kc, .int .u64 ks, .int .u8 kk] 36)) (.cells #[.slice none 0 0, .int .u64 0, .int .u8 0, .slice none 0 0] 38)
  have s1 : (w.alloc (.cells #[.slice ka kn kc, .int .u64 ks, .int .u8 kk] 36)).heap.size = w.heap.size + 1 := by simp
  have BR := box4f_new (w.alloc (.cells #[.slice ka kn kc, .int .u64 ks, .int .u8 kk] 36)) (.slice none 0 0) (.int .u64 0) (.int .u8 0) (.slice none 0 0) 38
  rw [s1] at BR
  have HB : Hid (Below w.heap.size w ((w.alloc (.cells #[.slice ka kn kc, .int .u64 ks, .int .u8 kk] 36)).alloc (.cells #[.slice none 0 0, .int .u64 0, .int .u8 0, .slice none 0 0] 38))) := bsplit hb0 hb1
  obtain ⟨⟨r0, r1, r2, r3⟩, f0, f1, f2, f3⟩ := BR
  clear hb0 hb1 s1
  go_enter Try.func25, Try.ntmps25
  go_wp2
  refine bodyPost_ret (v := .tuple #[enV (.slice none 0 0) 0 0 (.slice none 0 0), .bool false]) (by simp [results, Try.results25, go_sem, r0, r1, r2, r3]) rfl ⟨rfl, HB.out⟩

theorem r8insert_nil (w : World) (xa ya : Option Addr) (xn xc yn yc : Nat) (s k h : Int) :
    Calls Try.prog 14 #[.pointer none, enV (.slice xa xn xc) s k (.slice ya yn yc), .int .i64 h] w fun e w' => e = .returned (.int .i64 6) ∧ Below w.heap.size w w' := by
  have hb := below_box4 w (.cells #[.slice xa xn xc, .int .u64 s, .int .u8 k, .slice ya yn yc] 38)
  have HB : Hid (Below w.heap.size w (w.alloc (.cells #[.slice xa xn xc, .int .u64 s, .int .u8 k, .slice ya yn yc] 38))) := hb
  clear hb
  simp only [enV]
  go_enter Try.func14, Try.ntmps14
  go_wp2
  go_ret
  exact ⟨rfl, HB.out⟩

end Go.Proofs.Ytekmlbbfipldoaa

/- (*skip.List).All: what it hands out is the caller's own. -/
namespace Go.Proofs.Ytekmlbbfipldoaa
open Go.RowKit Go.Shelf
set_option linter.unusedVariables false

attribute [local go_sem] Oper.semAt_some

theorem ownN_aside {B : Nat} {A C : World} {row : Option Nat} {x : Value} {l : List UInt8} (h : OwnN B A x l) (hg : A.grownBy C row) (hr : Aside B A row) : OwnN B C x l := by
  rcases h with h | h
  · exact .inl h
  · obtain ⟨g, k, e⟩ := h.shape
    subst e
    exact .inr (Own.of_row (row_aside h.row hg hr) (by simp))

/-- entries in a row of one's own; what they hold lies from block B on, elsewhere -/
def OwnES (B : Nat) (w : World) (v : Value) (es : List EnB) : Prop :=
  ∃ cs, w.ownsRow B 38 4 v es.length cs ∧ ∀ j (h : j < es.length), ∃ x y, cs[j * 4]? = some x ∧ cs[j * 4 + 1]? = some (.int .u64 (es[j].2.1 : Int)) ∧ cs[j * 4 + 2]? = some (.int .u8 (es[j].2.2.1.toNat : Int)) ∧ cs[j * 4 + 3]? = some y ∧ (Rd w x es[j].1 ∧ NeB x es[j].1 v ∧ OwnN B w x es[j].1) ∧ (Rd w y es[j].2.2.2 ∧ NeB y es[j].2.2.2 v ∧ OwnN B w y es[j].2.2.2)

theorem OwnES.nil (B : Nat) (w : World) : OwnES B w (.slice none 0 0) [] := ⟨[], World.ownsRow_nil _ _ _ _, fun _ h => absurd h (Nat.not_lt_zero _)⟩

theorem OwnES.below {B C : Nat} {w w' : World} {v : Value} {es : List EnB} (h : OwnES B w v es) (hb : Below C w w') (hC : w.heap.size ≤ C) : OwnES B w' v es := by
  obtain ⟨cs, hr, hj⟩ := h
  have hb' : Below w.heap.size w w' := ⟨hb.os, hb.tape, hb.output, hb.size, fun i hi => hb.block i (Nat.lt_of_lt_of_le hi hC)⟩
  refine ⟨cs, row_below hr hb', fun j h => ?_⟩
  obtain ⟨x, y, c0, c1, c2, c3, ox, oy⟩ := hj j h
  exact ⟨x, y, c0, c1, c2, c3, ⟨ox.1.below hb hC, ox.2.1, ox.2.2.below hb hC⟩, ⟨oy.1.below hb hC, oy.2.1, oy.2.2.below hb hC⟩⟩

theorem OwnES.aside {B : Nat} {A C : World} {row : Option Nat} {v : Value} {es : List EnB} (h : OwnES B A v es) (hg : A.grownBy C row) (hr : Aside B A row) : OwnES B C v es := by
  obtain ⟨cs, h1, hj⟩ := h
  refine ⟨cs, row_aside h1 hg hr, fun j h => ?_⟩
  obtain ⟨x, y, c0, c1, c2, c3, ox, oy⟩ := hj j h
  exact ⟨x, y, c0, c1, c2, c3, ⟨rd_aside ox.1 (from_ownN ox.2.2) hg hr, ox.2.1, ownN_aside ox.2.2 hg hr⟩, ⟨rd_aside oy.1 (from_ownN oy.2.2) hg hr, oy.2.1, ownN_aside oy.2.2 hg hr⟩⟩

theorem OwnES.set {B : Nat} {W : World} {v : Value} {es : List EnB} (h : OwnES B W v es) {b : Nat} (hb : b < B) (u : Value) : OwnES B (W.setCell ⟨b, 0, none⟩ u) v es :=
  h.aside (grownBy_setCell' W b u) (fun r e => by cases e; exact .inl hb)

theorem OwnES.push {B g c n : Nat} {w w' : World} {v x y : Value} {es : List EnB} {cs : List Value} (o : EnB) (hl : es.length = n) (hrow : w.ownsRow B 38 4 v n cs)
    (hel : ∀ j (h : j < es.length), ∃ x y, cs[j * 4]? = some x ∧ cs[j * 4 + 1]? = some (.int .u64 (es[j].2.1 : Int)) ∧ cs[j * 4 + 2]? = some (.int .u8 (es[j].2.2.1.toNat : Int)) ∧ cs[j * 4 + 3]? = some y ∧ (Rd w x es[j].1 ∧ NeB x es[j].1 v ∧ OwnN B w x es[j].1) ∧ (Rd w y es[j].2.2.2 ∧ NeB y es[j].2.2.2 v ∧ OwnN B w y es[j].2.2.2))
    (hx : Rd w x o.1 ∧ NeB x o.1 v ∧ OwnN B w x o.1) (hy : Rd w y o.2.2.2 ∧ NeB y o.2.2.2 v ∧ OwnN B w y o.2.2.2) (hn : w'.ownsRow B 38 4 (.slice (some ⟨g, 0, none⟩) (n + 1) c) (n + 1) (cs ++ [x, .int .u64 (o.2.1 : Int), .int .u8 (o.2.2.1.toNat : Int), y])) (hg : w.grownBy w' v.ownBlock) (hat : v.ownBlock = some g ∨ g = w.heap.size) : OwnES B w' (.slice (some ⟨g, 0, none⟩) (n + 1) c) (es ++ [o]) := by
  subst hl
  have hcl : cs.length = es.length * 4 := hrow.1
  refine ⟨_, by rw [List.length_append]; exact hn, fun j h => ?_⟩
  by_cases hj : j < es.length
  · obtain ⟨x', y', c0, c1, c2, c3, ox, oy⟩ := hel j hj
    refine ⟨x', y', ?_, ?_, ?_, ?_, ?_, ?_⟩
    · rw [List.getElem?_append_left (by omega)]; exact c0
    · rw [List.getElem?_append_left (by omega), List.getElem_append_left hj]; exact c1
    · rw [List.getElem?_append_left (by omega), List.getElem_append_left hj]; exact c2
    · rw [List.getElem?_append_left (by omega)]; exact c3
    · rw [List.getElem_append_left hj]; exact ⟨rd_grown ox.1 hg ox.2.1, neb_step ox.2.1 ox.1 hat, ownN_kept ox.2.2 (by decide) hrow hg⟩
    · rw [List.getElem_append_left hj]; exact ⟨rd_grown oy.1 hg oy.2.1, neb_step oy.2.1 oy.1 hat, ownN_kept oy.2.2 (by decide) hrow hg⟩
  · have hje : j = es.length := by rw [List.length_append] at h; simp at h; omega
    subst hje
    have e : (es ++ [o])[es.length]'h = o := by simp
    rw [e]
    refine ⟨x, y, ?_, ?_, ?_, ?_, ⟨rd_grown hx.1 hg hx.2.1, neb_step hx.2.1 hx.1 hat, ownN_kept hx.2.2 (by decide) hrow hg⟩, ⟨rd_grown hy.1 hg hy.2.1, neb_step hy.2.1 hy.1 hat, ownN_kept hy.2.2 (by decide) hrow hg⟩⟩
    · rw [List.getElem?_append_right (by omega), show es.length * 4 - cs.length = 0 by omega]; rfl
    · rw [List.getElem?_append_right (by omega), show es.length * 4 + 1 - cs.length = 1 by omega]; rfl
    · rw [List.getElem?_append_right (by omega), show es.length * 4 + 2 - cs.length = 2 by omega]; rfl
    · rw [List.getElem?_append_right (by omega), show es.length * 4 + 3 - cs.length = 3 by omega]; rfl

theorem step_pushES {F : Fence} {nF : Nat} {ops : Array Oper} {o : Oper} {a : Act} {K : Act → World → Prop} {Q : Exit → Act → World → Prop} {E : Prop} (hgd : o.guard = none) (s x : Operand)
    (ho : o.op = .call { callee := .builtin .append, args := #[s, x], argTypes := #[28, 28] })
    {B m : Nat} {w2 : World} {va : Option Addr} {vc : Nat} {xa ya : Option Addr} {l1 xd l2 yd : Nat} {es : List EnB} (e : EnB) (hs : a.eval s = .slice va m vc) (hx : a.eval x = .slice (some ⟨w2.heap.size, 0, none⟩) 1 1)
    (hlen : es.length = m) (hO : OwnES B (w2.alloc (.cells #[.slice xa l1 xd, .int .u64 (e.2.1 : Int), .int .u8 (e.2.2.1.toNat : Int), .slice ya l2 yd] 38)) (.slice va m vc) es)
    (rx : Rd w2 (.slice xa l1 xd) e.1 ∧ NeB (.slice xa l1 xd) e.1 (.slice va m vc) ∧ OwnN B w2 (.slice xa l1 xd) e.1) (ry : Rd w2 (.slice ya l2 yd) e.2.2.2 ∧ NeB (.slice ya l2 yd) e.2.2.2 (.slice va m vc) ∧ OwnN B w2 (.slice ya l2 yd) e.2.2.2) (hm : m ≤ 2000) (hB : B ≤ w2.heap.size)
    (h : ∀ g c4 w4, OwnES B w4 (.slice (some ⟨g, 0, none⟩) (m + 1) c4) (es ++ [e]) → (w2.alloc (.cells #[.slice xa l1 xd, .int .u64 (e.2.1 : Int), .int .u8 (e.2.2.1.toNat : Int), .slice ya l2 yd] 38)).grownBy w4 (Value.slice va m vc).ownBlock → K (a.put o.dst (.slice (some ⟨g, 0, none⟩) (m + 1) c4)) w4) :
    if Region.wanted o (yielded ops a.tmps) = true then Oper.wpIn F nF Try.prog o a (w2.alloc (.cells #[.slice xa l1 xd, .int .u64 (e.2.1 : Int), .int .u8 (e.2.2.1.toNat : Int), .slice ya l2 yd] 38)) K Q else E := by
  obtain ⟨i0, hi, hz0, hz1, hz2⟩ := info_parts infoEn
  obtain ⟨cs, hrow, hel⟩ := hO
  rw [hlen] at hrow
  have hbe := below_box4 w2 (.cells #[.slice xa l1 xd, .int .u64 (e.2.1 : Int), .int .u8 (e.2.2.1.toNat : Int), .slice ya l2 yd] 38)
  refine step_append_in _ hgd s x 28 ho B 38 i0 (.agg #[.slice none 0 0, .int .u64 0, .int .u8 0, .slice none 0 0]) 4 64 Try.underlying28 hi hz0 hz1 hz2 rfl (by decide) (.slice va m vc) m cs hs hrow ⟨w2.heap.size, 0, none⟩ 1 1 [.slice xa l1 xd, .int .u64 (e.2.1 : Int), .int .u8 (e.2.2.1.toNat : Int), .slice ya l2 yd] hx rfl (laid4 w2 _ _ _ _ _) (oneE _ _ _ _ _ _ _ _) (by decide) (by simp only [maxLen]; omega) (by omega) (by simp; omega) _ rfl ?_
  intro g4 c4 w4 hown hgrow hat hlt4
  exact h g4 c4 w4 (OwnES.push e hlen hrow hel ⟨rx.1.below hbe (Nat.le_refl _), rx.2.1, rx.2.2.below hbe (Nat.le_refl _)⟩ ⟨ry.1.below hbe (Nat.le_refl _), ry.2.1, ry.2.2.below hbe (Nat.le_refl _)⟩ hown hgrow hat) hgrow

set_option maxRecDepth 100000 in
set_option maxHeartbeats 4000000 in
theorem skall_own (w : World) (l : Nat) (ts : List Tow) (hS : SkAt w l ts) (hL : LenT ts 1000) :
    Calls Try.prog 17 #[.pointer (some ⟨l, 0, none⟩)] w fun e w' => ∃ v, e = .returned v ∧ OwnES (w.heap.size + 3) w' v (esT ts) ∧ Below w.heap.size w w' := by
  have HS : Hid (SkAt w l ts) := hS
  have c0 := cell_new_l w (.slice none 0 0) 28
  have hB1 : Below w.heap.size w (w.alloc (.cells #[.slice none 0 0] 28)) := (Below.refl _ w).alloc (Nat.le_refl _) _
  have hrw := skrow_any (w.alloc (.cells #[.slice none 0 0] 28)) (some ⟨l, 0, none⟩) 1
  have hs1 : (w.alloc (.cells #[.slice none 0 0] 28)).heap.size = w.heap.size + 1 := by simp
  rw [hs1] at hrw
  have c1 := cell_new_l (w.alloc (.cells #[.slice none 0 0] 28)) (.pointer (some ⟨l, 0, none⟩)) 25
  have c2 := cell_new_l ((w.alloc (.cells #[.slice none 0 0] 28)).alloc (.cells #[.pointer (some ⟨l, 0, none⟩)] 25)) (.int .i64 1) 3
  have d0 := cell_alloc_l (.cells #[.int .i64 1] 3) (cell_alloc_l (.cells #[.pointer (some ⟨l, 0, none⟩)] 25) c0.1)
  have d0f := frozen_alloc_l (.cells #[.int .i64 1] 3) (cell_alloc_l (.cells #[.pointer (some ⟨l, 0, none⟩)] 25) c0.1) (frozen_alloc_l (.cells #[.pointer (some ⟨l, 0, none⟩)] 25) c0.1 c0.2)
  have d1 := cell_alloc_l (.cells #[.int .i64 1] 3) c1.1
  have hB3 : Below w.heap.size w (((w.alloc (.cells #[.slice none 0 0] 28)).alloc (.cells #[.pointer (some ⟨l, 0, none⟩)] 25)).alloc (.cells #[.int .i64 1] 3)) := (hB1.alloc hB1.size _).alloc (hB1.alloc hB1.size _).size _
  simp only [World.size_alloc] at c1 c2 d1
  have hz3 : (((w.alloc (.cells #[.slice none 0 0] 28)).alloc (.cells #[.pointer (some ⟨l, 0, none⟩)] 25)).alloc (.cells #[.int .i64 1] 3)).heap.size = w.heap.size + 3 := by simp
  have hlen := hS.len
  refine (callsIn_wide (n := 4)).1 ?_
  refine callsIn_of_wp_marks Try.func17 rfl trivial ?_ rfl
  simp only [Try.ntmps17, List.size_toArray, List.length_cons, List.length_nil, Nat.reduceAdd, Nat.reduceSub, Array.replicate_succ, Array.replicate_zero, List.push_toArray, List.append_toArray, List.nil_append, List.cons_append]
  gi_wp2_with fail
  refine ⟨trivial, ?_⟩
  refine (callsIn_wide.2 hrw).mono ?_
  rintro e w3 ⟨rfl, hw3⟩
  rw [← hw3] at c2 d0 d0f d1 hB3 hz3
  clear hw3 c0 c1 hB1 hrw hs1
  have HB3 : Hid (Below w.heap.size w w3) := hB3
  have HL : Hid (LenT ts 1000) := hL
  clear hL
  gi_wp2_with fail
  refine wpIn_rangeFunc_ownH rfl (by omega) (gf := 47) (lb := #[.pointer (some ⟨w.heap.size + 1, 0, none⟩), .pointer (some ⟨w.heap.size + 1 + 1, 0, none⟩)]) rfl trivial (enters_of Try.func47 (by kernel_rfl) rfl)
    (row_stops 3 (by omega) w w3 l 1 0 _ _ ts HS.out hB3 rfl (by omega) d1 c2.1) kpR_t (kpR_b (by omega)) (Below.refl _ _) (fun _ => rfl)
    (fun (pre : List {t : Tow // t ∈ ts}) W => ∃ va vc, (W.cell? ⟨w.heap.size, 0, none⟩ = some (.slice va pre.length vc) ∧ W.frozen? ⟨w.heap.size, 0, none⟩ = false) ∧ OwnES (w.heap.size + 3) W (.slice va pre.length vc) (esT (pre.map (·.1))) ∧ Below w.heap.size w W)
    (fun c (pre : List {t : Tow // t ∈ ts}) W => False)
    (fun s A B row hs hg hr => by
      obtain ⟨va, vc, ⟨h1, h2⟩, h3, h4⟩ := hs
      exact ⟨va, vc, ⟨cell_kept h1 hg (fun r e => (hr r e).2), (frozen_kept h1 hg (fun r e => (hr r e).2)).trans h2⟩, h3.aside hg (fun r e => .inr (hr r e).2), h4.grown hg h4.size (fun r e => by have := (hr r e).1; omega)⟩)
    (fun c s A B row hs hg hr => hs)
    ⟨none, 0, ⟨d0, d0f⟩, OwnES.nil _ _, hB3⟩
    (fun (x : {t : Tow // t ∈ ts}) a' W => ∃ Bx, w.heap.size < Bx ∧ Box4 W Bx x.1.x (.int .u64 (x.1.e.2.1 : Int)) (.int .u8 (x.1.e.2.2.1.toNat : Int)) x.1.y ∧ a' = { tmps := #[.pointer (some ⟨l, 0, none⟩), undef, .slice none 0 0, .pointer (some ⟨w.heap.size, 0, none⟩), .pointer (some ⟨Bx, 0, none⟩), .pointer (some ⟨l, 0, none⟩), .func (.func 47) #[] #[.pointer (some ⟨w.heap.size + 1, 0, none⟩), .pointer (some ⟨w.heap.size + 1 + 1, 0, none⟩)], enV x.1.x (x.1.e.2.1 : Int) (x.1.e.2.2.1.toNat : Int) x.1.y, undef, undef, undef, undef, undef, undef], defers := [] })
    (fun x a' _ X Y row hs hg hr => by
      obtain ⟨Bx, h1, h2, h3⟩ := hs
      exact ⟨Bx, h1, ⟨cell_kept h2.c0 hg (fun r e => (hr r e).2), cell_kept h2.c1 hg (fun r e => (hr r e).2), cell_kept h2.c2 hg (fun r e => (hr r e).2), cell_kept h2.c3 hg (fun r e => (hr r e).2)⟩, h3⟩)
    ?assign ?body ?done ?stop
  case assign =>
    rintro l pre x W K ⟨va, vc, ⟨hc, hf⟩, hO, hBW⟩ hK
    have hent := HS.out.ent x.1 x.2
    obtain ⟨x1, xc, ex⟩ := hent.rx.len
    obtain ⟨y1, yc, ey⟩ := hent.ry.len
    have HX : Hid (x.1.x = .slice x1 x.1.e.1.length xc) := ex
    have HY : Hid (x.1.y = .slice y1 x.1.e.2.2.2.length yc) := ey
    have HK : Hid _ := hK
    rw [ex, ey]
    clear hent ex ey hK
    simp only [enV]
    gi_wp2
    refine HK.out _ _ ((KeepsOthers.alloc _ _).from _) (kpR_alloc hBW.size _) ⟨va, vc, ⟨cell_alloc_l _ hc, frozen_alloc_l _ hc hf⟩, hO.below (below_box4 W _) (Nat.le_refl _), hBW.alloc hBW.size _⟩ ⟨W.heap.size, World.block_lt_of_cell? _ _ hc, ?_, ?_⟩
    · rw [HX.out, HY.out]
      exact box4_new W _ _ _ _ _
    · rw [HX.out, HY.out]
  case body =>
    rintro l pre x a' W hl hlr ⟨va, vc, ⟨hc, hf⟩, hO, hBW⟩ ⟨Bx, hBx, ⟨b0, b1, b2, b3⟩, rfl⟩ hpl
    have hxl := HL.out x.1 x.2
    have hent := (HS.out.below hBW).ent x.1 x.2
    obtain ⟨x1, xc, ex⟩ := hent.rx.len
    obtain ⟨y1, yc, ey⟩ := hent.ry.len
    have rx := hent.rx
    have ry := hent.ry
    rw [ex] at b0 rx
    rw [ey] at b3 ry
    have HSN : Hid (esT ((pre ++ [x]).map (·.1)) = esT (pre.map (·.1)) ++ [x.1.e]) := by show _ = _; simp [esT]
    rw [ex, ey]
    clear ex ey hent
    obtain ⟨⟨eu, es, ek, ev⟩, he⟩ : ∃ e, x.1.e = e := ⟨_, rfl⟩
    rw [he] at HSN b0 b1 b2 b3 rx ry hxl
    rw [he]
    simp only at b0 b1 b2 b3 rx ry hxl ⊢
    have hap := skapart_own W.drew _ _ _ _ (es : Int) (ek.toNat : Int) rx.drew ry.drew (by omega) (by omega)
    obtain ⟨n1, hn1⟩ : ∃ n, eu.length = n := ⟨_, rfl⟩
    obtain ⟨n2, hn2⟩ : ∃ n, ev.length = n := ⟨_, rfl⟩
    rw [hn1, hn2] at hap
    rw [hn1] at b0
    rw [hn2] at b3
    rw [hn1, hn2]
    clear rx ry hxl hn1 hn2 he
    simp only [enV] at hap ⊢
    have hfo : Try.prog.follows .mixedOrders = true := by kernel_rfl
    gi_wp2_with fail
    have HAP : Hid _ := hap
    have HF : Hid (W.frozen? ⟨w.heap.size, 0, none⟩ = false) := hf
    have HC : Hid (W.cell? ⟨w.heap.size, 0, none⟩ = some (.slice va pre.length vc)) := hc
    have HBW : Hid (Below w.heap.size w W) := hBW
    have HO : Hid (OwnES (w.heap.size + 3) W (.slice va pre.length vc) (esT (pre.map (·.1)))) := hO
    have HLEN : Hid ((esT (pre.map (·.1))).length = pre.length) := by show _ = _; rw [esT_len, List.length_map]
    have HLN : Hid ((pre ++ [x]).length = pre.length + 1) := by show _ = _; simp
    have HMX : Hid (pre.length ≤ 2000) := by show _ ≤ _; omega
    have H3 : Hid (w.heap.size + 3 ≤ W.heap.size) := by
      show _ ≤ _
      obtain ⟨r, hr⟩ := hlr
      have := (Array.getElem?_eq_some_iff.1 hr).1
      omega
    have HLOW : Hid (∀ q, (Value.slice va pre.length vc).ownBlock = some q → q < W.heap.size + 2) := by
      obtain ⟨cs, hrow, _⟩ := hO
      exact fun q hq => by have := (hrow.lt q hq).2; omega
    clear hap hBW hO hlr
    refine wpIn_region_any (by assumption) ?_
    try (change wpAnyIn _ _ _ _ _ _ _ _ _ (World.drew _))
    refine wpAnyIn_ready (rs := [0, 1]) (by kernel_rfl) (by simp) ?_
    refine AllReadyIn.cons rfl (fun K hK => ?_) ?_
    · go_simp
      refine hK _ _ ?_
      clear hK K
      refine wpAnyIn_ready (rs := [1]) (by kernel_rfl) (by simp) ?_
      refine AllReadyIn.cons rfl (fun K hK => ?_) AllReadyIn.nil
      go_simp
      refine hK _ _ ?_
      clear hK K
      refine wpAnyIn_ready (rs := [2]) (by kernel_rfl) (by simp) ?_
      refine AllReadyIn.cons rfl (fun K hK => ?_) AllReadyIn.nil
      go_simp
      refine ⟨trivial, ?_⟩
      gi_at_call 34
      refine (CallsIn.inRound l (callsIn_wide.2 HAP.out)).mono ?_
      rintro e w2 ⟨xv, yv, rfl, rx, ry, hlb, hb2⟩
      obtain ⟨xa, xd, rfl⟩ := rx.1.len
      obtain ⟨ya, yd, rfl⟩ := ry.1.len
      obtain ⟨l1, hl1⟩ : ∃ n, eu.length = n := ⟨_, rfl⟩
      obtain ⟨l2, hl2⟩ : ∃ n, ev.length = n := ⟨_, rfl⟩
      rw [hl1] at rx hlb ⊢
      rw [hl2] at ry hlb ⊢
      have hcz : w2.cell? ⟨w.heap.size, 0, none⟩ = some (.slice va pre.length vc) := (hb2.cell (p := ⟨w.heap.size, 0, none⟩) (World.block_lt_of_cell? _ _ HC.out)).trans HC.out
      have hfz : w2.frozen? ⟨w.heap.size, 0, none⟩ = false := (hb2.frozen (p := ⟨w.heap.size, 0, none⟩) (World.block_lt_of_cell? _ _ HC.out)).trans HF.out
      have HRX : Hid _ := rx
      have HRY : Hid _ := ry
      have HLB : Hid _ := hlb
      have HB2 : Hid _ := hb2
      clear rx ry hlb hb2 hl1 hl2 hc hf
      refine hK _ _ ?_
      clear hK K
      refine wpAnyIn_ready (rs := [3]) (by kernel_rfl) (by simp) ?_
      refine AllReadyIn.cons rfl (fun K hK => ?_) AllReadyIn.nil
      go_simp
      refine hK _ _ ?_
      clear hK K
      refine wpAnyIn_ready (rs := [4]) (by kernel_rfl) (by simp) ?_
      refine AllReadyIn.cons rfl (fun K hK => ?_) AllReadyIn.nil
      have hb2 : Below W.heap.size W w2 := ⟨HB2.out.os, HB2.out.tape, HB2.out.output, HB2.out.size, HB2.out.block⟩
      have hO5 := (HO.out.below hb2 (Nat.le_refl _)).below (below_box4 w2 (.cells #[.slice xa l1 xd, .int .u64 (es : Int), .int .u8 (ek.toNat : Int), .slice ya l2 yd] 38)) (Nat.le_refl _)
      have h3 := H3.out
      have hs2 := hb2.size
      refine step_pushES rfl (.tmp 8) (.tmp 11) rfl (eu, es, ek, ev) rfl rfl HLEN.out hO5 ⟨HRX.out.1, neb_of (from_ownN HRX.out.2) HLOW.out HRX.out.1, HRX.out.2.mono (by show _ ≤ W.heap.size + 2; omega)⟩ ⟨HRY.out.1, neb_of (from_ownN HRY.out.2) HLOW.out HRY.out.1, HRY.out.2.mono (by show _ ≤ W.heap.size + 2; omega)⟩ HMX.out (by omega) ?_
      intro g4 c4 w4 hO4 hgr
      obtain ⟨cs5, hrow5, _⟩ := hO5
      obtain ⟨hc4, hf4, hK4, hP4, hB4⟩ := push_round (v4 := .slice (some ⟨g4, 0, none⟩) (pre.length + 1) c4) HBW.out HC.out HF.out hrow5 hb2 h3 hgr w3.heap.size
      have HK4 : Hid _ := hK4
      have HP4 : Hid _ := hP4
      have HB4 : Hid _ := hB4
      have HO4 : Hid _ := hO4
      clear hK4 hP4 hB4 hO4 hgr hrow5 h3 hs2 hb2
      refine hK _ _ ?_
      clear hK K
      refine wpAnyIn_ready (rs := [5]) (by kernel_rfl) (by simp) ?_
      refine AllReadyIn.cons rfl (fun K hK => ?_) AllReadyIn.nil
      go_simp
      refine hK _ _ ?_
      clear hK K
      refine wpAnyIn_done (by kernel_rfl) ?_ _
      refine ⟨HK4.out, HP4.out, some ⟨g4, 0, none⟩, c4, ?_⟩
      rw [HLN.out, HSN.out]
      exact ⟨⟨World.cell?_setCell_same' _ _ _ (by rw [hc4]; rfl), by simpa [World.frozen?_setCell] using hf4⟩, OwnES.set HO4.out (by omega) _, HB4.out⟩
    refine AllReadyIn.cons rfl (fun K hK => ?_) AllReadyIn.nil
    go_simp
    refine hK _ _ ?_
    clear hK K
    refine wpAnyIn_ready (rs := [0, 2]) (by kernel_rfl) (by simp) ?_
    refine AllReadyIn.cons rfl (fun K hK => ?_) ?_
    · go_simp
      refine hK _ _ ?_
      clear hK K
      refine wpAnyIn_ready (rs := [2]) (by kernel_rfl) (by simp) ?_
      refine AllReadyIn.cons rfl (fun K hK => ?_) AllReadyIn.nil
      go_simp
      refine ⟨trivial, ?_⟩
      gi_at_call 34
      refine (CallsIn.inRound l (callsIn_wide.2 HAP.out)).mono ?_
      rintro e w2 ⟨xv, yv, rfl, rx, ry, hlb, hb2⟩
      obtain ⟨xa, xd, rfl⟩ := rx.1.len
      obtain ⟨ya, yd, rfl⟩ := ry.1.len
      obtain ⟨l1, hl1⟩ : ∃ n, eu.length = n := ⟨_, rfl⟩
      obtain ⟨l2, hl2⟩ : ∃ n, ev.length = n := ⟨_, rfl⟩
      rw [hl1] at rx hlb ⊢
      rw [hl2] at ry hlb ⊢
      have hcz : w2.cell? ⟨w.heap.size, 0, none⟩ = some (.slice va pre.length vc) := (hb2.cell (p := ⟨w.heap.size, 0, none⟩) (World.block_lt_of_cell? _ _ HC.out)).trans HC.out
      have hfz : w2.frozen? ⟨w.heap.size, 0, none⟩ = false := (hb2.frozen (p := ⟨w.heap.size, 0, none⟩) (World.block_lt_of_cell? _ _ HC.out)).trans HF.out
      have HRX : Hid _ := rx
      have HRY : Hid _ := ry
      have HLB : Hid _ := hlb
      have HB2 : Hid _ := hb2
      clear rx ry hlb hb2 hl1 hl2 hc hf
      refine hK _ _ ?_
      clear hK K
      refine wpAnyIn_ready (rs := [3]) (by kernel_rfl) (by simp) ?_
      refine AllReadyIn.cons rfl (fun K hK => ?_) AllReadyIn.nil
      go_simp
      refine hK _ _ ?_
      clear hK K
      refine wpAnyIn_ready (rs := [4]) (by kernel_rfl) (by simp) ?_
      refine AllReadyIn.cons rfl (fun K hK => ?_) AllReadyIn.nil
      have hb2 : Below W.heap.size W w2 := ⟨HB2.out.os, HB2.out.tape, HB2.out.output, HB2.out.size, HB2.out.block⟩
      have hO5 := (HO.out.below hb2 (Nat.le_refl _)).below (below_box4 w2 (.cells #[.slice xa l1 xd, .int .u64 (es : Int), .int .u8 (ek.toNat : Int), .slice ya l2 yd] 38)) (Nat.le_refl _)
      have h3 := H3.out
      have hs2 := hb2.size
      refine step_pushES rfl (.tmp 8) (.tmp 11) rfl (eu, es, ek, ev) rfl rfl HLEN.out hO5 ⟨HRX.out.1, neb_of (from_ownN HRX.out.2) HLOW.out HRX.out.1, HRX.out.2.mono (by show _ ≤ W.heap.size + 2; omega)⟩ ⟨HRY.out.1, neb_of (from_ownN HRY.out.2) HLOW.out HRY.out.1, HRY.out.2.mono (by show _ ≤ W.heap.size + 2; omega)⟩ HMX.out (by omega) ?_
      intro g4 c4 w4 hO4 hgr
      obtain ⟨cs5, hrow5, _⟩ := hO5
      obtain ⟨hc4, hf4, hK4, hP4, hB4⟩ := push_round (v4 := .slice (some ⟨g4, 0, none⟩) (pre.length + 1) c4) HBW.out HC.out HF.out hrow5 hb2 h3 hgr w3.heap.size
      have HK4 : Hid _ := hK4
      have HP4 : Hid _ := hP4
      have HB4 : Hid _ := hB4
      have HO4 : Hid _ := hO4
      clear hK4 hP4 hB4 hO4 hgr hrow5 h3 hs2 hb2
      refine hK _ _ ?_
      clear hK K
      refine wpAnyIn_ready (rs := [5]) (by kernel_rfl) (by simp) ?_
      refine AllReadyIn.cons rfl (fun K hK => ?_) AllReadyIn.nil
      go_simp
      refine hK _ _ ?_
      clear hK K
      refine wpAnyIn_done (by kernel_rfl) ?_ _
      refine ⟨HK4.out, HP4.out, some ⟨g4, 0, none⟩, c4, ?_⟩
      rw [HLN.out, HSN.out]
      exact ⟨⟨World.cell?_setCell_same' _ _ _ (by rw [hc4]; rfl), by simpa [World.frozen?_setCell] using hf4⟩, OwnES.set HO4.out (by omega) _, HB4.out⟩
    refine AllReadyIn.cons rfl (fun K hK => ?_) AllReadyIn.nil
    go_simp
    refine ⟨trivial, ?_⟩
    gi_at_call 34
    refine (CallsIn.inRound l (callsIn_wide.2 HAP.out)).mono ?_
    rintro e w2 ⟨xv, yv, rfl, rx, ry, hlb, hb2⟩
    obtain ⟨xa, xd, rfl⟩ := rx.1.len
    obtain ⟨ya, yd, rfl⟩ := ry.1.len
    obtain ⟨l1, hl1⟩ : ∃ n, eu.length = n := ⟨_, rfl⟩
    obtain ⟨l2, hl2⟩ : ∃ n, ev.length = n := ⟨_, rfl⟩
    rw [hl1] at rx hlb ⊢
    rw [hl2] at ry hlb ⊢
    have hcz : w2.cell? ⟨w.heap.size, 0, none⟩ = some (.slice va pre.length vc) := (hb2.cell (p := ⟨w.heap.size, 0, none⟩) (World.block_lt_of_cell? _ _ HC.out)).trans HC.out
    have hfz : w2.frozen? ⟨w.heap.size, 0, none⟩ = false := (hb2.frozen (p := ⟨w.heap.size, 0, none⟩) (World.block_lt_of_cell? _ _ HC.out)).trans HF.out
    have HRX : Hid _ := rx
    have HRY : Hid _ := ry
    have HLB : Hid _ := hlb
    have HB2 : Hid _ := hb2
    clear rx ry hlb hb2 hl1 hl2 hc hf
    refine hK _ _ ?_
    clear hK K
    refine wpAnyIn_ready (rs := [0, 3]) (by kernel_rfl) (by simp) ?_
    refine AllReadyIn.cons rfl (fun K hK => ?_) ?_
    · go_simp
      refine hK _ _ ?_
      clear hK K
      refine wpAnyIn_ready (rs := [3]) (by kernel_rfl) (by simp) ?_
      refine AllReadyIn.cons rfl (fun K hK => ?_) AllReadyIn.nil
      go_simp
      refine hK _ _ ?_
      clear hK K
      refine wpAnyIn_ready (rs := [4]) (by kernel_rfl) (by simp) ?_
      refine AllReadyIn.cons rfl (fun K hK => ?_) AllReadyIn.nil
      have hb2 : Below W.heap.size W w2 := ⟨HB2.out.os, HB2.out.tape, HB2.out.output, HB2.out.size, HB2.out.block⟩
      have hO5 := (HO.out.below hb2 (Nat.le_refl _)).below (below_box4 w2 (.cells #[.slice xa l1 xd, .int .u64 (es : Int), .int .u8 (ek.toNat : Int), .slice ya l2 yd] 38)) (Nat.le_refl _)
      have h3 := H3.out
      have hs2 := hb2.size
      refine step_pushES rfl (.tmp 8) (.tmp 11) rfl (eu, es, ek, ev) rfl rfl HLEN.out hO5 ⟨HRX.out.1, neb_of (from_ownN HRX.out.2) HLOW.out HRX.out.1, HRX.out.2.mono (by show _ ≤ W.heap.size + 2; omega)⟩ ⟨HRY.out.1, neb_of (from_ownN HRY.out.2) HLOW.out HRY.out.1, HRY.out.2.mono (by show _ ≤ W.heap.size + 2; omega)⟩ HMX.out (by omega) ?_
      intro g4 c4 w4 hO4 hgr
      obtain ⟨cs5, hrow5, _⟩ := hO5
      obtain ⟨hc4, hf4, hK4, hP4, hB4⟩ := push_round (v4 := .slice (some ⟨g4, 0, none⟩) (pre.length + 1) c4) HBW.out HC.out HF.out hrow5 hb2 h3 hgr w3.heap.size
      have HK4 : Hid _ := hK4
      have HP4 : Hid _ := hP4
      have HB4 : Hid _ := hB4
      have HO4 : Hid _ := hO4
      clear hK4 hP4 hB4 hO4 hgr hrow5 h3 hs2 hb2
      refine hK _ _ ?_
      clear hK K
      refine wpAnyIn_ready (rs := [5]) (by kernel_rfl) (by simp) ?_
      refine AllReadyIn.cons rfl (fun K hK => ?_) AllReadyIn.nil
      go_simp
      refine hK _ _ ?_
      clear hK K
      refine wpAnyIn_done (by kernel_rfl) ?_ _
      refine ⟨HK4.out, HP4.out, some ⟨g4, 0, none⟩, c4, ?_⟩
      rw [HLN.out, HSN.out]
      exact ⟨⟨World.cell?_setCell_same' _ _ _ (by rw [hc4]; rfl), by simpa [World.frozen?_setCell] using hf4⟩, OwnES.set HO4.out (by omega) _, HB4.out⟩
    refine AllReadyIn.cons rfl (fun K hK => ?_) AllReadyIn.nil
    go_simp
    refine hK _ _ ?_
    clear hK K
    · have hcy := cell_alloc_l (.cells #[.slice xa l1 xd, .int .u64 (es : Int), .int .u8 (ek.toNat : Int), .slice ya l2 yd] 38) hcz
      refine wpAnyIn_ready (rs := [0]) (by kernel_rfl) (by simp) ?_
      refine AllReadyIn.cons rfl (fun K hK => ?_) AllReadyIn.nil
      go_simp
      refine hK _ _ ?_
      clear hK K
      refine wpAnyIn_ready (rs := [4]) (by kernel_rfl) (by simp) ?_
      refine AllReadyIn.cons rfl (fun K hK => ?_) AllReadyIn.nil
      have hb2 : Below W.heap.size W w2 := ⟨HB2.out.os, HB2.out.tape, HB2.out.output, HB2.out.size, HB2.out.block⟩
      have hO5 := (HO.out.below hb2 (Nat.le_refl _)).below (below_box4 w2 (.cells #[.slice xa l1 xd, .int .u64 (es : Int), .int .u8 (ek.toNat : Int), .slice ya l2 yd] 38)) (Nat.le_refl _)
      have h3 := H3.out
      have hs2 := hb2.size
      refine step_pushES rfl (.tmp 8) (.tmp 11) rfl (eu, es, ek, ev) rfl rfl HLEN.out hO5 ⟨HRX.out.1, neb_of (from_ownN HRX.out.2) HLOW.out HRX.out.1, HRX.out.2.mono (by show _ ≤ W.heap.size + 2; omega)⟩ ⟨HRY.out.1, neb_of (from_ownN HRY.out.2) HLOW.out HRY.out.1, HRY.out.2.mono (by show _ ≤ W.heap.size + 2; omega)⟩ HMX.out (by omega) ?_
      intro g4 c4 w4 hO4 hgr
      obtain ⟨cs5, hrow5, _⟩ := hO5
      obtain ⟨hc4, hf4, hK4, hP4, hB4⟩ := push_round (v4 := .slice (some ⟨g4, 0, none⟩) (pre.length + 1) c4) HBW.out HC.out HF.out hrow5 hb2 h3 hgr w3.heap.size
      have HK4 : Hid _ := hK4
      have HP4 : Hid _ := hP4
      have HB4 : Hid _ := hB4
      have HO4 : Hid _ := hO4
      clear hK4 hP4 hB4 hO4 hgr hrow5 h3 hs2 hb2
      refine hK _ _ ?_
      clear hK K
      refine wpAnyIn_ready (rs := [5]) (by kernel_rfl) (by simp) ?_
      refine AllReadyIn.cons rfl (fun K hK => ?_) AllReadyIn.nil
      go_simp
      refine hK _ _ ?_
      clear hK K
      refine wpAnyIn_done (by kernel_rfl) ?_ _
      refine ⟨HK4.out, HP4.out, some ⟨g4, 0, none⟩, c4, ?_⟩
      rw [HLN.out, HSN.out]
      exact ⟨⟨World.cell?_setCell_same' _ _ _ (by rw [hc4]; rfl), by simpa [World.frozen?_setCell] using hf4⟩, OwnES.set HO4.out (by omega) _, HB4.out⟩
  case done =>
    rintro D ys W hD hys ⟨va, vc, ⟨hc, hf⟩, hO, hBW⟩ hK
    rw [row_low HS.out.ht] at hys
    have hyl : ys.length = ts.length := by have := congrArg List.length hys; rwa [List.length_map] at this
    rw [hyl] at hc hO
    rw [hys] at hO
    have HO : Hid (OwnES (w.heap.size + 3) W (.slice va ts.length vc) (esT ts)) := hO
    clear hO
    gi_wp2
    refine ⟨by simp, .inl ⟨_, _, rfl, run_takeDeferred hK, ?_⟩⟩
    refine ⟨.slice va ts.length vc, ?_, ⟨_, rfl, HO.out.aside (grownBy_putObj' _ D (.deferred none)) (fun r e => by cases e; exact .inr ⟨_, hK, rfl⟩), hBW.trans (belowK_b (w := w) (Nat.le_refl _) _ D _ _ (by omega) hK rfl rfl)⟩⟩
    simp [results, Try.f17, go_sem]
  case stop =>
    rintro D c pre W hD hpre hF hK
    exact hF.elim

end Go.Proofs.Ytekmlbbfipldoaa

/- (*skip.List).Row: what it hands out is the caller's own. -/
namespace Go.Proofs.Ytekmlbbfipldoaa
open Go.RowKit Go.Shelf
set_option linter.unusedVariables false

attribute [local go_sem] Oper.semAt_some

/-- versions in a row of one's own; what they hold lies from block B on, elsewhere -/
def OwnKS (B : Nat) (w : World) (v : Value) (ks : List KyT) : Prop :=
  ∃ cs, w.ownsRow B 36 3 v ks.length cs ∧ ∀ j (h : j < ks.length), ∃ x, cs[j * 3]? = some x ∧ cs[j * 3 + 1]? = some (.int .u64 (ks[j].2.1 : Int)) ∧ cs[j * 3 + 2]? = some (.int .u8 (ks[j].2.2.toNat : Int)) ∧ (Rd w x ks[j].1 ∧ NeB x ks[j].1 v ∧ OwnN B w x ks[j].1)

theorem OwnKS.nil (B : Nat) (w : World) : OwnKS B w (.slice none 0 0) [] := ⟨[], World.ownsRow_nil _ _ _ _, fun _ h => absurd h (Nat.not_lt_zero _)⟩

theorem OwnKS.below {B C : Nat} {w w' : World} {v : Value} {es : List KyT} (h : OwnKS B w v es) (hb : Below C w w') (hC : w.heap.size ≤ C) : OwnKS B w' v es := by
  obtain ⟨cs, hr, hj⟩ := h
  have hb' : Below w.heap.size w w' := ⟨hb.os, hb.tape, hb.output, hb.size, fun i hi => hb.block i (Nat.lt_of_lt_of_le hi hC)⟩
  refine ⟨cs, row_below hr hb', fun j h => ?_⟩
  obtain ⟨x, c0, c1, c2, ox⟩ := hj j h
  exact ⟨x, c0, c1, c2, ⟨ox.1.below hb hC, ox.2.1, ox.2.2.below hb hC⟩⟩

theorem OwnKS.aside {B : Nat} {A C : World} {row : Option Nat} {v : Value} {es : List KyT} (h : OwnKS B A v es) (hg : A.grownBy C row) (hr : Aside B A row) : OwnKS B C v es := by
  obtain ⟨cs, h1, hj⟩ := h
  refine ⟨cs, row_aside h1 hg hr, fun j h => ?_⟩
  obtain ⟨x, c0, c1, c2, ox⟩ := hj j h
  exact ⟨x, c0, c1, c2, ⟨rd_aside ox.1 (from_ownN ox.2.2) hg hr, ox.2.1, ownN_aside ox.2.2 hg hr⟩⟩

theorem OwnKS.set {B : Nat} {W : World} {v : Value} {es : List KyT} (h : OwnKS B W v es) {b : Nat} (hb : b < B) (u : Value) : OwnKS B (W.setCell ⟨b, 0, none⟩ u) v es :=
  h.aside (grownBy_setCell' W b u) (fun r e => by cases e; exact .inl hb)

theorem OwnKS.push {B g c n : Nat} {w w' : World} {v x : Value} {es : List KyT} {cs : List Value} (o : KyT) (hl : es.length = n) (hrow : w.ownsRow B 36 3 v n cs)
    (hel : ∀ j (h : j < es.length), ∃ x, cs[j * 3]? = some x ∧ cs[j * 3 + 1]? = some (.int .u64 (es[j].2.1 : Int)) ∧ cs[j * 3 + 2]? = some (.int .u8 (es[j].2.2.toNat : Int)) ∧ (Rd w x es[j].1 ∧ NeB x es[j].1 v ∧ OwnN B w x es[j].1))
    (hx : Rd w x o.1 ∧ NeB x o.1 v ∧ OwnN B w x o.1) (hn : w'.ownsRow B 36 3 (.slice (some ⟨g, 0, none⟩) (n + 1) c) (n + 1) (cs ++ [x, .int .u64 (o.2.1 : Int), .int .u8 (o.2.2.toNat : Int)])) (hg : w.grownBy w' v.ownBlock) (hat : v.ownBlock = some g ∨ g = w.heap.size) : OwnKS B w' (.slice (some ⟨g, 0, none⟩) (n + 1) c) (es ++ [o]) := by
  subst hl
  have hcl : cs.length = es.length * 3 := hrow.1
  refine ⟨_, by rw [List.length_append]; exact hn, fun j h => ?_⟩
  by_cases hj : j < es.length
  · obtain ⟨x', c0, c1, c2, ox⟩ := hel j hj
    refine ⟨x', ?_, ?_, ?_, ?_⟩
    · rw [List.getElem?_append_left (by omega)]; exact c0
    · rw [List.getElem?_append_left (by omega), List.getElem_append_left hj]; exact c1
    · rw [List.getElem?_append_left (by omega), List.getElem_append_left hj]; exact c2
    · rw [List.getElem_append_left hj]; exact ⟨rd_grown ox.1 hg ox.2.1, neb_step ox.2.1 ox.1 hat, ownN_kept ox.2.2 (by decide) hrow hg⟩
  · have hje : j = es.length := by rw [List.length_append] at h; simp at h; omega
    subst hje
    have e : (es ++ [o])[es.length]'h = o := by simp
    rw [e]
    refine ⟨x, ?_, ?_, ?_, ⟨rd_grown hx.1 hg hx.2.1, neb_step hx.2.1 hx.1 hat, ownN_kept hx.2.2 (by decide) hrow hg⟩⟩
    · rw [List.getElem?_append_right (by omega), show es.length * 3 - cs.length = 0 by omega]; rfl
    · rw [List.getElem?_append_right (by omega), show es.length * 3 + 1 - cs.length = 1 by omega]; rfl
    · rw [List.getElem?_append_right (by omega), show es.length * 3 + 2 - cs.length = 2 by omega]; rfl

theorem step_pushKS {F : Fence} {nF : Nat} {ops : Array Oper} {o : Oper} {a : Act} {K : Act → World → Prop} {Q : Exit → Act → World → Prop} {E : Prop} (hgd : o.guard = none) (s x : Operand)
    (ho : o.op = .call { callee := .builtin .append, args := #[s, x], argTypes := #[23, 23] })
    {B m : Nat} {w2 : World} {va : Option Addr} {vc : Nat} {xa : Option Addr} {l1 xd : Nat} {es : List KyT} (e : KyT) (hs : a.eval s = .slice va m vc) (hx : a.eval x = .slice (some ⟨w2.heap.size, 0, none⟩) 1 1)
    (hlen : es.length = m) (hO : OwnKS B (w2.alloc (.cells #[.slice xa l1 xd, .int .u64 (e.2.1 : Int), .int .u8 (e.2.2.toNat : Int)] 36)) (.slice va m vc) es)
    (rx : Rd w2 (.slice xa l1 xd) e.1 ∧ NeB (.slice xa l1 xd) e.1 (.slice va m vc) ∧ OwnN B w2 (.slice xa l1 xd) e.1) (hm : m ≤ 2000) (hB : B ≤ w2.heap.size)
    (h : ∀ g c4 w4, OwnKS B w4 (.slice (some ⟨g, 0, none⟩) (m + 1) c4) (es ++ [e]) → (w2.alloc (.cells #[.slice xa l1 xd, .int .u64 (e.2.1 : Int), .int .u8 (e.2.2.toNat : Int)] 36)).grownBy w4 (Value.slice va m vc).ownBlock → K (a.put o.dst (.slice (some ⟨g, 0, none⟩) (m + 1) c4)) w4) :
    if Region.wanted o (yielded ops a.tmps) = true then Oper.wpIn F nF Try.prog o a (w2.alloc (.cells #[.slice xa l1 xd, .int .u64 (e.2.1 : Int), .int .u8 (e.2.2.toNat : Int)] 36)) K Q else E := by
  obtain ⟨i0, hi, hz0, hz1, hz2⟩ := info_parts infoKyT
  obtain ⟨cs, hrow, hel⟩ := hO
  rw [hlen] at hrow
  have hbe := below_box4 w2 (.cells #[.slice xa l1 xd, .int .u64 (e.2.1 : Int), .int .u8 (e.2.2.toNat : Int)] 36)
  refine step_append_in _ hgd s x 23 ho B 36 i0 (.agg #[.slice none 0 0, .int .u64 0, .int .u8 0]) 3 40 Try.underlying23 hi hz0 hz1 hz2 rfl (by decide) (.slice va m vc) m cs hs hrow ⟨w2.heap.size, 0, none⟩ 1 1 [.slice xa l1 xd, .int .u64 (e.2.1 : Int), .int .u8 (e.2.2.toNat : Int)] hx rfl (World.news_of_block (heap_alloc_new w2 _)) (by intro u hu; simp at hu; rcases hu with rfl | rfl | rfl <;> rfl) (by decide) (by simp only [maxLen]; omega) (by omega) (by simp; omega) _ rfl ?_
  intro g4 c4 w4 hown hgrow hat hlt4
  exact h g4 c4 w4 (OwnKS.push e hlen hrow hel ⟨rx.1.below hbe (Nat.le_refl _), rx.2.1, rx.2.2.below hbe (Nat.le_refl _)⟩ hown hgrow hat) hgrow

set_option maxRecDepth 100000 in
set_option maxHeartbeats 4000000 in
theorem skrows_own (w : World) (l : Nat) (ts : List Tow) (hS : SkAt w l ts) (hL : LenT ts 1000) (h q : Nat) (hq : h = q + 1) (h8 : q < 8) :
    Calls Try.prog 21 #[.pointer (some ⟨l, 0, none⟩), .int .i64 (h : Int)] w fun e w' => ∃ v, e = .returned v ∧ OwnKS (w.heap.size + 3) w' v (ksT (rowT ts q)) ∧ Below w.heap.size w w' := by
  have HS : Hid (SkAt w l ts) := hS
  have HQ : Hid (h = q + 1) := hq
  have HQ8 : Hid (q < 8) := h8
  clear hq h8
  have c0 := cell_new_l w (.slice none 0 0) 23
  have hB1 : Below w.heap.size w (w.alloc (.cells #[.slice none 0 0] 23)) := (Below.refl _ w).alloc (Nat.le_refl _) _
  have hrw := skrow_any (w.alloc (.cells #[.slice none 0 0] 23)) (some ⟨l, 0, none⟩) (h : Int)
  have hs1 : (w.alloc (.cells #[.slice none 0 0] 23)).heap.size = w.heap.size + 1 := by simp
  rw [hs1] at hrw
  have c1 := cell_new_l (w.alloc (.cells #[.slice none 0 0] 23)) (.pointer (some ⟨l, 0, none⟩)) 25
  have c2 := cell_new_l ((w.alloc (.cells #[.slice none 0 0] 23)).alloc (.cells #[.pointer (some ⟨l, 0, none⟩)] 25)) (.int .i64 (h : Int)) 3
  have d0 := cell_alloc_l (.cells #[.int .i64 (h : Int)] 3) (cell_alloc_l (.cells #[.pointer (some ⟨l, 0, none⟩)] 25) c0.1)
  have d0f := frozen_alloc_l (.cells #[.int .i64 (h : Int)] 3) (cell_alloc_l (.cells #[.pointer (some ⟨l, 0, none⟩)] 25) c0.1) (frozen_alloc_l (.cells #[.pointer (some ⟨l, 0, none⟩)] 25) c0.1 c0.2)
  have d1 := cell_alloc_l (.cells #[.int .i64 (h : Int)] 3) c1.1
  have hB3 : Below w.heap.size w (((w.alloc (.cells #[.slice none 0 0] 23)).alloc (.cells #[.pointer (some ⟨l, 0, none⟩)] 25)).alloc (.cells #[.int .i64 (h : Int)] 3)) := (hB1.alloc hB1.size _).alloc (hB1.alloc hB1.size _).size _
  simp only [World.size_alloc] at c1 c2 d1
  have hz3 : (((w.alloc (.cells #[.slice none 0 0] 23)).alloc (.cells #[.pointer (some ⟨l, 0, none⟩)] 25)).alloc (.cells #[.int .i64 (h : Int)] 3)).heap.size = w.heap.size + 3 := by simp
  have hlen := hS.len
  refine (callsIn_wide (n := 4)).1 ?_
  refine callsIn_of_wp_marks Try.func21 rfl trivial ?_ rfl
  simp only [Try.ntmps21, List.size_toArray, List.length_cons, List.length_nil, Nat.reduceAdd, Nat.reduceSub, Array.replicate_succ, Array.replicate_zero, List.push_toArray, List.append_toArray, List.nil_append, List.cons_append]
  gi_wp2_with fail
  refine ⟨trivial, ?_⟩
  refine (callsIn_wide.2 hrw).mono ?_
  rintro e w3 ⟨rfl, hw3⟩
  rw [← hw3] at c2 d0 d0f d1 hB3 hz3
  clear hw3 c0 c1 hB1 hrw hs1
  have HB3 : Hid (Below w.heap.size w w3) := hB3
  have HL : Hid (LenT ts 1000) := hL
  clear hL
  gi_wp2_with fail
  refine wpIn_rangeFunc_ownH rfl (by omega) (gf := 47) (lb := #[.pointer (some ⟨w.heap.size + 1, 0, none⟩), .pointer (some ⟨w.heap.size + 1 + 1, 0, none⟩)]) rfl trivial (enters_of Try.func47 (by kernel_rfl) rfl)
    (row_stops 3 (by omega) w w3 l h q _ _ ts HS.out hB3 HQ.out HQ8.out d1 c2.1) kpR_t (kpR_b (by omega)) (Below.refl _ _) (fun _ => rfl)
    (fun (pre : List {t : Tow // t ∈ ts}) W => ∃ va vc, (W.cell? ⟨w.heap.size, 0, none⟩ = some (.slice va pre.length vc) ∧ W.frozen? ⟨w.heap.size, 0, none⟩ = false) ∧ OwnKS (w.heap.size + 3) W (.slice va pre.length vc) (ksT (pre.map (·.1))) ∧ Below w.heap.size w W)
    (fun c (pre : List {t : Tow // t ∈ ts}) W => False)
    (fun s A B row hs hg hr => by
      obtain ⟨va, vc, ⟨h1, h2⟩, h3, h4⟩ := hs
      exact ⟨va, vc, ⟨cell_kept h1 hg (fun r e => (hr r e).2), (frozen_kept h1 hg (fun r e => (hr r e).2)).trans h2⟩, h3.aside hg (fun r e => .inr (hr r e).2), h4.grown hg h4.size (fun r e => by have := (hr r e).1; omega)⟩)
    (fun c s A B row hs hg hr => hs)
    ⟨none, 0, ⟨d0, d0f⟩, OwnKS.nil _ _, hB3⟩
    (fun (x : {t : Tow // t ∈ ts}) a' W => ∃ Bx, w.heap.size < Bx ∧ Box4 W Bx x.1.x (.int .u64 (x.1.e.2.1 : Int)) (.int .u8 (x.1.e.2.2.1.toNat : Int)) x.1.y ∧ a' = { tmps := #[.pointer (some ⟨l, 0, none⟩), .int .i64 (h : Int), undef, undef, .slice none 0 0, .pointer (some ⟨w.heap.size, 0, none⟩), .pointer (some ⟨Bx, 0, none⟩), .pointer (some ⟨l, 0, none⟩), .int .i64 (h : Int), .func (.func 47) #[] #[.pointer (some ⟨w.heap.size + 1, 0, none⟩), .pointer (some ⟨w.heap.size + 1 + 1, 0, none⟩)], enV x.1.x (x.1.e.2.1 : Int) (x.1.e.2.2.1.toNat : Int) x.1.y, undef, undef, undef, undef, undef, undef, undef], defers := [] })
    (fun x a' _ X Y row hs hg hr => by
      obtain ⟨Bx, h1, h2, h3⟩ := hs
      exact ⟨Bx, h1, ⟨cell_kept h2.c0 hg (fun r e => (hr r e).2), cell_kept h2.c1 hg (fun r e => (hr r e).2), cell_kept h2.c2 hg (fun r e => (hr r e).2), cell_kept h2.c3 hg (fun r e => (hr r e).2)⟩, h3⟩)
    ?assign ?body ?done ?stop
  case assign =>
    rintro l pre x W K ⟨va, vc, ⟨hc, hf⟩, hO, hBW⟩ hK
    have hent := HS.out.ent x.1 x.2
    obtain ⟨x1, xc, ex⟩ := hent.rx.len
    obtain ⟨y1, yc, ey⟩ := hent.ry.len
    have HX : Hid (x.1.x = .slice x1 x.1.e.1.length xc) := ex
    have HY : Hid (x.1.y = .slice y1 x.1.e.2.2.2.length yc) := ey
    have HK : Hid _ := hK
    rw [ex, ey]
    clear hent ex ey hK
    simp only [enV]
    gi_wp2
    refine HK.out _ _ ((KeepsOthers.alloc _ _).from _) (kpR_alloc hBW.size _) ⟨va, vc, ⟨cell_alloc_l _ hc, frozen_alloc_l _ hc hf⟩, hO.below (below_box4 W _) (Nat.le_refl _), hBW.alloc hBW.size _⟩ ⟨W.heap.size, World.block_lt_of_cell? _ _ hc, ?_, ?_⟩
    · rw [HX.out, HY.out]
      exact box4_new W _ _ _ _ _
    · rw [HX.out, HY.out]
  case body =>
    rintro l pre x a' W hl hlr ⟨va, vc, ⟨hc, hf⟩, hO, hBW⟩ ⟨Bx, hBx, ⟨b0, b1, b2, b3⟩, rfl⟩ hpl
    have hxl := HL.out x.1 x.2
    have hent := (HS.out.below hBW).ent x.1 x.2
    obtain ⟨x1, xc, ex⟩ := hent.rx.len
    obtain ⟨y1, yc, ey⟩ := hent.ry.len
    have rx := hent.rx
    have ry := hent.ry
    rw [ex] at b0 rx
    rw [ey] at b3 ry
    have HSN : Hid (ksT ((pre ++ [x]).map (·.1)) = ksT (pre.map (·.1)) ++ [kyE x.1.e]) := by show _ = _; simp [ksT]
    rw [ex, ey]
    clear ex ey hent
    obtain ⟨⟨eu, es, ek, ev⟩, he⟩ : ∃ e, x.1.e = e := ⟨_, rfl⟩
    rw [he] at HSN b0 b1 b2 b3 rx ry hxl
    rw [he]
    simp only at b0 b1 b2 b3 rx ry hxl ⊢
    have hap := skapart_own W.drew _ _ _ _ (es : Int) (ek.toNat : Int) rx.drew ry.drew (by omega) (by omega)
    obtain ⟨n1, hn1⟩ : ∃ n, eu.length = n := ⟨_, rfl⟩
    obtain ⟨n2, hn2⟩ : ∃ n, ev.length = n := ⟨_, rfl⟩
    rw [hn1, hn2] at hap
    rw [hn1] at b0
    rw [hn2] at b3
    rw [hn1, hn2]
    clear rx ry hxl hn1 hn2 he
    simp only [enV] at hap ⊢
    have hfo : Try.prog.follows .mixedOrders = true := by kernel_rfl
    gi_wp2_with fail
    have HAP : Hid _ := hap
    have HF : Hid (W.frozen? ⟨w.heap.size, 0, none⟩ = false) := hf
    have HC : Hid (W.cell? ⟨w.heap.size, 0, none⟩ = some (.slice va pre.length vc)) := hc
    have HBW : Hid (Below w.heap.size w W) := hBW
    have HO : Hid (OwnKS (w.heap.size + 3) W (.slice va pre.length vc) (ksT (pre.map (·.1)))) := hO
    have HLEN : Hid ((ksT (pre.map (·.1))).length = pre.length) := by show _ = _; rw [ksT_len, List.length_map]
    have HLN : Hid ((pre ++ [x]).length = pre.length + 1) := by show _ = _; simp
    have HMX : Hid (pre.length ≤ 2000) := by show _ ≤ _; omega
    have H3 : Hid (w.heap.size + 3 ≤ W.heap.size) := by
      show _ ≤ _
      obtain ⟨r, hr⟩ := hlr
      have := (Array.getElem?_eq_some_iff.1 hr).1
      omega
    have HLOW : Hid (∀ q, (Value.slice va pre.length vc).ownBlock = some q → q < W.heap.size + 2) := by
      obtain ⟨cs, hrow, _⟩ := hO
      exact fun q hq => by have := (hrow.lt q hq).2; omega
    clear hap hBW hO hlr
    refine wpIn_region_any (by assumption) ?_
    try (change wpAnyIn _ _ _ _ _ _ _ _ _ (World.drew _))
    refine wpAnyIn_ready (rs := [0, 1]) (by kernel_rfl) (by simp) ?_
    refine AllReadyIn.cons rfl (fun K hK => ?_) ?_
    · go_simp
      refine hK _ _ ?_
      clear hK K
      refine wpAnyIn_ready (rs := [1]) (by kernel_rfl) (by simp) ?_
      refine AllReadyIn.cons rfl (fun K hK => ?_) AllReadyIn.nil
      go_simp
      refine hK _ _ ?_
      clear hK K
      refine wpAnyIn_ready (rs := [2]) (by kernel_rfl) (by simp) ?_
      refine AllReadyIn.cons rfl (fun K hK => ?_) AllReadyIn.nil
      go_simp
      refine ⟨trivial, ?_⟩
      gi_at_call 34
      refine (CallsIn.inRound l (callsIn_wide.2 HAP.out)).mono ?_
      rintro e w2 ⟨xv, yv, rfl, rx, ry, hlb, hb2⟩
      obtain ⟨xa, xd, rfl⟩ := rx.1.len
      obtain ⟨ya, yd, rfl⟩ := ry.1.len
      obtain ⟨l1, hl1⟩ : ∃ n, eu.length = n := ⟨_, rfl⟩
      obtain ⟨l2, hl2⟩ : ∃ n, ev.length = n := ⟨_, rfl⟩
      rw [hl1] at rx hlb ⊢
      rw [hl2] at ry hlb ⊢
      have hcz : w2.cell? ⟨w.heap.size, 0, none⟩ = some (.slice va pre.length vc) := (hb2.cell (p := ⟨w.heap.size, 0, none⟩) (World.block_lt_of_cell? _ _ HC.out)).trans HC.out
      have hfz : w2.frozen? ⟨w.heap.size, 0, none⟩ = false := (hb2.frozen (p := ⟨w.heap.size, 0, none⟩) (World.block_lt_of_cell? _ _ HC.out)).trans HF.out
      have HRX : Hid _ := rx
      have HRY : Hid _ := ry
      have HLB : Hid _ := hlb
      have HB2 : Hid _ := hb2
      clear rx ry hlb hb2 hl1 hl2 hc hf
      refine hK _ _ ?_
      clear hK K
      refine wpAnyIn_ready (rs := [3]) (by kernel_rfl) (by simp) ?_
      refine AllReadyIn.cons rfl (fun K hK => ?_) AllReadyIn.nil
      go_simp
      refine hK _ _ ?_
      clear hK K
      refine wpAnyIn_ready (rs := [4]) (by kernel_rfl) (by simp) ?_
      refine AllReadyIn.cons rfl (fun K hK => ?_) AllReadyIn.nil
      go_simp
      refine hK _ _ ?_
      clear hK K
      refine wpAnyIn_ready (rs := [5]) (by kernel_rfl) (by simp) ?_
      refine AllReadyIn.cons rfl (fun K hK => ?_) AllReadyIn.nil
      have hb2 : Below W.heap.size W w2 := ⟨HB2.out.os, HB2.out.tape, HB2.out.output, HB2.out.size, HB2.out.block⟩
      have hO5 := (HO.out.below hb2 (Nat.le_refl _)).below (below_box4 w2 (.cells #[.slice xa l1 xd, .int .u64 (es : Int), .int .u8 (ek.toNat : Int)] 36)) (Nat.le_refl _)
      have h3 := H3.out
      have hs2 := hb2.size
      refine step_pushKS rfl (.tmp 11) (.tmp 15) rfl (eu, es, ek) rfl rfl HLEN.out hO5 ⟨HRX.out.1, neb_of (from_ownN HRX.out.2) HLOW.out HRX.out.1, HRX.out.2.mono (by show _ ≤ W.heap.size + 2; omega)⟩  HMX.out (by omega) ?_
      intro g4 c4 w4 hO4 hgr
      obtain ⟨cs5, hrow5, _⟩ := hO5
      obtain ⟨hc4, hf4, hK4, hP4, hB4⟩ := push_round (v4 := .slice (some ⟨g4, 0, none⟩) (pre.length + 1) c4) HBW.out HC.out HF.out hrow5 hb2 h3 hgr w3.heap.size
      have HK4 : Hid _ := hK4
      have HP4 : Hid _ := hP4
      have HB4 : Hid _ := hB4
      have HO4 : Hid _ := hO4
      clear hK4 hP4 hB4 hO4 hgr hrow5 h3 hs2 hb2
      refine hK _ _ ?_
      clear hK K
      refine wpAnyIn_ready (rs := [6]) (by kernel_rfl) (by simp) ?_
      refine AllReadyIn.cons rfl (fun K hK => ?_) AllReadyIn.nil
      go_simp
      refine hK _ _ ?_
      clear hK K
      refine wpAnyIn_done (by kernel_rfl) ?_ _
      refine ⟨HK4.out, HP4.out, some ⟨g4, 0, none⟩, c4, ?_⟩
      rw [HLN.out, HSN.out]
      exact ⟨⟨World.cell?_setCell_same' _ _ _ (by rw [hc4]; rfl), by simpa [World.frozen?_setCell] using hf4⟩, OwnKS.set HO4.out (by omega) _, HB4.out⟩
    refine AllReadyIn.cons rfl (fun K hK => ?_) AllReadyIn.nil
    go_simp
    refine hK _ _ ?_
    clear hK K
    refine wpAnyIn_ready (rs := [0, 2]) (by kernel_rfl) (by simp) ?_
    refine AllReadyIn.cons rfl (fun K hK => ?_) ?_
    · go_simp
      refine hK _ _ ?_
      clear hK K
      refine wpAnyIn_ready (rs := [2]) (by kernel_rfl) (by simp) ?_
      refine AllReadyIn.cons rfl (fun K hK => ?_) AllReadyIn.nil
      go_simp
      refine ⟨trivial, ?_⟩
      gi_at_call 34
      refine (CallsIn.inRound l (callsIn_wide.2 HAP.out)).mono ?_
      rintro e w2 ⟨xv, yv, rfl, rx, ry, hlb, hb2⟩
      obtain ⟨xa, xd, rfl⟩ := rx.1.len
      obtain ⟨ya, yd, rfl⟩ := ry.1.len
      obtain ⟨l1, hl1⟩ : ∃ n, eu.length = n := ⟨_, rfl⟩
      obtain ⟨l2, hl2⟩ : ∃ n, ev.length = n := ⟨_, rfl⟩
      rw [hl1] at rx hlb ⊢
      rw [hl2] at ry hlb ⊢
      have hcz : w2.cell? ⟨w.heap.size, 0, none⟩ = some (.slice va pre.length vc) := (hb2.cell (p := ⟨w.heap.size, 0, none⟩) (World.block_lt_of_cell? _ _ HC.out)).trans HC.out
      have hfz : w2.frozen? ⟨w.heap.size, 0, none⟩ = false := (hb2.frozen (p := ⟨w.heap.size, 0, none⟩) (World.block_lt_of_cell? _ _ HC.out)).trans HF.out
      have HRX : Hid _ := rx
      have HRY : Hid _ := ry
      have HLB : Hid _ := hlb
      have HB2 : Hid _ := hb2
      clear rx ry hlb hb2 hl1 hl2 hc hf
      refine hK _ _ ?_
      clear hK K
      refine wpAnyIn_ready (rs := [3]) (by kernel_rfl) (by simp) ?_
      refine AllReadyIn.cons rfl (fun K hK => ?_) AllReadyIn.nil
      go_simp
      refine hK _ _ ?_
      clear hK K
      refine wpAnyIn_ready (rs := [4]) (by kernel_rfl) (by simp) ?_
      refine AllReadyIn.cons rfl (fun K hK => ?_) AllReadyIn.nil
      go_simp
      refine hK _ _ ?_
      clear hK K
      refine wpAnyIn_ready (rs := [5]) (by kernel_rfl) (by simp) ?_
      refine AllReadyIn.cons rfl (fun K hK => ?_) AllReadyIn.nil
      have hb2 : Below W.heap.size W w2 := ⟨HB2.out.os, HB2.out.tape, HB2.out.output, HB2.out.size, HB2.out.block⟩
      have hO5 := (HO.out.below hb2 (Nat.le_refl _)).below (below_box4 w2 (.cells #[.slice xa l1 xd, .int .u64 (es : Int), .int .u8 (ek.toNat : Int)] 36)) (Nat.le_refl _)
      have h3 := H3.out
      have hs2 := hb2.size
      refine step_pushKS rfl (.tmp 11) (.tmp 15) rfl (eu, es, ek) rfl rfl HLEN.out hO5 ⟨HRX.out.1, neb_of (from_ownN HRX.out.2) HLOW.out HRX.out.1, HRX.out.2.mono (by show _ ≤ W.heap.size + 2; omega)⟩  HMX.out (by omega) ?_
      intro g4 c4 w4 hO4 hgr
      obtain ⟨cs5, hrow5, _⟩ := hO5
      obtain ⟨hc4, hf4, hK4, hP4, hB4⟩ := push_round (v4 := .slice (some ⟨g4, 0, none⟩) (pre.length + 1) c4) HBW.out HC.out HF.out hrow5 hb2 h3 hgr w3.heap.size
      have HK4 : Hid _ := hK4
      have HP4 : Hid _ := hP4
      have HB4 : Hid _ := hB4
      have HO4 : Hid _ := hO4
      clear hK4 hP4 hB4 hO4 hgr hrow5 h3 hs2 hb2
      refine hK _ _ ?_
      clear hK K
      refine wpAnyIn_ready (rs := [6]) (by kernel_rfl) (by simp) ?_
      refine AllReadyIn.cons rfl (fun K hK => ?_) AllReadyIn.nil
      go_simp
      refine hK _ _ ?_
      clear hK K
      refine wpAnyIn_done (by kernel_rfl) ?_ _
      refine ⟨HK4.out, HP4.out, some ⟨g4, 0, none⟩, c4, ?_⟩
      rw [HLN.out, HSN.out]
      exact ⟨⟨World.cell?_setCell_same' _ _ _ (by rw [hc4]; rfl), by simpa [World.frozen?_setCell] using hf4⟩, OwnKS.set HO4.out (by omega) _, HB4.out⟩
    refine AllReadyIn.cons rfl (fun K hK => ?_) AllReadyIn.nil
    go_simp
    refine ⟨trivial, ?_⟩
    gi_at_call 34
    refine (CallsIn.inRound l (callsIn_wide.2 HAP.out)).mono ?_
    rintro e w2 ⟨xv, yv, rfl, rx, ry, hlb, hb2⟩
    obtain ⟨xa, xd, rfl⟩ := rx.1.len
    obtain ⟨ya, yd, rfl⟩ := ry.1.len
    obtain ⟨l1, hl1⟩ : ∃ n, eu.length = n := ⟨_, rfl⟩
    obtain ⟨l2, hl2⟩ : ∃ n, ev.length = n := ⟨_, rfl⟩
    rw [hl1] at rx hlb ⊢
    rw [hl2] at ry hlb ⊢
    have hcz : w2.cell? ⟨w.heap.size, 0, none⟩ = some (.slice va pre.length vc) := (hb2.cell (p := ⟨w.heap.size, 0, none⟩) (World.block_lt_of_cell? _ _ HC.out)).trans HC.out
    have hfz : w2.frozen? ⟨w.heap.size, 0, none⟩ = false := (hb2.frozen (p := ⟨w.heap.size, 0, none⟩) (World.block_lt_of_cell? _ _ HC.out)).trans HF.out
    have HRX : Hid _ := rx
    have HRY : Hid _ := ry
    have HLB : Hid _ := hlb
    have HB2 : Hid _ := hb2
    clear rx ry hlb hb2 hl1 hl2 hc hf
    refine hK _ _ ?_
    clear hK K
    refine wpAnyIn_ready (rs := [0, 3]) (by kernel_rfl) (by simp) ?_
    refine AllReadyIn.cons rfl (fun K hK => ?_) ?_
    · go_simp
      refine hK _ _ ?_
      clear hK K
      refine wpAnyIn_ready (rs := [3]) (by kernel_rfl) (by simp) ?_
      refine AllReadyIn.cons rfl (fun K hK => ?_) AllReadyIn.nil
      go_simp
      refine hK _ _ ?_
      clear hK K
      refine wpAnyIn_ready (rs := [4]) (by kernel_rfl) (by simp) ?_
      refine AllReadyIn.cons rfl (fun K hK => ?_) AllReadyIn.nil
      go_simp
      refine hK _ _ ?_
      clear hK K
      refine wpAnyIn_ready (rs := [5]) (by kernel_rfl) (by simp) ?_
      refine AllReadyIn.cons rfl (fun K hK => ?_) AllReadyIn.nil
      have hb2 : Below W.heap.size W w2 := ⟨HB2.out.os, HB2.out.tape, HB2.out.output, HB2.out.size, HB2.out.block⟩
      have hO5 := (HO.out.below hb2 (Nat.le_refl _)).below (below_box4 w2 (.cells #[.slice xa l1 xd, .int .u64 (es : Int), .int .u8 (ek.toNat : Int)] 36)) (Nat.le_refl _)
      have h3 := H3.out
      have hs2 := hb2.size
      refine step_pushKS rfl (.tmp 11) (.tmp 15) rfl (eu, es, ek) rfl rfl HLEN.out hO5 ⟨HRX.out.1, neb_of (from_ownN HRX.out.2) HLOW.out HRX.out.1, HRX.out.2.mono (by show _ ≤ W.heap.size + 2; omega)⟩  HMX.out (by omega) ?_
      intro g4 c4 w4 hO4 hgr
      obtain ⟨cs5, hrow5, _⟩ := hO5
      obtain ⟨hc4, hf4, hK4, hP4, hB4⟩ := push_round (v4 := .slice (some ⟨g4, 0, none⟩) (pre.length + 1) c4) HBW.out HC.out HF.out hrow5 hb2 h3 hgr w3.heap.size
      have HK4 : Hid _ := hK4
      have HP4 : Hid _ := hP4
      have HB4 : Hid _ := hB4
      have HO4 : Hid _ := hO4
      clear hK4 hP4 hB4 hO4 hgr hrow5 h3 hs2 hb2
      refine hK _ _ ?_
      clear hK K
      refine wpAnyIn_ready (rs := [6]) (by kernel_rfl) (by simp) ?_
      refine AllReadyIn.cons rfl (fun K hK => ?_) AllReadyIn.nil
      go_simp
      refine hK _ _ ?_
      clear hK K
      refine wpAnyIn_done (by kernel_rfl) ?_ _
      refine ⟨HK4.out, HP4.out, some ⟨g4, 0, none⟩, c4, ?_⟩
      rw [HLN.out, HSN.out]
      exact ⟨⟨World.cell?_setCell_same' _ _ _ (by rw [hc4]; rfl), by simpa [World.frozen?_setCell] using hf4⟩, OwnKS.set HO4.out (by omega) _, HB4.out⟩
    refine AllReadyIn.cons rfl (fun K hK => ?_) AllReadyIn.nil
    go_simp
    refine hK _ _ ?_
    clear hK K
    refine wpAnyIn_ready (rs := [0, 4]) (by kernel_rfl) (by simp) ?_
    refine AllReadyIn.cons rfl (fun K hK => ?_) ?_
    · go_simp
      refine hK _ _ ?_
      clear hK K
      refine wpAnyIn_ready (rs := [4]) (by kernel_rfl) (by simp) ?_
      refine AllReadyIn.cons rfl (fun K hK => ?_) AllReadyIn.nil
      go_simp
      refine hK _ _ ?_
      clear hK K
      refine wpAnyIn_ready (rs := [5]) (by kernel_rfl) (by simp) ?_
      refine AllReadyIn.cons rfl (fun K hK => ?_) AllReadyIn.nil
      have hb2 : Below W.heap.size W w2 := ⟨HB2.out.os, HB2.out.tape, HB2.out.output, HB2.out.size, HB2.out.block⟩
      have hO5 := (HO.out.below hb2 (Nat.le_refl _)).below (below_box4 w2 (.cells #[.slice xa l1 xd, .int .u64 (es : Int), .int .u8 (ek.toNat : Int)] 36)) (Nat.le_refl _)
      have h3 := H3.out
      have hs2 := hb2.size
      refine step_pushKS rfl (.tmp 11) (.tmp 15) rfl (eu, es, ek) rfl rfl HLEN.out hO5 ⟨HRX.out.1, neb_of (from_ownN HRX.out.2) HLOW.out HRX.out.1, HRX.out.2.mono (by show _ ≤ W.heap.size + 2; omega)⟩  HMX.out (by omega) ?_
      intro g4 c4 w4 hO4 hgr
      obtain ⟨cs5, hrow5, _⟩ := hO5
      obtain ⟨hc4, hf4, hK4, hP4, hB4⟩ := push_round (v4 := .slice (some ⟨g4, 0, none⟩) (pre.length + 1) c4) HBW.out HC.out HF.out hrow5 hb2 h3 hgr w3.heap.size
      have HK4 : Hid _ := hK4
      have HP4 : Hid _ := hP4
      have HB4 : Hid _ := hB4
      have HO4 : Hid _ := hO4
      clear hK4 hP4 hB4 hO4 hgr hrow5 h3 hs2 hb2
      refine hK _ _ ?_
      clear hK K
      refine wpAnyIn_ready (rs := [6]) (by kernel_rfl) (by simp) ?_
      refine AllReadyIn.cons rfl (fun K hK => ?_) AllReadyIn.nil
      go_simp
      refine hK _ _ ?_
      clear hK K
      refine wpAnyIn_done (by kernel_rfl) ?_ _
      refine ⟨HK4.out, HP4.out, some ⟨g4, 0, none⟩, c4, ?_⟩
      rw [HLN.out, HSN.out]
      exact ⟨⟨World.cell?_setCell_same' _ _ _ (by rw [hc4]; rfl), by simpa [World.frozen?_setCell] using hf4⟩, OwnKS.set HO4.out (by omega) _, HB4.out⟩
    refine AllReadyIn.cons rfl (fun K hK => ?_) AllReadyIn.nil
    go_simp
    refine hK _ _ ?_
    clear hK K
    · have hcy := cell_alloc_l (.cells #[.slice xa l1 xd, .int .u64 (es : Int), .int .u8 (ek.toNat : Int)] 36) hcz
      change wpAnyIn _ _ _ _ _ _ _ _ _ (w2.alloc (.cells #[.slice xa l1 xd, .int .u64 (es : Int), .int .u8 (ek.toNat : Int)] 36))
      refine wpAnyIn_ready (rs := [0]) (by kernel_rfl) (by simp) ?_
      refine AllReadyIn.cons rfl (fun K hK => ?_) AllReadyIn.nil
      go_simp
      refine hK _ _ ?_
      clear hK K
      refine wpAnyIn_ready (rs := [5]) (by kernel_rfl) (by simp) ?_
      refine AllReadyIn.cons rfl (fun K hK => ?_) AllReadyIn.nil
      have hb2 : Below W.heap.size W w2 := ⟨HB2.out.os, HB2.out.tape, HB2.out.output, HB2.out.size, HB2.out.block⟩
      have hO5 := (HO.out.below hb2 (Nat.le_refl _)).below (below_box4 w2 (.cells #[.slice xa l1 xd, .int .u64 (es : Int), .int .u8 (ek.toNat : Int)] 36)) (Nat.le_refl _)
      have h3 := H3.out
      have hs2 := hb2.size
      refine step_pushKS rfl (.tmp 11) (.tmp 15) rfl (eu, es, ek) rfl rfl HLEN.out hO5 ⟨HRX.out.1, neb_of (from_ownN HRX.out.2) HLOW.out HRX.out.1, HRX.out.2.mono (by show _ ≤ W.heap.size + 2; omega)⟩  HMX.out (by omega) ?_
      intro g4 c4 w4 hO4 hgr
      obtain ⟨cs5, hrow5, _⟩ := hO5
      obtain ⟨hc4, hf4, hK4, hP4, hB4⟩ := push_round (v4 := .slice (some ⟨g4, 0, none⟩) (pre.length + 1) c4) HBW.out HC.out HF.out hrow5 hb2 h3 hgr w3.heap.size
      have HK4 : Hid _ := hK4
      have HP4 : Hid _ := hP4
      have HB4 : Hid _ := hB4
      have HO4 : Hid _ := hO4
      clear hK4 hP4 hB4 hO4 hgr hrow5 h3 hs2 hb2
      refine hK _ _ ?_
      clear hK K
      refine wpAnyIn_ready (rs := [6]) (by kernel_rfl) (by simp) ?_
      refine AllReadyIn.cons rfl (fun K hK => ?_) AllReadyIn.nil
      go_simp
      refine hK _ _ ?_
      clear hK K
      refine wpAnyIn_done (by kernel_rfl) ?_ _
      refine ⟨HK4.out, HP4.out, some ⟨g4, 0, none⟩, c4, ?_⟩
      rw [HLN.out, HSN.out]
      exact ⟨⟨World.cell?_setCell_same' _ _ _ (by rw [hc4]; rfl), by simpa [World.frozen?_setCell] using hf4⟩, OwnKS.set HO4.out (by omega) _, HB4.out⟩
  case done =>
    rintro D ys W hD hys ⟨va, vc, ⟨hc, hf⟩, hO, hBW⟩ hK
    have hyl : ys.length = (rowT ts q).length := by have := congrArg List.length hys; rwa [List.length_map] at this
    rw [hyl] at hc hO
    rw [hys] at hO
    have HO : Hid (OwnKS (w.heap.size + 3) W (.slice va (rowT ts q).length vc) (ksT (rowT ts q))) := hO
    clear hO
    gi_wp2
    refine ⟨by simp, .inl ⟨_, _, rfl, run_takeDeferred hK, ?_⟩⟩
    refine ⟨.slice va (rowT ts q).length vc, ?_, ⟨_, rfl, HO.out.aside (grownBy_putObj' _ D (.deferred none)) (fun r e => by cases e; exact .inr ⟨_, hK, rfl⟩), hBW.trans (belowK_b (w := w) (Nat.le_refl _) _ D _ _ (by omega) hK rfl rfl)⟩⟩
    simp [results, Try.f21, go_sem]
  case stop =>
    rintro D c pre W hD hpre hF hK
    exact hF.elim

end Go.Proofs.Ytekmlbbfipldoaa
