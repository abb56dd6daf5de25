/- EntryApart answers true. -/
import Derived.Test.YtafnnkiobdgmdaaEntSame
import Derived.Test.YtafnnkiobdgmdaaEntAwake
namespace Go.Proofs.Ytafnnkiobdgmdaa
open Go.RowKit
set_option linter.unusedVariables false

/-- what entry.Bytes answers -/
def EBPost (w : World) (n : NtB) (x : Ending) (w' : World) : Prop :=
  Below w.heap.size w w' ∧ ((∃ y, x = .returned (.tuple #[y, .int .i64 0]) ∧ Own w.heap.size w' y (noteB n.1.toNat n.2.1 n.2.2.1 n.2.2.2) ∧ chkL n.2.2.2 = 0) ∨ x = .returned (.tuple #[.slice none 0 0, .int .i64 4]))

theorem chk_len {os : List OpB} (h : chkL os = 0) : os.length ≤ 64 := by
  unfold chkL at h
  split at h
  · cases h
  · omega

theorem ebytes_any (w : World) (n : NtB) (na : Option Addr) (nl nc : Nat) (oa : Option Addr) (ol oc : Nat) (hs : n.2.1 < 18446744073709551616) (hn : Rd w (.slice na nl nc) n.2.2.1) (hnl : n.2.2.1.length ≤ 1000) (ho : RdO w (.slice oa ol oc) n.2.2.2) (hsz : sizeO n.2.2.2 ≤ 1000000) :
    Calls Try.prog 8 #[noteV (n.1.toNat : Int) (n.2.1 : Int) na nl nc oa ol oc] w (EBPost w n) := by
  have hk := n.1.toNat_lt
  by_cases hr : rightB (n.1.toNat : Int) (n.2.1 : Int) nl ol = true
  · by_cases hc : chkL n.2.2.2 = 0
    · refine (ebytes_ok w n.1.toNat n.2.1 na nl nc oa ol oc n.2.2.1 n.2.2.2 (by omega) hs hr hn hnl ho hc (chk_len hc) hsz).mono ?_
      rintro e w' ⟨x, rfl, o, hb⟩
      exact ⟨hb, .inl ⟨x, rfl, o, hc⟩⟩
    · refine (ebytes_bad w _ _ na nl nc oa ol oc n.2.2.2 _ (by omega) hr ho rfl hc).mono ?_
      rintro e w' ⟨rfl, hb⟩
      exact ⟨hb, .inr rfl⟩
  · refine (ebytes_wrong w _ _ na nl nc oa ol oc (by omega) (by simpa using hr)).mono ?_
    rintro e w' ⟨rfl, hb⟩
    exact ⟨hb, .inr rfl⟩

theorem OwnNt.mono {B C : Nat} {w : World} {v : Value} {ns : List NtB} (h : OwnNt B w v ns) (hC : C ≤ B) : OwnNt C w v ns := by
  obtain ⟨cs, hr, hj⟩ := h
  refine ⟨cs, ⟨hr.1, hr.2.imp id (fun ⟨g, cap, cur, a, b, c⟩ => ⟨g, cap, cur, a, Nat.le_trans hC b, c⟩)⟩, fun j h => ?_⟩
  obtain ⟨x, y, c0, c1, c2, c3, ox, oy⟩ := hj j h
  exact ⟨x, y, c0, c1, c2, c3, ox.mono hC, oy.mono hC⟩

theorem argN_lit (w : World) (n : NtB) (x y : Value) (hx : Arg w x n.2.2.1) (hy : ArgO w y n.2.2.2) :
    ArgN (w.alloc (.cells #[.int .u8 (n.1.toNat : Int), .int .u64 (n.2.1 : Int), x, y] 26)) (.slice (some ⟨w.heap.size, 0, none⟩) 1 1) [n] := by
  have hb := below_box4 w (.cells #[.int .u8 (n.1.toNat : Int), .int .u64 (n.2.1 : Int), x, y] 26)
  have b := box4_new w (.int .u8 (n.1.toNat : Int)) (.int .u64 (n.2.1 : Int)) x y 26
  refine ⟨_, 1, rfl, by simp, by simp [maxLen], fun j h => ?_⟩
  have hj : j = 0 := by simp at h; omega
  subst hj
  exact ⟨w.heap.size, 0, rfl, x, y, b.c0, b.c1, b.c2, b.c3, hx.below hb (Nat.le_refl _), LsO.belowA hy hb (Nat.le_refl _)⟩

theorem few_one (n : NtB) : fewN 1 [n] = [cutN n] := rfl

theorem fewO_size (os : List OpB) : sizeO (fewO 66 os) ≤ 44880 := by
  have h1 : ∀ l : List OpB, sizeO (l.map cutOp) ≤ 680 * l.length := by
    intro l
    induction l with
    | nil => simp [sizeO]
    | cons o l ih =>
      have e : sizeO ((o :: l).map cutOp) = (o.2.1.take 80).length + (o.2.2.take 600).length + sizeO (l.map cutOp) := by simp [sizeO, cutOp]
      have h80 := List.length_take_le 80 o.2.1
      have h600 := List.length_take_le 600 o.2.2
      rw [e, List.length_cons]
      omega
  unfold fewO
  have h2 := h1 (os.take 66)
  have h3 := List.length_take_le 66 os
  omega

theorem ntrow_one {B : Nat} {w : World} {v : Value} {n : NtB} (h : OwnNt B w v [n]) : ∃ g c na nl nc oa ol oc, v = .slice (some ⟨g, 0, none⟩) 1 c ∧ 1 ≤ c ∧ w.cell? ⟨g, 0, none⟩ = some (.int .u8 (n.1.toNat : Int)) ∧ w.cell? ⟨g, 1, none⟩ = some (.int .u64 (n.2.1 : Int)) ∧ w.cell? ⟨g, 2, none⟩ = some (.slice na nl nc) ∧ w.cell? ⟨g, 3, none⟩ = some (.slice oa ol oc) ∧ Rd w (.slice na nl nc) n.2.2.1 ∧ RdO w (.slice oa ol oc) n.2.2.2 := by
  obtain ⟨cs, hr, hj⟩ := h
  obtain ⟨x, y, c0, c1, c2, c3, ox, oy⟩ := hj 0 (by simp)
  have hr2 := hr
  rcases hr.2 with ⟨e, hn⟩ | ⟨g, cap, cur, e, hb, hg, h1, h2, h3, h4⟩
  · simp at hn
  · subst e
    have hc := hr2.cells (g := g) rfl
    obtain ⟨xa, xc, rfl⟩ := ox.rd.len
    obtain ⟨ya, yc, rfl⟩ := ownO_shape oy
    refine ⟨g, cap, _, _, _, _, _, _, rfl, by simpa using h1, ?_, ?_, ?_, ?_, ox.rd, oy.rd⟩
    · have := hc _ _ c0; rwa [Addr.add_lit] at this
    · have := hc _ _ c1; rwa [Addr.add_lit] at this
    · have := hc _ _ c2; rwa [Addr.add_lit] at this
    · have := hc _ _ c3; rwa [Addr.add_lit] at this

theorem eight {w' : World} {b b' : Nat} {v0 v1 v2 v3 u0 u1 u2 u3 : Value} (h : Box4 w' b v0 v1 v2 v3) (h' : Box4 w' b' u0 u1 u2 u3) : w'.cell? ⟨b, 0, none⟩ = some v0 ∧ w'.cell? ⟨b, 1, none⟩ = some v1 ∧ w'.cell? ⟨b, 2, none⟩ = some v2 ∧ w'.cell? ⟨b, 3, none⟩ = some v3 ∧ w'.cell? ⟨b', 0, none⟩ = some u0 ∧ w'.cell? ⟨b', 1, none⟩ = some u1 ∧ w'.cell? ⟨b', 2, none⟩ = some u2 ∧ w'.cell? ⟨b', 3, none⟩ = some u3 :=
  ⟨h.c0, h.c1, h.c2, h.c3, h'.c0, h'.c1, h'.c2, h'.c3⟩

set_option maxHeartbeats 4000000 in
set_option maxRecDepth 20000 in
theorem eapart (HSAME : Hid (∀ (w : World) (va vb : Value) (os ps : List NtB) (r : Bool), RdN w va os → RdN w vb ps → (os = ps ↔ r = true) → Calls Try.prog 11 #[va, vb] w fun e w' => e = .returned (.bool r) ∧ ∃ n, w' = w.drewN n)) (w : World) (a b : NtB) (k1 s1 k2 s2 : Nat) (x1 : Option Addr) (l1 c1 : Nat) (y1 : Option Addr) (m1 d1 : Nat) (x2 : Option Addr) (l2 c2 : Nat) (y2 : Option Addr) (m2 d2 : Nat) (HK : Hid (a.1.toNat = k1 ∧ a.2.1 = s1 ∧ b.1.toNat = k2 ∧ b.2.1 = s2)) (HS : Hid (a.2.1 < 18446744073709551616 ∧ b.2.1 < 18446744073709551616))
    (hx1 : Arg w (.slice x1 l1 c1) a.2.2.1) (hy1 : ArgO w (.slice y1 m1 d1) a.2.2.2) (hx2 : Arg w (.slice x2 l2 c2) b.2.2.1) (hy2 : ArgO w (.slice y2 m2 d2) b.2.2.2) :
    Calls Try.prog 5 #[.agg #[.int .u8 (k1 : Int), .int .u64 (s1 : Int), .slice x1 l1 c1, .slice y1 m1 d1], .agg #[.int .u8 (k2 : Int), .int .u64 (s2 : Int), .slice x2 l2 c2, .slice y2 m2 d2]] w fun e w' => e = .returned (.bool true) ∧ Below w.heap.size w w' := by
  have h1 : Below w.heap.size w ((w.alloc (.cells #[.int .u8 (k1 : Int), .int .u64 (s1 : Int), .slice x1 l1 c1, .slice y1 m1 d1] 26)).alloc (.cells #[.int .u8 (k2 : Int), .int .u64 (s2 : Int), .slice x2 l2 c2, .slice y2 m2 d2] 26)) := (below_box4 w (.cells #[.int .u8 (k1 : Int), .int .u64 (s1 : Int), .slice x1 l1 c1, .slice y1 m1 d1] 26)).alloc (below_box4 w (.cells #[.int .u8 (k1 : Int), .int .u64 (s1 : Int), .slice x1 l1 c1, .slice y1 m1 d1] 26)).size _
  have X1 := (box4_new w (.int .u8 (k1 : Int)) (.int .u64 (s1 : Int)) (.slice x1 l1 c1) (.slice y1 m1 d1) 26).alloc (.cells #[.int .u8 (k2 : Int), .int .u64 (s2 : Int), .slice x2 l2 c2, .slice y2 m2 d2] 26)
  have X2 := box4_new (w.alloc (.cells #[.int .u8 (k1 : Int), .int .u64 (s1 : Int), .slice x1 l1 c1, .slice y1 m1 d1] 26)) (.int .u8 (k2 : Int)) (.int .u64 (s2 : Int)) (.slice x2 l2 c2) (.slice y2 m2 d2) 26
  have eh : (w.alloc (.cells #[.int .u8 (k1 : Int), .int .u64 (s1 : Int), .slice x1 l1 c1, .slice y1 m1 d1] 26)).heap.size = w.heap.size + 1 := by simp
  rw [eh] at X2
  have HX1 : Hid (Box4 ((w.alloc (.cells #[.int .u8 (k1 : Int), .int .u64 (s1 : Int), .slice x1 l1 c1, .slice y1 m1 d1] 26)).alloc (.cells #[.int .u8 (k2 : Int), .int .u64 (s2 : Int), .slice x2 l2 c2, .slice y2 m2 d2] 26)) w.heap.size (.int .u8 (k1 : Int)) (.int .u64 (s1 : Int)) (.slice x1 l1 c1) (.slice y1 m1 d1)) := X1
  have HX2 : Hid (Box4 ((w.alloc (.cells #[.int .u8 (k1 : Int), .int .u64 (s1 : Int), .slice x1 l1 c1, .slice y1 m1 d1] 26)).alloc (.cells #[.int .u8 (k2 : Int), .int .u64 (s2 : Int), .slice x2 l2 c2, .slice y2 m2 d2] 26)) (w.heap.size + 1) (.int .u8 (k2 : Int)) (.int .u64 (s2 : Int)) (.slice x2 l2 c2) (.slice y2 m2 d2)) := X2
  have H1 : Hid (Below w.heap.size w ((w.alloc (.cells #[.int .u8 (k1 : Int), .int .u64 (s1 : Int), .slice x1 l1 c1, .slice y1 m1 d1] 26)).alloc (.cells #[.int .u8 (k2 : Int), .int .u64 (s2 : Int), .slice x2 l2 c2, .slice y2 m2 d2] 26))) := h1
  have HA1 : Hid (Arg w (.slice x1 l1 c1) a.2.2.1 ∧ ArgO w (.slice y1 m1 d1) a.2.2.2 ∧ Arg w (.slice x2 l2 c2) b.2.2.1 ∧ ArgO w (.slice y2 m2 d2) b.2.2.2) := ⟨hx1, hy1, hx2, hy2⟩
  clear h1 X1 X2 eh hx1 hy1 hx2 hy2
  go_enter Try.func5, Try.ntmps5
  go_wp2_with fail
  refine (eawake_any _).mono ?_
  rintro e w1 ⟨rfl, hb1⟩
  have HB1 : Hid (Below w.heap.size w w1) := H1.out.trans (hb1.mono H1.out.size)
  have X1 := HX1.out.below hb1 (Nat.le_refl _)
  have X2 := HX2.out.below hb1 (Nat.le_refl _)
  have ax1 := HA1.out.1.below HB1.out (Nat.le_refl _)
  have ay1 := LsO.belowA HA1.out.2.1 HB1.out (Nat.le_refl _)
  have ax2 := HA1.out.2.2.1.below HB1.out (Nat.le_refl _)
  have ay2 := LsO.belowA HA1.out.2.2.2 HB1.out (Nat.le_refl _)
  have HAA : Hid (Arg w1 (.slice x1 l1 c1) a.2.2.1 ∧ ArgO w1 (.slice y1 m1 d1) a.2.2.2 ∧ Arg w1 (.slice x2 l2 c2) b.2.2.1 ∧ ArgO w1 (.slice y2 m2 d2) b.2.2.2) := ⟨ax1, ay1, ax2, ay2⟩
  have I0 := argN_lit w1 a (.slice x1 l1 c1) (.slice y1 m1 d1) HAA.out.1 HAA.out.2.1
  rw [HK.out.1, HK.out.2.1] at I0
  have J0 := argN_lit w1 b (.slice x2 l2 c2) (.slice y2 m2 d2) HAA.out.2.2.1 HAA.out.2.2.2
  rw [HK.out.2.2.1, HK.out.2.2.2] at J0
  have J0a := argN_lit (w1.alloc (.cells #[.int .u8 (k1 : Int), .int .u64 (s1 : Int), .slice x1 l1 c1, .slice y1 m1 d1] 26)) b (.slice x2 l2 c2) (.slice y2 m2 d2) (HAA.out.2.2.1.below (below_box4 _ _) (Nat.le_refl _)) (LsO.belowA HAA.out.2.2.2 (below_box4 _ _) (Nat.le_refl _))
  rw [HK.out.2.2.1, HK.out.2.2.2] at J0a
  have I0b := argN_lit (w1.alloc (.cells #[.int .u8 (k2 : Int), .int .u64 (s2 : Int), .slice x2 l2 c2, .slice y2 m2 d2] 26)) a (.slice x1 l1 c1) (.slice y1 m1 d1) (HAA.out.1.below (below_box4 _ _) (Nat.le_refl _)) (LsO.belowA HAA.out.2.1 (below_box4 _ _) (Nat.le_refl _))
  rw [HK.out.1, HK.out.2.1] at I0b
  have ea : (w1.alloc (.cells #[.int .u8 (k1 : Int), .int .u64 (s1 : Int), .slice x1 l1 c1, .slice y1 m1 d1] 26)).heap.size = w1.heap.size + 1 := by simp
  have eb : (w1.alloc (.cells #[.int .u8 (k2 : Int), .int .u64 (s2 : Int), .slice x2 l2 c2, .slice y2 m2 d2] 26)).heap.size = w1.heap.size + 1 := by simp
  rw [ea] at J0a
  rw [eb] at I0b
  have I0q := I0.below (below_box4 _ (.cells #[.int .u8 (k2 : Int), .int .u64 (s2 : Int), .slice x2 l2 c2, .slice y2 m2 d2] 26)) (Nat.le_refl _)
  have J0q := J0.below (below_box4 _ (.cells #[.int .u8 (k1 : Int), .int .u64 (s1 : Int), .slice x1 l1 c1, .slice y1 m1 d1] 26)) (Nat.le_refl _)
  have I1 : ArgN (w1.alloc (.cells #[.int .u8 (k1 : Int), .int .u64 (s1 : Int), .slice x1 l1 c1, .slice y1 m1 d1] 26)).drew (.slice (some ⟨w1.heap.size, 0, none⟩) 1 1) [a] := I0
  have I2 : ArgN ((w1.alloc (.cells #[.int .u8 (k1 : Int), .int .u64 (s1 : Int), .slice x1 l1 c1, .slice y1 m1 d1] 26)).alloc (.cells #[.int .u8 (k2 : Int), .int .u64 (s2 : Int), .slice x2 l2 c2, .slice y2 m2 d2] 26)).drew (.slice (some ⟨w1.heap.size, 0, none⟩) 1 1) [a] := I0q
  have I3 : ArgN ((w1.alloc (.cells #[.int .u8 (k2 : Int), .int .u64 (s2 : Int), .slice x2 l2 c2, .slice y2 m2 d2] 26)).alloc (.cells #[.int .u8 (k1 : Int), .int .u64 (s1 : Int), .slice x1 l1 c1, .slice y1 m1 d1] 26)).drew (.slice (some ⟨w1.heap.size + 1, 0, none⟩) 1 1) [a] := I0b
  have J2 : ArgN ((w1.alloc (.cells #[.int .u8 (k1 : Int), .int .u64 (s1 : Int), .slice x1 l1 c1, .slice y1 m1 d1] 26)).alloc (.cells #[.int .u8 (k2 : Int), .int .u64 (s2 : Int), .slice x2 l2 c2, .slice y2 m2 d2] 26)).drew (.slice (some ⟨w1.heap.size + 1, 0, none⟩) 1 1) [b] := J0a
  have J3 : ArgN ((w1.alloc (.cells #[.int .u8 (k2 : Int), .int .u64 (s2 : Int), .slice x2 l2 c2, .slice y2 m2 d2] 26)).alloc (.cells #[.int .u8 (k1 : Int), .int .u64 (s1 : Int), .slice x1 l1 c1, .slice y1 m1 d1] 26)).drew (.slice (some ⟨w1.heap.size, 0, none⟩) 1 1) [b] := J0q
  have B1 : Below w.heap.size w (w1.alloc (.cells #[.int .u8 (k1 : Int), .int .u64 (s1 : Int), .slice x1 l1 c1, .slice y1 m1 d1] 26)).drew := (HB1.out.alloc HB1.out.size _).drew
  have B2 : Below w.heap.size w ((w1.alloc (.cells #[.int .u8 (k1 : Int), .int .u64 (s1 : Int), .slice x1 l1 c1, .slice y1 m1 d1] 26)).alloc (.cells #[.int .u8 (k2 : Int), .int .u64 (s2 : Int), .slice x2 l2 c2, .slice y2 m2 d2] 26)).drew := ((HB1.out.alloc HB1.out.size _).alloc (HB1.out.alloc HB1.out.size _).size _).drew
  have B3 : Below w.heap.size w ((w1.alloc (.cells #[.int .u8 (k2 : Int), .int .u64 (s2 : Int), .slice x2 l2 c2, .slice y2 m2 d2] 26)).alloc (.cells #[.int .u8 (k1 : Int), .int .u64 (s1 : Int), .slice x1 l1 c1, .slice y1 m1 d1] 26)).drew := ((HB1.out.alloc HB1.out.size _).alloc (HB1.out.alloc HB1.out.size _).size _).drew
  have HB0 : Hid (Arg (w1.alloc (.cells #[.int .u8 (k1 : Int), .int .u64 (s1 : Int), .slice x1 l1 c1, .slice y1 m1 d1] 26)).drew (.slice x2 l2 c2) b.2.2.1 ∧ ArgO (w1.alloc (.cells #[.int .u8 (k1 : Int), .int .u64 (s1 : Int), .slice x1 l1 c1, .slice y1 m1 d1] 26)).drew (.slice y2 m2 d2) b.2.2.2) :=
    ⟨arg_drew (HAA.out.2.2.1.below (below_box4 _ _) (Nat.le_refl _)), LsO.drewA (LsO.belowA HAA.out.2.2.2 (below_box4 _ _) (Nat.le_refl _))⟩
  clear ax1 ay1 ax2 ay2 hb1 I0 J0 J0a I0b ea eb I0q J0q
  go_wp2_with fail
  go_region_held3 (fun w' => w'.cell? ⟨w.heap.size, 0, none⟩ = some (.int .u8 (k1 : Int)) ∧ w'.cell? ⟨w.heap.size, 1, none⟩ = some (.int .u64 (s1 : Int)) ∧ w'.cell? ⟨w.heap.size, 2, none⟩ = some (.slice x1 l1 c1) ∧ w'.cell? ⟨w.heap.size, 3, none⟩ = some (.slice y1 m1 d1) ∧ w'.cell? ⟨w.heap.size + 1, 0, none⟩ = some (.int .u8 (k2 : Int)) ∧ w'.cell? ⟨w.heap.size + 1, 1, none⟩ = some (.int .u64 (s2 : Int)) ∧ w'.cell? ⟨w.heap.size + 1, 2, none⟩ = some (.slice x2 l2 c2) ∧ w'.cell? ⟨w.heap.size + 1, 3, none⟩ = some (.slice y2 m2 d2))
    (first | with_reducible exact eight X1 X2 | with_reducible exact eight X1.drew X2.drew | with_reducible exact eight (X1.alloc _) (X2.alloc _) | with_reducible exact eight (X1.alloc _).drew (X2.alloc _).drew | with_reducible exact eight ((X1.alloc _).alloc _) ((X2.alloc _).alloc _) | with_reducible exact eight ((X1.alloc _).alloc _).drew ((X2.alloc _).alloc _).drew | with_reducible exact eight E1 E2 | with_reducible exact eight (E1.alloc _) (E2.alloc _) | with_reducible exact eight G1 G2 | fail)
    (first
      | (go_at_call 7; refine (fewnt_any _ _ [a] 1 (by with_reducible exact I1) (by decide)).mono ?_; rintro e wa ⟨xa, rfl, oa', hba⟩; rw [few_one] at oa'; obtain ⟨ga, ca, na1, nl1, nc1, oa1, ol1, oc1, rfl, _⟩ := ntrow_one oa'; have E1 := ((X1.alloc _).drew).below hba (Nat.le_refl _); have E2 := ((X2.alloc _).drew).below hba (Nat.le_refl _); have HWA : Hid (Below w.heap.size w wa ∧ OwnNt w.heap.size wa (.slice (some ⟨ga, 0, none⟩) 1 ca) [cutN a]) := ⟨B1.trans (hba.mono B1.size), oa'.mono B1.size⟩; have RJ := argN_lit wa b (.slice x2 l2 c2) (.slice y2 m2 d2) (HB0.out.1.below hba (Nat.le_refl _)) (LsO.belowA HB0.out.2 hba (Nat.le_refl _)); rw [HK.out.2.2.1, HK.out.2.2.2] at RJ; clear oa' hba I1 I2 I3)
      | (go_at_call 7; refine (fewnt_any _ _ [a] 1 (by with_reducible exact I2) (by decide)).mono ?_; rintro e wa ⟨xa, rfl, oa', hba⟩; rw [few_one] at oa'; obtain ⟨ga, ca, na1, nl1, nc1, oa1, ol1, oc1, rfl, _⟩ := ntrow_one oa'; have E1 := (((X1.alloc _).alloc _).drew).below hba (Nat.le_refl _); have E2 := (((X2.alloc _).alloc _).drew).below hba (Nat.le_refl _); have HWA : Hid (Below w.heap.size w wa ∧ OwnNt w.heap.size wa (.slice (some ⟨ga, 0, none⟩) 1 ca) [cutN a]) := ⟨B2.trans (hba.mono B2.size), oa'.mono B2.size⟩; have J2a := J2.below hba (Nat.le_refl _); clear oa' hba I1 I2 I3)
      | (go_at_call 7; refine (fewnt_any _ _ [a] 1 (by with_reducible exact I3) (by decide)).mono ?_; rintro e wa ⟨xa, rfl, oa', hba⟩; rw [few_one] at oa'; obtain ⟨ga, ca, na1, nl1, nc1, oa1, ol1, oc1, rfl, _⟩ := ntrow_one oa'; have E1 := (((X1.alloc _).alloc _).drew).below hba (Nat.le_refl _); have E2 := (((X2.alloc _).alloc _).drew).below hba (Nat.le_refl _); have HWA : Hid (Below w.heap.size w wa ∧ OwnNt w.heap.size wa (.slice (some ⟨ga, 0, none⟩) 1 ca) [cutN a]) := ⟨B3.trans (hba.mono B3.size), oa'.mono B3.size⟩; have J3a := J3.below hba (Nat.le_refl _); clear oa' hba I1 I2 I3)
      | (go_at_call 7; refine (fewnt_any _ _ [b] 1 (by with_reducible exact RJ) (by decide)).mono ?_; rintro e wb ⟨xb, rfl, ob', hbb⟩; rw [few_one] at ob'; obtain ⟨gb, cb, nb1, nlb, ncb, ob1, olb, ocb, rfl, _⟩ := ntrow_one ob'; have G1 := (E1.alloc _).below hbb (Nat.le_refl _); have G2 := (E2.alloc _).below hbb (Nat.le_refl _); have HWB : Hid (Below w.heap.size w wb ∧ OwnNt w.heap.size wb (.slice (some ⟨ga, 0, none⟩) 1 ca) [cutN a] ∧ OwnNt w.heap.size wb (.slice (some ⟨gb, 0, none⟩) 1 cb) [cutN b]) := ⟨(HWA.out.1.alloc HWA.out.1.size _).trans (hbb.mono (HWA.out.1.alloc HWA.out.1.size _).size), (HWA.out.2.below (below_box4 _ _) (Nat.le_refl _)).below hbb (Nat.le_refl _), ob'.mono (HWA.out.1.alloc HWA.out.1.size _).size⟩; clear ob' hbb)
      | (go_at_call 7; refine (fewnt_any _ _ [b] 1 (by with_reducible exact J2a) (by decide)).mono ?_; rintro e wb ⟨xb, rfl, ob', hbb⟩; rw [few_one] at ob'; obtain ⟨gb, cb, nb1, nlb, ncb, ob1, olb, ocb, rfl, _⟩ := ntrow_one ob'; have G1 := (E1).below hbb (Nat.le_refl _); have G2 := (E2).below hbb (Nat.le_refl _); have HWB : Hid (Below w.heap.size w wb ∧ OwnNt w.heap.size wb (.slice (some ⟨ga, 0, none⟩) 1 ca) [cutN a] ∧ OwnNt w.heap.size wb (.slice (some ⟨gb, 0, none⟩) 1 cb) [cutN b]) := ⟨HWA.out.1.trans (hbb.mono HWA.out.1.size), HWA.out.2.below hbb (Nat.le_refl _), ob'.mono HWA.out.1.size⟩; clear ob' hbb)
      | (go_at_call 7; refine (fewnt_any _ _ [b] 1 (by with_reducible exact J3a) (by decide)).mono ?_; rintro e wb ⟨xb, rfl, ob', hbb⟩; rw [few_one] at ob'; obtain ⟨gb, cb, nb1, nlb, ncb, ob1, olb, ocb, rfl, _⟩ := ntrow_one ob'; have G1 := (E1).below hbb (Nat.le_refl _); have G2 := (E2).below hbb (Nat.le_refl _); have HWB : Hid (Below w.heap.size w wb ∧ OwnNt w.heap.size wb (.slice (some ⟨ga, 0, none⟩) 1 ca) [cutN a] ∧ OwnNt w.heap.size wb (.slice (some ⟨gb, 0, none⟩) 1 cb) [cutN b]) := ⟨HWA.out.1.trans (hbb.mono HWA.out.1.size), HWA.out.2.below hbb (Nat.le_refl _), ob'.mono HWA.out.1.size⟩; clear ob' hbb)
      | fail)
  all_goals
    clear G1 G2 E1 E2 HWA
    obtain ⟨_, _, pa, pl, pc, qa, ql, qc, ev, hca, p0, p1, p2, p3, rn1, ro1⟩ := ntrow_one HWB.out.2.1
    cases ev
    obtain ⟨_, _, ra, rl, rc, ta, tl, tc, ev, hcb, q0, q1, q2, q3, rn2, ro2⟩ := ntrow_one HWB.out.2.2
    cases ev
    have ek1 : (cutN a).1.toNat = k1 := HK.out.1
    have es1 : (cutN a).2.1 = s1 := HK.out.2.1
    have ek2 : (cutN b).1.toNat = k2 := HK.out.2.2.1
    have es2 : (cutN b).2.1 = s2 := HK.out.2.2.2
    have heb := ebytes_any wb (cutN a) pa pl pc qa ql qc HS.out.1 rn1 (Nat.le_trans (List.length_take_le _ _) (by decide)) ro1 (Nat.le_trans (fewO_size _) (by decide))
    rw [ek1, es1] at heb
    rw [ek1] at p0
    rw [es1] at p1
    have HE : Hid ((cutN a).1.toNat = k1 ∧ (cutN a).2.1 = s1 ∧ (cutN b).1.toNat = k2 ∧ (cutN b).2.1 = s2) := ⟨ek1, es1, ek2, es2⟩
    have HR2 : Hid (OwnNt w.heap.size wb (.slice (some ⟨ga, 0, none⟩) 1 ca) [cutN a] ∧ OwnNt w.heap.size wb (.slice (some ⟨gb, 0, none⟩) 1 cb) [cutN b]) := HWB.out.2
    clear ek1 es1 ek2 es2 rn1 ro1 rn2 ro2 q0 q1 q2 q3 hcb
    go_wp2_with fail
    refine heb.mono ?_
    rintro e w2 ⟨hb2, hres⟩
    clear heb p0 p1 p2 p3
    obtain ⟨_, _, ra2, rl2, rc2, ta2, tl2, tc2, ev, hcb, q0, q1, q2, q3, rn2, ro2⟩ := ntrow_one (HR2.out.2.below hb2 (Nat.le_refl _))
    cases ev
    have heb2 := ebytes_any w2 (cutN b) ra2 rl2 rc2 ta2 tl2 tc2 HS.out.2 rn2 (Nat.le_trans (List.length_take_le _ _) (by decide)) ro2 (Nat.le_trans (fewO_size _) (by decide))
    rw [HE.out.2.2.1, HE.out.2.2.2] at heb2
    rw [HE.out.2.2.1] at q0
    rw [HE.out.2.2.2] at q1
    have HB2 : Hid (Below w.heap.size w w2) := HWB.out.1.trans (hb2.mono HWB.out.1.size)
    have HRA : Hid (OwnNt w.heap.size w2 (.slice (some ⟨ga, 0, none⟩) 1 ca) [cutN a]) := HR2.out.1.below hb2 (Nat.le_refl _)
    have HRB : Hid (OwnNt w.heap.size w2 (.slice (some ⟨gb, 0, none⟩) 1 cb) [cutN b]) := HR2.out.2.below hb2 (Nat.le_refl _)
    rcases hres with ⟨y, rfl, oy, hch⟩ | rfl
    · obtain ⟨gy, ky, rfl⟩ := oy.shape
      obtain ⟨N1, hN1⟩ : ∃ N1, noteB (cutN a).1.toNat (cutN a).2.1 (cutN a).2.2.1 (cutN a).2.2.2 = N1 := ⟨_, rfl⟩
      rw [hN1] at oy ⊢
      have HN1 : Hid (noteB (cutN a).1.toNat (cutN a).2.1 (cutN a).2.2.1 (cutN a).2.2.2 = N1 ∧ chkL (cutN a).2.2.2 = 0) := ⟨hN1, hch⟩
      have HOY : Hid (Own wb.heap.size w2 (.slice (some ⟨gy, 0, none⟩) N1.length ky) N1) := oy
      clear oy hch hN1 hb2 rn2 ro2
      go_wp2_with fail
      refine heb2.mono ?_
      rintro e w3 ⟨hb3, hres⟩
      have HB3 : Hid (Below w.heap.size w w3) := HB2.out.trans (hb3.mono HB2.out.size)
      rcases hres with ⟨y2', rfl, oy2, hch2⟩ | rfl
      · obtain ⟨gy2, ky2, rfl⟩ := oy2.shape
        obtain ⟨N2, hN2⟩ : ∃ N2, noteB (cutN b).1.toNat (cutN b).2.1 (cutN b).2.2.1 (cutN b).2.2.2 = N2 := ⟨_, rfl⟩
        rw [hN2] at oy2 ⊢
        obtain ⟨r, hr⟩ : ∃ r, (N1 == N2) = r := ⟨_, rfl⟩
        have hiff : [cutN a] = [cutN b] ↔ r = true := by
          rw [← hr, beq_iff_eq]
          constructor
          · intro h
            have h9 : cutN a = cutN b := by simpa using h
            rw [← HN1.out.1, ← hN2, h9]
          · intro h
            rw [← HN1.out.1, ← hN2] at h
            obtain ⟨g1, g2, g3, g4⟩ := noteB_inj (cutN a).1.toNat_lt (cutN b).1.toNat_lt HS.out.1 HS.out.2 (Nat.le_trans (List.length_take_le _ _) (by decide)) (Nat.le_trans (List.length_take_le _ _) (by decide)) HN1.out.2 hch2 h
            have h9 : cutN a = cutN b := by
              refine Prod.ext (UInt8.toNat_inj.1 g1) (Prod.ext g2 (Prod.ext g3 g4))
            rw [h9]
        have hs1 := same_b w3 _ _ N1 N2 r (HOY.out.rd.below hb3 (Nat.le_refl _)) oy2.rd hr
        have hs2 := HSAME.out w3 _ _ [cutN a] [cutN b] r (HRA.out.below hb3 (Nat.le_refl _)).rd (HRB.out.below hb3 (Nat.le_refl _)).rd hiff
        clear hb3 oy2 hch2 hN2 hr hiff heb2 q0 q1 q2 q3
        cases r
        all_goals
          go_wp2_with fail
          refine hs1.mono ?_
          rintro e w4 ⟨rfl, rfl⟩
          clear hs1
          go_wp2_with fail
          refine hs2.mono ?_
          rintro e w5 ⟨rfl, n5, hw5⟩
          have HB5 : Hid (Below w.heap.size w w5) := by rw [hw5]; exact below_drewN HB3.out _
          clear hs2 hw5
          go_wp2
          go_ret
          exact ⟨rfl, HB5.out⟩
      · clear hb3 heb2 q0 q1 q2 q3
        go_wp2
        go_ret
        exact ⟨rfl, HB3.out⟩
    · clear hb2 rn2 ro2
      go_wp2_with fail
      refine heb2.mono ?_
      rintro e w3 ⟨hb3, hres⟩
      have HB3 : Hid (Below w.heap.size w w3) := HB2.out.trans (hb3.mono HB2.out.size)
      clear hb3 heb2 q0 q1 q2 q3
      rcases hres with ⟨y2', rfl, oy2, _⟩ | rfl
      · obtain ⟨gy2, ky2, rfl⟩ := oy2.shape
        go_wp2
        go_ret
        exact ⟨rfl, HB3.out⟩
      · go_wp2
        go_ret
        exact ⟨rfl, HB3.out⟩

theorem entryApart_walk (k0 : UInt8) (s0 : Nat) (l0 : List UInt8) (os0 : List OpB) (x0 y0 : Value) (k1 : UInt8) (s1 : Nat) (l1 : List UInt8) (os1 : List OpB) (x1 y1 : Value) (w : World)
    (hs0 : s0 < 18446744073709551616) (ax0 : Arg w x0 l0) (ay0 : ArgO w y0 os0) (hs1 : s1 < 18446744073709551616) (ax1 : Arg w x1 l1) (ay1 : ArgO w y1 os1) :
    Calls Try.prog 5 #[.agg #[.int .u8 (k0.toNat : Int), .int .u64 (s0 : Int), x0, y0], .agg #[.int .u8 (k1.toNat : Int), .int .u64 (s1 : Int), x1, y1]] w fun e w' => e = .returned (.bool true) ∧ Below w.heap.size w w' := by
  obtain ⟨a0, c0, rfl⟩ := Arg.shape ax0
  obtain ⟨a1, c1, rfl⟩ := Arg.shape ax1
  obtain ⟨b0, d0, rfl⟩ := argO_shape ay0
  obtain ⟨b1, d1, rfl⟩ := argO_shape ay1
  exact eapart sament_any w (k0, s0, l0, os0) (k1, s1, l1, os1) k0.toNat s0 k1.toNat s1 a0 l0.length c0 b0 os0.length d0 a1 l1.length c1 b1 os1.length d1 ⟨rfl, rfl, rfl, rfl⟩ ⟨hs0, hs1⟩ ax0 ay0 ax1 ay1

end Go.Proofs.Ytafnnkiobdgmdaa
