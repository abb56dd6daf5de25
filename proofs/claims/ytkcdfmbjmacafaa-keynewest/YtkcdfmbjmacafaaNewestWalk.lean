/- KeyNewest answers true: of the versions of one key that are right the newest that is seen stands first of those that don't stand ahead of where one looks. -/
import Derived.Test.YtkcdfmbjmacafaaKeyAwake
import Derived.Test.YtkcdfmbjmacafaaKeyArg
import Derived.Test.YtkcdfmbjmacafaaKeyUpto
import Derived.Deep.RegionHeld3
import Derived.Deep.LoopGhost
namespace Go.Proofs.Ytkcdfmbjmacafaa
open Go.RowKit

/-- the numbers that came in, one by one -/
def Nums64 (w : World) (ao : Option Addr) (len : Nat) : Prop := ∀ j, j < len → ∃ b off s, ao = some ⟨b, off, none⟩ ∧ w.cell? ⟨b, off + j, none⟩ = some (.int .u64 s) ∧ 0 ≤ s ∧ s ≤ 18446744073709551615

theorem nums64_of {w : World} {a : Option Addr} {len cap : Nat} {zs : List Int} (h : IsRow .u64 w a len cap zs) : Nums64 w a len := by
  intro j hj
  rcases h with ⟨_, rfl, _⟩ | ⟨x, rfl, hl, hm, hz, hc, hw⟩
  · omega
  · have hjz : j < zs.length := by omega
    have hcj := hc j hjz
    obtain ⟨b, off, spot⟩ := x
    have hc0 := hc 0 (by omega)
    have hspot : spot = none := by simpa [Addr.add] using World.cell?_spot hc0
    subst hspot
    have hb := bounds_u64 (hw zs[j] (List.getElem_mem hjz))
    refine ⟨b, off, zs[j], rfl, ?_, hb.1, hb.2⟩
    rw [Addr.add_lit] at hcj
    rw [hcj]
    simp [List.getD, hjz]

theorem Nums64.below {B : Nat} {w w' : World} {ao : Option Addr} {len : Nat} (h : Nums64 w ao len) (hb : Below B w w') (hB : w.heap.size ≤ B) : Nums64 w' ao len := by
  intro j hj
  obtain ⟨b, off, s, e, hc, h0, h1⟩ := h j hj
  refine ⟨b, off, s, e, ?_, h0, h1⟩
  rw [hb.cell (p := ⟨b, off + j, none⟩) (Nat.lt_of_lt_of_le (World.block_lt_of_cell? w _ hc) hB)]
  exact hc

theorem Nums64.drew {w : World} {ao : Option Addr} {len : Nat} (h : Nums64 w ao len) : Nums64 w.drew ao len := h

theorem cmpK_same (l : List UInt8) (s t : Int) : Mth.cmpK l s 2 l t 2 = (if t < s then -1 else if s < t then 1 else 0) := by
  unfold Mth.cmpK
  rw [Mth.cmp_zero.2 rfl]
  simp

/-- what has been found so far: nothing; or a version, as new as it is said -/
def Best (w : World) (m : Int) (u : Value) (bv nv sv : Value) : Prop :=
  (bv = .pointer none ∧ nv = .int .u64 0 ∧ sv = .bool false) ∨ ∃ b n, bv = .pointer (some ⟨b, 0, none⟩) ∧ nv = .int .u64 n ∧ sv = .bool true ∧ 0 ≤ n ∧ n ≤ m ∧ Box w b u (.int .u64 n) (.int .u8 2)

theorem Best.below {B : Nat} {w w' : World} {m : Int} {u bv nv sv : Value} (h : Best w m u bv nv sv) (hb : Below B w w') (hB : w.heap.size ≤ B) : Best w' m u bv nv sv := by
  rcases h with h | ⟨b, n, h1, h2, h3, h4, h5, h6⟩
  · exact .inl h
  · exact .inr ⟨b, n, h1, h2, h3, h4, h5, h6.below hb hB⟩

set_option maxHeartbeats 4000000 in
set_option maxRecDepth 100000 in
theorem newest_walk (w : World) (vu : Value) (lu cu : List UInt8) (CU : Hid (lu.take 64 = cu)) (hcu : cu.length ≤ 64) (ao : Option Addr) (len cap : Nat) (q : Int) (hcap : len ≤ 9223372036854775807) (hu : Arg w vu lu) (hn : Nums64 w ao len) :
    Calls Try.prog 8 #[vu, .slice ao len cap, .int .u64 q] w fun e w' => e = .returned (.bool true) ∧ Below w.heap.size w w' := by
  obtain ⟨m, hm⟩ : ∃ m, min q 72057594037927935 = m := ⟨_, rfl⟩
  have HM : Hid _ := hm
  clear hm
  go_enter Try.func8, Try.ntmps8
  go_wp2_with fail
  refine (kawake_any _).mono ?_
  rintro e w1 ⟨rfl, hb⟩
  have hu1 := hu.below hb (Nat.le_refl _)
  have hB := hb
  go_wp2_with fail
  clear hb
  refine (cut_any _ _ lu 64 hu1 (by omega)).mono ?_
  rintro e w2 ⟨x, rfl, ox, hb⟩
  rw [CU.out] at ox
  obtain ⟨gx, kx, hx⟩ := ox.shape
  subst hx
  have ru := ox.rd
  replace hB := hB.trans (hb.mono hB.size)
  clear hb ox hu1
  go_wp2_with fail
  refine (upto_any _ _ cu q m ru.arg (by omega) HM.out).mono ?_
  rintro e w3 ⟨a3, k3, rfl, r3, hb⟩
  replace ru := ru.below hb (Nat.le_refl _)
  replace hB := hB.trans (hb.mono hB.size)
  have hba := below_box w3 #[.slice a3 cu.length k3, .int .u64 m, .int .u8 2] 25
  have b3 := box_new w3 (.slice a3 cu.length k3) (.int .u64 m) (.int .u8 2) 25
  have r3a := r3.below hba (Nat.le_refl _)
  have rua := ru.below hba (Nat.le_refl _)
  have hBa := hB.trans (hba.mono hB.size)
  obtain ⟨L, hL⟩ : ∃ L, w3.heap.size = L := ⟨_, rfl⟩
  rw [hL] at b3
  have hna := hn.below hBa (Nat.le_refl _)
  clear hb hba r3 ru hB hn hu
  go_wp2_with fail
  clear hL
  go_loopg [8, 9, 10, 23] len (fun gk bv nv sv iv wr => ∃ j : Nat, j ≤ len ∧ j ≤ 20 ∧ gk + j = len ∧ iv = .int .i64 (j : Int) ∧ Below w.heap.size w wr ∧ Best wr m (.slice (some ⟨gx, 0, none⟩) cu.length kx) bv nv sv ∧ Box wr L (.slice a3 cu.length k3) (.int .u64 m) (.int .u8 2) ∧ Rd wr (.slice a3 cu.length k3) cu ∧ Rd wr (.slice (some ⟨gx, 0, none⟩) cu.length kx) cu ∧ Nums64 wr ao len)
  case atStart => exact ⟨0, Nat.zero_le _, by omega, rfl, rfl, hBa, .inl ⟨rfl, rfl, rfl⟩, b3, r3a, rua, hna⟩
  case round =>
    clear hBa b3 r3a rua hna
    obtain ⟨j, hj, hj20, hgk, rfl, hB, hbest, hlook, rl, ru, hnums⟩ := hrel
    by_cases hlt : j < len
    · by_cases h20 : j < 20
      · obtain ⟨b, off, z, rfl, hcell, hz0, hz1⟩ := hnums j hlt
        obtain ⟨s, hs⟩ : ∃ s, z.tmod 72057594037927936 = s := ⟨_, rfl⟩
        have hs' := hs
        rw [Int.tmod_eq_emod_of_nonneg hz0] at hs'
        have hs0 : 0 ≤ s := by omega
        have hs1 : s ≤ 72057594037927935 := by omega
        clear hs'
        have hk := box_new wr (.slice (some ⟨gx, 0, none⟩) cu.length kx) (.int .u64 s) (.int .u8 2) 25
        have hba := below_box wr #[.slice (some ⟨gx, 0, none⟩) cu.length kx, .int .u64 s, .int .u8 2] 25
        have hlook2 := hlook.below hba (Nat.le_refl _)
        have rl2 := rl.below hba (Nat.le_refl _)
        have ru2 := ru.below hba (Nat.le_refl _)
        have hbest2 := hbest.below hba (Nat.le_refl _)
        have hB2 := hB.trans (hba.mono hB.size)
        have hnums2 := hnums.below hba (Nat.le_refl _)
        clear hnums hlook rl ru hbest hB hba hz0 hz1
        rcases hbest2 with ⟨rfl, rfl, rfl⟩ | ⟨bb, n, rfl, rfl, rfl, hn0, hnm, hbx⟩
        · by_cases hsm : s ≤ m
          · obtain ⟨r, hr⟩ : ∃ r, Mth.cmpK cu s 2 cu m 2 = r := ⟨_, rfl⟩
            have hrs : 0 ≤ r := by rw [cmpK_same] at hr; (repeat' split at hr) <;> omega
            have HR : Hid _ := hr
            clear hr
            have hsq : s ≤ q := by have := HM.out; omega
            go_wp2_with fail
            have hkc0 := hk.c0; have hkc1 := hk.c1; have hkc2 := hk.c2
            have hlook2c0 := hlook2.c0; have hlook2c1 := hlook2.c1; have hlook2c2 := hlook2.c2
            have hund : undef = Value.tuple #[] := rfl
            first | (go_region_with
              (first | (go_at_call_of 12 (Value.agg #[.slice a3 cu.length k3, .int .u64 m, .int .u8 2]); refine (compare_any _ _ _ cu cu s 2 m 2 r (by exact ru2.drew) (by exact rl2.drew) HR.out).mono ?_; rintro e wa ⟨rfl, hba⟩; have hka := hk.drew.below hba (Nat.le_refl _); have hlook2a := hlook2.drew.below hba (Nat.le_refl _); have ru2a := ru2.drew.below hba (Nat.le_refl _); have rl2a := rl2.drew.below hba (Nat.le_refl _); have hB2a := (hB2.drew).trans (hba.mono hB2.size); have hnums2a := hnums2.drew.below hba (Nat.le_refl _)))) | fail
            all_goals
              clear hund
              have kc1 := hka.c1
              go_wp2
              go_roundg (gk - 1)
              case rel => exact ⟨j + 1, by omega, by omega, by omega, by go_num, hB2a, .inr ⟨wr.heap.size, s, rfl, rfl, rfl, hs0, by omega, hka⟩, hlook2a, rl2a, ru2a, hnums2a⟩
              case measure => omega
          · obtain ⟨r, hr⟩ : ∃ r, Mth.cmpK cu s 2 cu m 2 = r := ⟨_, rfl⟩
            obtain rfl : r = -1 := by rw [cmpK_same] at hr; (repeat' split at hr) <;> omega
            have HR : Hid _ := hr
            clear hr
            have hsq : q < s := by have := HM.out; omega
            go_wp2_with fail
            have hkc0 := hk.c0; have hkc1 := hk.c1; have hkc2 := hk.c2
            have hlook2c0 := hlook2.c0; have hlook2c1 := hlook2.c1; have hlook2c2 := hlook2.c2
            have hund : undef = Value.tuple #[] := rfl
            first | (go_region_with
              (first | (go_at_call_of 12 (Value.agg #[.slice a3 cu.length k3, .int .u64 m, .int .u8 2]); refine (compare_any _ _ _ cu cu s 2 m 2 (-1) (by exact ru2.drew) (by exact rl2.drew) HR.out).mono ?_; rintro e wa ⟨rfl, hba⟩; have hka := hk.drew.below hba (Nat.le_refl _); have hlook2a := hlook2.drew.below hba (Nat.le_refl _); have ru2a := ru2.drew.below hba (Nat.le_refl _); have rl2a := rl2.drew.below hba (Nat.le_refl _); have hB2a := (hB2.drew).trans (hba.mono hB2.size); have hnums2a := hnums2.drew.below hba (Nat.le_refl _)))) | fail
            all_goals
              clear hund
              have kc1 := hka.c1
              go_wp2
              go_roundg (gk - 1)
              case rel => exact ⟨j + 1, by omega, by omega, by omega, by go_num, hB2a, .inl ⟨rfl, rfl, rfl⟩, hlook2a, rl2a, ru2a, hnums2a⟩
              case measure => omega
        · by_cases hsm : s ≤ m
          · by_cases hns : n < s
            · obtain ⟨r, hr⟩ : ∃ r, Mth.cmpK cu s 2 cu m 2 = r := ⟨_, rfl⟩
              have hrs : 0 ≤ r := by rw [cmpK_same] at hr; (repeat' split at hr) <;> omega
              have HR : Hid _ := hr
              clear hr
              obtain ⟨r', hr'⟩ : ∃ r, Mth.cmpK cu s 2 cu n 2 = r := ⟨_, rfl⟩
              have hrs' : r' < 0 := by rw [cmpK_same] at hr'; (repeat' split at hr') <;> omega
              have HR' : Hid _ := hr'
              clear hr'
              have hsq : s ≤ q := by have := HM.out; omega
              go_wp2_with fail
              go_region_held3 (fun w' => w'.cell? ⟨wr.heap.size, 0, none⟩ = some (.slice (some ⟨gx, 0, none⟩) cu.length kx) ∧ w'.cell? ⟨wr.heap.size, 1, none⟩ = some (.int .u64 s) ∧ w'.cell? ⟨wr.heap.size, 2, none⟩ = some (.int .u8 2) ∧ w'.cell? ⟨L, 0, none⟩ = some (.slice a3 cu.length k3) ∧ w'.cell? ⟨L, 1, none⟩ = some (.int .u64 m) ∧ w'.cell? ⟨L, 2, none⟩ = some (.int .u8 2) ∧ w'.cell? ⟨bb, 0, none⟩ = some (.slice (some ⟨gx, 0, none⟩) cu.length kx) ∧ w'.cell? ⟨bb, 1, none⟩ = some (.int .u64 n) ∧ w'.cell? ⟨bb, 2, none⟩ = some (.int .u8 2))
                (first | exact ⟨hkb.c0, hkb.c1, hkb.c2, hlook2b.c0, hlook2b.c1, hlook2b.c2, hbxb.c0, hbxb.c1, hbxb.c2⟩ | exact ⟨hka.c0, hka.c1, hka.c2, hlook2a.c0, hlook2a.c1, hlook2a.c2, hbxa.c0, hbxa.c1, hbxa.c2⟩ | exact ⟨hk.c0, hk.c1, hk.c2, hlook2.c0, hlook2.c1, hlook2.c2, hbx.c0, hbx.c1, hbx.c2⟩)
                (first | (go_at_call_of 12 (Value.agg #[.slice a3 cu.length k3, .int .u64 m, .int .u8 2]); refine (compare_any _ _ _ cu cu s 2 m 2 r (by exact ru2.drew) (by exact rl2.drew) HR.out).mono ?_; rintro e wa ⟨rfl, hba⟩; have hka := hk.drew.below hba (Nat.le_refl _); have hlook2a := hlook2.drew.below hba (Nat.le_refl _); have hbxa := hbx.drew.below hba (Nat.le_refl _); have ru2a := ru2.drew.below hba (Nat.le_refl _); have rl2a := rl2.drew.below hba (Nat.le_refl _); have hB2a := (hB2.drew).trans (hba.mono hB2.size); have hnums2a := hnums2.drew.below hba (Nat.le_refl _)) | (go_at_call_of 12 (Value.agg #[(.slice (some ⟨gx, 0, none⟩) cu.length kx), .int .u64 n, .int .u8 2]); refine (compare_any _ _ _ cu cu s 2 n 2 r' (by exact ru2a) (by exact ru2a) HR'.out).mono ?_; rintro e wb ⟨rfl, hbb⟩; have hkb := hka.below hbb (Nat.le_refl _); have hlook2b := hlook2a.below hbb (Nat.le_refl _); have hbxb := hbxa.below hbb (Nat.le_refl _); have ru2b := ru2a.below hbb (Nat.le_refl _); have rl2b := rl2a.below hbb (Nat.le_refl _); have hB2b := hB2a.trans (hbb.mono hB2a.size); have hnums2b := hnums2a.below hbb (Nat.le_refl _)))
              have kc1 := hkb.c1
              go_wp2
              go_roundg (gk - 1)
              case rel => exact ⟨j + 1, by omega, by omega, by omega, by go_num, hB2b, .inr ⟨wr.heap.size, s, rfl, rfl, rfl, hs0, by omega, hkb⟩, hlook2b, rl2b, ru2b, hnums2b⟩
              case measure => omega
            · obtain ⟨r, hr⟩ : ∃ r, Mth.cmpK cu s 2 cu m 2 = r := ⟨_, rfl⟩
              have hrs : 0 ≤ r := by rw [cmpK_same] at hr; (repeat' split at hr) <;> omega
              have HR : Hid _ := hr
              clear hr
              obtain ⟨r', hr'⟩ : ∃ r, Mth.cmpK cu s 2 cu n 2 = r := ⟨_, rfl⟩
              have hrs' : 0 ≤ r' := by rw [cmpK_same] at hr'; (repeat' split at hr') <;> omega
              have HR' : Hid _ := hr'
              clear hr'
              have hsq : s ≤ q := by have := HM.out; omega
              go_wp2_with fail
              go_region_held3 (fun w' => w'.cell? ⟨wr.heap.size, 0, none⟩ = some (.slice (some ⟨gx, 0, none⟩) cu.length kx) ∧ w'.cell? ⟨wr.heap.size, 1, none⟩ = some (.int .u64 s) ∧ w'.cell? ⟨wr.heap.size, 2, none⟩ = some (.int .u8 2) ∧ w'.cell? ⟨L, 0, none⟩ = some (.slice a3 cu.length k3) ∧ w'.cell? ⟨L, 1, none⟩ = some (.int .u64 m) ∧ w'.cell? ⟨L, 2, none⟩ = some (.int .u8 2) ∧ w'.cell? ⟨bb, 0, none⟩ = some (.slice (some ⟨gx, 0, none⟩) cu.length kx) ∧ w'.cell? ⟨bb, 1, none⟩ = some (.int .u64 n) ∧ w'.cell? ⟨bb, 2, none⟩ = some (.int .u8 2))
                (first | exact ⟨hkb.c0, hkb.c1, hkb.c2, hlook2b.c0, hlook2b.c1, hlook2b.c2, hbxb.c0, hbxb.c1, hbxb.c2⟩ | exact ⟨hka.c0, hka.c1, hka.c2, hlook2a.c0, hlook2a.c1, hlook2a.c2, hbxa.c0, hbxa.c1, hbxa.c2⟩ | exact ⟨hk.c0, hk.c1, hk.c2, hlook2.c0, hlook2.c1, hlook2.c2, hbx.c0, hbx.c1, hbx.c2⟩)
                (first | (go_at_call_of 12 (Value.agg #[.slice a3 cu.length k3, .int .u64 m, .int .u8 2]); refine (compare_any _ _ _ cu cu s 2 m 2 r (by exact ru2.drew) (by exact rl2.drew) HR.out).mono ?_; rintro e wa ⟨rfl, hba⟩; have hka := hk.drew.below hba (Nat.le_refl _); have hlook2a := hlook2.drew.below hba (Nat.le_refl _); have hbxa := hbx.drew.below hba (Nat.le_refl _); have ru2a := ru2.drew.below hba (Nat.le_refl _); have rl2a := rl2.drew.below hba (Nat.le_refl _); have hB2a := (hB2.drew).trans (hba.mono hB2.size); have hnums2a := hnums2.drew.below hba (Nat.le_refl _)) | (go_at_call_of 12 (Value.agg #[(.slice (some ⟨gx, 0, none⟩) cu.length kx), .int .u64 n, .int .u8 2]); refine (compare_any _ _ _ cu cu s 2 n 2 r' (by exact ru2a) (by exact ru2a) HR'.out).mono ?_; rintro e wb ⟨rfl, hbb⟩; have hkb := hka.below hbb (Nat.le_refl _); have hlook2b := hlook2a.below hbb (Nat.le_refl _); have hbxb := hbxa.below hbb (Nat.le_refl _); have ru2b := ru2a.below hbb (Nat.le_refl _); have rl2b := rl2a.below hbb (Nat.le_refl _); have hB2b := hB2a.trans (hbb.mono hB2a.size); have hnums2b := hnums2a.below hbb (Nat.le_refl _)))
              have kc1 := hkb.c1
              go_wp2
              go_roundg (gk - 1)
              case rel => exact ⟨j + 1, by omega, by omega, by omega, by go_num, hB2b, .inr ⟨bb, n, rfl, rfl, rfl, hn0, hnm, hbxb⟩, hlook2b, rl2b, ru2b, hnums2b⟩
              case measure => omega
          · obtain ⟨r, hr⟩ : ∃ r, Mth.cmpK cu s 2 cu m 2 = r := ⟨_, rfl⟩
            obtain rfl : r = -1 := by rw [cmpK_same] at hr; (repeat' split at hr) <;> omega
            have HR : Hid _ := hr
            clear hr
            have hsq : q < s := by have := HM.out; omega
            go_wp2_with fail
            have hkc0 := hk.c0; have hkc1 := hk.c1; have hkc2 := hk.c2
            have hlook2c0 := hlook2.c0; have hlook2c1 := hlook2.c1; have hlook2c2 := hlook2.c2
            have hund : undef = Value.tuple #[] := rfl
            first | (go_region_with
              (first | (go_at_call_of 12 (Value.agg #[.slice a3 cu.length k3, .int .u64 m, .int .u8 2]); refine (compare_any _ _ _ cu cu s 2 m 2 (-1) (by exact ru2.drew) (by exact rl2.drew) HR.out).mono ?_; rintro e wa ⟨rfl, hba⟩; have hka := hk.drew.below hba (Nat.le_refl _); have hlook2a := hlook2.drew.below hba (Nat.le_refl _); have hbxa := hbx.drew.below hba (Nat.le_refl _); have ru2a := ru2.drew.below hba (Nat.le_refl _); have rl2a := rl2.drew.below hba (Nat.le_refl _); have hB2a := (hB2.drew).trans (hba.mono hB2.size); have hnums2a := hnums2.drew.below hba (Nat.le_refl _)))) | fail
            all_goals
              clear hund
              have kc1 := hka.c1
              go_wp2
              go_roundg (gk - 1)
              case rel => exact ⟨j + 1, by omega, by omega, by omega, by go_num, hB2a, .inr ⟨bb, n, rfl, rfl, rfl, hn0, hnm, hbxa⟩, hlook2a, rl2a, ru2a, hnums2a⟩
              case measure => omega
      · have hj2 : (20 : Int) ≤ (j : Int) := by omega
        obtain ⟨b, off, z, rfl, hcell, hz0, hz1⟩ := hnums j hlt
        clear hnums hlook rl ru hz0 hz1
        rcases hbest with ⟨rfl, rfl, rfl⟩ | ⟨bb, n, rfl, rfl, rfl, hn0, hnm, hbx⟩
        · go_wp2
          go_ret
          exact ⟨ret_bool (by simp), hB⟩
        · have hbc := hbx.c1
          go_wp2
          go_ret
          exact ⟨ret_bool (by simp), hB⟩
    · have hje : j = len := by omega
      subst hje
      clear hnums hlook rl ru
      rcases hbest with ⟨rfl, rfl, rfl⟩ | ⟨bb, n, rfl, rfl, rfl, hn0, hnm, hbx⟩
      · go_wp2
        go_ret
        exact ⟨ret_bool (by simp), hB⟩
      · have hbc := hbx.c1
        go_wp2
        go_ret
        exact ⟨ret_bool (by simp), hB⟩

end Go.Proofs.Ytkcdfmbjmacafaa
