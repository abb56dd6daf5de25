/- bloom.probes' function: it goes through a key's bits. -/
import Derived.Test.YtlonomjepipjlaaDoorBlHash
import Derived.RangeFuncNested
import Derived.RangeFuncBound
import Derived.RangeFuncCalls
import Derived.RangeFuncLeaves
import Derived.Shelf.Abstract
import Derived.Shelf.RegionOpen
import Derived.WalkKit
import Derived.OwnWalkIn
import Derived.TacticsInMore
import Derived.LoopNIn
import Derived.LoopIn
namespace Go.Proofs.YtlonomjepipjlaaDoor
open Go.RowKit Go.Shelf
set_option linter.unusedVariables false

attribute [local go_sem] Oper.semAt_some

def stepN (l : List UInt8) : Nat := Crc.sum l ||| 1

/-- the k-th number of a key -/
def atN (l : List UInt8) (k : Nat) : Nat := (hashN l + k * stepN l) % 4294967296

theorem atN_lt (l : List UInt8) (k : Nat) : atN l k < 4294967296 := by unfold atN; exact Nat.mod_lt _ (by omega)

theorem atN_zero (l : List UInt8) : atN l 0 = hashN l := by
  unfold atN
  rw [Nat.zero_mul, Nat.add_zero, Nat.mod_eq_of_lt (hashN_lt l)]

theorem atN_succ (l : List UInt8) (k : Nat) : atN l (k + 1) = (atN l k + stepN l) % 4294967296 := by
  unfold atN
  rw [Nat.add_mul, Nat.one_mul, ← Nat.add_assoc, Nat.mod_add_mod]

theorem stepN_lt (l : List UInt8) : stepN l < 4294967296 := Nat.or_lt_two_pow (n := 32) (Crc.sum_lt l) (by omega)

theorem or_one (s : Nat) (hs : s < 4294967296) : bits BinOp.or IntKind.u32 (s : Int) 1 = ((s ||| 1 : Nat) : Int) := by
  have h := u32_or_nat s 1 hs (by omega)
  exact h

/-- the bits of a key, of B in all -/
def probesN (l : List UInt8) (c B : Nat) (hB : 0 < B) : List (Fin B) := (List.range c).map fun i => ⟨atN l i % B, Nat.mod_lt _ hB⟩

theorem probesN_len (l : List UInt8) (c B : Nat) (hB : 0 < B) : (probesN l c B hB).length = c := by simp [probesN]

theorem probesN_take (l : List UInt8) (c B : Nat) (hB : 0 < B) (k : Nat) (hk : k < c) : (probesN l c B hB).take k ++ [⟨atN l k % B, Nat.mod_lt _ hB⟩] = (probesN l c B hB).take (k + 1) := by
  rw [List.take_succ_eq_append_getElem (by rw [probesN_len]; exact hk)]
  congr 1
  simp [probesN]

set_option maxRecDepth 100000 in
set_option maxHeartbeats 4000000 in
theorem probes_stops (n n0 : Nat) (hn : 1 ≤ n) (w : World) (fa : Option Addr) (fc : Nat) (ka : Option Addr) (kl kc : Nat) (f key : List UInt8) (Bf Bk sz c : Nat) (hfl : f.length = sz + 1) (hfb : f.length ≤ 1000000) (hB : 0 < 8 * sz)
    (hc : ∀ h : sz < f.length, (f[sz]).toNat = c) (hf : Rd w (.slice fa f.length fc) f) (hk : Rd w (.slice ka kl kc) key) (ht : Tab w)
    (cf : w.cell? ⟨Bf, 0, none⟩ = some (.slice fa f.length fc)) (ck : w.cell? ⟨Bk, 0, none⟩ = some (.slice ka kl kc)) :
    SeqStopsK Fence.wide n Tryd.prog 24 #[.pointer (some ⟨Bf, 0, none⟩), .pointer (some ⟨Bk, 0, none⟩)] (fun x : Fin (8 * sz) => #[Value.int .u64 (x.1 : Int)]) (Below n0) (fun xs => xs = probesN key c (8 * sz) hB) (fun pre => pre <+: probesN key c (8 * sz) hB) c w := fun l J Jx W hW hJ hJx hY h0 => by
  have hfW := hf.below hW (Nat.le_refl _)
  have hkW := hk.below hW (Nat.le_refl _)
  have htW := ht.below hW (Nat.le_refl _)
  have cfW : W.cell? ⟨Bf, 0, none⟩ = some (.slice fa f.length fc) := by rw [hW.cell (p := ⟨Bf, 0, none⟩) (World.block_lt_of_cell? w _ cf)]; exact cf
  have ckW : W.cell? ⟨Bk, 0, none⟩ = some (.slice ka kl kc) := by rw [hW.cell (p := ⟨Bk, 0, none⟩) (World.block_lt_of_cell? w _ ck)]; exact ck
  refine callsIn_of_wp Tryd.func24 rfl trivial ?_ rfl
  simp only [Tryd.ntmps24, List.size_toArray, List.length_cons, List.length_nil, Nat.reduceAdd, Nat.reduceSub, Array.replicate_succ, Array.replicate_zero, List.push_toArray, List.append_toArray, List.nil_append, List.cons_append]
  have hfcell : ∃ bb off, fa = some ⟨bb, off, none⟩ ∧ W.cell? ⟨bb, off + sz, none⟩ = some (.int .u8 (c : Int)) := by
    rcases hfW with ⟨e, rfl⟩ | ⟨bb, off, cap, e, h1, h2, h3⟩
    · simp at hfl
    · simp only [Value.slice.injEq] at e
      have := h3 sz _ (bv_get f sz (by omega))
      rw [hc (by omega)] at this
      exact ⟨bb, off, e.1, this⟩
  obtain ⟨bb, off, rfl, cfz⟩ := hfcell
  have hcl : c < 256 := by rw [← hc (by omega)]; exact (f[sz]'(by omega)).toNat_lt
  have HK : Hid (Rd W (.slice ka kl kc) key) := hkW
  have HT : Hid (Tab W) := htW
  have HH : Hid (hashN key = atN key 0) := (atN_zero key).symm
  gi_wp2_with fail
  refine ⟨trivial, ?_⟩
  refine (callsIn_wide.2 (hash_any _ _ _ HK.out)).mono ?_
  rintro e w1 ⟨rfl, hw1⟩
  subst w1
  have hba : Below W.heap.size W (W.alloc (.cells #[.slice ka kl kc] 26)) := (Below.refl _ _).alloc (Nat.le_refl _) _
  have hsum := sum_any (W.alloc (.cells #[.slice ka kl kc] 26)) _ [key] (rdl_one W _ key HK.out) (HT.out.below hba (Nat.le_refl _))
  have cfz1 : (W.alloc (.cells #[.slice ka kl kc] 26)).cell? ⟨bb, off + sz, none⟩ = some (.int .u8 (c : Int)) := by rw [hba.cell (p := ⟨bb, off + sz, none⟩) (World.block_lt_of_cell? W _ cfz)]; exact cfz
  have cfW1 : (W.alloc (.cells #[.slice ka kl kc] 26)).cell? ⟨Bf, 0, none⟩ = some (.slice (some ⟨bb, off, none⟩) f.length fc) := by rw [hba.cell (p := ⟨Bf, 0, none⟩) (World.block_lt_of_cell? W _ cfW)]; exact cfW
  have hJ1 : J [] (W.alloc (.cells #[.slice ka kl kc] 26)) := hJ [] W _ none h0 (World.grownBy_alloc W _ none) (fun r e => by cases e)
  rw [show ([key] : List (List UInt8)).flatten = key by simp] at hsum
  have hso := or_one (Crc.sum key) (Crc.sum_lt key)
  have hsl := stepN_lt key
  have HSt : Hid (Crc.sum key ||| 1 = stepN key) := rfl
  rw [HSt.out] at hso
  obtain ⟨st, hst⟩ : ∃ st, stepN key = st := ⟨_, rfl⟩
  have HSS : Hid (stepN key = st) := hst
  rw [hst] at hso hsl
  have hsl2 := Crc.sum_lt key
  obtain ⟨sm, hsm⟩ : ∃ sm, Crc.sum key = sm := ⟨_, rfl⟩
  rw [hsm] at hso hsum hsl2
  clear hsm hst HSt
  obtain ⟨W1, hW1⟩ : ∃ W1, W.alloc (.cells #[.slice ka kl kc] 26) = W1 := ⟨_, rfl⟩
  rw [hW1] at hsum cfz1 cfW1 hJ1
  gi_wp2_with fail
  refine ⟨trivial, ?_⟩
  refine (callsIn_wide.2 hsum).mono ?_
  rintro e w2 ⟨rfl, hw2⟩
  subst w2
  clear hsum HK HT hba hfW hkW htW cfW ckW cfz hW1
  rw [HH.out]
  gi_wp2
  gi_loopw [6, 24] (fun av iv wr => ∃ k : Nat, k ≤ c ∧ iv = .int .u8 (k : Int) ∧ av = .int .u32 (atN key k : Int) ∧ J ((probesN key c (8 * sz) hB).take k) wr) (fun av iv wr => c - (intOf iv).toNat)
  case atStart => exact ⟨0, Nat.zero_le _, rfl, rfl, by simpa using hJ1⟩
  case round =>
    obtain ⟨k, hk', rfl, rfl, hJk⟩ := hrel
    by_cases hlt : k < c
    · have hkc : (k : Int) < (c : Int) := by omega
      obtain ⟨fn, tmps, assign, body, hy, hR⟩ := hY _ ⟨atN key k % (8 * sz), Nat.mod_lt _ hB⟩ wr hJk (by rw [List.length_take, probesN_len]; omega)
      have hal := atN_lt key k
      have HPT := probesN_take key c (8 * sz) hB k hlt
      rw [HPT] at hR
      have HAS : Hid (atN key (k + 1) = (atN key k + stepN key) % 4294967296) := atN_succ key k
      rw [HSS.out] at HAS
      have hmod : ((atN key k : Nat) : Int).tmod (8 * (sz : Int)) = ((atN key k % (8 * sz) : Nat) : Int) := by
        rw [Int.tmod_eq_emod_of_nonneg (by omega)]; push_cast; rfl
      obtain ⟨x, hx⟩ : ∃ x, atN key k % (8 * sz) = x := ⟨_, rfl⟩
      obtain ⟨a, ha⟩ : ∃ a, atN key k = a := ⟨_, rfl⟩
      dsimp only at hy
      rw [hx] at hy
      rw [hx, ha] at hmod
      rw [ha] at hal HAS
      rw [ha]
      have hadd : IntKind.u32.wrap ((a : Int) + (st : Int)) = (((a + st) % 4294967296 : Nat) : Int) := by rw [IntKind.wrap_u32]; omega
      rw [← HAS.out] at hadd
      have hszI : (0 : Int) < (sz : Int) := by omega
      have HPP : Hid ((probesN key c (8 * sz) hB).take (k + 1) <+: probesN key c (8 * sz) hB) := List.take_prefix _ _
      obtain ⟨a', ha'⟩ : ∃ a', atN key (k + 1) = a' := ⟨_, rfl⟩
      rw [ha'] at hadd
      have HA' : Hid (atN key (k + 1) = a') := ha'
      clear hx ha ha' hY hJk HPT
      gi_wp2_with fail
      refine hR.mono ?_
      rintro e W3 (⟨rfl, hJ3, _⟩ | ⟨rfl, hJx3⟩)
      · gi_wp2
        go_roundw
        case rel => exact ⟨k + 1, by omega, by go_num, by rw [HA'.out], hJ3⟩
        case measure => simp [intOf]; omega
      · gi_wp2
        refine bodyPost_ret (results_none rfl _ _ _) rfl ?_
        exact ⟨⟨_, rfl⟩, .inr ⟨_, HPP.out, hJx3⟩⟩
    · have hkc : ¬ (k : Int) < (c : Int) := by omega
      have hkk : k = c := by omega
      have HJ : Hid (J (probesN key c (8 * sz) hB) wr) := by
        show J _ wr
        have h9 := hJk
        rw [List.take_of_length_le (by rw [probesN_len]; omega)] at h9
        exact h9
      clear hY hJk
      gi_wp2
      go_end0
      exact ⟨⟨_, rfl⟩, .inl HJ.out⟩

end Go.Proofs.YtlonomjepipjlaaDoor
