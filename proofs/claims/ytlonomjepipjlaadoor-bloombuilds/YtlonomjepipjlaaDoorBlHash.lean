/- bloom.hash, bloom.probes, bloom.isFilter, bloom.taken, bloom.Probes. -/
import Derived.Test.YtlonomjepipjlaaDoorSum
namespace Go.Proofs.YtlonomjepipjlaaDoor
open Go.RowKit
set_option linter.unusedVariables false

def hstep (h b : Nat) : Nat := (h ^^^ b) * 16777619 % 4294967296

/-- a key's number -/
def hashN (l : List UInt8) : Nat := l.foldl (fun h b => hstep h b.toNat) 2166136261

theorem hstep_lt (h b : Nat) : hstep h b < 4294967296 := by unfold hstep; exact Nat.mod_lt _ (by omega)

theorem ret_bo {a b : Bool} (h : a = b) : Ending.returned (.bool a) = .returned (.bool b) := by rw [h]

theorem hashN_snoc (l : List UInt8) (b : UInt8) : hashN (l ++ [b]) = hstep (hashN l) b.toNat := by
  unfold hashN
  rw [List.foldl_append, List.foldl_cons, List.foldl_nil]

theorem hashN_take (l : List UInt8) (k : Nat) (h : k < l.length) : hashN (l.take (k + 1)) = hstep (hashN (l.take k)) (l[k]).toNat := by
  rw [List.take_succ_eq_append_getElem h, hashN_snoc]

theorem hashN_lt (l : List UInt8) : hashN l < 4294967296 := by
  rcases List.eq_nil_or_concat l with rfl | ⟨m, b, rfl⟩
  · unfold hashN; rw [List.foldl_nil]; omega
  · rw [List.concat_eq_append, hashN_snoc]; exact hstep_lt _ _

theorem hash_any (w : World) (v : Value) (l : List UInt8) (hv : Rd w v l) :
    Calls Tryd.prog 25 #[v] w fun e w' => e = .returned (.int .u32 (hashN l : Int)) ∧ w' = w := by
  rcases hv with ⟨rfl, rfl⟩ | ⟨b, off, cap, rfl, h1, h2, h3⟩
  · go_enter Tryd.func25, Tryd.ntmps25
    go_wp2
    refine wp_loop_rounds 1 ?_
    rw [rounds_succ]
    go_wp2
    go_ret
    exact ⟨rfl, rfl⟩
  · unfold maxLen at h2
    go_enter Tryd.func25, Tryd.ntmps25
    go_wp2
    go_loop [3, 8] (fun sv iv => ∃ k : Nat, k ≤ l.length ∧ iv = .int .i64 (k : Int) ∧ sv = .int .u32 (hashN (l.take k) : Int)) (fun _ iv => l.length - (intOf iv).toNat)
    case atStart => exact ⟨0, Nat.zero_le _, rfl, rfl⟩
    case round =>
      obtain ⟨k, hk, rfl, rfl⟩ := hrel
      by_cases hlt : k < l.length
      · have hc := h3 k _ (bv_get l k hlt)
        have hq := hashN_lt (l.take k)
        have hb := (l[k]).toNat_lt
        have HS : Hid (hashN (l.take (k + 1)) = hstep (hashN (l.take k)) (l[k]).toNat) := hashN_take l k hlt
        obtain ⟨q, hq0⟩ : ∃ q, hashN (l.take k) = q := ⟨_, rfl⟩
        obtain ⟨y, hy0⟩ : ∃ y, (l[k]).toNat = y := ⟨_, rfl⟩
        rw [hq0, hy0] at HS
        rw [hq0] at hq
        rw [hy0] at hc hb
        rw [hq0]
        clear h3 hq0 hy0
        have hxl : q ^^^ y < 4294967296 := Crc.xor_lt hq (by omega)
        have r1 := x32 q y hq (by omega)
        have HB : Hid (hstep q y = (q ^^^ y) * 16777619 % 4294967296) := rfl
        obtain ⟨x, hx⟩ : ∃ x, q ^^^ y = x := ⟨_, rfl⟩
        rw [hx] at hxl r1 HB
        have r2 : IntKind.u32.wrap ((x : Int) * 16777619) = ((x * 16777619 % 4294967296 : Nat) : Int) := by rw [IntKind.wrap_u32]; omega
        obtain ⟨z, hz⟩ : ∃ z, x * 16777619 % 4294967296 = z := ⟨_, rfl⟩
        rw [hz] at r2 HB
        clear hx hz
        go_wp2
        go_round
        case rel => exact ⟨k + 1, by omega, by go_num, by rw [HS.out, HB.out]⟩
        case measure => simp [intOf]; omega
      · go_wp2
        go_ret
        have : k = l.length := by omega
        subst this
        rw [List.take_length]
        exact ⟨rfl, rfl⟩

theorem probes_any (w : World) (fa : Option Addr) (fl fc : Nat) (ka : Option Addr) (kl kc : Nat) :
    Calls Tryd.prog 20 #[.slice fa fl fc, .slice ka kl kc] w fun e w' => e = .returned (.func (.func 24) #[] #[.pointer (some ⟨w.heap.size, 0, none⟩), .pointer (some ⟨w.heap.size + 1, 0, none⟩)]) ∧ w' = (w.alloc (.cells #[.slice fa fl fc] 26)).alloc (.cells #[.slice ka kl kc] 26) := by
  go_enter Tryd.func20, Tryd.ntmps20
  go_wp2
  go_ret
  exact ⟨by simp, rfl⟩

/-- is it a filter -/
def isF (l : List UInt8) : Bool := decide (9 ≤ l.length) && (decide (1 ≤ (l.getD (l.length - 1) 0).toNat) && decide ((l.getD (l.length - 1) 0).toNat ≤ 30))

theorem isFilter_any (w : World) (v : Value) (l : List UInt8) (hv : Rd w v l) (hl : l.length ≤ 1000000) :
    Calls Tryd.prog 23 #[v] w fun e w' => e = .returned (.bool (isF l)) ∧ w' = w := by
  by_cases h9 : 9 ≤ l.length
  · have hne : l ≠ [] := by intro e; rw [e] at h9; simp at h9
    rcases hv with ⟨rfl, rfl⟩ | ⟨b, off, cap, rfl, h1, h2, h3⟩
    · simp at hne
    · have hc := h3 (l.length - 1) _ (bv_get l (l.length - 1) (by omega))
      have HG : Hid (l.getD (l.length - 1) 0 = l[l.length - 1]'(by omega)) := by show _ = _; rw [List.getD_eq_getElem?_getD, List.getElem?_eq_getElem (by omega)]; rfl
      obtain ⟨y, hy⟩ : ∃ y, l[l.length - 1]'(by omega) = y := ⟨_, rfl⟩
      rw [hy] at hc HG
      have HF : Hid (isF l = (decide (1 ≤ y.toNat) && decide (y.toNat ≤ 30))) := by show _ = _; unfold isF; rw [HG.out, decide_eq_true h9, Bool.true_and]
      obtain ⟨c, hcc⟩ : ∃ c, y.toNat = c := ⟨_, rfl⟩
      obtain ⟨m, hm⟩ : ∃ m, l.length - 1 = m := ⟨_, rfl⟩
      rw [hcc] at hc HF
      rw [hm] at hc
      have hml : l.length = m + 1 := by omega
      rw [hml] at hl h1 h9 ⊢
      have hm8 : 8 ≤ m := by omega
      have hmI : (8 : Int) ≤ (m : Int) := by omega
      unfold maxLen at h2
      clear h3 hy HG hcc hm hml hne h9
      by_cases a1 : (1 : Int) ≤ (c : Int)
      · by_cases a2 : (c : Int) ≤ 30
        · have HR : Hid (isF l = true) := by show _ = _; rw [HF.out]; simp; omega
          go_enter Tryd.func23, Tryd.ntmps23
          go_wp2
          go_ret
          exact ⟨ret_bo (by rw [HR.out]), rfl⟩
        · have HR : Hid (isF l = false) := by show _ = _; rw [HF.out]; simp; omega
          go_enter Tryd.func23, Tryd.ntmps23
          go_wp2
          go_ret
          exact ⟨ret_bo (by rw [HR.out]), rfl⟩
      · have HR : Hid (isF l = false) := by show _ = _; rw [HF.out]; simp; omega
        go_enter Tryd.func23, Tryd.ntmps23
        go_wp2
        go_ret
        exact ⟨ret_bo (by rw [HR.out]), rfl⟩
  · have HR : Hid (isF l = false) := by show _ = _; unfold isF; rw [decide_eq_false h9, Bool.false_and]
    obtain ⟨ao, cap, rfl⟩ := hv.len
    have hlI : (l.length : Int) < 9 := by omega
    go_enter Tryd.func23, Tryd.ntmps23
    go_wp2
    go_ret
    exact ⟨ret_bo (by rw [HR.out]), rfl⟩

end Go.Proofs.YtlonomjepipjlaaDoor
