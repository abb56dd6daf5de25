/- atom's readers of numbers. -/
import Derived.Test.YtmgofohaoppajaaDoorWide
namespace Go.Proofs.YtmgofohaoppajaaDoor
open Go.RowKit

theorem hf_take_succ (l : List UInt8) (k : Nat) (h : k < l.length) : Mth.hf (l.take (k + 1)) = Mth.hf (l.take k) * 256 + (l[k]).toNat := by
  rw [List.take_succ_eq_append_getElem h, Mth.hf_snoc]

theorem or_byte (h b : Nat) (hh : h < 72057594037927936) (hb : b < 256) : bits BinOp.or IntKind.u64 ((h : Int) * 256) (b : Int) = ((h * 256 + b : Nat) : Int) := by
  have e : ((h : Int) * 256) = ((h * 256 : Nat) : Int) := by omega
  rw [e, u64_or_nat _ _ (by omega) (by omega), nat_join 8 _ _ (by omega) (by omega)]

theorem high_any (w : World) (v : Value) (l : List UInt8) (hv : Rd w v l) (hl : l.length ≤ 8) :
    Calls Tryd.prog 78 #[v] w fun e w' => e = .returned (.int .u64 (Mth.hf l : Int)) ∧ w' = w := by
  rcases hv with ⟨rfl, rfl⟩ | ⟨b, off, cap, rfl, h1, h2, h3⟩
  · go_enter Tryd.func78, Tryd.ntmps78
    go_wp2
    refine wp_loop_rounds 1 ?_
    rw [rounds_succ]
    go_wp2
    go_ret
    exact ⟨rfl, rfl⟩
  · unfold maxLen at h2
    go_enter Tryd.func78, Tryd.ntmps78
    go_wp2
    go_loop [3, 8] (fun nv iv => ∃ k : Nat, k ≤ l.length ∧ iv = .int .i64 (k : Int) ∧ nv = .int .u64 (Mth.hf (l.take k) : Int)) (fun _ iv => l.length - (intOf iv).toNat)
    case atStart => exact ⟨0, Nat.zero_le _, rfl, rfl⟩
    case round =>
      obtain ⟨k, hk, rfl, rfl⟩ := hrel
      by_cases hlt : k < l.length
      · have hc := h3 k _ (bv_get l k hlt)
        have hlb := Mth.hf_lt (l.take k)
        have hlb2 : Mth.hf (l.take k) < 72057594037927936 := by
          refine Nat.lt_of_lt_of_le hlb ?_
          rw [List.length_take, Nat.min_eq_left (by omega)]
          exact Nat.pow_le_pow_right (n := 256) (by omega) (show k ≤ 7 by omega)
        have hb := (l[k]).toNat_lt
        clear hlb
        go_wp2
        have e := or_byte _ _ hlb2 hb
        go_round
        case rel => exact ⟨k + 1, by omega, by go_num, by rw [e, ← hf_take_succ l k hlt]⟩
        case measure => simp [intOf]; omega
      · go_wp2
        go_ret
        have : k = l.length := by omega
        subst this
        rw [List.take_length]
        exact ⟨rfl, rfl⟩

/-- how many bytes a number has in all, by its first -/
def sizeN (f : Nat) : Nat := if f ≤ 240 then 1 else if f ≤ 248 then 2 else if f = 249 then 3 else f - 246

theorem sizeN_bd (f : Nat) (h : f < 256) : 1 ≤ sizeN f ∧ sizeN f ≤ 9 := by
  unfold sizeN
  repeat' split
  all_goals omega

theorem size_any (w : World) (f : Nat) (h : f < 256) :
    Calls Tryd.prog 71 #[.int .u8 (f : Int)] w fun e w' => e = .returned (.int .i64 (sizeN f : Int)) ∧ w' = w := by
  by_cases h1 : f ≤ 240
  · go_enter Tryd.func71, Tryd.ntmps71
    go_wp2
    go_ret
    exact ⟨by simp [sizeN, h1], rfl⟩
  by_cases h2 : f ≤ 248
  · go_enter Tryd.func71, Tryd.ntmps71
    go_wp2
    go_ret
    exact ⟨by simp [sizeN, h1, h2], rfl⟩
  by_cases h3 : f = 249
  · subst h3
    go_enter Tryd.func71, Tryd.ntmps71
    go_wp2
    go_ret
    exact ⟨by simp [sizeN], rfl⟩
  · go_enter Tryd.func71, Tryd.ntmps71
    go_wp2
    go_ret
    exact ⟨ret_int (by simp [sizeN, h1, h2, h3]; omega), rfl⟩

/-- the number for which bytes stand, in whichever form -/
def decN (l : List UInt8) : Nat :=
  if (l.headD 0).toNat ≤ 240 then (l.headD 0).toNat
  else if (l.headD 0).toNat ≤ 248 then 240 + ((l.headD 0).toNat - 241) * 256 + Mth.hf l.tail
  else if (l.headD 0).toNat = 249 then 2288 + Mth.hf l.tail
  else Mth.hf l.tail

theorem decode_any (w : World) (v : Value) (f : UInt8) (t : List UInt8) (hv : Rd w v (f :: t)) (hl : (f :: t).length = sizeN f.toNat) :
    Calls Tryd.prog 72 #[v] w fun e w' => e = .returned (.int .u64 (decN (f :: t) : Int)) ∧ w' = w := by
  rcases hv with ⟨_, h⟩ | ⟨b, off, cap, rfl, h1, h2, h3⟩
  · cases h
  have hsb := sizeN_bd f.toNat f.toNat_lt
  have hc := h3 0 _ (bv_get (f :: t) 0 (by simp))
  simp only [Nat.add_zero, List.getElem_cons_zero] at hc
  have hR : ¬ cap = 1 → Rd w (.slice (some ⟨b, off + 1, none⟩) t.length (cap - 1)) t := fun _ => by
    have := rd_sub h3 1 t.length (cap - 1) (by simp at h1; omega) (by omega) (by simp; omega)
    simpa using this
  have hR0 : cap = 1 → Rd w (.slice (some ⟨b, off, none⟩) t.length 0) t := fun e => by
    have ht : t = [] := by apply List.eq_nil_of_length_eq_zero; simp at h1; omega
    subst ht
    exact .inr ⟨b, off, 0, rfl, Nat.le_refl _, Nat.zero_le _, fun j u hu => by simp [bv] at hu⟩
  have hht := Mth.hf_lt t
  simp only [List.length_cons] at hl h1 ⊢
  unfold maxLen at h2
  have hfb := f.toNat_lt
  have HL : Hid (t.length + 1 = sizeN f.toNat) := hl
  have htl : t.length ≤ 8 := by omega
  obtain ⟨x, hx⟩ : ∃ x, x = Mth.hf t := ⟨_, rfl⟩
  have hx64 : x < 18446744073709551616 := by
    rw [hx]
    exact Nat.lt_of_lt_of_le hht (Nat.pow_le_pow_right (n := 256) (by omega) htl)
  have hx1 : 240 < f.toNat → f.toNat ≤ 248 → x < 256 := by
    intro p q
    have : t.length = 1 := by have e := hl; simp only [sizeN, if_neg (show ¬ f.toNat ≤ 240 by omega), if_pos q] at e; omega
    rw [this] at hht; omega
  have hx2 : f.toNat = 249 → x < 65536 := by
    intro q
    have e3 : sizeN 249 = 3 := by decide
    have : t.length = 2 := by rw [q, e3] at hl; omega
    rw [this] at hht; omega
  have HX : Hid (Mth.hf t = x) := hx.symm
  clear h3 hl hx hht hsb
  by_cases hcap : cap = 1
  all_goals
    first | (replace hR := hR hcap) | (replace hR := hR0 hcap)
    clear hR0
    go_enter Tryd.func72, Tryd.ntmps72
    go_wp2_with fail
    refine (high_any _ _ t hR htl).mono ?_
    rintro e w' ⟨rfl, hw⟩
    subst hw
    rw [HX.out]
    clear hR
    by_cases g1 : f.toNat ≤ 240
    · go_wp2
      go_ret
      exact ⟨ret_int (by simp [decN, g1]), rfl⟩
    by_cases g2 : f.toNat ≤ 248
    · have hx1' := hx1 (by omega) g2
      go_wp2
      go_ret
      exact ⟨ret_int (by simp only [decN, List.headD_cons, List.tail_cons, if_neg g1, if_pos g2, HX.out]; omega), rfl⟩
    by_cases g3 : f.toNat = 249
    · have hx2' := hx2 g3
      have g4 : ((f.toNat : Int) == 249) = true := by simp; omega
      have HF : Hid (f.toNat = 249) := g3
      clear g3
      go_wp2
      go_ret
      exact ⟨ret_int (by simp only [decN, List.headD_cons, List.tail_cons, if_neg g1, if_neg g2, if_pos HF.out, HX.out]; omega), rfl⟩
    · have g4 : ((f.toNat : Int) == 249) = false := by simp; omega
      go_wp2
      go_ret
      exact ⟨ret_int (by simp only [decN, List.headD_cons, List.tail_cons, if_neg g1, if_neg g2, if_neg g3, HX.out]), rfl⟩

end Go.Proofs.YtmgofohaoppajaaDoor
