/- bartizanref01's Take, and atom.Take beside it. -/
import Derived.Test.YtmgofohaoppajaaDoorRefTake2
import Derived.Test.YtmgofohaoppajaaDoorRefTake3
import Derived.Test.YtmgofohaoppajaaDoorRefTake4
namespace Go.Proofs.YtmgofohaoppajaaDoor
set_option maxRecDepth 20000
open Go.RowKit

/-- what Take says, of either program: x is what stands behind -/
def TakePost (l : List UInt8) (B : Nat) (w : World) (x : Value) : Prop := if (frontS l).2.2 = 0 then Own B w x (l.drop (frontS l).2.1) else x = .slice none 0 0

def takeV (l : List UInt8) (x : Value) : Value := .tuple #[.int .u64 ((frontS l).1 : Int), x, .int .i64 ((frontS l).2.2 : Int)]

theorem decN_cons (f : UInt8) (t : List UInt8) : decN (f :: t) = if f.toNat ≤ 240 then f.toNat else if f.toNat ≤ 248 then 240 + (f.toNat - 241) * 256 + Mth.hf t else if f.toNat = 249 then 2288 + Mth.hf t else Mth.hf t := rfl

theorem ofNat_toNat (f : UInt8) : UInt8.ofNat f.toNat = f := by simp

theorem front_one (f : UInt8) (t : List UInt8) (h : f.toNat ≤ 240) : frontS (f :: t) = (f.toNat, 1, 0) := by
  have hs : sizeN f.toNat = 1 := by rw [sizeN, if_pos h]
  have hd : decN [f] = f.toNat := by rw [decN_cons, if_pos h]
  have hn : Mth.numB f.toNat = [f] := by rw [Mth.numB, if_pos h, ofNat_toNat]
  rw [frontS, hs, if_neg (by simp)]
  have ht : (f :: t).take 1 = [f] := by simp
  rw [ht, hd, hn]
  simp

theorem front_two (f : UInt8) (t u : List UInt8) (k : Nat) (hk : sizeN f.toNat = k) (hk1 : 1 ≤ k) (hl : k ≤ (f :: t).length) (hu : t.take (k - 1) = u) (d : Nat) (hd : decN (f :: u) = d) (same : Bool) (hs : (Mth.numB d == f :: u) = same) :
    frontS (f :: t) = if same then (d, k, 0) else (0, 0, 4) := by
  have ht : (f :: t).take k = f :: u := by
    obtain ⟨q, rfl⟩ : ∃ q, k = q + 1 := ⟨k - 1, by omega⟩
    rw [List.take_succ_cons, ← hu, Nat.add_sub_cancel]
  rw [frontS, hk, if_neg (by omega), ht, hd, hs]

theorem reftake_any (w : World) (v : Value) (l : List UInt8) (hv : Rd w v l) (hlen : l.length ≤ 1099511627776) :
    Calls Tryd.prog 50 #[v] w fun e w' => ∃ x, e = .returned (takeV l x) ∧ TakePost l w.heap.size w' x ∧ Below w.heap.size w w' := by
  cases l with
  | nil =>
    refine (reftake_nil w v hv).mono ?_
    rintro e w' ⟨rfl, rfl⟩
    exact ⟨_, rfl, rfl, Below.refl _ _⟩
  | cons f t =>
    have hfb := f.toNat_lt
    have key : ∀ (k : Nat) (u rest : List UInt8) (d : Nat) (same : Bool), sizeN f.toNat = k → 1 ≤ k → k ≤ (f :: t).length → t.take (k - 1) = u → t.drop (k - 1) = rest → decN (f :: u) = d → (Mth.numB d == f :: u) = same →
        (∀ (e : Ending) (w' : World), (∃ x, e = .returned (refV same d x) ∧ RefPost same rest w.heap.size w' x ∧ Below w.heap.size w w') → ∃ x, e = .returned (takeV (f :: t) x) ∧ TakePost (f :: t) w.heap.size w' x ∧ Below w.heap.size w w') := by
      rintro k u rest d same hk hk1 hl hu hr hd hs e w' ⟨x, rfl, hp, hb⟩
      have hF := front_two f t u k hk hk1 hl hu d hd same hs
      have hdrop : (f :: t).drop k = rest := by
        obtain ⟨q, rfl⟩ : ∃ q, k = q + 1 := ⟨k - 1, by omega⟩
        rw [List.drop_succ_cons, ← hr, Nat.add_sub_cancel]
      refine ⟨x, ?_, ?_, hb⟩
      · unfold takeV; rw [hF]; cases same <;> rfl
      · unfold TakePost; rw [hF]
        cases same
        · exact hp
        · simp only [if_true]
          rw [hdrop]
          exact hp
    have keys : ∀ (k : Nat), sizeN f.toNat = k → (f :: t).length < k → ∀ (e : Ending) (w' : World), e = .returned (.tuple #[.int .u64 0, .slice none 0 0, .int .i64 2]) ∧ w' = w → ∃ x, e = .returned (takeV (f :: t) x) ∧ TakePost (f :: t) w.heap.size w' x ∧ Below w.heap.size w w' := by
      rintro k hk hl e w' ⟨rfl, rfl⟩
      have hF : frontS (f :: t) = (0, 0, 2) := by rw [frontS, hk, if_pos hl]
      exact ⟨_, by unfold takeV; rw [hF]; rfl, by unfold TakePost; rw [hF]; rfl, Below.refl _ _⟩
    by_cases g1 : f.toNat ≤ 240
    · refine (reftake_one w v f t hv g1 hlen).mono ?_
      rintro e w' ⟨x, rfl, hx, hb⟩
      have hF := front_one f t g1
      exact ⟨x, by unfold takeV; rw [hF]; rfl, by unfold TakePost; rw [hF]; exact hx, hb⟩
    have dl : ∀ (k : Nat), sizeN f.toNat = k → 1 ≤ k → k ≤ (f :: t).length → decN (f :: t.take (k - 1)) < 18446744073709551616 := by
      intro k hk hk1 hl
      refine decN_lt f _ ?_
      simp only [List.length_cons, List.length_take] at hl ⊢
      omega
    by_cases g2 : f.toNat ≤ 248
    · have hk : sizeN f.toNat = 2 := by rw [sizeN, if_neg g1, if_pos g2]
      by_cases hl : (f :: t).length < 2
      · exact (reftake_short2 w v f t hv _ rfl (by omega) g2 hl).mono (keys 2 hk hl)
      · have hd : decN (f :: t.take (2 - 1)) = 240 + (f.toNat - 241) * 256 + Mth.hf (t.take (2 - 1)) := by
          rw [decN_cons, if_neg g1, if_pos g2]
        exact (reftake_wide2 w v f t _ _ hv _ rfl (by omega) g2 (by omega) hlen rfl rfl _ hd (dl 2 hk (by omega) (by omega)) _ rfl).mono (key 2 _ _ _ _ hk (by omega) (by omega) rfl rfl rfl rfl)
    by_cases g3 : f.toNat = 249
    · have hk : sizeN f.toNat = 3 := by rw [sizeN, if_neg g1, if_neg g2, if_pos g3]
      by_cases hl : (f :: t).length < 3
      · exact (reftake_short3 w v f t hv _ rfl g3 hl).mono (keys 3 hk hl)
      · have hd : decN (f :: t.take (3 - 1)) = 2288 + Mth.hf (t.take (3 - 1)) := by
          rw [decN_cons, if_neg g1, if_neg g2, if_pos g3]
        exact (reftake_wide3 w v f t _ _ hv _ rfl g3 (by omega) hlen rfl rfl _ hd (dl 3 hk (by omega) (by omega)) _ rfl).mono (key 3 _ _ _ _ hk (by omega) (by omega) rfl rfl rfl rfl)
    · have hk : sizeN f.toNat = f.toNat - 246 := by rw [sizeN, if_neg g1, if_neg g2, if_neg g3]
      by_cases hl : (f :: t).length < f.toNat - 246
      · exact (reftake_short4 w v f t hv _ rfl (by omega) (by omega) hl).mono (keys _ hk hl)
      · have hd : decN (f :: t.take (f.toNat - 246 - 1)) = Mth.hf (t.take (f.toNat - 246 - 1)) := by
          rw [decN_cons, if_neg g1, if_neg g2, if_neg g3]
        exact (reftake_wide4 w v f t _ _ hv _ rfl (by omega) (by omega) (by omega) hlen rfl rfl _ hd (dl _ hk (by omega) (by omega)) _ rfl).mono (key _ _ _ _ _ hk (by omega) (by omega) rfl rfl rfl rfl)

/-- atom.Take says the same -/
theorem take_any (w : World) (v : Value) (l : List UInt8) (hv : Rd w v l) (hlen : l.length ≤ 1099511627776) :
    Calls Tryd.prog 47 #[v] w fun e w' => ∃ x, e = .returned (takeV l x) ∧ TakePost l w.heap.size w' x ∧ Below w.heap.size w w' := by
  obtain ⟨⟨n, s, e⟩, hf⟩ : ∃ y, frontS l = y := ⟨_, rfl⟩
  by_cases he : e = 0
  · subst he
    refine (take_ok w v l n s hv hf (by omega)).mono ?_
    rintro r w' ⟨x, rfl, hx, hb⟩
    exact ⟨x, by unfold takeV; rw [hf]; rfl, by unfold TakePost; rw [hf]; exact hx, hb⟩
  · obtain ⟨rfl, rfl, h24⟩ := frontS_err hf he
    refine (take_err w v l e hv hf h24).mono ?_
    rintro r w' ⟨rfl, hb⟩
    exact ⟨_, by unfold takeV; rw [hf]; rfl, by unfold TakePost; rw [hf]; simp [he], hb⟩

end Go.Proofs.YtmgofohaoppajaaDoor
