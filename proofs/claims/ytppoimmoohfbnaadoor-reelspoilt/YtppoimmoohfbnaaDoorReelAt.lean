/- reel.piece, as one contract. -/
import Derived.Test.YtppoimmoohfbnaaDoorReelSeven7
namespace Go.Proofs.YtppoimmoohfbnaaDoor
open Go.RowKit
set_option linter.unusedVariables false

theorem pcAt_eq {p : List UInt8} {a : Nat} {s0 s1 s2 s3 n0 n1 k : UInt8} {r : List UInt8} (hq : (p.drop a).take (leftN a) = s0 :: s1 :: s2 :: s3 :: n0 :: n1 :: k :: r) :
    pcAt p a = if (n0.toNat + n1.toNat * 256 ≤ r.length ∧ 1 ≤ k.toNat ∧ k.toNat ≤ 4) ∧ Crc.low [s0, s1, s2, s3] = Crc.mask (Crc.sum (k :: r.take (n0.toNat + n1.toNat * 256))) then some (k, r.take (n0.toNat + n1.toNat * 256)) else none := by
  unfold pcAt
  rw [hq]

/-- what reel.piece answers -/
def PcPost (w : World) (b : Nat) (q : Option (UInt8 × List UInt8)) (x : Ending) (w' : World) : Prop :=
  Below w.heap.size w w' ∧ match q with
    | none => x = .returned (.tuple #[.int .u8 0, .slice none 0 0, .bool false])
    | some (k, t) => ∃ o' d', x = .returned (.tuple #[.int .u8 (k.toNat : Int), .slice (some ⟨b, o', none⟩) t.length d', .bool true]) ∧ Rd w (.slice (some ⟨b, o', none⟩) t.length d') t

theorem post_none {w w' : World} {b : Nat} {x : Ending} (h : x = .returned (.tuple #[.int .u8 0, .slice none 0 0, .bool false]) ∧ Below w.heap.size w w') : PcPost w b none x w' := ⟨h.2, h.1⟩

theorem rd_rest {w : World} {b o d : Nat} {r : List UInt8} (h : ∀ j u, (bv r)[j]? = some u → w.cell? ⟨b, o + j, none⟩ = some u) (n : Nat) (hn : n ≤ r.length) (hd : r.length ≤ d) (hM : d ≤ maxLen) : Rd w (.slice (some ⟨b, o, none⟩) n d) (r.take n) := by
  have := rd_sub h 0 n d (by omega) hM (by omega)
  rwa [Nat.add_zero, List.drop_zero] at this

set_option maxHeartbeats 2000000 in
theorem piece_at (w : World) (a b off c : Nat) (p : List UInt8) (hcs : ∀ j u, (bv p)[j]? = some u → w.cell? ⟨b, off + j, none⟩ = some u) (ha : a < p.length) (hc : p.length ≤ c) (hM : c ≤ maxLen) (hp : p.length ≤ 1000000) (hT : Tab w) :
    Calls Tryd.prog 31 #[.slice (some ⟨b, off, none⟩) p.length c, .int .i64 (a : Int)] w (PcPost w b (pcAt p a)) := by
  by_cases h7 : min p.length (a + leftN a) - a < 7
  · rw [pcAt_short (by rw [List.length_take, List.length_drop]; omega)]
    refine (piece_few w a b off c p ha hc hp h7).mono ?_
    rintro x w' ⟨rfl, rfl⟩
    exact ⟨Below.refl _ _, rfl⟩
  · obtain ⟨s0, s1, s2, s3, n0, n1, k, r, hq⟩ := seven (q := (p.drop a).take (leftN a)) (by rw [List.length_take, List.length_drop]; omega)
    obtain ⟨e, he⟩ : ∃ e, min p.length (a + leftN a) = e := ⟨_, rfl⟩
    obtain ⟨m, hm⟩ : ∃ m, e - a = m := ⟨_, rfl⟩
    have H7 : Seven w b (off + a) m (c - a) s0 s1 s2 s3 n0 n1 k r := seven_of (m := m) hcs hq ha hc hM (by rw [he]; exact hm)
    obtain ⟨d, hd⟩ : ∃ d, c - a = d := ⟨_, rfl⟩
    obtain ⟨f1, f2, f3, f4, f5, f6, f7, f8, f9, f10, f11, f12, f13⟩ := win_facts ha hc hp (left_bd a) he hm hd
    rw [hd] at H7
    have hm7 : 7 ≤ m := by omega
    have hdM : d ≤ maxLen := by omega
    have hln := H7.ln
    obtain ⟨sz, hsz⟩ : ∃ sz, n0.toNat + n1.toNat * 256 = sz := ⟨_, rfl⟩
    have hszb := low2_bd n0 n1
    rw [hsz] at hszb
    obtain ⟨sm, hsm⟩ : ∃ sm, Crc.low [s0, s1, s2, s3] = sm := ⟨_, rfl⟩
    rw [pcAt_eq hq, hsz, hsm]
    obtain ⟨sv, hsv⟩ : ∃ sv, Crc.mask (Crc.sum (k :: r.take sz)) = sv := ⟨_, rfl⟩
    rw [hsv]
    by_cases hd7 : d = 7
    · subst hd7
      obtain rfl : m = 7 := by omega
      by_cases hA : sz ≤ r.length
      · obtain rfl : sz = 0 := by omega
        by_cases hk : k.toNat < 1
        · rw [if_neg (by omega)]
          exact (pieceB_y w a b off c _ e _ 0 sm s0 s1 s2 s3 n0 n1 k r H7 hT f1 f2 f3 f4 f5 f13 f10 f11 f12 ⟨rfl, f9⟩ hm hd (by omega) hsz hsm (by omega) (by omega)).mono fun x w' h => post_none h
        · by_cases hk4 : 4 < k.toNat
          · rw [if_neg (by omega)]
            exact (pieceC_y w a b off c _ e _ 0 sm s0 s1 s2 s3 n0 n1 k r H7 hT f1 f2 f3 f4 f5 f13 f10 f11 f12 ⟨rfl, f9⟩ hm hd (by omega) hsz hsm (by omega) (by omega) (by omega)).mono fun x w' h => post_none h
          · have hrd : Rd w (.slice (some ⟨b, off + a, none⟩) 0 0) (r.take 0) := by rw [List.take_zero]; exact rd_none b _ 0 (Nat.zero_le _)
            have hso := sumof_any w.drew k _ _ hrd.drew hT
            rw [hsv] at hso
            by_cases hD : sm = sv
            · subst hD
              rw [if_pos ⟨⟨hA, by omega, by omega⟩, rfl⟩]
              refine (pieceE_y w a b off c _ e _ sm s0 s1 s2 s3 n0 n1 k r H7 f1 f2 f3 f4 f5 f13 f10 f11 f12 ⟨rfl, f9⟩ hm hd hsz hsm (by show ¬ _; omega) (by show ¬ _; omega) hso).mono ?_
              rintro x w' ⟨rfl, hb⟩
              exact ⟨hb, _, _, by rw [List.take_zero]; rfl, by rw [List.take_zero]; exact rd_none b _ 0 (Nat.zero_le _)⟩
            · rw [if_neg (fun h => hD h.2)]
              exact (pieceD_y w a b off c _ e _ sm s0 s1 s2 s3 n0 n1 k r H7 f1 f2 f3 f4 f5 f13 f10 f11 f12 ⟨rfl, f9⟩ hm hd hsz hsm sv (by show ¬ _; omega) (by show ¬ _; omega) hso (by show ¬ _; omega)).mono fun x w' h => post_none h
      · rw [if_neg (by omega)]
        exact (pieceA_y w a b off c _ e _ sz sm s0 s1 s2 s3 n0 n1 k r H7 hT f1 f2 f3 f4 f5 f13 f10 f11 f12 ⟨rfl, f9⟩ hm hd (by omega) hsz hsm (by omega)).mono fun x w' h => post_none h
    · by_cases hA : sz ≤ r.length
      · by_cases hk : k.toNat < 1
        · rw [if_neg (by omega)]
          exact (pieceB_n w a b off c _ e m d _ (m - 7) sz sm (d - 7) s0 s1 s2 s3 n0 n1 k r H7 hT f1 f2 f3 f4 f5 f13 (by omega) f8 f10 f11 f12 ⟨rfl, f9⟩ hm hd rfl rfl (by omega) (by omega) hsz hsm hd7 (by omega) (by omega) (by omega) (by omega) (by omega) (by omega) (by omega) (by omega)).mono fun x w' h => post_none h
        · by_cases hk4 : 4 < k.toNat
          · rw [if_neg (by omega)]
            exact (pieceC_n w a b off c _ e m d _ (m - 7) sz sm (d - 7) s0 s1 s2 s3 n0 n1 k r H7 hT f1 f2 f3 f4 f5 f13 (by omega) f8 f10 f11 f12 ⟨rfl, f9⟩ hm hd rfl rfl (by omega) (by omega) hsz hsm hd7 (by omega) (by omega) (by omega) (by omega) (by omega) (by omega) (by omega) (by omega) (by omega)).mono fun x w' h => post_none h
          · have hrd : Rd w (.slice (some ⟨b, off + a + 7, none⟩) sz (d - 7)) (r.take sz) := rd_rest H7.cr sz hA (by omega) (by omega)
            have htl : (r.take sz).length = sz := by rw [List.length_take]; omega
            have hso := sumof_any w.drew k _ _ hrd.drew hT
            rw [hsv] at hso
            by_cases hD : sm = sv
            · subst hD
              rw [if_pos ⟨⟨hA, by omega, by omega⟩, rfl⟩]
              refine (pieceE_n w a b off c _ e m d _ (m - 7) sz sm (d - 7) s0 s1 s2 s3 n0 n1 k r H7 f1 f2 f3 f4 f5 f13 (by omega) f8 f10 f11 f12 ⟨rfl, f9⟩ hm hd rfl rfl (by omega) (by omega) hsz hsm hd7 (by omega) (by omega) (by omega) (by omega) (by omega) (by omega) (by omega) (by show _ ≤ _; omega) (by show ¬ _; omega) (by show ¬ _; omega) hso).mono ?_
              rintro x w' ⟨rfl, hb⟩
              exact ⟨hb, _, _, by rw [htl], by rw [htl]; exact hrd⟩
            · rw [if_neg (fun h => hD h.2)]
              exact (pieceD_n w a b off c _ e m d _ (m - 7) sz sm (d - 7) s0 s1 s2 s3 n0 n1 k r H7 f1 f2 f3 f4 f5 f13 (by omega) f8 f10 f11 f12 ⟨rfl, f9⟩ hm hd rfl rfl (by omega) (by omega) hsz hsm hd7 (by omega) (by omega) (by omega) (by omega) (by omega) (by omega) sv (by omega) (by show _ ≤ _; omega) (by show ¬ _; omega) (by show ¬ _; omega) hso (by show ¬ _; omega)).mono fun x w' h => post_none h
      · rw [if_neg (by omega)]
        exact (pieceA_n w a b off c _ e m d _ (m - 7) sz sm (d - 7) s0 s1 s2 s3 n0 n1 k r H7 hT f1 f2 f3 f4 f5 f13 (by omega) f8 f10 f11 f12 ⟨rfl, f9⟩ hm hd rfl rfl (by omega) (by omega) hsz hsm hd7 (by omega) (by omega) (by omega) (by omega) (by omega) (by omega) (by omega)).mono fun x w' h => post_none h

end Go.Proofs.YtppoimmoohfbnaaDoor
