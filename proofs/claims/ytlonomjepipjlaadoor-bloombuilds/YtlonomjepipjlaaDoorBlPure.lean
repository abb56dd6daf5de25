/- Whatever was built into a filter it has. -/
import Derived.Test.YtlonomjepipjlaaDoorBlBuild2
namespace Go.Proofs.YtlonomjepipjlaaDoor
set_option linter.unusedVariables false

theorem bit_set : ∀ r < 8, ∀ s < 8, ∀ y < 256, ((UInt8.ofNat (y ||| 2 ^ s)).toNat / 2 ^ r % 2 == 1) = ((y / 2 ^ r % 2 == 1) || r == s) := by decide +kernel

theorem bitB_set (l : List UInt8) (k x : Nat) (hk : k / 8 < l.length) : bitB (setBit l x) k = (bitB l k || (k == x)) := by
  have hgk : l.getD (k / 8) 0 = l[k / 8] := by rw [List.getD_eq_getElem?_getD, List.getElem?_eq_getElem hk]; rfl
  by_cases hq : k / 8 = x / 8
  · have e1 : (setBit l x).getD (k / 8) 0 = UInt8.ofNat ((l.getD (x / 8) 0).toNat ||| 2 ^ (x % 8)) := by
      unfold setBit
      rw [List.getD_eq_getElem?_getD, ← hq, List.getElem?_set_self hk]
      rfl
    unfold bitB
    rw [e1, ← hq, bit_set (k % 8) (by omega) (x % 8) (by omega) _ (UInt8.toNat_lt _)]
    congr 1
    rw [Bool.eq_iff_iff]
    simp
    omega
  · have e1 : (setBit l x).getD (k / 8) 0 = l.getD (k / 8) 0 := by
      unfold setBit
      rw [List.getD_eq_getElem?_getD, List.getElem?_set_ne (by omega), ← List.getD_eq_getElem?_getD]
    have e2 : (k == x) = false := by rw [beq_eq_false_iff_ne]; intro h; exact hq (by rw [h])
    unfold bitB
    rw [e1, e2, Bool.or_false]

theorem bitB_all {sz : Nat} : ∀ (xs : List (Fin (8 * sz))) (l : List UInt8) (k : Nat), k / 8 < l.length → bitB (setAll l xs) k = (bitB l k || xs.any (fun x => k == x.1))
  | [], l, k, _ => by simp [setAll]
  | x :: xs, l, k, h => by
    show bitB (setAll (setBit l x.1) xs) k = _
    rw [bitB_all xs _ k (by rw [setBit_len]; exact h), bitB_set l k x.1 h, List.any_cons, Bool.or_assoc]

theorem addKey_len (c sz : Nat) (hB : 0 < 8 * sz) (l key : List UInt8) : (addKey c sz hB l key).length = l.length := fold_len _ _
theorem addKey_last (c sz : Nat) (hB : 0 < 8 * sz) (l key : List UInt8) (h : l.length = sz + 1) : (addKey c sz hB l key).getD sz 0 = l.getD sz 0 := fold_last _ _ h

theorem keys_len (c sz : Nat) (hB : 0 < 8 * sz) : ∀ (ks : List (List UInt8)) (l : List UInt8), (ks.foldl (addKey c sz hB) l).length = l.length
  | [], l => rfl
  | k :: ks, l => by rw [List.foldl_cons, keys_len c sz hB ks, addKey_len]

theorem keys_last (c sz : Nat) (hB : 0 < 8 * sz) : ∀ (ks : List (List UInt8)) (l : List UInt8), l.length = sz + 1 → (ks.foldl (addKey c sz hB) l).getD sz 0 = l.getD sz 0
  | [], l, _ => rfl
  | k :: ks, l, h => by rw [List.foldl_cons, keys_last c sz hB ks _ (by rw [addKey_len, h]), addKey_last c sz hB l k h]

/-- which bits are set, keys having come -/
theorem bitB_keys (c sz : Nat) (hB : 0 < 8 * sz) : ∀ (ks : List (List UInt8)) (l : List UInt8) (k : Nat), k / 8 < l.length → bitB (ks.foldl (addKey c sz hB) l) k = (bitB l k || ks.any fun key => (probesN key c (8 * sz) hB).any fun x => k == x.1)
  | [], l, k, _ => by simp
  | key :: ks, l, k, h => by
    rw [List.foldl_cons, bitB_keys c sz hB ks _ k (by rw [addKey_len]; exact h), List.any_cons, ← Bool.or_assoc]
    congr 1
    exact bitB_all (probesN key c (8 * sz) hB) l k h

theorem buildF_len (b : Int) (keys : List (List UInt8)) : (buildF b keys).length = sizN b keys.length + 1 := by
  unfold buildF
  rw [keys_len]
  simp

theorem buildF_cnt (b : Int) (keys : List (List UInt8)) : cntF (buildF b keys) = prbN b := by
  unfold cntF
  rw [buildF_len, Nat.add_sub_cancel]
  unfold buildF
  rw [keys_last _ _ _ _ _ (by simp)]
  have h := prbN_bd b
  simp
  omega

theorem buildF_isF (b : Int) (keys : List (List UInt8)) : isF (buildF b keys) = true := by
  have h := buildF_cnt b keys
  unfold cntF at h
  unfold isF
  rw [h]
  have h1 := prbN_bd b
  have h2 : 9 ≤ (buildF b keys).length := by
    rw [buildF_len]
    unfold sizN
    split <;> omega
  simp
  omega

theorem hasB_build (b : Int) (keys : List (List UInt8)) (key : List UInt8) : hasB (buildF b keys) key = (List.range (prbN b)).all fun i => bitB (buildF b keys) (atN key i % (8 * sizN b keys.length)) := by
  unfold hasB
  rw [buildF_isF, buildF_cnt, buildF_len, Nat.add_sub_cancel]
  rfl

theorem bit_noughts (sz c k : Nat) (hk : k < 8 * sz) : bitB (List.replicate sz 0 ++ [UInt8.ofNat c]) k = false := by
  unfold bitB
  have : (List.replicate sz (0 : UInt8) ++ [UInt8.ofNat c]).getD (k / 8) 0 = 0 := by
    rw [List.getD_eq_getElem?_getD, List.getElem?_append_left (by simp; omega), List.getElem?_replicate]
    split <;> rfl
  rw [this]
  simp

theorem bitB_build (b : Int) (keys : List (List UInt8)) (k : Nat) (hk : k < 8 * sizN b keys.length) : bitB (buildF b keys) k = keys.any fun key => (probesN key (prbN b) (8 * sizN b keys.length) (sizN_pos b keys.length)).any fun x => k == x.1 := by
  unfold buildF
  rw [bitB_keys _ _ _ _ _ k (by simp; omega), bit_noughts _ _ _ hk, Bool.false_or]

theorem has_built (b : Int) (keys : List (List UInt8)) (key : List UInt8) (hk : key ∈ keys) : hasB (buildF b keys) key = true := by
  rw [hasB_build, List.all_eq_true]
  intro i hi
  rw [bitB_build b keys _ (Nat.mod_lt _ (sizN_pos b keys.length)), List.any_eq_true]
  refine ⟨key, hk, ?_⟩
  rw [List.any_eq_true]
  exact ⟨⟨atN key i % (8 * sizN b keys.length), Nat.mod_lt _ (sizN_pos b keys.length)⟩, List.mem_map.2 ⟨i, hi, rfl⟩, by simp⟩

/-- with more keys, as many bits in all, a filter lets through what it did -/
theorem has_more (b : Int) (keys all : List (List UInt8)) (other : List UInt8) (hsub : ∀ k ∈ keys, k ∈ all) (hl : (buildF b keys).length = (buildF b all).length) (h : hasB (buildF b keys) other = true) : hasB (buildF b all) other = true := by
  have hs : sizN b keys.length = sizN b all.length := by
    rw [buildF_len, buildF_len] at hl
    omega
  rw [hasB_build, List.all_eq_true] at h ⊢
  intro i hi
  have h1 := h i hi
  rw [bitB_build b keys _ (Nat.mod_lt _ (sizN_pos b keys.length)), List.any_eq_true] at h1
  obtain ⟨k, hk, hx⟩ := h1
  rw [bitB_build b all _ (Nat.mod_lt _ (sizN_pos b all.length)), List.any_eq_true]
  refine ⟨k, hsub k hk, ?_⟩
  rw [List.any_eq_true] at hx ⊢
  obtain ⟨x, hx, he⟩ := hx
  obtain ⟨i', hi', rfl⟩ := List.mem_map.1 hx
  refine ⟨_, List.mem_map.2 ⟨i', hi', rfl⟩, ?_⟩
  show (atN other i % (8 * sizN b all.length) == atN k i' % (8 * sizN b all.length)) = true
  rw [← hs]
  exact he

end Go.Proofs.YtlonomjepipjlaaDoor
