/- A disk in a law: made there, with all that hangs on it. -/
import Derived.Test.YtanmfmllnbbdoaaDiskCrash2
namespace Go.Proofs.Ytanmfmllnbbdoaa
open Go.RowKit Go.Maps Go.WideShapes Go.Sort

/-- in world wi block d is the disk S; of what was there in world w nothing has turned -/
structure Dk (w wi : World) (d : Nat) (S : Dsk) : Prop where
  is : DiskIs (fun i => w.heap.size ≤ i) wi d S
  bel : Below w.heap.size w wi

section
variable {w wi wj : World} {d : Nat} {S : Dsk}

theorem DiskIs.stay {F : Nat → Prop} {a b : World} (h : DiskIs F a d S) (hb : ∀ i, i < a.heap.size → F i → b.heap[i]? = a.heap[i]?) : DiskIs F b d S := by
  obtain ⟨m, fs, h⟩ := h
  exact ⟨m, fs, h.stay hb⟩

theorem Dk.below (h : Dk w wi d S) (hb : Below wi.heap.size wi wj) : Dk w wj d S :=
  ⟨h.is.stay fun i hi _ => hb.block i hi, h.bel.trans (hb.mono h.bel.size)⟩

theorem Dk.keeps {q : Dsk} (h : Dk w wi d S) (hq : DiskIs (fun i => w.heap.size ≤ i) wj d q) (hk : Keeps (fun i => w.heap.size ≤ i) wi wj) : Dk w wj d q :=
  ⟨hq, h.bel.trans (hk.below (fun _ hi => hi) h.bel.size)⟩

theorem Dk.alloc (h : Dk w wi d S) (o : Obj) : Dk w (wi.alloc o) d S := h.below ((Below.refl _ _).alloc (Nat.le_refl _) _)

theorem new_k (w wi : World) (hb : Below w.heap.size w wi) (room : Int) (h1 : 1 ≤ room) (h2 : room ≤ 1048576) :
    Calls Try.prog 11 #[.int .i64 room] wi fun e w' => ∃ d, e = .returned (.tuple #[.pointer (some ⟨d, 0, none⟩), .int .i64 0]) ∧ Dk w w' d ⟨false, 0, 0, room, []⟩ := by
  refine (new_ok wi room h1 h2).mono ?_
  rintro e w' ⟨d, rfl, ⟨m, fs, hD⟩, hb'⟩
  exact ⟨d, rfl, ⟨m, fs, hD.mono fun i hi _ => Nat.le_trans hb.size hi⟩, hb.trans (hb'.mono hb.size)⟩

theorem create_k (h : Dk w wi d S) (s : ByteArray) (l : List UInt8) (c : Int) (q : Dsk) (hs : s.data.toList = l) (hl : l.length ≤ 1000000) (hc : S.ch ≤ 1099511627776) (hq : createD S l = (c, q)) :
    Calls Try.prog 17 #[.pointer (some ⟨d, 0, none⟩), .string s] wi fun e w' => e = .returned (.int .i64 c) ∧ Dk w w' d q := by
  refine (create_any _ wi d S s l c q h.is (fun i hi => Nat.le_trans h.bel.size hi) hs hl hc hq).mono ?_
  rintro e w' ⟨rfl, hD, hK⟩
  exact ⟨rfl, h.keeps hD hK⟩

theorem append_k (h : Dk w wi d S) (s : ByteArray) (l p : List UInt8) (vp : Value) (c : Int) (q : Dsk) (hs : s.data.toList = l) (hl : l.length ≤ 1000000) (hc : S.ch ≤ 1099511627776) (hp : Arg wi vp p) (hpl : (p.length : Int) ≤ 1048576) (hq : appD S l p = (c, q)) :
    Calls Try.prog 19 #[.pointer (some ⟨d, 0, none⟩), .string s, vp] wi fun e w' => e = .returned (.int .i64 c) ∧ Dk w w' d q := by
  refine (append_any _ wi d S s l p vp c q h.is (fun i hi => Nat.le_trans h.bel.size hi) hs hl hc hp hpl hq).mono ?_
  rintro e w' ⟨rfl, hD, hK⟩
  exact ⟨rfl, h.keeps hD hK⟩

theorem sync_k (h : Dk w wi d S) (s : ByteArray) (l : List UInt8) (c : Int) (q : Dsk) (hs : s.data.toList = l) (hl : l.length ≤ 1000000) (hc : S.ch ≤ 1099511627776) (hq : syncD S l = (c, q)) :
    Calls Try.prog 21 #[.pointer (some ⟨d, 0, none⟩), .string s] wi fun e w' => e = .returned (.int .i64 c) ∧ Dk w w' d q := by
  refine (sync_any _ wi d S s l c q h.is hs hl hc hq).mono ?_
  rintro e w' ⟨rfl, hD, hK⟩
  exact ⟨rfl, h.keeps hD hK⟩

theorem del_k (h : Dk w wi d S) (s : ByteArray) (l : List UInt8) (c : Int) (q : Dsk) (hs : s.data.toList = l) (hl : l.length ≤ 1000000) (hc : S.ch ≤ 1099511627776) (hq : delD S l = (c, q)) :
    Calls Try.prog 25 #[.pointer (some ⟨d, 0, none⟩), .string s] wi fun e w' => e = .returned (.int .i64 c) ∧ Dk w w' d q := by
  refine (del_any _ wi d S s l c q h.is hs hl hc hq).mono ?_
  rintro e w' ⟨rfl, hD, hK⟩
  exact ⟨rfl, h.keeps hD hK⟩

theorem ren_k (h : Dk w wi d S) (s t : ByteArray) (l k : List UInt8) (c : Int) (q : Dsk) (hs : s.data.toList = l) (hl : l.length ≤ 1000000) (ht : t.data.toList = k) (hk : k.length ≤ 1000000) (hc : S.ch ≤ 1099511627776) (hq : renD S l k = (c, q)) :
    Calls Try.prog 23 #[.pointer (some ⟨d, 0, none⟩), .string s, .string t] wi fun e w' => e = .returned (.int .i64 c) ∧ Dk w w' d q := by
  refine (ren_any _ wi d S s t l k c q h.is hs hl ht hk hc hq).mono ?_
  rintro e w' ⟨rfl, hD, hK⟩
  exact ⟨rfl, h.keeps hD hK⟩

theorem arm_k (h : Dk w wi d S) (n c : Int) (q : Dsk) (hn2 : n ≤ 9223372036854775807) (hq : armD S n = (c, q)) :
    Calls Try.prog 30 #[.pointer (some ⟨d, 0, none⟩), .int .i64 n] wi fun e w' => e = .returned (.int .i64 c) ∧ Dk w w' d q := by
  refine (arm_any _ wi d S n c q h.is hn2 hq).mono ?_
  rintro e w' ⟨rfl, hD, hK⟩
  exact ⟨rfl, h.keeps hD hK⟩

/-- a slice of integers that has nothing of the disk -/
def RdI (w : World) (v : Value) (ks : List Int) : Prop :=
  (∃ a cap, v = .slice a 0 cap ∧ ks = []) ∨ ∃ b off cap, v = .slice (some ⟨b, off, none⟩) ks.length cap ∧ ks.length ≤ cap ∧ cap ≤ maxLen ∧ ∀ j (h : j < ks.length), w.cell? ⟨b, off + j, none⟩ = some (.int .i64 ks[j])

theorem RdI.below {B : Nat} {w w' : World} {v : Value} {ks : List Int} (h : RdI w v ks) (hb : Below B w w') (hB : w.heap.size ≤ B) : RdI w' v ks := by
  rcases h with h | ⟨b, off, cap, e, h1, h2, h3⟩
  · exact .inl h
  · refine .inr ⟨b, off, cap, e, h1, h2, fun j hj => ?_⟩
    rw [hb.cell (p := ⟨b, off + j, none⟩) (Nat.lt_of_lt_of_le (World.block_lt_of_cell? w _ (h3 j hj)) hB)]
    exact h3 j hj

/-- what came in -/
theorem rdi_of {w : World} {a : Option Addr} {len cap : Nat} {zs : List Int} (h : IsRow .i64 w a len cap zs) : RdI w (.slice a len cap) (zs.take len) := by
  rcases h with ⟨rfl, rfl, rfl, rfl⟩ | ⟨x, rfl, hl, hm, hz, hc, hw⟩
  · exact .inl ⟨_, _, rfl, rfl⟩
  · have el : (zs.take len).length = len := by rw [List.length_take]; omega
    by_cases h0 : len = 0
    · subst h0
      exact .inl ⟨_, _, rfl, by simp⟩
    · have hs : x.spot = none := by
        have := hc 0 (by omega)
        simpa [Addr.add] using World.cell?_spot this
      obtain ⟨b, off, sp⟩ := x
      simp only at hs
      subst hs
      refine .inr ⟨b, off, cap, by rw [el], by omega, hm, fun j hj => ?_⟩
      have hj' : j < zs.length := by omega
      have := hc j hj'
      rw [Addr.add_lit] at this
      rw [this]
      simp [List.getD, hj']

theorem crash_k (h : Dk w wi d S) (hb : Below wi.heap.size wi wj) (ks : List Int) (kv : Value) (t : UInt8) (hk : ArgI (fun i => w.heap.size ≤ i ∧ i < wi.heap.size) wj kv ks) (hnm : ∀ f ∈ S.fs, f.name.length ≤ 1000000) :
    Calls Try.prog 32 #[.pointer (some ⟨d, 0, none⟩), kv, .int .u8 (t.toNat : Int)] wj fun e w' => e = .returned (.int .i64 0) ∧ Dk w w' d (crashD S ks t) := by
  obtain ⟨m, fs, hA⟩ := h.is
  have hA2 : DiskAt (fun i => w.heap.size ≤ i ∧ i < wi.heap.size) wj d m S fs := (hA.mono fun i a b => ⟨a, b⟩).stay (w' := wj) fun i hi _ => hb.block i hi
  refine (crash_any _ wj d S ks kv t ⟨m, fs, hA2⟩ hk hnm).mono ?_
  rintro e w' ⟨rfl, ⟨m', fs', hD⟩, hK⟩
  have hj := h.below hb
  exact ⟨rfl, hj.keeps ⟨m', fs', hD.mono fun i hi _ => hi.1⟩ (hK.mono fun i hi => hi.1)⟩

/-- what was there ahead of the disk -/
theorem argI_old (h : Dk w wi d S) {kv : Value} {ks : List Int} (hk : RdI w kv ks) : ArgI (fun i => w.heap.size ≤ i ∧ i < wi.heap.size) wi kv ks := by
  rcases hk with hk | ⟨b, off, cap, e, h1, h2, h3⟩
  · exact .inl hk
  · by_cases h0 : ks = []
    · subst h0
      exact .inl ⟨_, _, e, rfl⟩
    · have hl : 0 < ks.length := List.length_pos_iff.2 h0
      have hb := World.block_lt_of_cell? w _ (h3 0 hl)
      refine .inr ⟨b, off, cap, e, h1, h2, fun hb2 => ?_, fun j hj => ?_⟩
      · have : b < w.heap.size := hb
        omega
      · rw [h.bel.cell (p := ⟨b, off + j, none⟩) (World.block_lt_of_cell? w _ (h3 j hj))]
        exact h3 j hj

/-- one integer in a slice of its own -/
theorem argI_one (w wi : World) (k : Int) : ArgI (fun i => w.heap.size ≤ i ∧ i < wi.heap.size) (wi.alloc (.cells #[.int .i64 k] 3)) (.slice (some ⟨wi.heap.size, 0, none⟩) 1 1) [k] := by
  refine .inr ⟨wi.heap.size, 0, 1, rfl, by simp, by simp [maxLen], fun h => by have := h.2; omega, fun j hj => ?_⟩
  have : j = 0 := by simp at hj; omega
  subst this
  simp

theorem read_k (h : Dk w wi d S) (s : ByteArray) (l : List UInt8) (c : Int) (b : List UInt8) (hs : s.data.toList = l) (hl : l.length ≤ 1000000) (hq : readD S l = (c, b)) :
    Calls Try.prog 27 #[.pointer (some ⟨d, 0, none⟩), .string s] wi fun e w' => ∃ a k, e = .returned (.tuple #[.slice a b.length k, .int .i64 c]) ∧ OwnN wi.heap.size w' (.slice a b.length k) b ∧ Dk w w' d S ∧ Below wi.heap.size wi w' := by
  refine (read_any _ wi d S s l c b h.is hs hl hq).mono ?_
  rintro e w' ⟨x, rfl, hx, hb⟩
  obtain ⟨a, k, rfl⟩ := hx.rd.len
  exact ⟨a, k, rfl, hx, h.below hb, hb⟩

theorem list_k (h : Dk w wi d S) :
    Calls Try.prog 37 #[.pointer (some ⟨d, 0, none⟩)] wi fun e w' => ∃ a k, e = .returned (.slice a S.fs.length k) ∧ OwnS wi.heap.size w' (.slice a S.fs.length k) (S.fs.map FileA.name) ∧ Dk w w' d S := by
  refine (list_any _ wi d S h.is).mono ?_
  rintro e w' ⟨v, rfl, hx, hb⟩
  obtain ⟨a, k, rfl, _⟩ := names_shape hx
  rw [List.length_map] at hx ⊢
  exact ⟨a, k, rfl, hx, h.below hb⟩

theorem used_k (h : Dk w wi d S) (n : Int) (hn : (usedA S.fs : Int) = n) :
    Calls Try.prog 36 #[.pointer (some ⟨d, 0, none⟩)] wi fun e w' => e = .returned (.int .i64 n) ∧ Dk w w' d S := by
  refine (used_any _ wi d S n h.is hn).mono ?_
  rintro e w' ⟨rfl, hb⟩
  exact ⟨rfl, h.below hb⟩

theorem on_k (h : Dk w wi d S) : Calls Try.prog 35 #[.pointer (some ⟨d, 0, none⟩)] wi fun e w' => e = .returned (.bool (!S.off)) ∧ w' = wi := on_any _ wi d S h.is

theorem changes_k (h : Dk w wi d S) : Calls Try.prog 38 #[.pointer (some ⟨d, 0, none⟩)] wi fun e w' => e = .returned (.int .i64 S.ch) ∧ w' = wi := changes_any _ wi d S h.is

end

set_option maxRecDepth 100000 in
set_option maxHeartbeats 4000000 in
theorem dawake_any (w : World) : Calls Try.prog 10 #[] w fun e w' => e = .returned (.bool true) ∧ Below w.heap.size w w' := by
  go_enter Try.func10, Try.ntmps10
  go_wp2_with fail
  refine (new_k w w (Below.refl _ _) 100 (by omega) (by omega)).mono ?_
  rintro e w1 ⟨d, rfl, h1⟩
  go_wp2_with fail
  refine (create_k h1 _ [97] 0 ⟨false, 0, 1, 100, [⟨[97], [], 0⟩]⟩ rfl (by decide) (by decide) (by kernel_rfl)).mono ?_
  rintro e w2 ⟨rfl, h2⟩
  clear h1
  go_wp2_with fail
  have r2 : Arg (w2.alloc (.cells #[.int .u8 1, .int .u8 2, .int .u8 3] 5)) (.slice (some ⟨w2.heap.size, 0, none⟩) 3 3) [1, 2, 3] := (rd_lit w2 [1, 2, 3] (by simp [maxLen]) _ rfl).arg
  refine (append_k (h2.alloc _) _ [97] [1, 2, 3] _ 0 ⟨false, 0, 2, 100, [⟨[97], [1, 2, 3], 0⟩]⟩ rfl (by decide) (by decide) r2 (by decide) (by kernel_rfl)).mono ?_
  rintro e w3 ⟨rfl, h3⟩
  clear h2 r2
  go_wp2_with fail
  refine (sync_k h3 _ [97] 0 ⟨false, 0, 3, 100, [⟨[97], [1, 2, 3], 3⟩]⟩ rfl (by decide) (by decide) (by kernel_rfl)).mono ?_
  rintro e w4 ⟨rfl, h4⟩
  clear h3
  go_wp2_with fail
  have r4 : Arg (w4.alloc (.cells #[.int .u8 4, .int .u8 5, .int .u8 6] 5)) (.slice (some ⟨w4.heap.size, 0, none⟩) 3 3) [4, 5, 6] := (rd_lit w4 [4, 5, 6] (by simp [maxLen]) _ rfl).arg
  refine (append_k (h4.alloc _) _ [97] [4, 5, 6] _ 0 ⟨false, 0, 4, 100, [⟨[97], [1, 2, 3, 4, 5, 6], 3⟩]⟩ rfl (by decide) (by decide) r4 (by decide) (by kernel_rfl)).mono ?_
  rintro e w5 ⟨rfl, h5⟩
  clear h4 r4
  go_wp2_with fail
  refine (crash_k (t := 1) h5 ((Below.refl _ _).alloc (Nat.le_refl _) _) [2] _ (argI_one w w5 2) (by simp)).mono ?_
  rintro e w6 ⟨rfl, h6⟩
  clear h5
  go_wp2_with fail
  refine (read_k h6 _ [97] 0 [1, 2, 3, 4, 4] rfl (by decide) (by kernel_rfl)).mono ?_
  rintro e w7 ⟨a, k, rfl, hx, h7, _⟩
  clear h6
  go_wp2_with fail
  have r7 : Rd (w7.alloc (.cells #[.int .u8 1, .int .u8 2, .int .u8 3, .int .u8 4, .int .u8 4] 5)) (.slice (some ⟨w7.heap.size, 0, none⟩) 5 5) [1, 2, 3, 4, 4] := rd_lit w7 [1, 2, 3, 4, 4] (by simp [maxLen]) _ rfl
  refine (same_b _ _ _ [1, 2, 3, 4, 4] [1, 2, 3, 4, 4] true (hx.rd.below ((Below.refl _ _).alloc (Nat.le_refl _) _) (Nat.le_refl _)) r7 (by decide)).mono ?_
  rintro e w8 ⟨rfl, rfl⟩
  go_wp2
  go_ret
  exact ⟨rfl, (h7.alloc _).bel⟩

end Go.Proofs.Ytanmfmllnbbdoaa
