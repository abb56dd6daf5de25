/- Several texts in one. -/
import Derived.Test.YthcoblmfmbmdkaaGrpF
import Derived.Test.YthcoblmfmbmdkaaGrpC
import Derived.Test.YthcoblmfmbmdkaaGrpE
import Derived.Deep.RegionHeld3
import Derived.Test.YthcoblmfmbmdkaaHeld
import Derived.Deep.AppendLies
import Derived.Deep.AppendSrc
import Derived.Test.YthcoblmfmbmdkaaSrtPure
import Derived.Test.YthcoblmfmbmdkaaEnFew

/- MemoOlder: what isn't newer is refused. -/
namespace Go.Proofs.Ythcoblmfmbmdkaa
set_option maxRecDepth 100000
open Go.RowKit
set_option linter.unusedVariables false
set_option linter.unusedSimpArgs false

theorem batC_old {p : OpB} {s last : Int} {hs : List Int} (hc : chkOp (p.1.toNat : Int) p.2.1 p.2.2 = 0) (h1 : 1 ≤ s) (h2 : s ≤ last) (h3 : last ≤ 72057594037927935) (hh : hs = [1] ∨ hs = []) : batC [p] s hs last = 10 := by
  unfold batC
  rw [chkL_one, if_pos hc, if_pos, if_neg, if_pos h2]
  · rcases hh with rfl | rfl <;> simp [noHt]
  · unfold hasN
    refine decide_eq_true ⟨h1, by omega, ?_⟩
    simp
    omega

theorem argo_in10 (w : World) (x y : Value) (l m : List UInt8) (k : UInt8) (hx : Arg w x l) (hy : Arg w y m) :
    ArgO (w.alloc (.cells #[.int .u8 (k.toNat : Int), x, y] 63)) (.slice (some ⟨w.heap.size, 0, none⟩) 1 1) [(k, l, m)] := by
  have hb := below_box w #[.int .u8 (k.toNat : Int), x, y] 63
  have b := box_new w (.int .u8 (k.toNat : Int)) x y 63
  refine ⟨_, 1, rfl, by simp, by simp [maxLen], fun j h => ?_⟩
  have hj : j = 0 := by simp at h; omega
  subst hj
  exact ⟨w.heap.size, 0, rfl, x, y, b.c0, b.c1, b.c2, hx.below hb (Nat.le_refl _), hy.below hb (Nat.le_refl _)⟩

/-- a new memo and the document's -/
theorem runI_new {w1 w2 : World} {m : Nat} (hM : MmP (fun q => w1.heap.size ≤ q) w2 m [] [] 0) (hb : Below w1.heap.size w1 w2) :
    RunI (fun q => w1.heap.size ≤ q ∧ q < w2.heap.size) (fun q => q = w2.heap.size) (w2.alloc (.cells #[.slice none 0 0, .slice none 0 0] 31)) (w2.alloc (.cells #[.slice none 0 0, .slice none 0 0] 31)) m w2.heap.size [] (fun q => w1.heap.size ≤ q ∧ q < w2.heap.size) (fun q => q = w2.heap.size) [] := by
  refine ⟨(hM.mono (fun q h1 h2 => ⟨h2, h1⟩)).below (below_box4 w2 _), refM_new w2, fun q h1 h2 => by omega, fun q hq => .inl hq, fun q hq => .inl hq, fun q hq => ?_, Keeps.refl _ _, List.Perm.refl _, by simp, by simp, by simp [lastN], by simp, by simp⟩
  have : w2.heap.size < (w2.alloc (.cells #[.slice none 0 0, .slice none 0 0] 31)).heap.size := by simp
  omega

theorem runI_lens {PM G PM' G' : Nat → Prop} {W0 W : World} {m x : Nat} {Z : List (OpB × Nat)} {L : List EnB} (h : RunI PM G W0 W m x Z PM' G' L) : (∀ e ∈ L, e.1.length ≤ 1000 ∧ e.2.2.2.length ≤ 1000) ∧ (∀ e ∈ spnP Z, e.1.length ≤ 1000 ∧ e.2.1.length ≤ 1000) ∧ L.length + (spnP Z).length = Z.length ∧ (∀ e ∈ L, (e.2.1 : Int) ≤ ((lastN (Z.map (·.2)) : Nat) : Int)) := by
  refine ⟨fun e he => ?_, fun e he => ?_, ?_, fun e he => ?_⟩
  · obtain ⟨z, hz, e1, _, e2⟩ := verP_mem (h.pr.mem_iff.1 he)
    obtain ⟨_, h1, h2, h3, _⟩ := chkOp_len (h.ok z hz)
    rw [e1, e2]
    omega
  · obtain ⟨z, hz, e1, e2⟩ := spnP_mem he
    obtain ⟨_, h1, h2, h3, _⟩ := chkOp_len (h.ok z hz)
    rw [e1, e2]
    omega
  · have h1 := h.pr.length_eq
    have h2 := verP_len Z
    omega
  · obtain ⟨z, hz, _, h2, _⟩ := verP_mem (h.pr.mem_iff.1 he)
    have := h.up z hz
    omega

set_option maxHeartbeats 8000000 in
theorem molder (w : World) (v : Value) (sts : List MSt) (xo yo : Value) (o : OpB) (a : Int) (hv : ArgM w v sts) (hx : Arg w xo o.2.1) (hy : Arg w yo o.2.2) (ha0 : 0 ≤ a) :
    Calls Try.prog 8 #[v, .agg #[.int .u8 (o.1.toNat : Int), xo, yo], .int .u64 a] w fun e w' => e = .returned (.bool true) ∧ Below w.heap.size w w' := by
  have HV : Hid (ArgM w v sts) := hv
  obtain ⟨va, vc, rfl, _⟩ := hv
  obtain ⟨xa, nl, xc, rfl⟩ : ∃ a n c, xo = .slice a n c := by rcases hx with ⟨h, _⟩ | ⟨a, c, h, _⟩ <;> exact ⟨_, _, _, h⟩
  obtain ⟨ya, ml, yc, rfl⟩ : ∃ a n c, yo = .slice a n c := by rcases hy with ⟨h, _⟩ | ⟨a, c, h, _⟩ <;> exact ⟨_, _, _, h⟩
  obtain ⟨kk, hkk⟩ : ∃ kk : Int, (o.1.toNat : Int) = kk := ⟨_, rfl⟩
  obtain ⟨NS, hNS⟩ : ∃ NS, sts.length = NS := ⟨_, rfl⟩
  rw [hNS] at HV ⊢
  rw [hkk]
  have HKK : Hid ((o.1.toNat : Int) = kk) := hkk
  have hb0 := below_box4 w (.cells #[.int .u8 kk, .slice xa nl xc, .slice ya ml yc] 63)
  have BX := box_new w (.int .u8 kk) (.slice xa nl xc) (.slice ya ml yc) 63
  have HXY : Hid (Arg w (.slice xa nl xc) o.2.1 ∧ Arg w (.slice ya ml yc) o.2.2) := ⟨hx, hy⟩
  have hA := mawake_any (w.alloc (.cells #[.int .u8 kk, .slice xa nl xc, .slice ya ml yc] 63))
  have HB0 : Hid (Below w.heap.size w (w.alloc (.cells #[.int .u8 kk, .slice xa nl xc, .slice ya ml yc] 63))) := hb0
  clear hx hy hkk hNS hb0
  go_enter Try.func8, Try.ntmps8
  go_wp2_with fail
  refine hA.mono ?_
  rintro e w1 ⟨rfl, hb1⟩
  have HB1 : Hid (Below w.heap.size w w1) := bsplit HB0.out hb1
  have BX1 := BX.below hb1 (Nat.le_refl _)
  have hsz1 : w.heap.size < w1.heap.size := BX1.lt
  have hn := mmP_new w1
  clear hA hb1 BX
  go_wp2_with fail
  refine hn.mono ?_
  rintro e w2 ⟨m, rfl, hM, hb2⟩
  have HI0 : Hid (RunI (fun q => w1.heap.size ≤ q ∧ q < w2.heap.size) (fun q => q = w2.heap.size) (w2.alloc (.cells #[.slice none 0 0, .slice none 0 0] 31)) (w2.alloc (.cells #[.slice none 0 0, .slice none 0 0] 31)) m w2.heap.size [] (fun q => w1.heap.size ≤ q ∧ q < w2.heap.size) (fun q => q = w2.heap.size) []) := runI_new hM hb2
  have HB2 : Hid (Below w.heap.size w w2) := bsplit HB1.out hb2
  have hb3 := below_box4 w2 (.cells #[.slice none 0 0, .slice none 0 0] 31)
  have HB3 : Hid (Below w.heap.size w (w2.alloc (.cells #[.slice none 0 0, .slice none 0 0] 31))) := bsplit HB2.out hb3
  have BX3 : Hid (Box (w2.alloc (.cells #[.slice none 0 0, .slice none 0 0] 31)) w.heap.size (.int .u8 kk) (.slice xa nl xc) (.slice ya ml yc)) := (BX1.below hb2 (Nat.le_refl _)).below hb3 (Nat.le_refl _)
  have HSZ : Hid (w.heap.size < w1.heap.size ∧ w1.heap.size ≤ w2.heap.size ∧ w2.heap.size < (w2.alloc (.cells #[.slice none 0 0, .slice none 0 0] 31)).heap.size) := ⟨hsz1, hb2.size, by simp⟩
  have hrun := mrun_any (fun q => w1.heap.size ≤ q ∧ q < w2.heap.size) (fun q => q = w2.heap.size) (w2.alloc (.cells #[.slice none 0 0, .slice none 0 0] 31)) m w2.heap.size [] [] (.slice va NS vc) sts HI0.out
    (fun W hk => HV.out.below (HB3.out.trans (hk.below (fun i hi => by have := HSZ.out; rcases hi with h9 | h9 <;> omega) HB3.out.size)) (Nat.le_refl _)) (by simp)
  clear hn hM hb2 hb3 BX1 hsz1 HI0
  go_wp2_with fail
  refine hrun.mono ?_
  rintro e w4 ⟨rfl, i, hi30, Y, PM', G', L, hI, hY, _, _⟩
  rw [List.nil_append] at hI
  have HB4 : Hid (Below w.heap.size w w4) := HB3.out.trans (hI.kp.below (fun i hi => by have := HSZ.out; rcases hi with h9 | h9 <;> omega) HB3.out.size)
  have BX4 : Box w4 w.heap.size (.int .u8 kk) (.slice xa nl xc) (.slice ya ml yc) := BX3.out.same9 (hI.kp.block w.heap.size BX3.out.lt (fun hi => by have := HSZ.out; rcases hi with h9 | h9 <;> omega))
  have HI : Hid (RunI (fun q => w1.heap.size ≤ q ∧ q < w2.heap.size) (fun q => q = w2.heap.size) (w2.alloc (.cells #[.slice none 0 0, .slice none 0 0] 31)) w4 m w2.heap.size Y PM' G' L) := hI
  have HYL : Hid (Y.length ≤ 1920) := by show _ ≤ _; omega
  have hfw := fewop_any (w4.alloc (.cells #[.int .u8 kk, .slice xa nl xc, .slice ya ml yc] 63)) (.slice (some ⟨w4.heap.size, 0, none⟩) 1 1) [o] 1 (by
    have h9 := argo_in10 w4 (.slice xa nl xc) (.slice ya ml yc) o.2.1 o.2.2 o.1 (HXY.out.1.below HB4.out (Nat.le_refl _)) (HXY.out.2.below HB4.out (Nat.le_refl _))
    rw [HKK.out] at h9
    exact h9) (by omega)
  have hfe : fewO 1 [o] = [cutOp o] := rfl
  rw [hfe] at hfw
  obtain ⟨p, hp⟩ : ∃ p, cutOp o = p := ⟨_, rfl⟩
  rw [hp] at hfw
  obtain ⟨k, kl, vl⟩ := p
  have hlp := below_box4 w4 (.cells #[.int .u8 kk, .slice xa nl xc, .slice ya ml yc] 63)
  have HBL : Hid (Below w.heap.size w (w4.alloc (.cells #[.int .u8 kk, .slice xa nl xc, .slice ya ml yc] 63))) := bsplit HB4.out hlp
  have HS4 : Hid (w4.heap.size < (w4.alloc (.cells #[.int .u8 kk, .slice xa nl xc, .slice ya ml yc] 63)).heap.size) := by show _ < _; simp
  have HIL : Hid (RunI (fun q => w1.heap.size ≤ q ∧ q < w2.heap.size) (fun q => q = w2.heap.size) (w2.alloc (.cells #[.slice none 0 0, .slice none 0 0] 31)) (w4.alloc (.cells #[.int .u8 kk, .slice xa nl xc, .slice ya ml yc] 63)) m w2.heap.size Y PM' G' L) := hI.below hlp
  obtain ⟨z0, z1, z2, _, _, _⟩ := BX4
  clear hrun hI hY hfe hp hlp
  go_wp2_with fail
  refine hfw.mono ?_
  rintro e w5 ⟨lv, rfl, ol, hb5⟩
  have HI5 : Hid (RunI (fun q => w1.heap.size ≤ q ∧ q < w2.heap.size) (fun q => q = w2.heap.size) (w2.alloc (.cells #[.slice none 0 0, .slice none 0 0] 31)) w5 m w2.heap.size Y PM' G' L) := HIL.out.below hb5
  have HB5 : Hid (Below w.heap.size w w5) := bsplit HBL.out hb5
  have HPL : Hid (∀ q, PM' q → q < w4.heap.size) := HI.out.lt
  have HOL : Hid (OwnO (w4.alloc (.cells #[.int .u8 kk, .slice xa nl xc, .slice ya ml yc] 63)).heap.size w5 lv [(k, kl, vl)]) := ol
  obtain ⟨gl, cl, a1, a2, b1, b2, rfl, ry, ra, rb, hcl⟩ := own_one10 ol
  obtain ⟨kz, hkz⟩ : ∃ kz : Int, (k.toNat : Int) = kz := ⟨_, rfl⟩
  obtain ⟨n1, hn1⟩ : ∃ n1, kl.length = n1 := ⟨_, rfl⟩
  obtain ⟨n2, hn2⟩ : ∃ n2, vl.length = n2 := ⟨_, rfl⟩
  rw [hkz, hn1, hn2] at ry
  rw [hn1] at ra
  rw [hn2] at rb
  have HKZ : Hid ((k.toNat : Int) = kz) := hkz
  have HCE : Hid (∀ W, Below w5.heap.size w5 W → W.cell? ⟨gl, 0, none⟩ = some (.int .u8 kz) ∧ W.cell? ⟨gl, 1, none⟩ = some (.slice a1 n1 a2) ∧ W.cell? ⟨gl, 2, none⟩ = some (.slice b1 n2 b2)) := fun W hW => by
    have hlt := (ry.lt gl rfl).2
    exact ⟨(hW.cell (p := ⟨gl, 0, none⟩) hlt).trans (by rw [World.ownsRow.cellAt ry 0 (by omega)]; rfl), (hW.cell (p := ⟨gl, 1, none⟩) hlt).trans (by rw [World.ownsRow.cellAt ry 1 (by omega)]; rfl), (hW.cell (p := ⟨gl, 2, none⟩) hlt).trans (by rw [World.ownsRow.cellAt ry 2 (by omega)]; rfl)⟩
  have HRA : Hid (OwnN (w4.alloc (.cells #[.int .u8 kk, .slice xa nl xc, .slice ya ml yc] 63)).heap.size w5 (.slice a1 n1 a2) kl ∧ OwnN (w4.alloc (.cells #[.int .u8 kk, .slice xa nl xc, .slice ya ml yc] 63)).heap.size w5 (.slice b1 n2 b2) vl) := ⟨ra, rb⟩
  have hlens := runI_lens HI5.out
  have HLE : Hid ((∀ e ∈ L, e.1.length ≤ 1000 ∧ e.2.2.2.length ≤ 1000) ∧ (∀ e ∈ spnP Y, e.1.length ≤ 1000 ∧ e.2.1.length ≤ 1000) ∧ L.length + (spnP Y).length = Y.length ∧ (∀ e ∈ L, (e.2.1 : Int) ≤ ((lastN (Y.map (·.2)) : Nat) : Int))) := hlens
  obtain ⟨LA, hLA⟩ : ∃ LA : Int, ((lastN (Y.map (·.2)) : Nat) : Int) = LA := ⟨_, rfl⟩
  have HLA : Hid (((lastN (Y.map (·.2)) : Nat) : Int) = LA ∧ LA ≤ 72057594037927935 ∧ 0 ≤ LA) := ⟨hLA, by have := HI5.out.mx; omega, by omega⟩
  have hM5 := HI5.out.mm
  rw [hLA] at hM5
  have HM5 : Hid (MmP PM' w5 m L (spnP Y) LA) := hM5
  have hla := mmP_last PM' w5 m L (spnP Y) LA hM5
  have hss : (spnP Y).length ≤ 1920 := by have := HYL.out; have := hlens.2.2.1; omega
  have hsi := mmP_size PM' w5 m L (spnP Y) LA hM5 hlens.1 (by omega) hlens.2.1
  obtain ⟨Z, hZ⟩ : ∃ Z, sizL L + spSz (spnP Y) = Z := ⟨_, rfl⟩
  rw [hZ] at hsi
  have HZ : Hid (sizL L + spSz (spnP Y) = Z) := hZ
  have HSS : Hid ((spnP Y).length ≤ 1920) := hss
  clear hfw hb5 ol ry ra rb hkz hn1 hn2 hlens hLA hM5 hZ hss HIL z0 z1 z2 hcl
  go_wp2_with fail
  refine hla.mono ?_
  rintro e w6 ⟨rfl, rfl⟩
  clear hla
  go_wp2_with fail
  refine hsi.mono ?_
  rintro e w7 ⟨rfl, hb7⟩
  have HB67 : Hid (Below w6.heap.size w6 w7) := hb7
  have HB7 : Hid (Below w.heap.size w w7) := bsplit HB5.out hb7
  have HM7 : Hid (MmP PM' w7 m L (spnP Y) LA) := HM5.out.below hb7
  clear hsi hb7
  by_cases h0 : LA = 0
  · subst h0
    go_wp2
    go_ret
    exact ⟨rfl, HB7.out⟩
  · obtain ⟨d, hd⟩ : ∃ d, chkOp (k.toNat : Int) kl vl = d := ⟨_, rfl⟩
    have hck := refcheckop_any w7 (.slice a1 n1 a2) (.slice b1 n2 b2) kl vl kz d (by rw [← HKZ.out]; omega) (HRA.out.1.rd.below HB67.out (Nat.le_refl _)) (HRA.out.2.rd.below HB67.out (Nat.le_refl _)) (by rw [← HKZ.out]; exact hd)
    have HD : Hid (chkOp (k.toNat : Int) kl vl = d) := hd
    obtain ⟨c0, c1, c2⟩ := HCE.out w7 HB67.out
    have h0b : (LA == 0) = false := by simp [h0]
    clear hd
    go_wp2_with fail
    refine hck.mono ?_
    rintro e w8 ⟨rfl, hb8⟩
    have HB68 : Hid (Below w6.heap.size w6 w8) := bsplit HB67.out hb8
    have HB8 : Hid (Below w.heap.size w w8) := bsplit HB7.out hb8
    have HM8 : Hid (MmP PM' w8 m L (spnP Y) LA) := HM7.out.below hb8
    clear hck hb8 c0 c1 c2
    by_cases hd0 : d = 0
    · subst hd0
      obtain ⟨r, hr⟩ : ∃ r : Int, a.tmod LA = r := ⟨_, rfl⟩
      have hrb : 0 ≤ r ∧ r < LA := by
        rw [← hr]
        have hp : 0 < LA := by have := HLA.out.2.2; omega
        exact ⟨Int.tmod_nonneg _ ha0, Int.tmod_lt_of_pos _ hp⟩
      obtain ⟨s, hs⟩ : ∃ s : Nat, (s : Int) = LA - r := ⟨(LA - r).toNat, by omega⟩
      obtain ⟨SQ, hSQ⟩ : ∃ SQ : Int, LA - r = SQ := ⟨_, rfl⟩
      have hwr : IntKind.u64.wrap (LA - r) = SQ := by rw [← hSQ, IntKind.wrap_u64]; have := HLA.out; omega
      have HSQ : Hid ((s : Int) = SQ ∧ 1 ≤ SQ ∧ SQ ≤ LA ∧ s < 18446744073709551616) := ⟨by omega, by omega, by omega, by have := HLA.out; omega⟩
      have hdo := mmP_do PM' w8 m L (spnP Y) LA k (.slice a1 n1 a2) (.slice b1 n2 b2) kl vl s 1 HM8.out
        (fun W' hk => by
          have h1 := HRA.out.1.below HB68.out (Nat.le_refl _)
          have h2 := HRA.out.2.below HB68.out (Nat.le_refl _)
          exact ⟨rd_keep h1.rd hk (fun q hq h9 => by have := (ownN_lt9 h1 q hq).1; have := HPL.out q h9; have := HS4.out; omega), rd_keep h2.rd hk (fun q hq h9 => by have := (ownN_lt9 h2 q hq).1; have := HPL.out q h9; have := HS4.out; omega)⟩)
        (by have := HLE.out.2.2.1; have := HYL.out; omega) (by have := HSS.out; omega) (by rw [← HLA.out.1]; exact HLE.out.2.2.2) HSQ.out.2.2.2
      rw [batC_old HD.out (by rw [HSQ.out.1]; exact HSQ.out.2.1) (by rw [HSQ.out.1]; exact HSQ.out.2.2.1) HLA.out.2.1 (.inl rfl), HSQ.out.1, HKZ.out] at hdo
      obtain ⟨c0, c1, c2⟩ := HCE.out w8 HB68.out
      clear hs hSQ hrb
      go_wp2_with fail
      refine hdo.mono ?_
      rintro e w9 ⟨rfl, _, hq9, _⟩
      obtain ⟨hM9, hb9⟩ := hq9 (by omega)
      have HB69 : Hid (Below w6.heap.size w6 w9) := bsplit HB68.out hb9
      have HB9 : Hid (Below w.heap.size w w9) := bsplit HB8.out hb9
      have HM9 : Hid (MmP PM' w9 m L (spnP Y) LA) := hM9
      have hba := mmP_batch PM' w9 m L (spnP Y) LA (.slice (some ⟨gl, 0, none⟩) 1 cl) [(k, kl, vl)] s none 0 0 [] hM9
        (fun W' hk => ((HOL.out.below HB69.out (Nat.le_refl _)).keeps hk (fun q h1 h2 h3 => by have := HPL.out q h3; have := HS4.out; omega)).rd)
        (fun W' hk => ⟨rfl, fun j hj => absurd hj (Nat.not_lt_zero _)⟩) (.inl ⟨rfl, rfl⟩) (Nat.le_refl _) (by omega) (fun _ => by have := HLE.out.2.2.1; have := HYL.out; simp; omega) (by have := HSS.out; omega) (by rw [← HLA.out.1]; exact HLE.out.2.2.2) HSQ.out.2.2.2
      rw [batC_old HD.out (by rw [HSQ.out.1]; exact HSQ.out.2.1) (by rw [HSQ.out.1]; exact HSQ.out.2.2.1) HLA.out.2.1 (.inr rfl), HSQ.out.1] at hba
      clear hdo hM9 hb9 c0 c1 c2
      go_wp2_with fail
      refine hba.mono ?_
      rintro e w10 ⟨rfl, _, hq10, _⟩
      obtain ⟨hM10, hb10⟩ := hq10 (by omega)
      have HB10 : Hid (Below w.heap.size w w10) := bsplit HB9.out hb10
      have HM10 : Hid (MmP PM' w10 m L (spnP Y) LA) := hM10
      have hl2 := mmP_last PM' w10 m L (spnP Y) LA hM10
      have hs2 := mmP_size PM' w10 m L (spnP Y) LA hM10 HLE.out.1 (by have := HSS.out; omega) HLE.out.2.1
      rw [HZ.out] at hs2
      clear hba hM10 hb10
      go_wp2_with fail
      refine hl2.mono ?_
      rintro e w11 ⟨rfl, rfl⟩
      clear hl2
      go_wp2_with fail
      refine hs2.mono ?_
      rintro e w12 ⟨rfl, hb12⟩
      have HB12 : Hid (Below w.heap.size w w12) := bsplit HB10.out hb12
      clear hs2 hb12
      go_wp2
      go_ret
      exact ⟨rfl, HB12.out⟩
    · have hdb : (d != 0) = true := by simp [hd0]
      have hdb2 : (d == 0) = false := by simp [hd0]
      go_wp2
      go_ret
      exact ⟨rfl, HB8.out⟩

theorem memoOlder_walk (a0 : Option Addr) (len0 cap0 : Nat) (z0 : List MSt) (v1 : Value) (o1 : OpB) (a2 : Int) (w : World)
    (w0 : ArgM w (.slice a0 len0 cap0) z0) (w1 : ∃ x y, v1 = .agg #[.int .u8 (o1.1.toNat : Int), x, y] ∧ Arg w x o1.2.1 ∧ Arg w y o1.2.2) (w2 : (Lit.int .u64 a2).wf = true) :
    Calls Try.prog 8 #[.slice a0 len0 cap0, v1, .int .u64 a2] w fun e w' => e = .returned (.bool true) ∧ Below w.heap.size w w' := by
  obtain ⟨x, y, rfl, hx, hy⟩ := w1
  exact molder w _ z0 x y o1 a2 w0 hx hy (bounds_u64 w2).1

end Go.Proofs.Ythcoblmfmbmdkaa

/- What MemoPlays asks of the two memos behind the script, as one: of memos, and of nil ones. -/
namespace Go.Proofs.Ythcoblmfmbmdkaa
set_option maxRecDepth 100000
open Go.RowKit
set_option linter.unusedVariables false
set_option linter.unusedSimpArgs false

/-- what both memos answer from now on: versions, spans, the last number, and what is found -/
structure PlC (w : World) (pm px : Value) (ES : List EnB) (SS : List SpB) (LA : Int) (ST : List UInt8 → Nat → Int) (VA : List UInt8 → Nat → List UInt8) : Prop where
  el : ES.length ≤ 4000
  sl : SS.length ≤ 4000
  eb : ∀ e ∈ ES, e.1.length ≤ 1000 ∧ e.2.2.2.length ≤ 1000
  sb : ∀ s ∈ SS, s.1.length ≤ 1000 ∧ s.2.1.length ≤ 1000
  ml : ∀ W, Below w.heap.size w W → Calls Try.prog 12 #[pm] W fun e w' => e = .returned (.int .u64 LA) ∧ Below W.heap.size W w'
  xl : ∀ W, Below w.heap.size w W → Calls Try.prog 13 #[px] W fun e w' => e = .returned (.int .u64 LA) ∧ Below W.heap.size W w'
  xe : ∀ W, Below w.heap.size w W → Calls Try.prog 14 #[px] W fun e w' => ∃ v, e = .returned v ∧ RdE w' v ES ∧ Below W.heap.size W w'
  xs : ∀ W, Below w.heap.size w W → Calls Try.prog 15 #[px] W fun e w' => ∃ v, e = .returned v ∧ RdS w' v SS ∧ Below W.heap.size W w'
  me : ∀ W, Below w.heap.size w W → Calls Try.prog 17 #[pm] W fun e w' => ∃ v, e = .returned v ∧ RdE w' v ES ∧ Below W.heap.size W w'
  ms : ∀ W, Below w.heap.size w W → Calls Try.prog 19 #[pm] W fun e w' => ∃ v, e = .returned v ∧ RdS w' v SS ∧ Below W.heap.size W w'
  mz : ∀ W, Below w.heap.size w W → Calls Try.prog 20 #[pm] W fun e w' => e = .returned (.int .i64 ((sizL ES + spSz SS : Nat) : Int)) ∧ Below W.heap.size W w'
  mg : ∀ W kv k s, Below w.heap.size w W → Rd W kv k → k.length ≤ 80 → Calls Try.prog 22 #[pm, kv, .int .u64 (s : Nat)] W fun e w' => ∃ v, e = .returned (.tuple #[v, .int .i64 (ST k s)]) ∧ Rd w' v (VA k s) ∧ Below W.heap.size W w'
  xg : ∀ W kv k s, Below w.heap.size w W → Rd W kv k → k.length ≤ 80 → Calls Try.prog 23 #[px, kv, .int .u64 (s : Nat)] W fun e w' => ∃ v, e = .returned (.tuple #[v, .int .i64 (ST k s)]) ∧ Rd w' v (VA k s) ∧ Below W.heap.size W w'

theorem plc_nil (w : World) : PlC w (.pointer none) (.pointer none) [] [] 0 (fun _ _ => 0) (fun _ _ => []) where
  el := by simp
  sl := by simp
  eb := by simp
  sb := by simp
  ml := fun W _ => (mnilLast_any W).mono fun e w' ⟨h1, h2⟩ => ⟨h1, by rw [h2]; exact Below.refl _ _⟩
  xl := fun W _ => (r10nilLast_any W).mono fun e w' ⟨h1, h2⟩ => ⟨h1, by rw [h2]; exact Below.refl _ _⟩
  xe := fun W _ => (r10nilEntries_any W).mono fun e w' ⟨h1, h2⟩ => ⟨_, h1, LsE.nil _ _, by rw [h2]; exact Below.refl _ _⟩
  xs := fun W _ => (r10nilSpans_any W).mono fun e w' ⟨h1, h2⟩ => ⟨_, h1, LsS.nil _ _, by rw [h2]; exact Below.refl _ _⟩
  me := fun W _ => (mnilEntries_any W).mono fun e w' ⟨h1, h2⟩ => ⟨_, h1, LsE.nil _ _, by rw [h2]; exact Below.refl _ _⟩
  ms := fun W _ => (mnilSpans_any W).mono fun e w' ⟨h1, h2⟩ => ⟨_, h1, LsS.nil _ _, by rw [h2]; exact Below.refl _ _⟩
  mz := fun W _ => (mnilSize_any W).mono fun e w' ⟨h1, h2⟩ => ⟨h1, by rw [h2]; exact Below.refl _ _⟩
  mg := fun W kv k s _ hk _ => by
    obtain ⟨a, c, rfl⟩ := hk.len
    exact (mnilGet_any W a _ c s).mono fun e w' ⟨h1, h2⟩ => ⟨_, h1, .inl ⟨rfl, rfl⟩, by rw [h2]; exact Below.refl _ _⟩
  xg := fun W kv k s _ hk _ => by
    obtain ⟨a, c, rfl⟩ := hk.len
    exact (r10nilGet_any W a _ c s).mono fun e w' ⟨h1, h2⟩ => ⟨_, h1, .inl ⟨rfl, rfl⟩, by rw [h2]; exact Below.refl _ _⟩

end Go.Proofs.Ythcoblmfmbmdkaa

/- MemoPlays. -/
namespace Go.Proofs.Ythcoblmfmbmdkaa
set_option maxRecDepth 100000
open Go.RowKit
set_option linter.unusedVariables false
set_option linter.unusedSimpArgs false

/-- numbers that came in -/
def NumsM (w : World) (ao : Option Addr) (n : Nat) : Prop := ∀ j, j < n → ∃ b off, ∃ s : Nat, ao = some ⟨b, off, none⟩ ∧ w.cell? ⟨b, off + j, none⟩ = some (.int .u64 (s : Int))

theorem numsM_of {w : World} {a : Option Addr} {len cap : Nat} {zs : List Int} (h : IsRow .u64 w a len cap zs) : NumsM w a len := by
  intro j hj
  rcases h with ⟨_, rfl, _⟩ | ⟨x, rfl, hl, hm, hz, hc, hw⟩
  · omega
  · have hcj := hc j (by omega)
    obtain ⟨b, off, spot⟩ := x
    have hc0 := hc 0 (by omega)
    have hspot : spot = none := by simpa [Addr.add] using World.cell?_spot hc0
    subst hspot
    rw [Addr.add_lit] at hcj
    have hm9 : zs.getD j 0 ∈ zs := by
      rw [List.getD_eq_getElem?_getD, List.getElem?_eq_getElem (by omega)]
      exact List.getElem_mem _
    obtain ⟨n, hn⟩ := Int.eq_ofNat_of_zero_le (bounds_u64 (hw _ hm9)).1
    rw [hn] at hcj
    exact ⟨b, off, n, rfl, hcj⟩

theorem NumsM.below {w w' : World} {ao : Option Addr} {n : Nat} (h : NumsM w ao n) (hb : Below w.heap.size w w') : NumsM w' ao n := by
  intro j hj
  obtain ⟨b, off, s, e, hc⟩ := h j hj
  exact ⟨b, off, s, e, (hb.cell (p := ⟨b, off + j, none⟩) (World.block_lt_of_cell? w _ hc)).trans hc⟩

theorem sizL_next {es : List EnB} {j : Nat} (h : j < es.length) : sizL (es.take (j + 1)) = sizL (es.take j) + (es[j].1.length + es[j].2.2.2.length + 16) := by
  rw [List.take_succ_eq_append_getElem h]
  unfold sizL
  rw [List.map_append, List.sum_append]
  simp [sizE]

/-- what is known where the script is run -/
def PlRun (w wx : World) (pm px v : Value) : Prop := Below w.heap.size w wx ∧ Calls Try.prog 11 #[pm, px, v] wx fun e w' => e = .returned (.bool true) ∧ Below w.heap.size w w' ∧ ∃ ES SS LA ST VA, PlC w' pm px ES SS LA ST VA

set_option maxHeartbeats 8000000 in
theorem mplays (HPS : Hid (∀ (PM G PM' G' : Nat → Prop) (W0 w : World) (m x : Nat) (Z : List (OpB × Nat)) (L : List EnB), RunI PM G W0 w m x Z PM' G' L → Z.length ≤ 4000 → ∃ ES SS LA ST VA, PlC w (.pointer (some ⟨m, 0, none⟩)) (.pointer (some ⟨x, 0, none⟩)) ES SS LA ST VA))
    (w : World) (b0 : Bool) (v vk : Value) (sts : List MSt) (ks : List (List UInt8)) (a3 : Option Addr) (n3 c3 : Nat) (hv : ArgM w v sts) (hk : ArgL w vk ks) (h3 : NumsM w a3 n3) (hn3 : n3 ≤ c3) (hc3 : c3 ≤ 9223372036854775807) :
    Calls Try.prog 3 #[.bool b0, v, vk, .slice a3 n3 c3] w fun e w' => e = .returned (.bool true) ∧ Below w.heap.size w w' := by
  have HV : Hid (ArgM w v sts) := hv
  have HKS : Hid (ArgL w vk ks) := hk
  have H3 : Hid (NumsM w a3 n3) := h3
  obtain ⟨va, vc, rfl, _⟩ := hv
  obtain ⟨ka, kc, rfl, hk1, hk2, _⟩ := hk.places
  obtain ⟨NS, hNS⟩ : ∃ NS, sts.length = NS := ⟨_, rfl⟩
  obtain ⟨NK, hNK⟩ : ∃ NK, ks.length = NK := ⟨_, rfl⟩
  rw [hNS] at HV ⊢
  rw [hNK] at HKS hk1 ⊢
  have HNK : Hid (ks.length = NK) := hNK
  unfold maxLen at hk2
  have hA := mawake_any w
  clear hk hNS hNK h3
  go_enter Try.func3, Try.ntmps3
  go_wp2_with fail
  refine hA.mono ?_
  rintro e w1 ⟨rfl, hb1⟩
  have HB1 : Hid (Below w.heap.size w w1) := hb1
  have hn := mmP_new w1
  clear hA hb1
  go_wp2_with fail
  refine hn.mono ?_
  rintro e w2 ⟨m, rfl, hM, hb2⟩
  have HI0 : Hid (RunI (fun q => w1.heap.size ≤ q ∧ q < w2.heap.size) (fun q => q = w2.heap.size) (w2.alloc (.cells #[.slice none 0 0, .slice none 0 0] 31)) (w2.alloc (.cells #[.slice none 0 0, .slice none 0 0] 31)) m w2.heap.size [] (fun q => w1.heap.size ≤ q ∧ q < w2.heap.size) (fun q => q = w2.heap.size) []) := runI_new hM hb2
  have HB2 : Hid (Below w.heap.size w w2) := bsplit HB1.out hb2
  have hb3 := below_box4 w2 (.cells #[.slice none 0 0, .slice none 0 0] 31)
  have HB3 : Hid (Below w.heap.size w (w2.alloc (.cells #[.slice none 0 0, .slice none 0 0] 31))) := bsplit HB2.out hb3
  have HSZ : Hid (w.heap.size ≤ w1.heap.size ∧ w1.heap.size ≤ w2.heap.size ∧ w2.heap.size < (w2.alloc (.cells #[.slice none 0 0, .slice none 0 0] 31)).heap.size) := ⟨HB1.out.size, hb2.size, by simp⟩
  have HR1 : Hid (PlRun w (w2.alloc (.cells #[.slice none 0 0, .slice none 0 0] 31)) (.pointer (some ⟨m, 0, none⟩)) (.pointer (some ⟨w2.heap.size, 0, none⟩)) (.slice va NS vc)) := by
    have hrun := mrun_any (fun q => w1.heap.size ≤ q ∧ q < w2.heap.size) (fun q => q = w2.heap.size) (w2.alloc (.cells #[.slice none 0 0, .slice none 0 0] 31)) m w2.heap.size [] [] (.slice va NS vc) sts HI0.out
      (fun W hk => HV.out.below (HB3.out.trans (hk.below (fun i hi => by have := HSZ.out; rcases hi with h9 | h9 <;> omega) HB3.out.size)) (Nat.le_refl _)) (by simp)
    refine ⟨HB3.out, hrun.mono ?_⟩
    rintro e w4 ⟨rfl, i, hi30, Y, PM', G', L, hI, hY, _, _⟩
    rw [List.nil_append] at hI
    refine ⟨rfl, HB3.out.trans (hI.kp.below (fun i hi => by have := HSZ.out; rcases hi with h9 | h9 <;> omega) HB3.out.size), ?_⟩
    exact HPS.out _ _ _ _ _ _ _ _ _ _ hI (by omega)
  have HR0 : Hid (PlRun w (w2.alloc (.cells #[.slice none 0 0, .slice none 0 0] 31)) (.pointer none) (.pointer none) (.slice va NS vc)) :=
    ⟨HB3.out, (mrunnil_any _ _ sts (HV.out.below HB3.out (Nat.le_refl _))).mono fun e w4 ⟨h1, h2⟩ => ⟨h1, bsplit HB3.out h2, _, _, _, _, _, plc_nil _⟩⟩
  clear hn hM hb2 hb3 HI0
  go_upto_if 30 with fail
  go_cut [9, 10] (fun pv xv wx => ∃ pm px, pm = pv ∧ px = xv ∧ Hid (PlRun w wx pm px (.slice va NS vc)))
  case first =>
    cases b0
    · go_wp2_with fail
      go_meet
      exact ⟨_, _, rfl, rfl, HR1⟩
    · go_wp2_with fail
      go_meet
      exact ⟨_, _, rfl, rfl, HR0⟩
  case rest =>
    obtain ⟨pm, px, rfl, rfl, HR⟩ := hcut
    obtain ⟨wx, hwx⟩ : ∃ wx, wx = wc := ⟨_, rfl⟩
    subst hwx
    have hrun := HR.out.2
    clear HR0 HR1 HSZ HB3 HB2 HB1
    go_wp2_with fail
    refine hrun.mono ?_
    rintro e w4 ⟨rfl, hb4, ES, SS, LA, ST, VA, hC⟩
    have HB4 : Hid (Below w.heap.size w w4) := hb4
    have HC : Hid (PlC w4 pm px ES SS LA ST VA) := hC
    have hl := hC.ml w4 (Below.refl _ _)
    clear hrun hb4 hC
    go_wp2_with fail
    refine hl.mono ?_
    rintro e w5 ⟨rfl, hb5⟩
    have HB5 : Hid (Below w4.heap.size w4 w5) := hb5
    have hl2 := HC.out.xl w5 HB5.out
    clear hl hb5
    go_wp2_with fail
    refine hl2.mono ?_
    rintro e w6 ⟨rfl, hb6⟩
    have HB6 : Hid (Below w4.heap.size w4 w6) := bsplit HB5.out hb6
    have hxe := HC.out.xe w6 HB6.out
    clear hl2 hb6
    go_wp2_with fail
    refine hxe.mono ?_
    rintro e w7 ⟨ev, rfl, hev, hb7⟩
    have HB7 : Hid (Below w4.heap.size w4 w7) := bsplit HB6.out hb7
    have HE7 : Hid (RdE w7 ev ES) := hev
    obtain ⟨e1, e2, rfl, e4, e5, _⟩ := hev
    unfold maxLen at e5
    obtain ⟨NE, hNE⟩ : ∃ n, ES.length = n := ⟨_, rfl⟩
    rw [hNE] at HE7 e4 ⊢
    have HNE : Hid (ES.length = NE) := hNE
    have hNE4 : NE ≤ 4000 := by rw [← hNE]; exact HC.out.el
    have hxs := HC.out.xs w7 HB7.out
    clear hxe hb7 hNE
    go_wp2_with fail
    refine hxs.mono ?_
    rintro e w8 ⟨sv, rfl, hsv, hb8⟩
    have HB78 : Hid (Below w7.heap.size w7 w8) := hb8
    have HB8 : Hid (Below w4.heap.size w4 w8) := bsplit HB7.out hb8
    have HE8 : Hid (RdE w8 (.slice e1 NE e2) ES) := rdE_below HE7.out hb8 (Nat.le_refl _)
    have HS8 : Hid (RdS w8 sv SS) := hsv
    obtain ⟨f1, f2, rfl, f4, f5, _⟩ := hsv
    unfold maxLen at f5
    obtain ⟨NP, hNP⟩ : ∃ n, SS.length = n := ⟨_, rfl⟩
    rw [hNP] at HS8 f4 ⊢
    have HNP : Hid (SS.length = NP) := hNP
    have hNP4 : NP ≤ 4000 := by rw [← hNP]; exact HC.out.sl
    clear hxs hb8 hNP HE7
    go_wp2_with fail
    go_loopg [13, 49] NE (fun gk zv iv wr => ∃ j A : Nat, gk + j = NE ∧ zv = .int .i64 (A : Int) ∧ iv = .int .i64 (j : Int) ∧ A ≤ j * 2016 ∧ Hid (A = sizL (ES.take j)) ∧ Hid (Below w8.heap.size w8 wr))
    case atStart => exact ⟨0, 0, by omega, rfl, rfl, by omega, by show _ = _; simp [sizL], Below.refl _ _⟩
    case round =>
      obtain ⟨j, A, hj, rfl, rfl, hA9, HA, HB⟩ := hrel
      by_cases hlt : j < NE
      · have hlt2 : j < ES.length := by rw [HNE.out]; exact hlt
        obtain ⟨q1, q2⟩ := gk_nxt hj hlt
        obtain ⟨_, _, e, _, _, h3⟩ := rdE_below HE8.out HB.out (Nat.le_refl _)
        rw [HNE.out] at e
        cases e
        obtain ⟨bb, off, rfl, xv, yv, c0, c1, c2, c3, rx, ry⟩ := h3 j hlt2
        obtain ⟨x1, x2, ex⟩ := rx.len
        obtain ⟨y1, y2, ey⟩ := ry.len
        subst ex ey
        have hlen := HC.out.eb _ (List.getElem_mem hlt2)
        have hnx := sizL_next hlt2
        obtain ⟨E, hE⟩ : ∃ E, ES[j] = E := ⟨_, rfl⟩
        rw [hE] at c0 c1 c2 c3 hlen hnx
        obtain ⟨nl, hnl⟩ : ∃ nl, E.1.length = nl := ⟨_, rfl⟩
        obtain ⟨ml, hml⟩ : ∃ ml, E.2.2.2.length = ml := ⟨_, rfl⟩
        obtain ⟨sq, hsq⟩ : ∃ sq : Int, (E.2.1 : Int) = sq := ⟨_, rfl⟩
        obtain ⟨kk, hkk⟩ : ∃ kk : Int, (E.2.2.1.toNat : Int) = kk := ⟨_, rfl⟩
        rw [hnl] at c0 hlen hnx
        rw [hml] at c3 hlen hnx
        rw [hsq] at c1
        rw [hkk] at c2
        have hl1 := hlen.1
        have hl2 := hlen.2
        have HNX : Hid (sizL (ES.take (j + 1)) = A + (nl + ml + 16)) := by show _ = _; rw [hnx, ← HA.out]
        have HB0 : Hid (Below w8.heap.size w8 (wr.alloc (.cells #[.slice x1 nl x2, .int .u64 sq, .int .u8 kk, .slice y1 ml y2] 44))) := bsplit HB.out (below_box4 wr _)
        have hA1 : A + (nl + ml + 16) ≤ (j + 1) * 2016 := by omega
        have hsum : (A : Int) ≤ 100000000 := by omega
        have hnlI : (nl : Int) ≤ 1000 := by omega
        have hmlI : (ml : Int) ≤ 1000 := by omega
        clear h3 rx ry hE hnl hml hsq hkk hlen hnx
        go_wp2_with fail
        go_roundg (gk - 1)
        case measure => exact q1
        case rel => exact ⟨j + 1, A + (nl + ml + 16), q2, by go_num, by go_num, hA1, HNX.out.symm, HB0⟩
      · obtain rfl : j = NE := by omega
        have HZ1 : Hid (A = sizL ES) := by show _ = _; rw [HA.out, List.take_of_length_le (by rw [HNE.out]; omega)]
        have HBL : Hid (Below w4.heap.size w4 wr) := bsplit HB8.out HB.out
        have HEL : Hid (RdE wr (.slice e1 j e2) ES) := rdE_below HE8.out HB.out (Nat.le_refl _)
        have HSL : Hid (RdS wr (.slice f1 NP f2) SS) := rdS_below HS8.out HB.out (Nat.le_refl _)
        obtain ⟨w9, hw9⟩ : ∃ w9, w9 = wr := ⟨_, rfl⟩
        subst hw9
        clear hA9 HA hj HB HE8 HS8 HB8 HB78 HB7 HB6 HB5
        have hAB : A ≤ 8064000 := by
          have := sizL_le HC.out.eb
          rw [← HZ1.out] at this
          have := HC.out.el
          omega
        go_wp2_with fail
        go_loopg [13, 67] NP (fun gk zv iv wr => ∃ i B : Nat, gk + i = NP ∧ zv = .int .i64 (B : Int) ∧ iv = .int .i64 (i : Int) ∧ B ≤ 8064000 + i * 2016 ∧ Hid (B = A + spSz (SS.take i)) ∧ Hid (Below w9.heap.size w9 wr))
        case atStart => exact ⟨0, A, by omega, rfl, rfl, by omega, by show _ = _; simp [spSz], Below.refl _ _⟩
        case round =>
          obtain ⟨i, B, hi9, rfl, rfl, hB9, HBB, HB⟩ := hrel
          by_cases hlt : i < NP
          · have hlt2 : i < SS.length := by rw [HNP.out]; exact hlt
            obtain ⟨q1, q2⟩ := gk_nxt hi9 hlt
            obtain ⟨_, _, e, _, _, h3⟩ := rdS_below HSL.out HB.out (Nat.le_refl _)
            rw [HNP.out] at e
            cases e
            obtain ⟨bb, off, rfl, xv, yv, c0, c1, c2, rx, ry⟩ := h3 i hlt2
            obtain ⟨x1, x2, ex⟩ := rx.len
            obtain ⟨y1, y2, ey⟩ := ry.len
            subst ex ey
            have hlen := HC.out.sb _ (List.getElem_mem hlt2)
            have hnx := spSz_next hlt2
            obtain ⟨E, hE⟩ : ∃ E, SS[i] = E := ⟨_, rfl⟩
            rw [hE] at c0 c1 c2 hlen hnx
            obtain ⟨nl, hnl⟩ : ∃ nl, E.1.length = nl := ⟨_, rfl⟩
            obtain ⟨ml, hml⟩ : ∃ ml, E.2.1.length = ml := ⟨_, rfl⟩
            obtain ⟨sq, hsq⟩ : ∃ sq : Int, (E.2.2 : Int) = sq := ⟨_, rfl⟩
            rw [hnl] at c0 hlen hnx
            rw [hml] at c1 hlen hnx
            rw [hsq] at c2
            have hl1 := hlen.1
            have hl2 := hlen.2
            have HNX : Hid (A + spSz (SS.take (i + 1)) = B + (nl + ml + 16)) := by show _ = _; rw [hnx, HBB.out, ← Nat.add_assoc A]
            have HB0 : Hid (Below w9.heap.size w9 (wr.alloc (.cells #[.slice x1 nl x2, .slice y1 ml y2, .int .u64 sq] 46))) := bsplit HB.out (below_box4 wr _)
            have hA1 : B + (nl + ml + 16) ≤ 8064000 + (i + 1) * 2016 := by omega
            have hsum : (B : Int) ≤ 100000000 := by omega
            have hnlI : (nl : Int) ≤ 1000 := by omega
            have hmlI : (ml : Int) ≤ 1000 := by omega
            clear h3 rx ry hE hnl hml hsq hlen hnx
            go_wp2_with fail
            go_roundg (gk - 1)
            case measure => exact q1
            case rel => exact ⟨i + 1, B + (nl + ml + 16), q2, by go_num, by go_num, hA1, HNX.out.symm, HB0⟩
          · obtain rfl : i = NP := by omega
            have HZ2 : Hid ((B : Int) = ((sizL ES + spSz SS : Nat) : Int)) := by show _ = _; rw [HBB.out, HZ1.out, List.take_of_length_le (by rw [HNP.out]; omega)]
            have HBM : Hid (Below w4.heap.size w4 wr) := bsplit HBL.out HB.out
            have HEM : Hid (RdE wr (.slice e1 j e2) ES) := rdE_below HEL.out HB.out (Nat.le_refl _)
            have HSM : Hid (RdS wr (.slice f1 i f2) SS) := rdS_below HSL.out HB.out (Nat.le_refl _)
            obtain ⟨wq, hwq⟩ : ∃ wq, wq = wr := ⟨_, rfl⟩
            subst hwq
            have hme := HC.out.me wq HBM.out
            clear hB9 HBB hi9 HB HEL HSL HBL HZ1 hAB
            go_wp2_with fail
            refine hme.mono ?_
            rintro e wa ⟨va', rfl, hva, hba⟩
            have HBA : Hid (Below wq.heap.size wq wa) := hba
            obtain ⟨a1, a2, rfl, _⟩ := id hva
            have hsa := sameens_any wa _ (.slice e1 j e2) ES ES true hva (rdE_below HEM.out hba (Nat.le_refl _)) (by simp)
            obtain ⟨na, hna⟩ : ∃ n, ES.length = n := ⟨_, rfl⟩
            rw [hna] at hsa ⊢
            clear hme hva hba hna
            go_wp2_with fail
            refine hsa.mono ?_
            rintro e wb ⟨rfl, hbb⟩
            have HBb : Hid (Below wq.heap.size wq wb) := bsplit HBA.out hbb
            have hms := HC.out.ms wb (bsplit HBM.out HBb.out)
            clear hsa hbb
            go_wp2_with fail
            refine hms.mono ?_
            rintro e wd ⟨vd, rfl, hvd, hbd⟩
            have HBd : Hid (Below wq.heap.size wq wd) := bsplit HBb.out hbd
            obtain ⟨d1, d2, rfl, _⟩ := id hvd
            have hsd := samesp_any wd _ (.slice f1 i f2) SS SS true hvd (rdS_below HSM.out HBd.out (Nat.le_refl _)) (by simp)
            obtain ⟨nd, hnd⟩ : ∃ n, SS.length = n := ⟨_, rfl⟩
            rw [hnd] at hsd ⊢
            clear hms hvd hbd hnd
            go_wp2_with fail
            refine hsd.mono ?_
            rintro e we ⟨rfl, nn, hwe⟩
            have HBe : Hid (Below wq.heap.size wq we) := by show Below _ _ _; rw [hwe]; exact below_drewN HBd.out _
            have hmz := HC.out.mz we (bsplit HBM.out HBe.out)
            rw [← HZ2.out] at hmz
            clear hsd hwe
            go_wp2_with fail
            refine hmz.mono ?_
            rintro e wf ⟨rfl, hbf⟩
            have HBF : Hid (Below w4.heap.size w4 wf) := bsplit HBM.out (bsplit HBe.out hbf)
            clear hmz hbf HBe HBd HBb HBA HSM HEM
            go_wp2_with fail
            go_loopg [102] NK (fun gk iv wr => ∃ t : Nat, gk + t = NK ∧ t ≤ 20 ∧ iv = .int .i64 (t : Int) ∧ Hid (Below wf.heap.size wf wr))
            case atStart => exact ⟨0, by omega, by omega, rfl, Below.refl _ _⟩
            case round =>
              obtain ⟨t, ht9, ht20, rfl, HB⟩ := hrel
              by_cases hlt : t < NK
              · have hlt2 : t < ks.length := by rw [HNK.out]; exact hlt
                obtain ⟨q1, q2⟩ := gk_nxt ht9 hlt
                have hbw := bsplit (bsplit HB4.out HBF.out) HB.out
                obtain ⟨_, _, e9, _, _, h3⟩ := (HKS.out.below hbw (Nat.le_refl _)).places
                rw [HNK.out] at e9
                cases e9
                obtain ⟨gb, off, rfl, u, hcell, hu⟩ := h3 t hlt2
                obtain ⟨k, hkk⟩ : ∃ k, ks[t] = k := ⟨_, rfl⟩
                rw [hkk] at hu
                obtain ⟨ua, un, uc, rfl⟩ : ∃ a n c, u = .slice a n c := by rcases hu with ⟨h, _⟩ | ⟨a, c, h, _⟩ <;> exact ⟨_, _, _, h⟩
                have hct := cut_any wr (.slice ua un uc) k 80 hu (by omega)
                have HBW : Hid (Below w.heap.size w wr) := hbw
                clear h3 hu hkk hbw
                by_cases ht : t < 20
                · have htI : ¬ (20 : Int) ≤ (t : Int) := by omega
                  have ht1 : t + 1 ≤ 20 := by omega
                  go_wp2_with fail
                  refine hct.mono ?_
                  rintro e wg ⟨x6, rfl, o6, hb6⟩
                  obtain ⟨g6, c6, ex6⟩ := o6.shape
                  subst ex6
                  obtain ⟨K8, hK8⟩ : ∃ K8, k.take 80 = K8 := ⟨_, rfl⟩
                  rw [hK8] at o6 ⊢
                  have HKL : Hid (K8.length ≤ 80) := by show _ ≤ _; rw [← hK8, List.length_take]; omega
                  have HR6 : Hid (Rd wg (.slice (some ⟨g6, 0, none⟩) K8.length c6) K8) := o6.rd
                  have HB6 : Hid (Below wf.heap.size wf wg) := bsplit HB.out hb6
                  have HN6 : Hid (NumsM wg a3 n3) := H3.out.below (bsplit HBW.out hb6)
                  have HMG : Hid (∀ s : Nat, Calls Try.prog 22 #[pm, .slice (some ⟨g6, 0, none⟩) K8.length c6, .int .u64 (s : Int)] wg fun e w' => ∃ v, e = .returned (.tuple #[v, .int .i64 (ST K8 s)]) ∧ Rd w' v (VA K8 s) ∧ Below wg.heap.size wg w') := fun s => HC.out.mg wg _ K8 s (bsplit HBF.out HB6.out) HR6.out HKL.out
                  obtain ⟨n6, hn6⟩ : ∃ n6, K8.length = n6 := ⟨_, rfl⟩
                  rw [hn6] at HMG HR6 ⊢
                  clear hct o6 hb6 hK8 hn6 hcell
                  by_cases hts : t < n3
                  · obtain ⟨bs, offs, s, rfl, hsc⟩ := HN6.out t hts
                    have htsI : (t : Int) < (n3 : Int) := by omega
                    have hge := HMG.out s
                    obtain ⟨st, hst⟩ : ∃ st, ST K8 s = st := ⟨_, rfl⟩
                    obtain ⟨fv, hfv⟩ : ∃ fv, VA K8 s = fv := ⟨_, rfl⟩
                    have HST : Hid (ST K8 s = st ∧ VA K8 s = fv) := ⟨hst, hfv⟩
                    rw [hst, hfv] at hge
                    clear hst hfv
                    go_wp2_with fail
                    refine hge.mono ?_
                    rintro e wh ⟨v7, rfl, r7, hb7⟩
                    have hxg := HC.out.xg wh _ K8 s (bsplit HBF.out (bsplit HB6.out hb7)) (HR6.out.below hb7 (Nat.le_refl _)) HKL.out
                    rw [HST.out.1, HST.out.2] at hxg
                    obtain ⟨v1, v2, ev⟩ := r7.len
                    subst ev
                    obtain ⟨n7, hn7⟩ : ∃ n7, fv.length = n7 := ⟨_, rfl⟩
                    rw [hn7] at r7 ⊢
                    have HR7 : Hid (Rd wh (.slice v1 n7 v2) fv) := r7
                    have HB7 : Hid (Below wf.heap.size wf wh) := bsplit HB6.out hb7
                    clear hge r7 hb7 hn7 hsc
                    go_wp2_with fail
                    refine hxg.mono ?_
                    rintro e wi ⟨v8, rfl, r8, hb8⟩
                    have hsm := same_any wi _ v8 fv fv (HR7.out.below hb8 (Nat.le_refl _)) r8
                    rw [beq_self_eq_true] at hsm
                    obtain ⟨y1, y2, ev⟩ := r8.len
                    subst ev
                    obtain ⟨n8, hn8⟩ : ∃ n8, fv.length = n8 := ⟨_, rfl⟩
                    rw [hn8] at hsm ⊢
                    have HB8 : Hid (Below wf.heap.size wf wi) := bsplit HB7.out hb8
                    clear hxg r8 hb8 hn8
                    go_wp2_with fail
                    refine hsm.mono ?_
                    rintro e wj ⟨rfl, rfl⟩
                    clear hsm
                    go_wp2_with fail
                    go_roundg (gk - 1)
                    case measure => exact q1
                    case rel => exact ⟨t + 1, q2, ht1, by go_num, HB8⟩
                  · have htsI : ¬ (t : Int) < (n3 : Int) := by omega
                    have hge := HMG.out 72057594037927935
                    rw [show ((72057594037927935 : Nat) : Int) = 72057594037927935 from rfl] at hge
                    obtain ⟨st, hst⟩ : ∃ st, ST K8 72057594037927935 = st := ⟨_, rfl⟩
                    obtain ⟨fv, hfv⟩ : ∃ fv, VA K8 72057594037927935 = fv := ⟨_, rfl⟩
                    have HST : Hid (ST K8 72057594037927935 = st ∧ VA K8 72057594037927935 = fv) := ⟨hst, hfv⟩
                    rw [hst, hfv] at hge
                    clear hst hfv
                    go_wp2_with fail
                    refine hge.mono ?_
                    rintro e wh ⟨v7, rfl, r7, hb7⟩
                    have hxg := HC.out.xg wh _ K8 72057594037927935 (bsplit HBF.out (bsplit HB6.out hb7)) (HR6.out.below hb7 (Nat.le_refl _)) HKL.out
                    rw [HST.out.1, HST.out.2] at hxg
                    rw [show ((72057594037927935 : Nat) : Int) = 72057594037927935 from rfl] at hxg
                    obtain ⟨v1, v2, ev⟩ := r7.len
                    subst ev
                    obtain ⟨n7, hn7⟩ : ∃ n7, fv.length = n7 := ⟨_, rfl⟩
                    rw [hn7] at r7 ⊢
                    have HR7 : Hid (Rd wh (.slice v1 n7 v2) fv) := r7
                    have HB7 : Hid (Below wf.heap.size wf wh) := bsplit HB6.out hb7
                    clear hge r7 hb7 hn7
                    go_wp2_with fail
                    refine hxg.mono ?_
                    rintro e wi ⟨v8, rfl, r8, hb8⟩
                    have hsm := same_any wi _ v8 fv fv (HR7.out.below hb8 (Nat.le_refl _)) r8
                    rw [beq_self_eq_true] at hsm
                    obtain ⟨y1, y2, ev⟩ := r8.len
                    subst ev
                    obtain ⟨n8, hn8⟩ : ∃ n8, fv.length = n8 := ⟨_, rfl⟩
                    rw [hn8] at hsm ⊢
                    have HB8 : Hid (Below wf.heap.size wf wi) := bsplit HB7.out hb8
                    clear hxg r8 hb8 hn8
                    go_wp2_with fail
                    refine hsm.mono ?_
                    rintro e wj ⟨rfl, rfl⟩
                    clear hsm
                    go_wp2_with fail
                    go_roundg (gk - 1)
                    case measure => exact q1
                    case rel => exact ⟨t + 1, q2, ht1, by go_num, HB8⟩
                · have htI : (20 : Int) ≤ (t : Int) := by omega
                  go_wp2_with fail
                  go_ret
                  exact ⟨rfl, HBW.out⟩
              · obtain rfl : t = NK := by omega
                have HBW : Hid (Below w.heap.size w wr) := bsplit (bsplit HB4.out HBF.out) HB.out
                go_wp2
                go_ret
                exact ⟨rfl, HBW.out⟩

end Go.Proofs.Ythcoblmfmbmdkaa

/- Small things, of rounds behind the sixth. -/
namespace Go.Proofs.Ythcoblmfmbmdkaa
open Go.RowKit

theorem Rd.spots {w : World} {v : Value} {l : List UInt8} (h : Rd w v l) : ∃ ao cap, v = .slice ao l.length cap ∧ l.length ≤ cap ∧ cap ≤ 9223372036854775807 ∧ ∀ j (h : j < l.length), ∃ b off, ao = some ⟨b, off, none⟩ ∧ w.cell? ⟨b, off + j, none⟩ = some (.int .u8 ((l[j]).toNat : Int)) := by
  rcases h with ⟨rfl, rfl⟩ | ⟨b, off, cap, rfl, h1, h2, h3⟩
  · exact ⟨none, 0, rfl, Nat.le_refl _, by omega, fun j h => absurd h (Nat.not_lt_zero _)⟩
  · exact ⟨_, cap, rfl, h1, by unfold maxLen at h2; omega, fun j h => ⟨b, off, rfl, h3 j _ (bv_get l j h)⟩⟩

theorem Own.spots {B : Nat} {w : World} {g n k : Nat} {l : List UInt8} (h : Own B w (.slice (some ⟨g, 0, none⟩) n k) l) : ∀ j u, (bv l)[j]? = some u → w.cell? ⟨g, 0 + j, none⟩ = some u := fun j u hu => by
  have := (rd_cells h.rd).2 j u hu
  rwa [Addr.add_lit] at this

/-- texts in a row, as a literal lays them -/
theorem rdl_many (w : World) (vs : List Value) (ls : List (List UInt8)) (n : Nat) (hl : vs.length = n) (hl2 : ls.length = n) (hm : n ≤ maxLen) (hn : 0 < n) (h : ∀ j (h1 : j < vs.length) (h2 : j < ls.length), Rd w vs[j] ls[j]) :
    RdL (w.alloc (.cells vs.toArray 40)) (.slice (some ⟨w.heap.size, 0, none⟩) n n) ls := by
  subst hl2
  refine .inr ⟨w.heap.size, 0, _, rfl, Nat.le_refl _, hm, fun j hj => ?_⟩
  refine ⟨vs[j]'(by omega), ?_, (h j (by omega) hj).below (below_box4 w _) (Nat.le_refl _)⟩
  have h0 := heap_alloc_new w (.cells vs.toArray 40)
  rw [cell_of_row _ _ _ _ _ _ h0]
  simp

theorem byteI {a b : UInt8} : ((a.toNat : Int) = (b.toNat : Int)) ↔ a = b := ⟨fun h => UInt8.toNat_inj.1 (by omega), fun h => by rw [h]⟩

end Go.Proofs.Ythcoblmfmbmdkaa

/- append of a row, nil or empty or not, to a row of one's own that is not nil: as a step of a region that draws its order. -/
namespace Go.Proofs.Ythcoblmfmbmdkaa
set_option maxRecDepth 20000
open Go.RowKit
set_option linter.unusedVariables false

theorem grown_refl (w : World) (row : Option Nat) : w.grownBy w row := ⟨rfl, rfl, rfl, Nat.le_refl _, fun _ _ _ => rfl⟩

/-- what is appended: m elements, the cells news -/
def SrcOf (w : World) (size : Nat) (vx : Value) (m : Nat) (news : List Value) : Prop := (vx = .slice none 0 0 ∧ m = 0 ∧ news = []) ∨ ∃ ad c, vx = .slice (some ad) m c ∧ news.length = m * size ∧ ∀ j u, news[j]? = some u → w.cell? (ad.add j) = some u

theorem step_append_src {P : Program} {w : World} {ops : Array Oper} {o : Oper} {a : Act} {K : Act → World → Prop} {Q : Exit → Act → World → Prop} {E : Prop} (hgd : o.guard = none) (s x : Operand) (t : TypeId)
    (ho : o.op = .call { callee := .builtin .append, args := #[s, x], argTypes := #[t, t] })
    (base : Nat) (e : TypeId) (i : TypeInfo) (z : Value) (size bytes : Nat) (ht : P.underlying t = some (.slice e)) (hi : P.info? e = some i) (hz : i.zero = some z)
    (hsize : i.size = size) (hby : i.bytes = bytes) (hzs : z.cells.size = size) (hsz : 0 < size)
    (g0 n c0 : Nat) (xs : List Value) (hs : a.eval s = .slice (some ⟨g0, 0, none⟩) n c0) (hown : w.ownsRow base e size (.slice (some ⟨g0, 0, none⟩) n c0) n xs)
    (vx : Value) (hx : a.eval x = vx) (m : Nat) (news : List Value) (hsrc : SrcOf w size vx m news) (h1 : ∀ u ∈ news, u.oneCell' = true)
    (h63 : n + m ≤ maxLen) (hbytes : (n + m) * bytes ≤ 140737488355328) (hbase : base ≤ w.heap.size) (H : Nat) (hH : w.heap.size = H) (N : Nat) (hN : n + m = N)
    (h : ∀ g c w', w'.ownsRow base e size (.slice (some ⟨g, 0, none⟩) N c) N (xs ++ news) → w.grownBy w' (some g0) → (g0 = g ∨ g = H) → K (a.put o.dst (.slice (some ⟨g, 0, none⟩) N c)) w') :
    if Region.wanted o (yielded ops a.tmps) = true then Oper.wp P o a w K Q else E := by
  subst hN
  have hw : Region.wanted o (yielded ops a.tmps) = true := by simp [Region.wanted, hgd]
  by_cases hm : m = 0
  · subst hm
    have hnn : news = [] := by
      rcases hsrc with ⟨_, _, h⟩ | ⟨ad, c, _, hl, _⟩
      · exact h
      · exact List.eq_nil_of_length_eq_zero (by omega)
    subst hnn
    have hsr : Src P i.size t vx 0 [] w := by
      rcases hsrc with ⟨rfl, _, _⟩ | ⟨ad, c, rfl, hl, hnews⟩
      · exact Src.ofNil w ht 0
      · exact Src.ofSlice w ht ad 0 c [] (by simp) hnews h1
    have hcap : n ≤ c0 := by
      rcases hown.2 with ⟨e', _⟩ | ⟨g, cap, cur, e', _, _, h1, _⟩
      · cases e'
      · cases e'; exact h1
    have hrun := run_append_room_src w t t o.type e i ht hi g0 0 n c0 vx 0 [] hsr (by omega) (fun j hj => absurd hj (by simp)) (fun j hj => absurd hj (by simp))
    rw [if_pos hw]
    unfold Oper.wp
    simp [execOp, ho, resolve, invoke, builtin, hs, hx, hrun, Result.andThen]
    have hsc : w.setCells g0 (0 + n * i.size) [] = w := by simp [World.setCells]
    rw [Nat.zero_add] at hsc
    rw [hsc]
    exact h g0 c0 w (by simpa using hown) (grown_refl w _) (.inl rfl)
  · rcases hsrc with ⟨_, h0, _⟩ | ⟨ad, c, rfl, hl, hnews⟩
    · exact absurd h0 hm
    · exact step_append_lies w hgd s x t ho base e i z size bytes ht hi hz hsize hby hzs hsz _ n xs hs hown ad m c news hx hl hnews h1 (by omega) h63 hbytes hbase H hH (fun g c w' h2 h3 h4 h5 => h g c w' h2 h3 (by
        rcases h4 with h4 | h4
        · simp only [Value.ownBlock, Option.some.injEq] at h4; exact .inl h4
        · exact .inr h4))

theorem row_mono {B C : Nat} {w : World} {e : TypeId} {s n : Nat} {v : Value} {cs : List Value} (h : w.ownsRow B e s v n cs) (hC : C ≤ B) : w.ownsRow C e s v n cs := by
  refine ⟨h.1, ?_⟩
  rcases h.2 with hr | ⟨g, cap, cur, e, hb, hg⟩
  · exact .inl hr
  · exact .inr ⟨g, cap, cur, e, Nat.le_trans hC hb, hg⟩

end Go.Proofs.Ythcoblmfmbmdkaa

/- bartizanref12.Sort. -/
namespace Go.Proofs.Ythcoblmfmbmdkaa
set_option maxRecDepth 20000
open Go.RowKit
set_option linter.unusedVariables false

/-- the cells of entries whose texts are read in w -/
def Cells4 (w : World) (cs : List Value) (es : List EnB) : Prop :=
  cs.length = es.length * 4 ∧ ∀ j (h : j < es.length), ∃ x y, cs[j * 4]? = some x ∧ cs[j * 4 + 1]? = some (.int .u64 (es[j].2.1 : Int)) ∧ cs[j * 4 + 2]? = some (.int .u8 (es[j].2.2.1.toNat : Int)) ∧ cs[j * 4 + 3]? = some y ∧ Rd w x es[j].1 ∧ Rd w y es[j].2.2.2

theorem Cells4.nil (w : World) : Cells4 w [] [] := ⟨rfl, fun j h => absurd h (Nat.not_lt_zero _)⟩

theorem Cells4.append {w : World} {cs ds : List Value} {es fs : List EnB} (h : Cells4 w cs es) (h2 : Cells4 w ds fs) : Cells4 w (cs ++ ds) (es ++ fs) := by
  obtain ⟨hl, hj⟩ := h
  obtain ⟨hl2, hj2⟩ := h2
  refine ⟨by rw [List.length_append, List.length_append, hl, hl2]; omega, fun j hjl => ?_⟩
  by_cases hh : j < es.length
  · obtain ⟨x, y, c0, c1, c2, c3, rx, ry⟩ := hj j hh
    refine ⟨x, y, ?_, ?_, ?_, ?_, ?_, ?_⟩
    · rw [List.getElem?_append_left (by omega)]; exact c0
    · rw [List.getElem?_append_left (by omega), List.getElem_append_left hh]; exact c1
    · rw [List.getElem?_append_left (by omega), List.getElem_append_left hh]; exact c2
    · rw [List.getElem?_append_left (by omega)]; exact c3
    · rw [List.getElem_append_left hh]; exact rx
    · rw [List.getElem_append_left hh]; exact ry
  · have hk : j - es.length < fs.length := by rw [List.length_append] at hjl; omega
    obtain ⟨x, y, c0, c1, c2, c3, rx, ry⟩ := hj2 (j - es.length) hk
    refine ⟨x, y, ?_, ?_, ?_, ?_, ?_, ?_⟩
    · rw [List.getElem?_append_right (by omega), show j * 4 - cs.length = (j - es.length) * 4 by omega]; exact c0
    · rw [List.getElem?_append_right (by omega), List.getElem_append_right (by omega), show j * 4 + 1 - cs.length = (j - es.length) * 4 + 1 by omega]; exact c1
    · rw [List.getElem?_append_right (by omega), List.getElem_append_right (by omega), show j * 4 + 2 - cs.length = (j - es.length) * 4 + 2 by omega]; exact c2
    · rw [List.getElem?_append_right (by omega), show j * 4 + 3 - cs.length = (j - es.length) * 4 + 3 by omega]; exact c3
    · rw [List.getElem_append_right (by omega)]; exact rx
    · rw [List.getElem_append_right (by omega)]; exact ry

theorem Cells4.take {w : World} {cs : List Value} {es : List EnB} (h : Cells4 w cs es) (k : Nat) (hk : k ≤ es.length) : Cells4 w (cs.take (k * 4)) (es.take k) := by
  obtain ⟨hl, hj⟩ := h
  have htl : (es.take k).length = k := by rw [List.length_take]; omega
  refine ⟨by rw [List.length_take, htl]; omega, fun j hjl => ?_⟩
  rw [htl] at hjl
  obtain ⟨x, y, c0, c1, c2, c3, rx, ry⟩ := hj j (by omega)
  refine ⟨x, y, ?_, ?_, ?_, ?_, ?_, ?_⟩
  · rw [List.getElem?_take_of_lt (by omega)]; exact c0
  · rw [List.getElem?_take_of_lt (by omega), List.getElem_take]; exact c1
  · rw [List.getElem?_take_of_lt (by omega), List.getElem_take]; exact c2
  · rw [List.getElem?_take_of_lt (by omega)]; exact c3
  · rw [List.getElem_take]; exact rx
  · rw [List.getElem_take]; exact ry

theorem Cells4.drop {w : World} {cs : List Value} {es : List EnB} (h : Cells4 w cs es) (k : Nat) (hk : k ≤ es.length) : Cells4 w (cs.drop (k * 4)) (es.drop k) := by
  obtain ⟨hl, hj⟩ := h
  refine ⟨by rw [List.length_drop, List.length_drop]; omega, fun j hjl => ?_⟩
  rw [List.length_drop] at hjl
  obtain ⟨x, y, c0, c1, c2, c3, rx, ry⟩ := hj (k + j) (by omega)
  refine ⟨x, y, ?_, ?_, ?_, ?_, ?_, ?_⟩
  · rw [List.getElem?_drop, show k * 4 + j * 4 = (k + j) * 4 by omega]; exact c0
  · rw [List.getElem?_drop, List.getElem_drop, show k * 4 + (j * 4 + 1) = (k + j) * 4 + 1 by omega]; exact c1
  · rw [List.getElem?_drop, List.getElem_drop, show k * 4 + (j * 4 + 2) = (k + j) * 4 + 2 by omega]; exact c2
  · rw [List.getElem?_drop, show k * 4 + (j * 4 + 3) = (k + j) * 4 + 3 by omega]; exact c3
  · rw [List.getElem_drop]; exact rx
  · rw [List.getElem_drop]; exact ry

theorem Cells4.one {w : World} {x y : Value} (e : EnB) (hx : Rd w x e.1) (hy : Rd w y e.2.2.2) : Cells4 w [x, .int .u64 (e.2.1 : Int), .int .u8 (e.2.2.1.toNat : Int), y] [e] :=
  ⟨rfl, fun j h => by
    obtain rfl : j = 0 := by simp at h; exact h
    exact ⟨x, y, rfl, rfl, rfl, rfl, hx, hy⟩⟩

theorem rd_one4 {w : World} {v : Value} {l : List UInt8} (h : Rd w v l) : v.oneCell' = true := by
  obtain ⟨a, c, rfl⟩ := h.len; rfl

theorem Cells4.ones {w : World} {cs : List Value} {es : List EnB} (h : Cells4 w cs es) : ∀ u ∈ cs, u.oneCell' = true := by
  intro u hu
  obtain ⟨i, hi, rfl⟩ := List.getElem_of_mem hu
  have hj : i / 4 < es.length := by have := h.1; omega
  obtain ⟨x, y, c0, c1, c2, c3, rx, ry⟩ := h.2 (i / 4) hj
  have h4 : i % 4 = 0 ∨ i % 4 = 1 ∨ i % 4 = 2 ∨ i % 4 = 3 := by omega
  have hg := List.getElem?_eq_getElem hi
  rcases h4 with h | h | h | h
  · rw [show i / 4 * 4 = i by omega, hg] at c0; rw [Option.some.inj c0]; exact rd_one4 rx
  · rw [show i / 4 * 4 + 1 = i by omega, hg] at c1; rw [Option.some.inj c1]; rfl
  · rw [show i / 4 * 4 + 2 = i by omega, hg] at c2; rw [Option.some.inj c2]; rfl
  · rw [show i / 4 * 4 + 3 = i by omega, hg] at c3; rw [Option.some.inj c3]; exact rd_one4 ry

/-- entries in a row of one's own; their texts are read in w -/
def RowE (w wr : World) (v : Value) (es : List EnB) : Prop := ∃ cs, wr.ownsRow w.heap.size 44 4 v es.length cs ∧ Cells4 w cs es

theorem RowE.below {w wr w2 : World} {v : Value} {es : List EnB} (h : RowE w wr v es) (hb : Below wr.heap.size wr w2) : RowE w w2 v es := by
  obtain ⟨cs, hr, hc⟩ := h
  exact ⟨cs, row_below hr hb, hc⟩

theorem RowE.nil (w wr : World) : RowE w wr (.slice none 0 0) [] := ⟨[], World.ownsRow_nil _ _ _ _, Cells4.nil w⟩

theorem RowE.rd {w wr : World} {v : Value} {es : List EnB} (h : RowE w wr v es) (hb : Below w.heap.size w wr) : RdE wr v es := by
  obtain ⟨cs, hr, hj⟩ := h
  have hr2 := hr
  rcases hr.2 with ⟨e, hn⟩ | ⟨g, cap, cur, e, hb', hg, h1, h2, h3, h4⟩
  · exact ⟨none, 0, by rw [e, hn], by omega, Nat.zero_le _, fun j hj => by omega⟩
  · subst e
    refine ⟨_, cap, rfl, h1, h2, fun j h => ⟨g, 0, rfl, ?_⟩⟩
    obtain ⟨x, y, c0, c1, c2, c3, ox, oy⟩ := hj.2 j h
    have hc := hr2.cells (g := g) rfl
    refine ⟨x, y, ?_, ?_, ?_, ?_, ox.below hb (Nat.le_refl _), oy.below hb (Nat.le_refl _)⟩
    · have := hc _ _ c0; rwa [Addr.add_lit] at this
    · have := hc _ _ c1; rwa [Addr.add_lit] at this
    · have := hc _ _ c2; rwa [Addr.add_lit] at this
    · have := hc _ _ c3; rwa [Addr.add_lit] at this

theorem RowE.lt {w wr : World} {v : Value} {es : List EnB} (h : RowE w wr v es) : ∀ q, v.ownBlock = some q → w.heap.size ≤ q ∧ q < wr.heap.size := by
  obtain ⟨cs, hr, _⟩ := h
  exact fun q hq => hr.lt q hq

/-- v is the row's value: nil, or a block of its own -/
theorem RowE.shape {w wr : World} {v : Value} {es : List EnB} (h : RowE w wr v es) : (v = .slice none 0 0 ∧ es = []) ∨ ∃ g c, v = .slice (some ⟨g, 0, none⟩) es.length c ∧ es.length ≤ c ∧ c ≤ 9223372036854775807 := by
  obtain ⟨cs, hr, _⟩ := h
  rcases hr.2 with ⟨e, hn⟩ | ⟨g, cap, cur, e, hb', hg, h1, h2, h3, h4⟩
  · exact .inl ⟨e, List.eq_nil_of_length_eq_zero hn⟩
  · exact .inr ⟨g, cap, e, h1, by unfold maxLen at h2; omega⟩

end Go.Proofs.Ythcoblmfmbmdkaa

/- bartizanref10.Entries. -/
namespace Go.Proofs.Ythcoblmfmbmdkaa
set_option maxRecDepth 100000
open Go.RowKit
set_option linter.unusedVariables false

theorem Bx2.same {w wr : World} {x : Nat} {v u : Value} (h : Bx2 w x v u) (hb : Below w.heap.size w wr) : Bx2 wr x v u := (hb.block x h.lt).trans h

set_option maxHeartbeats 8000000 in
theorem r10ents_any (G : Nat → Prop) (w : World) (x : Nat) (Z : List (OpB × Nat)) (h : RefM G w x (Z.map (·.1)) (Z.map (·.2))) (hn : Z.length ≤ 100000) :
    Calls Try.prog 14 #[.pointer (some ⟨x, 0, none⟩)] w fun e w' => ∃ v, e = .returned v ∧ RowE w w' v (entsP Z) ∧ Below w.heap.size w w' := by
  obtain ⟨i0, hi, hz0, hz1, hz2⟩ := info_parts infoEn
  have he := eqRm x
  obtain ⟨v, u, hbx, hro, hru⟩ := h.rd
  have HBX : Hid (Bx2 w x v u) := hbx
  have HRO : Hid (RdO w v (Z.map (·.1))) := hro
  have hro2 := hro
  obtain ⟨oa, oc, eo, _, h2, _⟩ := hro2
  subst eo
  obtain ⟨N, hN⟩ : ∃ N, Z.length = N := ⟨_, rfl⟩
  rw [List.length_map, hN] at HRO HBX
  have HN : Hid (Z.length = N) := hN
  have HRU : Hid (w.ownsRow 0 33 1 u (Z.map (·.2)).length ((Z.map (·.2)).map encU)) := hru
  have c0 := HBX.out.c0
  have hN2 : N ≤ 100000 := by rw [← hN]; exact hn
  clear hbx hro hru h hN hn
  go_enter Try.func14, Try.ntmps14
  go_wp2_with fail
  go_loopg [3, 17] N (fun gk pv iv wr => ∃ (j n' c' : Nat) (a' : Option Addr), gk + j = N ∧ iv = .int .i64 (j : Int) ∧ pv = .slice a' n' c' ∧ Hid (RowE w wr pv (entsP (Z.take j))) ∧ Hid (Below w.heap.size w wr))
  case atStart => exact ⟨0, 0, 0, none, by omega, rfl, rfl, RowE.nil _ _, Below.refl _ _⟩
  case round =>
    obtain ⟨j, n', c', a', hj, rfl, rfl, HO, HB⟩ := hrel
    by_cases hlt : j < N
    · have hlt2 : j < Z.length := by rw [HN.out]; exact hlt
      have hlt3 : j < (Z.map (·.1)).length := by rw [List.length_map]; exact hlt2
      obtain ⟨_, _, e, _, _, h3⟩ := HRO.out
      rw [List.length_map, HN.out] at e
      cases e
      obtain ⟨b, off, rfl, xv, yv, d0', d1', d2', rx, ry⟩ := h3 j hlt3
      have hbl := World.block_lt_of_cell? w _ d0'
      have d0 := (HB.out.cell (p := ⟨b, off + j * 3, none⟩) hbl).trans d0'
      have d1 := (HB.out.cell (p := ⟨b, off + j * 3 + 1, none⟩) hbl).trans d1'
      have d2 := (HB.out.cell (p := ⟨b, off + j * 3 + 2, none⟩) hbl).trans d2'
      clear d0' d1' d2' hbl
      obtain ⟨x1, x2, ex⟩ := rx.len
      obtain ⟨y1, y2, ey⟩ := ry.len
      subst ex ey
      obtain ⟨q1, q2⟩ := gk_nxt hj hlt
      have hst := entsP_next hlt2
      obtain ⟨z, ho⟩ : ∃ z, Z[j] = z := ⟨_, rfl⟩
      have ho2 : (Z.map (·.1))[j] = z.1 := by rw [List.getElem_map, ho]
      rw [ho2] at d0 d1 d2 rx ry
      rw [ho] at hst
      obtain ⟨nl, hnlq⟩ : ∃ nl, z.1.2.1.length = nl := ⟨_, rfl⟩
      obtain ⟨oln, holn⟩ : ∃ oln, z.1.2.2.length = oln := ⟨_, rfl⟩
      obtain ⟨sq, hsq⟩ : ∃ q : Int, (z.2 : Int) = q := ⟨_, rfl⟩
      obtain ⟨kk, hkk⟩ : ∃ q : Int, (z.1.1.toNat : Int) = q := ⟨_, rfl⟩
      rw [hnlq] at d1 rx
      rw [holn] at d2 ry
      rw [hkk] at d0
      have HK3 : Hid (z.1.1 = 3 ↔ kk = 3) := by
        show _ ↔ _
        rw [three_iff, ← hkk]
        omega
      have c0r := (HBX.out.same (wr := wr) HB.out).c0
      obtain ⟨g, uc, eu, hug⟩ : ∃ g uc, u = .slice (some ⟨g, 0, none⟩) N uc ∧ w.cell? ⟨g, j, none⟩ = some (.int .u64 sq) := by
        have hr := HRU.out
        rw [List.length_map, HN.out] at hr
        obtain ⟨g, c, e, _⟩ := hr.form (by omega)
        subst e
        refine ⟨g, c, rfl, ?_⟩
        rw [World.ownsRow.cellAt hr j (by omega), List.getElem?_map, List.getElem?_map, List.getElem?_eq_getElem hlt2, ho]
        show some (Value.int .u64 (z.2 : Int)) = _
        rw [hsq]
      subst eu
      have dg := (HB.out.cell (p := ⟨g, j, none⟩) (World.block_lt_of_cell? w _ hug)).trans hug
      have c1r := (HBX.out.same (wr := wr) HB.out).c1
      have HUG : Hid (w.cell? ⟨g, j, none⟩ = some (.int .u64 sq)) := hug
      clear hug
      by_cases hk3 : kk = 3
      · have HS9 : Hid (entsP (Z.take (j + 1)) = entsP (Z.take j)) := by show _ = _; rw [hst, if_pos (HK3.out.2 hk3)]
        have hb0 := below_box wr #[.int .u8 3, .slice x1 nl x2, .slice y1 oln y2] 63
        have HF : Hid (RowE w (wr.alloc (.cells #[.int .u8 3, .slice x1 nl x2, .slice y1 oln y2] 63)) (.slice a' n' c') (entsP (Z.take (j + 1))) ∧ Below w.heap.size w (wr.alloc (.cells #[.int .u8 3, .slice x1 nl x2, .slice y1 oln y2] 63))) := by
          refine ⟨?_, bsplit HB.out hb0⟩
          rw [HS9.out]
          exact HO.out.below hb0
        clear hst ho ho2 rx ry h3 hb0
        subst hk3
        go_wp2_with fail
        go_roundg (gk - 1)
        case measure => exact q1
        case rel => exact ⟨j + 1, _, _, _, q2, by go_num, rfl, HF.out.1, HF.out.2⟩
      · have HST : Hid (entsP (Z.take (j + 1)) = insR (entsP (Z.take j)) (z.1.2.1, z.2, z.1.1, z.1.2.2)) := by show _ = _; rw [hst, if_neg (fun h9 => hk3 (HK3.out.1 h9))]
        obtain ⟨E, hE⟩ : ∃ E : EnB, (z.1.2.1, z.2, z.1.1, z.1.2.2) = E := ⟨_, rfl⟩
        rw [hE] at HST
        have HE : Hid ((E.1.length = nl ∧ E.2.2.2.length = oln) ∧ (E.2.1 : Int) = sq ∧ (E.2.2.1.toNat : Int) = kk) := by rw [← hE]; exact ⟨⟨hnlq, holn⟩, hsq, hkk⟩
        have HRX : Hid (Rd w (.slice x1 nl x2) E.1 ∧ Rd w (.slice y1 oln y2) E.2.2.2) := by rw [← hE]; exact ⟨rx.below (w := w) (Below.refl w.heap.size w) (Nat.le_refl _), ry⟩
        obtain ⟨OUT, hOUT⟩ : ∃ O, entsP (Z.take j) = O := ⟨_, rfl⟩
        rw [hOUT] at HO HST
        have HOL : Hid (OUT.length ≤ 100000) := by show _ ≤ _; rw [← hOUT]; have := entsP_len (Z.take j); rw [List.length_take] at this; omega
        have HNP : Hid (OUT.length = n') := by
          show _ = _
          rcases HO.out.shape with ⟨e, h⟩ | ⟨g, c, e, _⟩
          · cases e; rw [h]; rfl
          · cases e; rfl
        have hnI : n' ≤ 100000 := by rw [← HNP.out]; exact HOL.out
        have hb0 := below_box wr #[.int .u8 kk, .slice x1 nl x2, .slice y1 oln y2] 63
        have HO0 : Hid (RowE w (wr.alloc (.cells #[.int .u8 kk, .slice x1 nl x2, .slice y1 oln y2] 63)) (.slice a' n' c') OUT) := HO.out.below hb0
        have HB0 : Hid (Below w.heap.size w (wr.alloc (.cells #[.int .u8 kk, .slice x1 nl x2, .slice y1 oln y2] 63))) := bsplit HB.out hb0
        clear hst ho ho2 rx ry h3 hb0 hE hOUT hnlq holn hsq hkk HO HB
        go_wp2_with fail
        have hz0' : (wr.alloc (.cells #[.int .u8 kk, .slice x1 nl x2, .slice y1 oln y2] 63)).cell? ⟨wr.heap.size, 0, none⟩ = some (.int .u8 kk) := by simp
        have hz1' : (wr.alloc (.cells #[.int .u8 kk, .slice x1 nl x2, .slice y1 oln y2] 63)).cell? ⟨wr.heap.size, 1, none⟩ = some (.slice x1 nl x2) := by simp
        have hz2' : (wr.alloc (.cells #[.int .u8 kk, .slice x1 nl x2, .slice y1 oln y2] 63)).cell? ⟨wr.heap.size, 2, none⟩ = some (.slice y1 oln y2) := by simp
        have hc1a := (HBX.out.same HB0.out).c1
        have hdga := (HB0.out.cell (p := ⟨g, j, none⟩) (World.block_lt_of_cell? w _ HUG.out)).trans HUG.out
        obtain ⟨wa, hwa⟩ : ∃ wa, wr.alloc (.cells #[.int .u8 kk, .slice x1 nl x2, .slice y1 oln y2] 63) = wa := ⟨_, rfl⟩
        obtain ⟨bo, hbo⟩ : ∃ bo, wr.heap.size = bo := ⟨_, rfl⟩
        rw [hwa] at hc1a hdga HO0 HB0 ⊢
        rw [hwa, hbo] at hz0' hz1' hz2'
        rw [hbo]
        have hkb : (kk == 3) = false := by simpa using hk3
        clear d0 d1 d2 dg c0r c1r hwa hbo
        rw [hkb]
        go_upto_region 8 with fail
        go_cut [6] (fun ev wx => ∃ bx, ev = .pointer (some ⟨bx, 0, none⟩) ∧ bx < wx.heap.size ∧ Hid (Box4 wx bx (.slice x1 nl x2) (.int .u64 sq) (.int .u8 kk) (.slice y1 oln y2)) ∧ Hid (RowE w wx (.slice a' n' c') OUT) ∧ Hid (Below w.heap.size w wx))
        case first =>
          have hbz := below_box4 wa (.cells #[.slice none 0 0, .int .u64 0, .int .u8 0, .slice none 0 0] 44)
          have hy0 := (hbz.cell (p := ⟨bo, 0, none⟩) (World.block_lt_of_cell? _ _ hz0')).trans hz0'
          have hy1 := (hbz.cell (p := ⟨bo, 1, none⟩) (World.block_lt_of_cell? _ _ hz1')).trans hz1'
          have hy2 := (hbz.cell (p := ⟨bo, 2, none⟩) (World.block_lt_of_cell? _ _ hz2')).trans hz2'
          have hc1b := (hbz.cell (p := ⟨x, 1, none⟩) (World.block_lt_of_cell? _ _ hc1a)).trans hc1a
          have hdgb := (hbz.cell (p := ⟨g, j, none⟩) (World.block_lt_of_cell? _ _ hdga)).trans hdga
          have BX0 := box4_new wa (.slice x1 nl x2) (.int .u64 sq) (.int .u8 kk) (.slice y1 oln y2) 44
          have hbw := (below_box4 wa (.cells #[.slice x1 nl x2, .int .u64 sq, .int .u8 kk, .slice y1 oln y2] 44)).drew
          have HO1 : Hid (RowE w (wa.alloc (.cells #[.slice x1 nl x2, .int .u64 sq, .int .u8 kk, .slice y1 oln y2] 44)).drew (.slice a' n' c') OUT) := HO0.out.below hbw
          have HB1 : Hid (Below w.heap.size w (wa.alloc (.cells #[.slice x1 nl x2, .int .u64 sq, .int .u8 kk, .slice y1 oln y2] 44)).drew) := bsplit HB0.out hbw
          have BX : Hid (Box4 (wa.alloc (.cells #[.slice x1 nl x2, .int .u64 sq, .int .u8 kk, .slice y1 oln y2] 44)).drew wa.heap.size (.slice x1 nl x2) (.int .u64 sq) (.int .u8 kk) (.slice y1 oln y2)) := BX0.drew
          clear BX0 hbw hbz
          go_region
          go_wp2_with fail
          go_meet
          exact ⟨wa.heap.size, rfl, BX.out.lt, BX, HO1, HB1⟩
        case rest =>
        obtain ⟨bx, rfl, HBXL0, HBX4, HO1, HB1⟩ := hcut
        obtain ⟨wb, hwb⟩ : ∃ wb, wb = wc := ⟨_, rfl⟩
        subst hwb
        have BX := HBX4.out
        have HBXL : Hid (bx < wb.heap.size) := HBXL0
        clear HBX4 HBXL0 hz0' hz1' hz2' hc1a hdga HO0 HB0
        go_wp2_with fail
        obtain ⟨G9, hG⟩ : ∃ G9, G9 = gk := ⟨_, rfl⟩
        subst hG
        go_loopg [7, 42] n' (fun gk kv iv wr => ∃ (i k : Nat), gk + i = n' ∧ k ≤ i ∧ iv = .int .i64 (i : Int) ∧ kv = .int .i64 (k : Int) ∧ Hid (k = cntE (OUT.take i) E) ∧ Hid (Below wb.heap.size wb wr))
        case atStart => exact ⟨0, 0, by omega, Nat.le_refl _, rfl, rfl, rfl, Below.refl _ _⟩
        case round =>
          obtain ⟨i, k, hi2, hki, rfl, rfl, HK, HBI⟩ := hrel
          by_cases hlti : i < n'
          · have l2 : i < OUT.length := by rw [HNP.out]; exact hlti
            obtain ⟨_, _, e, _, _, h4⟩ := rdE_below (HO1.out.rd HB1.out) HBI.out (Nat.le_refl _)
            rw [HNP.out] at e
            cases e
            obtain ⟨p, o, rfl, xv, yv, e0, e1, e2, e3, rx, ry⟩ := h4 i l2
            obtain ⟨u1, u2, ex⟩ := rx.len
            obtain ⟨u3, u4, ey⟩ := ry.len
            subst ex ey
            obtain ⟨q3, q4⟩ := gk_nxt hi2 hlti
            have hct := cntE_take (e := E) l2
            obtain ⟨X, hX⟩ : ∃ o, OUT[i] = o := ⟨_, rfl⟩
            rw [hX] at e0 e1 e2 e3 rx hct
            obtain ⟨m1, hm1⟩ : ∃ nl, X.1.length = nl := ⟨_, rfl⟩
            obtain ⟨m2, hm2⟩ : ∃ oln, X.2.2.2.length = oln := ⟨_, rfl⟩
            obtain ⟨sx, hsx⟩ : ∃ z : Int, (X.2.1 : Int) = z := ⟨_, rfl⟩
            obtain ⟨kx, hkx⟩ : ∃ z : Int, (X.2.2.1.toNat : Int) = z := ⟨_, rfl⟩
            rw [hm1] at e0 rx
            rw [hm2] at e3
            rw [hsx] at e1
            rw [hkx] at e2
            obtain ⟨lt, hltq⟩ : ∃ q, ltE X E = q := ⟨_, rfl⟩
            have HLT : Hid (decide (Mth.cmpK X.1 sx kx E.1 sq kk < 0) = lt) := by show _ = _; rw [← hltq, ← hsx, ← hkx, ← HE.out.2.1, ← HE.out.2.2]; rfl
            rw [hltq] at hct
            have HCT : Hid (cntE (OUT.take (i + 1)) E = k + (if lt = true then 1 else 0)) := by show _ = _; rw [hct, ← HK.out]
            have hb5 := below_box4 wr (.cells #[.slice u1 m1 u2, .int .u64 sx, .int .u8 kx, .slice u3 m2 u4] 44)
            have BY := box4_new wr (.slice u1 m1 u2) (.int .u64 sx) (.int .u8 kx) (.slice u3 m2 u4) 44
            have HB5 : Hid (Below wb.heap.size wb (wr.alloc (.cells #[.slice u1 m1 u2, .int .u64 sx, .int .u8 kx, .slice u3 m2 u4] 44))) := bsplit HBI.out hb5
            have HBW : Hid (Below w.heap.size w (wr.alloc (.cells #[.slice u1 m1 u2, .int .u64 sx, .int .u8 kx, .slice u3 m2 u4] 44))) := bsplit HB1.out HB5.out
            have hls := keyless_any (wr.alloc (.cells #[.slice u1 m1 u2, .int .u64 sx, .int .u8 kx, .slice u3 m2 u4] 44)) _ _ X.1 E.1 sx kx sq kk lt (rx.below hb5 (Nat.le_refl _)) (HRX.out.1.below HBW.out (Nat.le_refl _)) HLT.out
            have HRX2 : Hid (Rd (wr.alloc (.cells #[.slice u1 m1 u2, .int .u64 sx, .int .u8 kx, .slice u3 m2 u4] 44)) (.slice u1 m1 u2) X.1) := rx.below hb5 (Nat.le_refl _)
            have BXR := BX.below HBI.out (Nat.le_refl _)
            have BX5 := BX.below HB5.out (Nat.le_refl _)
            have BX5' := BX5
            have BY' := BY
            obtain ⟨z0, z1, z2, z3⟩ := BX5'
            obtain ⟨y0, y1', y2', y3⟩ := BY'
            have hkI : (k : Int) ≤ 100000 := by omega
            clear h4 rx ry hX hm1 hm2 hsx hkx hltq hct hb5
            go_wp2_with fail
            refine hls.mono ?_
            rintro e w6 ⟨rfl, hb6⟩
            have HB6 : Hid (Below wb.heap.size wb w6) := bsplit HB5.out hb6
            clear z0 z1 z2 z3 y0 y1' y2' y3 hls hb6 BX5 BY BXR
            cases lt with
            | true =>
              go_wp2_with fail
              go_roundg (gk - 1)
              case measure => exact q3
              case rel => exact ⟨i + 1, k + 1, q4, by omega, by go_num, by go_num, by show _ = _; rw [HCT.out]; rfl, HB6⟩
            | false =>
              go_wp2_with fail
              go_roundg (gk - 1)
              case measure => exact q3
              case rel => exact ⟨i + 1, k, q4, by omega, by go_num, rfl, by show _ = _; rw [HCT.out]; rfl, HB6⟩
          · have hiN : i = n' := by omega
            subst hiN
            have HK2 : Hid (k = cntE OUT E) := by
              have := HK.out
              rw [← HNP.out, List.take_length] at this
              exact this
            have hltI : ¬ (i : Int) < (i : Int) := by omega
            have BX8 := BX.below HBI.out (Nat.le_refl _)
            have HO8 : Hid (RowE w wr (.slice a' i c') OUT) := HO1.out.below HBI.out
            have HB8 : Hid (Below w.heap.size w wr) := bsplit HB1.out HBI.out
            clear HK hi2 HBI HO1 HB1 BX HBXL
            obtain ⟨w8, hw8⟩ : ∃ w8, w8 = wr := ⟨_, rfl⟩
            subst hw8
            have BX8' := BX8
            obtain ⟨z0, z1, z2, z3⟩ := BX8'
            have HINS : Hid (entsP (Z.take (j + 1)) = (OUT.take k ++ [E]) ++ OUT.drop k) := by
              show _ = _
              rw [HST.out]; unfold insR
              rw [← HK2.out]
            obtain ⟨cs, hr8, hC4⟩ := HO8.out
            rw [HNP.out] at hr8
            have HC4 : Hid (Cells4 w cs OUT) := hC4
            have HCL : Hid (cs.length = i * 4) := by show _ = _; rw [hC4.1, HNP.out]
            have HLIT : Hid (Cells4 w [.slice x1 nl x2, .int .u64 sq, .int .u8 kk, .slice y1 oln y2] [E]) := by
              have := Cells4.one E HRX.out.1 HRX.out.2
              rw [HE.out.2.1, HE.out.2.2] at this
              exact this
            obtain ⟨sz, hsz⟩ : ∃ sz, w8.heap.size = sz := ⟨_, rfl⟩
            have HSZ : Hid (w8.heap.size = sz) := hsz
            have hwsz : w.heap.size ≤ sz := by rw [← hsz]; exact HB8.out.size
            have hRA0 : (w8.alloc (.cells #[] 44)).drew.ownsRow sz 44 4 (.slice (some ⟨sz, 0, none⟩) 0 0) 0 [] := by
              have := World.ownsRow_lit w8 #[] 0 (base := sz) (size := 4) (e := 44) (by rw [← hsz]; exact Nat.le_refl _) (Nat.zero_le _) rfl
              rw [hsz] at this
              exact this
            have hRA01 : ((w8.alloc (.cells #[] 44)).alloc (.cells #[.slice x1 nl x2, .int .u64 sq, .int .u8 kk, .slice y1 oln y2] 44)).drew.ownsRow sz 44 4 (.slice (some ⟨sz, 0, none⟩) 0 0) 0 [] := hRA0.alloc _
            have hRA10 : ((w8.alloc (.cells #[.slice x1 nl x2, .int .u64 sq, .int .u8 kk, .slice y1 oln y2] 44)).alloc (.cells #[] 44)).drew.ownsRow sz 44 4 (.slice (some ⟨sz + 1, 0, none⟩) 0 0) 0 [] := by
              have := World.ownsRow_lit (w8.alloc (.cells #[.slice x1 nl x2, .int .u64 sq, .int .u8 kk, .slice y1 oln y2] 44)) #[] 0 (base := sz) (size := 4) (e := 44) (by rw [show (w8.alloc (.cells #[.slice x1 nl x2, .int .u64 sq, .int .u8 kk, .slice y1 oln y2] 44)).heap.size = w8.heap.size + 1 by simp, hsz]; exact Nat.le_succ _) (Nat.zero_le _) rfl
              rw [show (w8.alloc (.cells #[.slice x1 nl x2, .int .u64 sq, .int .u8 kk, .slice y1 oln y2] 44)).heap.size = w8.heap.size + 1 by simp, hsz] at this
              exact this
            have pA0 : Below sz w8 (w8.alloc (.cells #[] 44)).drew := by rw [← hsz]; exact ((Below.refl _ _).alloc (Nat.le_refl _) _).drew
            have pA1 : Below sz w8 (w8.alloc (.cells #[.slice x1 nl x2, .int .u64 sq, .int .u8 kk, .slice y1 oln y2] 44)).drew := by rw [← hsz]; exact ((Below.refl _ _).alloc (Nat.le_refl _) _).drew
            have pA01 : Below sz w8 ((w8.alloc (.cells #[] 44)).alloc (.cells #[.slice x1 nl x2, .int .u64 sq, .int .u8 kk, .slice y1 oln y2] 44)).drew := by rw [← hsz]; exact (((Below.refl _ _).alloc (Nat.le_refl _) _).alloc (by simp) _).drew
            have pA10 : Below sz w8 ((w8.alloc (.cells #[.slice x1 nl x2, .int .u64 sq, .int .u8 kk, .slice y1 oln y2] 44)).alloc (.cells #[] 44)).drew := by rw [← hsz]; exact (((Below.refl _ _).alloc (Nat.le_refl _) _).alloc (by simp) _).drew
            have lA01 := laid4 (w8.alloc (.cells #[] 44)) (.slice x1 nl x2) (.int .u64 sq) (.int .u8 kk) (.slice y1 oln y2) 44
            rw [show (w8.alloc (.cells #[] 44)).heap.size = w8.heap.size + 1 by simp, hsz] at lA01
            have lA10 : ∀ j u, [.slice x1 nl x2, .int .u64 sq, .int .u8 kk, .slice y1 oln y2][j]? = some u → ((w8.alloc (.cells #[.slice x1 nl x2, .int .u64 sq, .int .u8 kk, .slice y1 oln y2] 44)).alloc (.cells #[] 44)).drew.cell? ((⟨sz, 0, none⟩ : Addr).add j) = some u := fun j u hu => by
              have h9 := laid4 w8 (.slice x1 nl x2) (.int .u64 sq) (.int .u8 kk) (.slice y1 oln y2) 44 j u hu
              rw [hsz] at h9
              exact ((below_box4 (w8.alloc (.cells #[.slice x1 nl x2, .int .u64 sq, .int .u8 kk, .slice y1 oln y2] 44)) (.cells #[] 44)).cell (World.block_lt_of_cell? _ _ h9)).trans h9
            have bA0 := BX8.below pA0 (by rw [hsz]; exact Nat.le_refl _)
            have bA1 := BX8.below pA1 (by rw [hsz]; exact Nat.le_refl _)
            have bA01 := BX8.below pA01 (by rw [hsz]; exact Nat.le_refl _)
            have bA10 := BX8.below pA10 (by rw [hsz]; exact Nat.le_refl _)
            have sA0 : (w8.alloc (.cells #[] 44)).drew.heap.size = sz + 1 := by rw [← hsz]; simp
            have sA01 : ((w8.alloc (.cells #[] 44)).alloc (.cells #[.slice x1 nl x2, .int .u64 sq, .int .u8 kk, .slice y1 oln y2] 44)).drew.heap.size = sz + 2 := by rw [← hsz]; simp
            have sA10 : ((w8.alloc (.cells #[.slice x1 nl x2, .int .u64 sq, .int .u8 kk, .slice y1 oln y2] 44)).alloc (.cells #[] 44)).drew.heap.size = sz + 2 := by rw [← hsz]; simp
            have pG : ∀ o, Below sz w8 (((w8.alloc (.cells #[] 44)).alloc (.cells #[.slice x1 nl x2, .int .u64 sq, .int .u8 kk, .slice y1 oln y2] 44)).alloc o).drew.drew := fun o => by rw [← hsz]; exact ((((Below.refl _ _).alloc (Nat.le_refl _) _).alloc (by simp) _).alloc (by simp; omega) _).drew.drew
            have bG := fun o => BX8.below (pG o) (by rw [hsz]; exact Nat.le_refl _)
            have pH : ∀ o, Below sz w8 (((w8.alloc (.cells #[.slice x1 nl x2, .int .u64 sq, .int .u8 kk, .slice y1 oln y2] 44)).alloc (.cells #[] 44)).alloc o).drew.drew := fun o => by rw [← hsz]; exact ((((Below.refl _ _).alloc (Nat.le_refl _) _).alloc (by simp) _).alloc (by simp; omega) _).drew.drew
            have bH := fun o => BX8.below (pH o) (by rw [hsz]; exact Nat.le_refl _)
            have BX9 := BX8.drew
            have hON4 : ∀ u ∈ [Value.slice x1 nl x2, .int .u64 sq, .int .u8 kk, .slice y1 oln y2], u.oneCell' = true := HLIT.out.ones
            have hkl : k ≤ i := by rw [HK2.out, ← HNP.out]; exact cntE_le _ _
            have hT4 : Cells4 w (cs.take (k * 4)) (OUT.take k) := HC4.out.take k (by rw [HNP.out]; exact hkl)
            have hD4 : Cells4 w (cs.drop (k * 4)) (OUT.drop k) := HC4.out.drop k (by rw [HNP.out]; exact hkl)
            have hT1 : (cs.take (k * 4)).length = k * 4 := by rw [List.length_take, HCL.out]; omega
            have hD1 : (cs.drop (k * 4)).length = (i - k) * 4 := by rw [List.length_drop, HCL.out]; omega
            have hone1 := hT4.ones
            have hone2 := hD4.ones
            have HFIN : Hid (∀ (w3 : World) (g3 c3 : Nat), w3.ownsRow sz 44 4 (.slice (some ⟨g3, 0, none⟩) (i + 1) c3) (i + 1) ((([] ++ cs.take (k * 4)) ++ [.slice x1 nl x2, .int .u64 sq, .int .u8 kk, .slice y1 oln y2]) ++ cs.drop (k * 4)) → Below sz w8 w3 → RowE w w3 (.slice (some ⟨g3, 0, none⟩) (i + 1) c3) (entsP (Z.take (j + 1))) ∧ Below w.heap.size w w3) := by
              intro w3 g3 c3 hr hb
              refine ⟨⟨(([] ++ cs.take (k * 4)) ++ [.slice x1 nl x2, .int .u64 sq, .int .u8 kk, .slice y1 oln y2]) ++ cs.drop (k * 4), ?_, ?_⟩, HB8.out.trans (hb.mono hwsz)⟩
              · rw [HINS.out, show ((OUT.take k ++ [E]) ++ OUT.drop k).length = i + 1 by simp [HNP.out]; omega]
                exact row_mono hr hwsz
              · rw [HINS.out, List.nil_append]
                exact (hT4.append HLIT.out).append hD4
            rcases HO8.out.shape with ⟨hov, hon⟩ | ⟨go, oc, hov, hoc1, hoc2⟩
            · cases hov
              have hk0 : k = 0 := by omega
              subst hk0
              have hcs : cs = [] := List.eq_nil_of_length_eq_zero (by rw [HCL.out])
              have hsrc1 : ∀ W : World, Below sz w8 W → SrcOf W 4 (Value.slice none 0 0) (0) (cs.take (0 * 4)) := fun W _ => .inl ⟨rfl, rfl, by simp⟩
              have hsrc2 : ∀ W : World, Below sz w8 W → SrcOf W 4 (Value.slice none 0 0) (0 - 0) (cs.drop (0 * 4)) := fun W _ => .inl ⟨rfl, rfl, by rw [hcs]; rfl⟩
              go_wp2_with fail
              go_region_held3 (fun w' => w'.cell? ⟨bx, 0, none⟩ = some (.slice x1 nl x2) ∧ w'.cell? ⟨bx, 1, none⟩ = some (.int .u64 sq) ∧ w'.cell? ⟨bx, 2, none⟩ = some (.int .u8 kk) ∧ w'.cell? ⟨bx, 3, none⟩ = some (.slice y1 oln y2))
                (first | with_reducible exact ⟨b3.c0, b3.c1, b3.c2, b3.c3⟩ | with_reducible exact ⟨b2.c0, b2.c1, b2.c2, b2.c3⟩ | with_reducible exact ⟨b1a.c0, b1a.c1, b1a.c2, b1a.c3⟩ | with_reducible exact ⟨b1.c0, b1.c1, b1.c2, b1.c3⟩ | with_reducible exact ⟨bA01.c0, bA01.c1, bA01.c2, bA01.c3⟩ | with_reducible exact ⟨bA10.c0, bA10.c1, bA10.c2, bA10.c3⟩ | with_reducible exact ⟨bA0.c0, bA0.c1, bA0.c2, bA0.c3⟩ | with_reducible exact ⟨bA1.c0, bA1.c1, bA1.c2, bA1.c3⟩ | with_reducible exact ⟨(bG _).c0, (bG _).c1, (bG _).c2, (bG _).c3⟩ | with_reducible exact ⟨(bH _).c0, (bH _).c1, (bH _).c2, (bH _).c3⟩ | exact ⟨BX9.c0, BX9.c1, BX9.c2, BX9.c3⟩)
                (first
                  | (refine step_append_src rfl (.tmp 54) (.tmp 57) 36 rfl sz 44 i0 (.agg #[.slice none 0 0, .int .u64 0, .int .u8 0, .slice none 0 0]) 4 64 Try.underlying36 hi hz0 hz1 hz2 rfl (by decide) sz 0 0 [] rfl (by with_reducible exact hRA0) _ rfl 0 (cs.take (0 * 4)) (hsrc1 _ pA0) hone1 (by unfold maxLen; omega) (by omega) (by rw [sA0]; omega) (sz + 1) sA0 0 (Nat.zero_add _) ?_
                     intro g1 c1 w1 hw1 hg1 ha1
                     have p1 : Below sz w8 w1 := pA0.grown hg1 (by rw [sA0]; omega) (fun q e => by cases e; exact Nat.le_refl _)
                     have b1 := BX8.below p1 (by rw [HSZ.out]; exact Nat.le_refl _)
                     have b1a := b1.alloc (.cells #[.slice x1 nl x2, .int .u64 sq, .int .u8 kk, .slice y1 oln y2] 44)
                     have e1 : sz ≤ w1.heap.size := by have := p1.size; rw [HSZ.out] at this; exact this
                     have hw1a := hw1.alloc (.cells #[.slice x1 nl x2, .int .u64 sq, .int .u8 kk, .slice y1 oln y2] 44)
                     have p1a : Below sz w8 (w1.alloc (.cells #[.slice x1 nl x2, .int .u64 sq, .int .u8 kk, .slice y1 oln y2] 44)) := p1.alloc e1 _
                     have l1a := laid4 w1 (.slice x1 nl x2) (.int .u64 sq) (.int .u8 kk) (.slice y1 oln y2) 44
                     have e1a : sz ≤ (w1.alloc (.cells #[.slice x1 nl x2, .int .u64 sq, .int .u8 kk, .slice y1 oln y2] 44)).heap.size := by simp; omega)
                  | (refine step_append_src rfl (.tmp 54) (.tmp 57) 36 rfl sz 44 i0 (.agg #[.slice none 0 0, .int .u64 0, .int .u8 0, .slice none 0 0]) 4 64 Try.underlying36 hi hz0 hz1 hz2 rfl (by decide) sz 0 0 [] rfl (by with_reducible exact hRA01) _ rfl 0 (cs.take (0 * 4)) (hsrc1 _ pA01) hone1 (by unfold maxLen; omega) (by omega) (by rw [sA01]; omega) (sz + 2) sA01 0 (Nat.zero_add _) ?_
                     intro g1 c1 w1 hw1 hg1 ha1
                     have p1 : Below sz w8 w1 := pA01.grown hg1 (by rw [sA01]; omega) (fun q e => by cases e; exact Nat.le_refl _)
                     have b1 := BX8.below p1 (by rw [HSZ.out]; exact Nat.le_refl _)
                     have e1 : sz ≤ w1.heap.size := by have := p1.size; rw [HSZ.out] at this; exact this
                     have l1 : ∀ j u, [.slice x1 nl x2, .int .u64 sq, .int .u8 kk, .slice y1 oln y2][j]? = some u → w1.cell? ((⟨sz + 1, 0, none⟩ : Addr).add j) = some u := fun j u hu => by
                       have h9 := lA01 j u hu
                       rw [Addr.add_lit] at h9 ⊢
                       rw [← h9]
                       exact World.cell?_of_block (hg1.block _ (World.block_lt_of_cell? _ _ h9) (by simp)))
                  | (refine step_append_src rfl (.tmp 54) (.tmp 57) 36 rfl sz 44 i0 (.agg #[.slice none 0 0, .int .u64 0, .int .u8 0, .slice none 0 0]) 4 64 Try.underlying36 hi hz0 hz1 hz2 rfl (by decide) (sz + 1) 0 0 [] rfl (by with_reducible exact hRA10) _ rfl 0 (cs.take (0 * 4)) (hsrc1 _ pA10) hone1 (by unfold maxLen; omega) (by omega) (by rw [sA10]; omega) (sz + 2) sA10 0 (Nat.zero_add _) ?_
                     intro g1 c1 w1 hw1 hg1 ha1
                     have p1 : Below sz w8 w1 := pA10.grown hg1 (by rw [sA10]; omega) (fun q e => by cases e; exact Nat.le_succ _)
                     have b1 := BX8.below p1 (by rw [HSZ.out]; exact Nat.le_refl _)
                     have e1 : sz ≤ w1.heap.size := by have := p1.size; rw [HSZ.out] at this; exact this
                     have l1 : ∀ j u, [.slice x1 nl x2, .int .u64 sq, .int .u8 kk, .slice y1 oln y2][j]? = some u → w1.cell? ((⟨sz, 0, none⟩ : Addr).add j) = some u := fun j u hu => by
                       have h9 := lA10 j u hu
                       rw [Addr.add_lit] at h9 ⊢
                       rw [← h9]
                       exact World.cell?_of_block (hg1.block _ (World.block_lt_of_cell? _ _ h9) (by simp)))
                  | (refine step_append_src rfl (.tmp 58) (.tmp 60) 36 rfl sz 44 i0 (.agg #[.slice none 0 0, .int .u64 0, .int .u8 0, .slice none 0 0]) 4 64 Try.underlying36 hi hz0 hz1 hz2 rfl (by decide) g1 0 c1 _ rfl (by with_reducible exact hw1) _ rfl 1 [.slice x1 nl x2, .int .u64 sq, .int .u8 kk, .slice y1 oln y2] (.inr ⟨_, _, rfl, rfl, l1⟩) hON4 (by unfold maxLen; omega) (by omega) e1 _ rfl (0 + 1) rfl ?_
                     intro g2 c2 w2 hw2 hg2 ha2
                     have p2 : Below sz w8 w2 := p1.grown hg2 e1 (fun q e => by cases e; exact (hw1.lt _ rfl).1)
                     have b2 := BX8.below p2 (by rw [HSZ.out]; exact Nat.le_refl _)
                     have e2 : sz ≤ w2.heap.size := by have := p2.size; rw [HSZ.out] at this; exact this)
                  | (refine step_append_src rfl (.tmp 58) (.tmp 60) 36 rfl sz 44 i0 (.agg #[.slice none 0 0, .int .u64 0, .int .u8 0, .slice none 0 0]) 4 64 Try.underlying36 hi hz0 hz1 hz2 rfl (by decide) g1 0 c1 _ rfl (by with_reducible exact hw1a) _ rfl 1 [.slice x1 nl x2, .int .u64 sq, .int .u8 kk, .slice y1 oln y2] (.inr ⟨_, _, rfl, rfl, l1a⟩) hON4 (by unfold maxLen; omega) (by omega) e1a _ rfl (0 + 1) rfl ?_
                     intro g2 c2 w2 hw2 hg2 ha2
                     have p2 : Below sz w8 w2 := p1a.grown hg2 e1a (fun q e => by cases e; exact (hw1.lt _ rfl).1)
                     have b2 := BX8.below p2 (by rw [HSZ.out]; exact Nat.le_refl _)
                     have e2 : sz ≤ w2.heap.size := by have := p2.size; rw [HSZ.out] at this; exact this)
                  | (refine step_append_src rfl (.tmp 61) (.tmp 64) 36 rfl sz 44 i0 (.agg #[.slice none 0 0, .int .u64 0, .int .u8 0, .slice none 0 0]) 4 64 Try.underlying36 hi hz0 hz1 hz2 rfl (by decide) g2 (0 + 1) c2 _ rfl (by with_reducible exact hw2) _ rfl (0 - 0) (cs.drop (0 * 4)) (hsrc2 _ p2) hone2 (by unfold maxLen; omega) (by omega) e2 _ rfl (0 + 1) (by omega) ?_
                     intro g3 c3 w3 hw3 hg3 ha3
                     have p3 : Below sz w8 w3 := p2.grown hg3 e2 (fun q e => by cases e; exact (hw2.lt _ rfl).1)
                     have b3 := BX8.below p3 (by rw [HSZ.out]; exact Nat.le_refl _)
                     have HF3 : Hid _ := HFIN.out w3 g3 c3 hw3 p3)
                  | fail)
              all_goals
                clear hRA0 hRA01 hRA10 pA0 pA1 pA01 pA10 lA01 lA10 bA0 bA1 bA01 bA10 sA0 sA01 sA10 pG bG pH bH BX9 z0 z1 z2 z3
                go_wp2_with fail
                go_roundg (G9 - 1)
                case measure => exact q1
                case rel => exact ⟨j + 1, _, _, _, q2, by go_num, rfl, HF3.out.1, HF3.out.2⟩
            · rw [HNP.out] at hov hoc1
              cases hov
              have hgo : go < sz := by rw [← HSZ.out]; exact (HO8.out.lt go rfl).2
              have hcell8 := hr8.cells (g := go) rfl
              have hsrc1 : ∀ W : World, Below sz w8 W → SrcOf W 4 (Value.slice (some ⟨go, 0, none⟩) k c') (k) (cs.take (k * 4)) := fun W hb => .inr ⟨_, _, rfl, hT1, fun j u hu => by
                have h9 : cs[j]? = some u := by
                  rw [List.getElem?_take] at hu
                  split at hu
                  · exact hu
                  · cases hu
                have h8 := hcell8 j u h9
                rw [← h8, Addr.add_lit]
                exact hb.cell hgo⟩
              have hkI0 : (0 : Int) ≤ (k : Int) := by omega
              have hkI1 : (k : Int) ≤ (i : Int) := by omega
              have hkI2 : (i : Int) ≤ (c' : Int) := by omega
              have hkI3 : (k : Int) ≤ (c' : Int) := by omega
              by_cases hck9 : c' = k
              · subst hck9
                have hki9 : i = c' := by omega
                subst hki9
                have hD0 : (cs.drop (i * 4)).length = 0 := by rw [hD1]; omega
                have hsrc2 : ∀ W : World, Below sz w8 W → SrcOf W 4 (Value.slice (some ⟨go, 0, none⟩) 0 0) (0) (cs.drop (i * 4)) := fun W hb => .inr ⟨_, _, rfl, by rw [hD0], fun j u hu => by
                  rw [List.eq_nil_of_length_eq_zero hD0] at hu
                  simp at hu⟩
                go_wp2_with fail
                go_region_held3 (fun w' => w'.cell? ⟨bx, 0, none⟩ = some (.slice x1 nl x2) ∧ w'.cell? ⟨bx, 1, none⟩ = some (.int .u64 sq) ∧ w'.cell? ⟨bx, 2, none⟩ = some (.int .u8 kk) ∧ w'.cell? ⟨bx, 3, none⟩ = some (.slice y1 oln y2))
                  (first | with_reducible exact ⟨b3.c0, b3.c1, b3.c2, b3.c3⟩ | with_reducible exact ⟨b2.c0, b2.c1, b2.c2, b2.c3⟩ | with_reducible exact ⟨b1a.c0, b1a.c1, b1a.c2, b1a.c3⟩ | with_reducible exact ⟨b1.c0, b1.c1, b1.c2, b1.c3⟩ | with_reducible exact ⟨bA01.c0, bA01.c1, bA01.c2, bA01.c3⟩ | with_reducible exact ⟨bA10.c0, bA10.c1, bA10.c2, bA10.c3⟩ | with_reducible exact ⟨bA0.c0, bA0.c1, bA0.c2, bA0.c3⟩ | with_reducible exact ⟨bA1.c0, bA1.c1, bA1.c2, bA1.c3⟩ | with_reducible exact ⟨(bG _).c0, (bG _).c1, (bG _).c2, (bG _).c3⟩ | with_reducible exact ⟨(bH _).c0, (bH _).c1, (bH _).c2, (bH _).c3⟩ | exact ⟨BX9.c0, BX9.c1, BX9.c2, BX9.c3⟩)
                  (first
                    | (refine step_append_src rfl (.tmp 54) (.tmp 57) 36 rfl sz 44 i0 (.agg #[.slice none 0 0, .int .u64 0, .int .u8 0, .slice none 0 0]) 4 64 Try.underlying36 hi hz0 hz1 hz2 rfl (by decide) sz 0 0 [] rfl (by with_reducible exact hRA0) _ rfl i (cs.take (i * 4)) (hsrc1 _ pA0) hone1 (by unfold maxLen; omega) (by omega) (by rw [sA0]; omega) (sz + 1) sA0 i (Nat.zero_add _) ?_
                       intro g1 c1 w1 hw1 hg1 ha1
                       have p1 : Below sz w8 w1 := pA0.grown hg1 (by rw [sA0]; omega) (fun q e => by cases e; exact Nat.le_refl _)
                       have b1 := BX8.below p1 (by rw [HSZ.out]; exact Nat.le_refl _)
                       have b1a := b1.alloc (.cells #[.slice x1 nl x2, .int .u64 sq, .int .u8 kk, .slice y1 oln y2] 44)
                       have e1 : sz ≤ w1.heap.size := by have := p1.size; rw [HSZ.out] at this; exact this
                       have hw1a := hw1.alloc (.cells #[.slice x1 nl x2, .int .u64 sq, .int .u8 kk, .slice y1 oln y2] 44)
                       have p1a : Below sz w8 (w1.alloc (.cells #[.slice x1 nl x2, .int .u64 sq, .int .u8 kk, .slice y1 oln y2] 44)) := p1.alloc e1 _
                       have l1a := laid4 w1 (.slice x1 nl x2) (.int .u64 sq) (.int .u8 kk) (.slice y1 oln y2) 44
                       have e1a : sz ≤ (w1.alloc (.cells #[.slice x1 nl x2, .int .u64 sq, .int .u8 kk, .slice y1 oln y2] 44)).heap.size := by simp; omega)
                    | (refine step_append_src rfl (.tmp 54) (.tmp 57) 36 rfl sz 44 i0 (.agg #[.slice none 0 0, .int .u64 0, .int .u8 0, .slice none 0 0]) 4 64 Try.underlying36 hi hz0 hz1 hz2 rfl (by decide) sz 0 0 [] rfl (by with_reducible exact hRA01) _ rfl i (cs.take (i * 4)) (hsrc1 _ pA01) hone1 (by unfold maxLen; omega) (by omega) (by rw [sA01]; omega) (sz + 2) sA01 i (Nat.zero_add _) ?_
                       intro g1 c1 w1 hw1 hg1 ha1
                       have p1 : Below sz w8 w1 := pA01.grown hg1 (by rw [sA01]; omega) (fun q e => by cases e; exact Nat.le_refl _)
                       have b1 := BX8.below p1 (by rw [HSZ.out]; exact Nat.le_refl _)
                       have e1 : sz ≤ w1.heap.size := by have := p1.size; rw [HSZ.out] at this; exact this
                       have l1 : ∀ j u, [.slice x1 nl x2, .int .u64 sq, .int .u8 kk, .slice y1 oln y2][j]? = some u → w1.cell? ((⟨sz + 1, 0, none⟩ : Addr).add j) = some u := fun j u hu => by
                         have h9 := lA01 j u hu
                         rw [Addr.add_lit] at h9 ⊢
                         rw [← h9]
                         exact World.cell?_of_block (hg1.block _ (World.block_lt_of_cell? _ _ h9) (by simp)))
                    | (refine step_append_src rfl (.tmp 54) (.tmp 57) 36 rfl sz 44 i0 (.agg #[.slice none 0 0, .int .u64 0, .int .u8 0, .slice none 0 0]) 4 64 Try.underlying36 hi hz0 hz1 hz2 rfl (by decide) (sz + 1) 0 0 [] rfl (by with_reducible exact hRA10) _ rfl i (cs.take (i * 4)) (hsrc1 _ pA10) hone1 (by unfold maxLen; omega) (by omega) (by rw [sA10]; omega) (sz + 2) sA10 i (Nat.zero_add _) ?_
                       intro g1 c1 w1 hw1 hg1 ha1
                       have p1 : Below sz w8 w1 := pA10.grown hg1 (by rw [sA10]; omega) (fun q e => by cases e; exact Nat.le_succ _)
                       have b1 := BX8.below p1 (by rw [HSZ.out]; exact Nat.le_refl _)
                       have e1 : sz ≤ w1.heap.size := by have := p1.size; rw [HSZ.out] at this; exact this
                       have l1 : ∀ j u, [.slice x1 nl x2, .int .u64 sq, .int .u8 kk, .slice y1 oln y2][j]? = some u → w1.cell? ((⟨sz, 0, none⟩ : Addr).add j) = some u := fun j u hu => by
                         have h9 := lA10 j u hu
                         rw [Addr.add_lit] at h9 ⊢
                         rw [← h9]
                         exact World.cell?_of_block (hg1.block _ (World.block_lt_of_cell? _ _ h9) (by simp)))
                    | (refine step_append_src rfl (.tmp 58) (.tmp 60) 36 rfl sz 44 i0 (.agg #[.slice none 0 0, .int .u64 0, .int .u8 0, .slice none 0 0]) 4 64 Try.underlying36 hi hz0 hz1 hz2 rfl (by decide) g1 i c1 _ rfl (by with_reducible exact hw1) _ rfl 1 [.slice x1 nl x2, .int .u64 sq, .int .u8 kk, .slice y1 oln y2] (.inr ⟨_, _, rfl, rfl, l1⟩) hON4 (by unfold maxLen; omega) (by omega) e1 _ rfl (i + 1) rfl ?_
                       intro g2 c2 w2 hw2 hg2 ha2
                       have p2 : Below sz w8 w2 := p1.grown hg2 e1 (fun q e => by cases e; exact (hw1.lt _ rfl).1)
                       have b2 := BX8.below p2 (by rw [HSZ.out]; exact Nat.le_refl _)
                       have e2 : sz ≤ w2.heap.size := by have := p2.size; rw [HSZ.out] at this; exact this)
                    | (refine step_append_src rfl (.tmp 58) (.tmp 60) 36 rfl sz 44 i0 (.agg #[.slice none 0 0, .int .u64 0, .int .u8 0, .slice none 0 0]) 4 64 Try.underlying36 hi hz0 hz1 hz2 rfl (by decide) g1 i c1 _ rfl (by with_reducible exact hw1a) _ rfl 1 [.slice x1 nl x2, .int .u64 sq, .int .u8 kk, .slice y1 oln y2] (.inr ⟨_, _, rfl, rfl, l1a⟩) hON4 (by unfold maxLen; omega) (by omega) e1a _ rfl (i + 1) rfl ?_
                       intro g2 c2 w2 hw2 hg2 ha2
                       have p2 : Below sz w8 w2 := p1a.grown hg2 e1a (fun q e => by cases e; exact (hw1.lt _ rfl).1)
                       have b2 := BX8.below p2 (by rw [HSZ.out]; exact Nat.le_refl _)
                       have e2 : sz ≤ w2.heap.size := by have := p2.size; rw [HSZ.out] at this; exact this)
                    | (refine step_append_src rfl (.tmp 61) (.tmp 64) 36 rfl sz 44 i0 (.agg #[.slice none 0 0, .int .u64 0, .int .u8 0, .slice none 0 0]) 4 64 Try.underlying36 hi hz0 hz1 hz2 rfl (by decide) g2 (i + 1) c2 _ rfl (by with_reducible exact hw2) _ rfl 0 (cs.drop (i * 4)) (hsrc2 _ p2) hone2 (by unfold maxLen; omega) (by omega) e2 _ rfl (i + 1) (by omega) ?_
                       intro g3 c3 w3 hw3 hg3 ha3
                       have p3 : Below sz w8 w3 := p2.grown hg3 e2 (fun q e => by cases e; exact (hw2.lt _ rfl).1)
                       have b3 := BX8.below p3 (by rw [HSZ.out]; exact Nat.le_refl _)
                       have HF3 : Hid _ := HFIN.out w3 g3 c3 hw3 p3)
                    | fail)
                all_goals
                  clear hRA0 hRA01 hRA10 pA0 pA1 pA01 pA10 lA01 lA10 bA0 bA1 bA01 bA10 sA0 sA01 sA10 pG bG pH bH BX9 z0 z1 z2 z3
                  go_wp2_with fail
                  go_roundg (G9 - 1)
                  case measure => exact q1
                  case rel => exact ⟨j + 1, _, _, _, q2, by go_num, rfl, HF3.out.1, HF3.out.2⟩
              · have hck8 : ¬ (c' : Int) = (k : Int) := by omega
                have hsrc2 : ∀ W : World, Below sz w8 W → SrcOf W 4 (Value.slice (some ⟨go, k * 4, none⟩) (i - k) (c' - k)) (i - k) (cs.drop (k * 4)) := fun W hb => .inr ⟨_, _, rfl, hD1, fun j u hu => by
                  rw [List.getElem?_drop] at hu
                  have h8 := hcell8 _ u hu
                  rw [← h8, Addr.add_lit, Addr.add_lit, Nat.zero_add]
                  exact hb.cell hgo⟩
                go_wp2_with fail
                go_region_held3 (fun w' => w'.cell? ⟨bx, 0, none⟩ = some (.slice x1 nl x2) ∧ w'.cell? ⟨bx, 1, none⟩ = some (.int .u64 sq) ∧ w'.cell? ⟨bx, 2, none⟩ = some (.int .u8 kk) ∧ w'.cell? ⟨bx, 3, none⟩ = some (.slice y1 oln y2))
                  (first | with_reducible exact ⟨b3.c0, b3.c1, b3.c2, b3.c3⟩ | with_reducible exact ⟨b2.c0, b2.c1, b2.c2, b2.c3⟩ | with_reducible exact ⟨b1a.c0, b1a.c1, b1a.c2, b1a.c3⟩ | with_reducible exact ⟨b1.c0, b1.c1, b1.c2, b1.c3⟩ | with_reducible exact ⟨bA01.c0, bA01.c1, bA01.c2, bA01.c3⟩ | with_reducible exact ⟨bA10.c0, bA10.c1, bA10.c2, bA10.c3⟩ | with_reducible exact ⟨bA0.c0, bA0.c1, bA0.c2, bA0.c3⟩ | with_reducible exact ⟨bA1.c0, bA1.c1, bA1.c2, bA1.c3⟩ | with_reducible exact ⟨(bG _).c0, (bG _).c1, (bG _).c2, (bG _).c3⟩ | with_reducible exact ⟨(bH _).c0, (bH _).c1, (bH _).c2, (bH _).c3⟩ | exact ⟨BX9.c0, BX9.c1, BX9.c2, BX9.c3⟩)
                  (first
                    | (refine step_append_src rfl (.tmp 54) (.tmp 57) 36 rfl sz 44 i0 (.agg #[.slice none 0 0, .int .u64 0, .int .u8 0, .slice none 0 0]) 4 64 Try.underlying36 hi hz0 hz1 hz2 rfl (by decide) sz 0 0 [] rfl (by with_reducible exact hRA0) _ rfl k (cs.take (k * 4)) (hsrc1 _ pA0) hone1 (by unfold maxLen; omega) (by omega) (by rw [sA0]; omega) (sz + 1) sA0 k (Nat.zero_add _) ?_
                       intro g1 c1 w1 hw1 hg1 ha1
                       have p1 : Below sz w8 w1 := pA0.grown hg1 (by rw [sA0]; omega) (fun q e => by cases e; exact Nat.le_refl _)
                       have b1 := BX8.below p1 (by rw [HSZ.out]; exact Nat.le_refl _)
                       have b1a := b1.alloc (.cells #[.slice x1 nl x2, .int .u64 sq, .int .u8 kk, .slice y1 oln y2] 44)
                       have e1 : sz ≤ w1.heap.size := by have := p1.size; rw [HSZ.out] at this; exact this
                       have hw1a := hw1.alloc (.cells #[.slice x1 nl x2, .int .u64 sq, .int .u8 kk, .slice y1 oln y2] 44)
                       have p1a : Below sz w8 (w1.alloc (.cells #[.slice x1 nl x2, .int .u64 sq, .int .u8 kk, .slice y1 oln y2] 44)) := p1.alloc e1 _
                       have l1a := laid4 w1 (.slice x1 nl x2) (.int .u64 sq) (.int .u8 kk) (.slice y1 oln y2) 44
                       have e1a : sz ≤ (w1.alloc (.cells #[.slice x1 nl x2, .int .u64 sq, .int .u8 kk, .slice y1 oln y2] 44)).heap.size := by simp; omega)
                    | (refine step_append_src rfl (.tmp 54) (.tmp 57) 36 rfl sz 44 i0 (.agg #[.slice none 0 0, .int .u64 0, .int .u8 0, .slice none 0 0]) 4 64 Try.underlying36 hi hz0 hz1 hz2 rfl (by decide) sz 0 0 [] rfl (by with_reducible exact hRA01) _ rfl k (cs.take (k * 4)) (hsrc1 _ pA01) hone1 (by unfold maxLen; omega) (by omega) (by rw [sA01]; omega) (sz + 2) sA01 k (Nat.zero_add _) ?_
                       intro g1 c1 w1 hw1 hg1 ha1
                       have p1 : Below sz w8 w1 := pA01.grown hg1 (by rw [sA01]; omega) (fun q e => by cases e; exact Nat.le_refl _)
                       have b1 := BX8.below p1 (by rw [HSZ.out]; exact Nat.le_refl _)
                       have e1 : sz ≤ w1.heap.size := by have := p1.size; rw [HSZ.out] at this; exact this
                       have l1 : ∀ j u, [.slice x1 nl x2, .int .u64 sq, .int .u8 kk, .slice y1 oln y2][j]? = some u → w1.cell? ((⟨sz + 1, 0, none⟩ : Addr).add j) = some u := fun j u hu => by
                         have h9 := lA01 j u hu
                         rw [Addr.add_lit] at h9 ⊢
                         rw [← h9]
                         exact World.cell?_of_block (hg1.block _ (World.block_lt_of_cell? _ _ h9) (by simp)))
                    | (refine step_append_src rfl (.tmp 54) (.tmp 57) 36 rfl sz 44 i0 (.agg #[.slice none 0 0, .int .u64 0, .int .u8 0, .slice none 0 0]) 4 64 Try.underlying36 hi hz0 hz1 hz2 rfl (by decide) (sz + 1) 0 0 [] rfl (by with_reducible exact hRA10) _ rfl k (cs.take (k * 4)) (hsrc1 _ pA10) hone1 (by unfold maxLen; omega) (by omega) (by rw [sA10]; omega) (sz + 2) sA10 k (Nat.zero_add _) ?_
                       intro g1 c1 w1 hw1 hg1 ha1
                       have p1 : Below sz w8 w1 := pA10.grown hg1 (by rw [sA10]; omega) (fun q e => by cases e; exact Nat.le_succ _)
                       have b1 := BX8.below p1 (by rw [HSZ.out]; exact Nat.le_refl _)
                       have e1 : sz ≤ w1.heap.size := by have := p1.size; rw [HSZ.out] at this; exact this
                       have l1 : ∀ j u, [.slice x1 nl x2, .int .u64 sq, .int .u8 kk, .slice y1 oln y2][j]? = some u → w1.cell? ((⟨sz, 0, none⟩ : Addr).add j) = some u := fun j u hu => by
                         have h9 := lA10 j u hu
                         rw [Addr.add_lit] at h9 ⊢
                         rw [← h9]
                         exact World.cell?_of_block (hg1.block _ (World.block_lt_of_cell? _ _ h9) (by simp)))
                    | (refine step_append_src rfl (.tmp 58) (.tmp 60) 36 rfl sz 44 i0 (.agg #[.slice none 0 0, .int .u64 0, .int .u8 0, .slice none 0 0]) 4 64 Try.underlying36 hi hz0 hz1 hz2 rfl (by decide) g1 k c1 _ rfl (by with_reducible exact hw1) _ rfl 1 [.slice x1 nl x2, .int .u64 sq, .int .u8 kk, .slice y1 oln y2] (.inr ⟨_, _, rfl, rfl, l1⟩) hON4 (by unfold maxLen; omega) (by omega) e1 _ rfl (k + 1) rfl ?_
                       intro g2 c2 w2 hw2 hg2 ha2
                       have p2 : Below sz w8 w2 := p1.grown hg2 e1 (fun q e => by cases e; exact (hw1.lt _ rfl).1)
                       have b2 := BX8.below p2 (by rw [HSZ.out]; exact Nat.le_refl _)
                       have e2 : sz ≤ w2.heap.size := by have := p2.size; rw [HSZ.out] at this; exact this)
                    | (refine step_append_src rfl (.tmp 58) (.tmp 60) 36 rfl sz 44 i0 (.agg #[.slice none 0 0, .int .u64 0, .int .u8 0, .slice none 0 0]) 4 64 Try.underlying36 hi hz0 hz1 hz2 rfl (by decide) g1 k c1 _ rfl (by with_reducible exact hw1a) _ rfl 1 [.slice x1 nl x2, .int .u64 sq, .int .u8 kk, .slice y1 oln y2] (.inr ⟨_, _, rfl, rfl, l1a⟩) hON4 (by unfold maxLen; omega) (by omega) e1a _ rfl (k + 1) rfl ?_
                       intro g2 c2 w2 hw2 hg2 ha2
                       have p2 : Below sz w8 w2 := p1a.grown hg2 e1a (fun q e => by cases e; exact (hw1.lt _ rfl).1)
                       have b2 := BX8.below p2 (by rw [HSZ.out]; exact Nat.le_refl _)
                       have e2 : sz ≤ w2.heap.size := by have := p2.size; rw [HSZ.out] at this; exact this)
                    | (refine step_append_src rfl (.tmp 61) (.tmp 64) 36 rfl sz 44 i0 (.agg #[.slice none 0 0, .int .u64 0, .int .u8 0, .slice none 0 0]) 4 64 Try.underlying36 hi hz0 hz1 hz2 rfl (by decide) g2 (k + 1) c2 _ rfl (by with_reducible exact hw2) _ rfl (i - k) (cs.drop (k * 4)) (hsrc2 _ p2) hone2 (by unfold maxLen; omega) (by omega) e2 _ rfl (i + 1) (by omega) ?_
                       intro g3 c3 w3 hw3 hg3 ha3
                       have p3 : Below sz w8 w3 := p2.grown hg3 e2 (fun q e => by cases e; exact (hw2.lt _ rfl).1)
                       have b3 := BX8.below p3 (by rw [HSZ.out]; exact Nat.le_refl _)
                       have HF3 : Hid _ := HFIN.out w3 g3 c3 hw3 p3)
                    | fail)
                all_goals
                  clear hRA0 hRA01 hRA10 pA0 pA1 pA01 pA10 lA01 lA10 bA0 bA1 bA01 bA10 sA0 sA01 sA10 pG bG pH bH BX9 z0 z1 z2 z3
                  go_wp2_with fail
                  go_roundg (G9 - 1)
                  case measure => exact q1
                  case rel => exact ⟨j + 1, _, _, _, q2, by go_num, rfl, HF3.out.1, HF3.out.2⟩
    · have hjN : j = N := by omega
      subst hjN
      have HE9 : Hid (entsP (Z.take j) = entsP Z) := by show _ = _; rw [← HN.out, List.take_length]
      go_wp2
      go_ret
      exact ⟨_, rfl, by rw [← HE9.out]; exact HO.out, HB.out⟩

end Go.Proofs.Ythcoblmfmbmdkaa

/- What both memos answer behind a script. -/
namespace Go.Proofs.Ythcoblmfmbmdkaa
set_option maxRecDepth 100000
open Go.RowKit
set_option linter.unusedVariables false
set_option linter.unusedSimpArgs false

theorem plc_some {PM G PM' G' : Nat → Prop} {W0 w : World} {m x : Nat} {Z : List (OpB × Nat)} {L : List EnB} (h : RunI PM G W0 w m x Z PM' G' L) (hz : Z.length ≤ 4000) :
    PlC w (.pointer (some ⟨m, 0, none⟩)) (.pointer (some ⟨x, 0, none⟩)) L (spnP Z) ((lastN (Z.map (·.2)) : Nat) : Int) (fun k s => stC (lastS Z k s)) (fun k s => valC (lastS Z k s)) := by
  obtain ⟨b1, b2, b3, b4⟩ := runI_lens h
  have hbd := runI_bounds h
  have hri := h.mm.rise
  have hok : ∀ z ∈ Z, (1 ≤ z.1.1.toNat ∧ z.1.1.toNat ≤ 3) ∧ z.1.2.2.length ≤ 1000 := fun z hz => by
    have h9 := chkOp_len (h.ok z hz)
    omega
  have hfi : ∀ k s, stM (newE L k s) (covN (spnP Z) k (s : Int)) = stC (lastS Z k s) ∧ valM (newE L k s) (covN (spnP Z) k (s : Int)) = valC (lastS Z k s) := fun k s => find_lastS hri hbd h.pr h.rs h.lo (fun z hz => (hok z hz).1)
  have hen : entsP Z = L := entsP_is hri h.pr h.rs
  exact {
    el := by omega
    sl := by omega
    eb := b1
    sb := b2
    ml := fun W hW => (mmP_last PM' W m L (spnP Z) _ (h.mm.below hW)).mono fun e w' ⟨h1, h2⟩ => ⟨h1, by rw [h2]; exact Below.refl _ _⟩
    xl := fun W hW => (rlast_any G' W x _ _ (h.rf.below hW) (by rw [List.length_map]; omega)).mono fun e w' ⟨h1, n, h2⟩ => ⟨h1, by rw [h2]; exact below_drewN (Below.refl _ _) _⟩
    xe := fun W hW => (r10ents_any G' W x Z (h.rf.below hW) (by omega)).mono fun e w' ⟨v, h1, h2, h3⟩ => ⟨v, h1, by rw [← hen]; exact h2.rd h3, h3⟩
    xs := fun W hW => (r10spans_any G' W x Z (h.rf.below hW) (by omega)).mono fun e w' ⟨v, h1, h2, h3⟩ => ⟨v, h1, h2.rd h3, h3⟩
    me := fun W hW => (mmP_entries PM' W m L (spnP Z) _ (h.mm.below hW) b1).mono fun e w' ⟨v, h1, h2, h3⟩ => ⟨v, h1, h2.own.rd, h3⟩
    ms := fun W hW => (mmP_spans PM' W m L (spnP Z) _ (h.mm.below hW) (by omega) b2).mono fun e w' ⟨v, h1, h2, h3⟩ => ⟨v, h1, h2.rd, h3⟩
    mz := fun W hW => mmP_size PM' W m L (spnP Z) _ (h.mm.below hW) b1 (by omega) b2
    mg := fun W kv k s hW hk hkl => (mmP_get PM' W m L (spnP Z) _ kv k s (h.mm.below hW) hk (by omega) b1).mono fun e w' ⟨v, h1, h2, h3⟩ => ⟨v, by rw [(hfi k s).1] at h1; exact h1, by rw [(hfi k s).2] at h2; exact h2.rd, h3⟩
    xg := fun W kv k s hW hk hkl => r10get_any G' W x Z kv k s (h.rf.below hW) hk (by omega) (fun z hz => (hok z hz).2) }

end Go.Proofs.Ythcoblmfmbmdkaa

/- MemoPlays, whole. -/
namespace Go.Proofs.Ythcoblmfmbmdkaa
set_option maxRecDepth 100000
open Go.RowKit
set_option linter.unusedVariables false

theorem memoPlays_walk (a0 : Bool) (a1 : Option Addr) (len1 cap1 : Nat) (z1 : List MSt) (a2 : Option Addr) (len2 cap2 : Nat) (z2 : List (List UInt8)) (a3 : Option Addr) (len3 cap3 : Nat) (z3 : List Int) (w : World)
    (w1 : ArgM w (.slice a1 len1 cap1) z1) (w2 : ArgL w (.slice a2 len2 cap2) z2) (w3 : IsRow .u64 w a3 len3 cap3 z3) :
    Calls Try.prog 3 #[.bool a0, .slice a1 len1 cap1, .slice a2 len2 cap2, .slice a3 len3 cap3] w fun e w' => e = .returned (.bool true) ∧ Below w.heap.size w w' := by
  have hcap : len3 ≤ cap3 ∧ cap3 ≤ 9223372036854775807 := by
    rcases w3 with ⟨_, rfl, rfl, _⟩ | ⟨x, _, hl, hm, _⟩
    · omega
    · unfold maxLen at hm; omega
  exact mplays (fun _ _ _ _ _ _ _ _ _ _ h hz => ⟨_, _, _, _, _, plc_some h hz⟩) w a0 _ _ z1 z2 a3 len3 cap3 w1 w2 (numsM_of w3) hcap.1 hcap.2

end Go.Proofs.Ythcoblmfmbmdkaa
