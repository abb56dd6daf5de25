/- bytes.Compare and atom.Less. -/
import Derived.Test.YthiogpojccohgaaBase
import Derived.Lib.Bytealg
import Derived.Lib.BytesEntry
namespace Go.Proofs.Ythiogpojccohgaa
set_option maxRecDepth 20000
open Go.RowKit

theorem bytesOf_rd {w : World} {v : Value} {l : List UInt8} (h : Rd w v l) : (Extern.Bytes.bytesOf v).run Try.prog w = .ok ⟨l.toArray⟩ w := by
  rcases h with ⟨rfl, rfl⟩ | ⟨b, off, cap, rfl, h1, h2, h3⟩
  · rfl
  · have hl := Lib.run_loadBytesX (P := Try.prog) w (l.map fun b => (b.toNat : Int)) ⟨b, off, none⟩ .empty (fun j x hj => by
      rw [Addr.add_lit]
      refine h3 j _ ?_
      simp only [List.getElem?_map, Option.map_eq_some_iff] at hj
      obtain ⟨y, hy, rfl⟩ := hj
      simp [bv, hy])
    rw [List.length_map] at hl
    show (Extern.Bytes.loadBytes ⟨b, off, none⟩ l.length .empty).run Try.prog w = _
    rw [hl]
    congr 1
    apply ByteArray.ext
    simp [Lib.bytesOf, Function.comp_def]

theorem compare_run {w : World} {a b : Value} {l m : List UInt8} (ha : Rd w a l) (hb : Rd w b m) :
    (Extern.BytealgCompare.compare #[a, b]).run Try.prog w = .ok (.int .i64 (Lib.compareBytes l m)) w := by
  change Sem.run Try.prog (do pure (goInt (Extern.BytealgCompare.cmp (← Extern.Bytes.bytesOf a) (← Extern.Bytes.bytesOf b)))) w = _
  simp only [Sem.run_bind, bytesOf_rd ha, bytesOf_rd hb, Result.andThen, Sem.run_pure, Lib.cmp_eq]
  rfl

theorem cmp_any (w : World) (a b : Value) (l m : List UInt8) (ha : Rd w a l) (hb : Rd w b m) :
    Calls Try.prog 63 #[a, b] w fun e w' => e = .returned (.int .i64 (Lib.compareBytes l m)) ∧ w' = w := by
  have hr := compare_run ha hb
  clear ha hb
  go_enter Try.func63, Try.ntmps63
  go_wp2
  rw [run_callFunc_extern Try.func68 (by kernel_rfl) (by kernel_rfl) (by kernel_rfl) (e := Extern.BytealgCompare.compare) (by kernel_rfl), hr]
  simp only [Result.andThen]
  rw [Oper.upon_value]
  go_wp2
  go_ret
  exact ⟨rfl, rfl⟩

theorem less_any (w : World) (a b : Value) (l m : List UInt8) (ha : Rd w a l) (hb : Rd w b m) :
    Calls Try.prog 51 #[a, b] w fun e w' => e = .returned (.bool (decide (Lib.compareBytes l m < 0))) ∧ w' = w := by
  go_enter Try.func51, Try.ntmps51
  go_wp2_with (go_at_call 63; refine (cmp_any _ _ _ l m ha hb).mono ?_; rintro e w' ⟨rfl, rfl⟩)
  go_ret
  exact ⟨rfl, rfl⟩

theorem less_b (w : World) (a b : Value) (l m : List UInt8) (x : Bool) (ha : Rd w a l) (hb : Rd w b m) (hx : decide (Lib.compareBytes l m < 0) = x) :
    Calls Try.prog 51 #[a, b] w fun e w' => e = .returned (.bool x) ∧ w' = w := by
  subst hx
  exact less_any w a b l m ha hb

end Go.Proofs.Ythiogpojccohgaa
