/- append of a row, nil or empty or not, to a row of one's own that is not nil: as a step of a region that draws its order. -/
import Derived.Test.YtgkgdbdapkgkgaaSmall2
import Derived.Deep.AppendLies
import Derived.Deep.AppendSrc
namespace Go.Proofs.Ytgkgdbdapkgkgaa
set_option maxRecDepth 20000
open Go.RowKit
set_option linter.unusedVariables false

theorem grown_refl (w : World) (row : Option Nat) : w.grownBy w row := ⟨rfl, rfl, rfl, Nat.le_refl _, fun _ _ _ => rfl⟩

/-- what is appended: m elements, the cells news -/
def SrcOf (w : World) (size : Nat) (vx : Value) (m : Nat) (news : List Value) : Prop := (vx = .slice none 0 0 ∧ m = 0 ∧ news = []) ∨ ∃ ad c, vx = .slice (some ad) m c ∧ news.length = m * size ∧ ∀ j u, news[j]? = some u → w.cell? (ad.add j) = some u

theorem step_append_src {P : Program} {w : World} {ops : Array Oper} {o : Oper} {a : Act} {K : Act → World → Prop} {Q : Exit → Act → World → Prop} {E : Prop} (hgd : o.guard = none) (s x : Operand) (t : TypeId)
    (ho : o.op = .call { callee := .builtin .append, args := #[s, x], argTypes := #[t, t] })
    (base : Nat) (e : TypeId) (i : TypeInfo) (z : Value) (size bytes : Nat) (ht : P.underlying t = some (.slice e)) (hi : P.info? e = some i) (hz : i.zero = some z)
    (hsize : i.size = size) (hby : i.bytes = bytes) (hzs : z.cells.size = size) (hsz : 0 < size)
    (g0 n c0 : Nat) (xs : List Value) (hs : a.eval s = .slice (some ⟨g0, 0, none⟩) n c0) (hown : w.ownsRow base e size (.slice (some ⟨g0, 0, none⟩) n c0) n xs)
    (vx : Value) (hx : a.eval x = vx) (m : Nat) (news : List Value) (hsrc : SrcOf w size vx m news) (h1 : ∀ u ∈ news, u.oneCell' = true)
    (h63 : n + m ≤ maxLen) (hbytes : (n + m) * bytes ≤ 140737488355328) (hbase : base ≤ w.heap.size) (H : Nat) (hH : w.heap.size = H) (N : Nat) (hN : n + m = N)
    (h : ∀ g c w', w'.ownsRow base e size (.slice (some ⟨g, 0, none⟩) N c) N (xs ++ news) → w.grownBy w' (some g0) → (g0 = g ∨ g = H) → K (a.put o.dst (.slice (some ⟨g, 0, none⟩) N c)) w') :
    if Region.wanted o (yielded ops a.tmps) = true then Oper.wp P o a w K Q else E := by
  subst hN
  have hw : Region.wanted o (yielded ops a.tmps) = true := by simp [Region.wanted, hgd]
  by_cases hm : m = 0
  · subst hm
    have hnn : news = [] := by
      rcases hsrc with ⟨_, _, h⟩ | ⟨ad, c, _, hl, _⟩
      · exact h
      · exact List.eq_nil_of_length_eq_zero (by omega)
    subst hnn
    have hsr : Src P i.size t vx 0 [] w := by
      rcases hsrc with ⟨rfl, _, _⟩ | ⟨ad, c, rfl, hl, hnews⟩
      · exact Src.ofNil w ht 0
      · exact Src.ofSlice w ht ad 0 c [] (by simp) hnews h1
    have hcap : n ≤ c0 := by
      rcases hown.2 with ⟨e', _⟩ | ⟨g, cap, cur, e', _, _, h1, _⟩
      · cases e'
      · cases e'; exact h1
    have hrun := run_append_room_src w t t o.type e i ht hi g0 0 n c0 vx 0 [] hsr (by omega) (fun j hj => absurd hj (by simp)) (fun j hj => absurd hj (by simp))
    rw [if_pos hw]
    unfold Oper.wp
    simp [execOp, ho, resolve, invoke, builtin, hs, hx, hrun, Result.andThen]
    have hsc : w.setCells g0 (0 + n * i.size) [] = w := by simp [World.setCells]
    rw [Nat.zero_add] at hsc
    rw [hsc]
    exact h g0 c0 w (by simpa using hown) (grown_refl w _) (.inl rfl)
  · rcases hsrc with ⟨_, h0, _⟩ | ⟨ad, c, rfl, hl, hnews⟩
    · exact absurd h0 hm
    · exact step_append_lies w hgd s x t ho base e i z size bytes ht hi hz hsize hby hzs hsz _ n xs hs hown ad m c news hx hl hnews h1 (by omega) h63 hbytes hbase H hH (fun g c w' h2 h3 h4 h5 => h g c w' h2 h3 (by
        rcases h4 with h4 | h4
        · simp only [Value.ownBlock, Option.some.injEq] at h4; exact .inl h4
        · exact .inr h4))

theorem row_mono {B C : Nat} {w : World} {e : TypeId} {s n : Nat} {v : Value} {cs : List Value} (h : w.ownsRow B e s v n cs) (hC : C ≤ B) : w.ownsRow C e s v n cs := by
  refine ⟨h.1, ?_⟩
  rcases h.2 with hr | ⟨g, cap, cur, e, hb, hg⟩
  · exact .inl hr
  · exact .inr ⟨g, cap, cur, e, Nat.le_trans hC hb, hg⟩

end Go.Proofs.Ytgkgdbdapkgkgaa
