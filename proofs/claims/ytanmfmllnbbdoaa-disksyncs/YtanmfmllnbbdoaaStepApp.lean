/- append to a row of one's own, as one step of a region that draws its order. -/
import Derived.Test.YtanmfmllnbbdoaaDiskK
import Derived.Deep.RegionHeld3
namespace Go.Proofs.Ytanmfmllnbbdoaa
open Go.RowKit

theorem step_app {P : Program} {ops : Array Oper} {o : Oper} {a : Act} {w : World} {K : Act → World → Prop} {Q : Exit → Act → World → Prop} {E : Prop}
    (hg : o.guard = none) (s x : Operand) (t : TypeId) (hop : o.op = Op.call { callee := Callee.builtin Builtin.append, args := #[s, x], argTypes := #[t, t] })
    (base : Nat) (e : TypeId) (i : TypeInfo) (z : Value) (size bytes : Nat) (h1 : P.underlying t = some (.slice e)) (h2 : P.info? e = some i) (h3 : i.zero = some z) (h4 : i.size = size) (h5 : i.bytes = bytes) (h6 : z.cells.size = size) (h7 : 0 < size)
    (v : Value) (n : Nat) (xs : List Value) (hs : a.eval s = v) (hown : w.ownsRow base e size v n xs)
    (ad : Addr) (m c : Nat) (news : List Value) (hx : a.eval x = .slice (some ad) m c) (hn : news.length = m * size) (hc : ∀ j u, news[j]? = some u → w.cell? (ad.add j) = some u) (h1c : ∀ u ∈ news, u.oneCell' = true)
    (b1 : n + m ≤ maxLen) (b2 : (n + m) * bytes ≤ 140737488355328) (hbase : base ≤ w.heap.size)
    (hK : ∀ v' w', w'.ownsRow base e size v' (n + m) (xs ++ news) → w.grownBy w' v.ownBlock → (v' = .slice none 0 0 ↔ v = .slice none 0 0 ∧ m = 0) → K (a.put o.dst v') w') :
    if Region.wanted o (yielded ops a.tmps) = true then Oper.wp P o a w K Q else E := by
  have hw : Region.wanted o (yielded ops a.tmps) = true := by simp [Region.wanted, hg]
  rw [if_pos hw]
  obtain ⟨v', w', hrun, r1, r2, r3⟩ := run_append_own (P := P) w base t o.type e i z size bytes h1 h2 h3 h4 h5 h6 h7 v n xs hown ad m c news hn hc h1c b1 b2 hbase
  unfold Oper.wp
  simp [execOp, hop, resolve, invoke, builtin, hs, hx, hrun, Result.andThen]
  exact hK v' w' r1 r2 r3

/-- append to a row of one's own, behind '&&' or '||' -/
theorem wpList_app_guard {P : Program} {w : World} {ops : Array Oper} {rest : List Oper} {o : Oper} {a : Act} {Q : Exit → Act → World → Prop} (hgd : Region.wanted o (yielded ops a.tmps) = true) (s x : Operand) (t : TypeId)
    (ho : o.op = .call { callee := .builtin .append, args := #[s, x], argTypes := #[t, t] })
    (base : Nat) (e : TypeId) (i : TypeInfo) (z : Value) (size bytes : Nat) (ht : P.underlying t = some (.slice e)) (hi : P.info? e = some i) (hz : i.zero = some z)
    (hsize : i.size = size) (hby : i.bytes = bytes) (hzs : z.cells.size = size) (hsz : 0 < size)
    (v : Value) (n : Nat) (xs : List Value) (hs : a.eval s = v) (hown : w.ownsRow base e size v n xs)
    (ad : Addr) (m c : Nat) (news : List Value) (hx : a.eval x = .slice (some ad) m c) (hl : news.length = m * size) (hnews : ∀ j u, news[j]? = some u → w.cell? (ad.add j) = some u) (h1 : ∀ u ∈ news, u.oneCell' = true)
    (h63 : n + m ≤ maxLen) (hbytes : (n + m) * bytes ≤ 140737488355328) (hbase : base ≤ w.heap.size)
    (h : ∀ v' w', w'.ownsRow base e size v' (n + m) (xs ++ news) → w.grownBy w' v.ownBlock → (v' = .slice none 0 0 ↔ v = .slice none 0 0 ∧ m = 0) → wpList P ops Q rest (a.put o.dst v') w') : wpList P ops Q (o :: rest) a w :=
  wpList_step fun K hK => by
    rw [if_pos hgd]
    exact wp_append_own w s x t ho base e i z size bytes ht hi hz hsize hby hzs hsz v n xs hs hown ad m c news hx hl hnews h1 h63 hbytes hbase fun v' w' h2 h3 h4 => hK _ _ (h v' w' h2 h3 h4)

/-- disks of one file -/
def one (c : Int) (room : Int) (n D : List UInt8) (s : Nat) : Dsk := ⟨false, 0, c, room, [⟨n, D, s⟩]⟩

theorem one_app (c room : Int) (n D P : List UInt8) (s : Nat) (h : (D.length : Int) + P.length ≤ room) : appD (one c room n D s) n P = (0, one (c + 1) room n (D ++ P) s) := by
  unfold appD one
  simp only [getBy, List.find?_cons, beq_self_eq_true]
  rw [if_neg (by simp [usedA]; omega)]
  simp [setBy, chg]

theorem one_sync (c room : Int) (n D : List UInt8) (s : Nat) : syncD (one c room n D s) n = (0, one (c + 1) room n D D.length) := by
  unfold syncD one doD
  simp [getBy, setBy, chg]

theorem one_read (c room : Int) (n D : List UInt8) (s : Nat) : readD (one c room n D s) n = (0, D) := by
  unfold readD one
  simp [getBy]

theorem one_crash (c room : Int) (n P Q : List UInt8) (keep : Int) (t : UInt8) : ∃ s, crashD (one c room n (P ++ Q) P.length) [keep] t = one c room n (tear (P ++ Q) P.length keep t) s := by
  unfold crashD one
  simp only [crashL]
  split
  · rename_i h
    refine ⟨P.length, ?_⟩
    have hq : Q = [] := by
      rw [List.length_append] at h
      exact List.eq_nil_of_length_eq_zero (by omega)
    subst hq
    have : tear (P ++ []) P.length keep t = P ++ [] := by
      have hk := keptN_le (P ++ []).length P.length keep
      unfold tear
      rw [if_neg (by omega), List.take_of_length_le (by simp)]
    rw [this]
  · exact ⟨_, rfl⟩

/-- what a crash leaves of what was synced and what wasn't -/
def torn (P Q : List UInt8) (n : Nat) (t : UInt8) : List UInt8 := if 0 < n ∧ n < Q.length then (P ++ Q.take n).set (P.length + n - 1) (((P ++ Q.take n).getD (P.length + n - 1) 0) ^^^ t) else P ++ Q.take n

theorem tear_torn (P Q : List UInt8) (keep : Int) (t : UInt8) (n : Nat) (hn : (min (max keep 0) (Q.length : Int)) = (n : Int)) : tear (P ++ Q) P.length keep t = torn P Q n t := by
  have hk : keptN (P ++ Q).length P.length keep = n := by
    unfold keptN
    rw [List.length_append, Nat.add_sub_cancel_left]
    omega
  have hl : (P ++ Q).length - P.length = Q.length := by rw [List.length_append]; omega
  have ht : (P ++ Q).take (P.length + n) = P ++ Q.take n := by rw [List.take_append, List.take_of_length_le (by omega), Nat.add_sub_cancel_left]
  unfold tear torn
  rw [hk, hl, ht]
  split
  · rename_i h
    congr 2
    rw [← ht]
    simp only [List.getD_eq_getElem?_getD]
    rw [List.getElem?_take, if_pos (by omega)]
  · rfl

end Go.Proofs.Ytanmfmllnbbdoaa
