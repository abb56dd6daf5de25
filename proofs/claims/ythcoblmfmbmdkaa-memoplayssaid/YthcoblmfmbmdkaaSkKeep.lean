/- A list stays while other blocks are written; what rises stands in one order alone. -/
import Derived.Test.YthcoblmfmbmdkaaSkIns
namespace Go.Proofs.Ythcoblmfmbmdkaa
open Go.RowKit Go.Shelf
set_option linter.unusedVariables false

theorem nb_cases {l : Nat} {ts : List Tow} {a : Nat} (ha : a ≤ ts.length) : nb l ts a = l ∨ ∃ t ∈ ts, nb l ts a = t.b := by
  rcases a with _ | a
  · exact .inl rfl
  · exact .inr ⟨ts[a], List.getElem_mem _, nb_succ l (by omega)⟩

theorem insT_perm (ts : List Tow) (c : Nat) (T : Tow) : (esT (insT ts c T)).Perm (T.e :: esT ts) := by
  unfold esT insT
  rw [List.map_append, List.map_cons]
  refine List.perm_middle.trans (List.Perm.cons _ ?_)
  rw [← List.map_append, List.take_append_drop]

theorem rise_pw {es : List EnB} (h : riseB es = true) : es.Pairwise (fun a b => cmpE a b < 0) :=
  List.pairwise_iff_getElem.2 (fun i j hi hj hij => rise_lt h i j hj hij)

/-- what rises stands in one order alone -/
theorem rise_unique {es fs : List EnB} (ha : riseB es = true) (hb : riseB fs = true) (hp : es.Perm fs) : es = fs :=
  List.Perm.eq_of_pairwise (le := fun a b => cmpE a b < 0) (fun a b _ _ h1 h2 => by have := cmpE_neg a b; omega) (rise_pw ha) (rise_pw hb) hp

theorem NodeAt.keeps {F : Nat → Prop} {w w' : World} {b hh : Nat} {rest : List Tow} (h : NodeAt w b hh rest) (hk : Keeps F w w') (hF : ¬ F b) : NodeAt w' b hh rest := by
  have e := hk.block b h.lt hF
  refine ⟨fun r hr => hk.cell (p := ⟨b, 4 + r, none⟩) hF (h.cel r hr), fun r hr => ?_, by rw [e]; exact h.blk⟩
  have h1 := h.frz r hr
  unfold World.frozen? at h1 ⊢
  rw [e]
  exact h1

theorem rd_keep {F : Nat → Prop} {w w' : World} {x : Value} {l : List UInt8} (h : Rd w x l) (hk : Keeps F w w') (hF : ∀ q, x.ownBlock = some q → ¬ F q) : Rd w' x l := by
  rcases h with h | ⟨b, off, cap, rfl, h1, h2, h3⟩
  · exact .inl h
  · exact .inr ⟨b, off, cap, rfl, h1, h2, fun j u hu => hk.cell (p := ⟨b, off + j, none⟩) (hF b rfl) (h3 j u hu)⟩

/-- a list stays while other blocks are written -/
theorem SkAt.keeps {F : Nat → Prop} {w w' : World} {l : Nat} {ts : List Tow} (h : SkAt w l ts) (hk : Keeps F w w') (h0 : ¬ F l) (hb : ∀ t ∈ ts, ¬ F t.b) (hxy : ∀ t ∈ ts, (∀ q, t.x.ownBlock = some q → ¬ F q) ∧ (∀ q, t.y.ownBlock = some q → ¬ F q)) : SkAt w' l ts := by
  refine ⟨fun a ha => (h.nod a ha).keeps hk ?_, fun t ht => ?_, h.inj, h.ht, h.out, h.ris, h.len, fun t ht => ⟨(h.inn t ht).1.grow hk.size, (h.inn t ht).2.grow hk.size⟩⟩
  · rcases nb_cases (l := l) ha with e | ⟨t, ht, e⟩
    · rw [e]; exact h0
    · rw [e]; exact hb t ht
  · have e := h.ent t ht
    have hf := hb t ht
    exact ⟨⟨hk.cell (p := ⟨t.b, 0, none⟩) hf e.bx.c0, hk.cell (p := ⟨t.b, 1, none⟩) hf e.bx.c1, hk.cell (p := ⟨t.b, 2, none⟩) hf e.bx.c2, hk.cell (p := ⟨t.b, 3, none⟩) hf e.bx.c3⟩, rd_keep e.rx hk (hxy t ht).1, rd_keep e.ry hk (hxy t ht).2⟩

end Go.Proofs.Ythcoblmfmbmdkaa
