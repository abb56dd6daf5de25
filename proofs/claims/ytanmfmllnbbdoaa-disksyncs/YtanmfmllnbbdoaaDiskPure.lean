/- A disk as a plain value; lists of what has a name, by rising names. -/
import Derived.Test.YtanmfmllnbbdoaaDiskName
import Derived.Maps.OwnSet
namespace Go.Proofs.Ytanmfmllnbbdoaa
open Go.RowKit Go.Maps

section
variable {α β : Type}

def insBy (nm : α → List UInt8) (x : α) : List α → List α
  | [] => [x]
  | y :: r => if bytesBefore (nm x) (nm y) = true then x :: y :: r else y :: insBy nm x r

def delBy (nm : α → List UInt8) (k : List UInt8) (l : List α) : List α := l.filter fun x => !(nm x == k)

def putBy (nm : α → List UInt8) (x : α) (l : List α) : List α := insBy nm x (delBy nm (nm x) l)

def setBy (nm : α → List UInt8) (x : α) (l : List α) : List α := l.map fun y => if nm y = nm x then x else y

def getBy (nm : α → List UInt8) (k : List UInt8) (l : List α) : Option α := l.find? fun x => nm x == k

def Rise (nm : α → List UInt8) (l : List α) : Prop := l.Pairwise fun a b => bytesBefore (nm a) (nm b) = true

theorem insBy_map (nm : α → List UInt8) (nn : β → List UInt8) (g : α → β) (h : ∀ a, nn (g a) = nm a) (x : α) (l : List α) : (insBy nm x l).map g = insBy nn (g x) (l.map g) := by
  induction l with
  | nil => rfl
  | cons y r ih =>
    simp only [insBy, List.map_cons, h]
    split
    · rfl
    · rw [List.map_cons, ih]

theorem delBy_map (nm : α → List UInt8) (nn : β → List UInt8) (g : α → β) (h : ∀ a, nn (g a) = nm a) (k : List UInt8) (l : List α) : (delBy nm k l).map g = delBy nn k (l.map g) := by
  unfold delBy
  rw [List.filter_map]
  congr 1
  refine List.filter_congr fun x _ => ?_
  simp [h]

theorem putBy_map (nm : α → List UInt8) (nn : β → List UInt8) (g : α → β) (h : ∀ a, nn (g a) = nm a) (x : α) (l : List α) : (putBy nm x l).map g = putBy nn (g x) (l.map g) := by
  unfold putBy
  rw [insBy_map nm nn g h, delBy_map nm nn g h, h]

theorem setBy_map (nm : α → List UInt8) (nn : β → List UInt8) (g : α → β) (h : ∀ a, nn (g a) = nm a) (x : α) (l : List α) : (setBy nm x l).map g = setBy nn (g x) (l.map g) := by
  unfold setBy
  rw [List.map_map, List.map_map]
  refine List.map_congr_left fun y _ => ?_
  simp only [Function.comp, h]
  split <;> rfl

theorem getBy_map (nm : α → List UInt8) (nn : β → List UInt8) (g : α → β) (h : ∀ a, nn (g a) = nm a) (k : List UInt8) (l : List α) : getBy nn k (l.map g) = (getBy nm k l).map g := by
  unfold getBy
  rw [List.find?_map]
  congr 2
  funext x
  simp [h]

theorem insBy_length (nm : α → List UInt8) (x : α) (l : List α) : (insBy nm x l).length = l.length + 1 := by
  induction l with
  | nil => rfl
  | cons y r ih =>
    simp only [insBy]
    split
    · rfl
    · rw [List.length_cons, List.length_cons, ih]

theorem insBy_mem (nm : α → List UInt8) (x z : α) (l : List α) : z ∈ insBy nm x l ↔ z = x ∨ z ∈ l := by
  induction l with
  | nil => simp [insBy]
  | cons y r ih =>
    simp only [insBy]
    split
    · simp
    · simp only [List.mem_cons, ih]
      grind

theorem delBy_mem (nm : α → List UInt8) (k : List UInt8) (z : α) (l : List α) : z ∈ delBy nm k l ↔ z ∈ l ∧ nm z ≠ k := by
  unfold delBy
  simp

theorem putBy_mem (nm : α → List UInt8) (x z : α) (l : List α) : z ∈ putBy nm x l ↔ z = x ∨ (z ∈ l ∧ nm z ≠ nm x) := by
  unfold putBy
  rw [insBy_mem, delBy_mem]

theorem Rise.ne {nm : α → List UInt8} {l : List α} (h : Rise nm l) : l.Pairwise fun a b => nm a ≠ nm b :=
  h.imp fun {a b} hb e => by rw [e, WideAt.bytes_irrefl] at hb; cases hb

theorem rise_ins {nm : α → List UInt8} {x : α} {l : List α} (h : Rise nm l) (hx : ∀ y ∈ l, nm y ≠ nm x) : Rise nm (insBy nm x l) := by
  induction l with
  | nil => simp [insBy, Rise]
  | cons y r ih =>
    obtain ⟨h1, h2⟩ := List.pairwise_cons.1 h
    simp only [insBy]
    split
    · rename_i hb
      refine List.pairwise_cons.2 ⟨fun q hq => ?_, h⟩
      rcases List.mem_cons.1 hq with rfl | hq
      · exact hb
      · exact WideShapes.bytes_trans _ _ _ hb (h1 q hq)
    · rename_i hb
      refine List.pairwise_cons.2 ⟨fun q hq => ?_, ih h2 fun z hz => hx z (by simp [hz])⟩
      rcases (insBy_mem nm x q r).1 hq with rfl | hq
      · rcases WideAt.bytes_total _ _ (hx y (by simp)) with h' | h'
        · exact h'
        · exact absurd h' hb
      · exact h1 q hq

theorem rise_del {nm : α → List UInt8} {l : List α} (h : Rise nm l) (k : List UInt8) : Rise nm (delBy nm k l) := h.filter _

theorem rise_put {nm : α → List UInt8} {l : List α} (h : Rise nm l) (x : α) : Rise nm (putBy nm x l) := rise_ins (rise_del h _) fun y hy => ((delBy_mem nm _ y l).1 hy).2

theorem rise_map {nm : α → List UInt8} {nn : β → List UInt8} (g : α → β) (h : ∀ a, nn (g a) = nm a) {l : List α} : Rise nn (l.map g) ↔ Rise nm l := by
  unfold Rise
  rw [List.pairwise_map]
  simp [h]

theorem rise_set {nm : α → List UInt8} {l : List α} (h : Rise nm l) (x : α) : Rise nm (setBy nm x l) := by
  unfold setBy
  refine (rise_map (nm := nm) _ fun a => ?_).2 h
  split
  · rename_i e; exact e.symm
  · rfl

theorem getBy_some {nm : α → List UInt8} {k : List UInt8} {l : List α} {x : α} (h : getBy nm k l = some x) : x ∈ l ∧ nm x = k := by
  unfold getBy at h
  exact ⟨List.mem_of_find?_eq_some h, by simpa using List.find?_some h⟩

theorem getBy_none {nm : α → List UInt8} {k : List UInt8} {l : List α} (h : getBy nm k l = none) : ∀ x ∈ l, nm x ≠ k := by
  unfold getBy at h
  simpa using h

theorem getBy_of_mem {nm : α → List UInt8} {l : List α} (h : Rise nm l) {x : α} (hx : x ∈ l) : getBy nm (nm x) l = some x := by
  induction l with
  | nil => simp at hx
  | cons y r ih =>
    obtain ⟨h1, h2⟩ := List.pairwise_cons.1 h
    unfold getBy
    rw [List.find?_cons]
    rcases List.mem_cons.1 hx with rfl | hx
    · simp
    · have : nm y ≠ nm x := fun e => by
        have := h1 x hx
        rw [e, WideAt.bytes_irrefl] at this
        cases this
      rw [show (nm y == nm x) = false by simpa using this]
      exact ih h2 hx

theorem getBy_put_same (nm : α → List UInt8) (x : α) (l : List α) (h : Rise nm l) : getBy nm (nm x) (putBy nm x l) = some x :=
  getBy_of_mem (rise_put h x) ((putBy_mem nm x x l).2 (.inl rfl))

theorem getBy_eq {nm : α → List UInt8} {l : List α} (h : Rise nm l) {k : List UInt8} {x : α} (hx : x ∈ l) (e : nm x = k) : getBy nm k l = some x := by
  subst e
  exact getBy_of_mem h hx

theorem getBy_put_other (nm : α → List UInt8) (x : α) (l : List α) (h : Rise nm l) (k : List UInt8) (hk : nm x ≠ k) : getBy nm k (putBy nm x l) = getBy nm k l := by
  cases hg : getBy nm k l with
  | none =>
    unfold getBy
    rw [List.find?_eq_none]
    intro z hz
    rcases (putBy_mem nm x z l).1 hz with rfl | ⟨hz, _⟩
    · simpa using hk
    · simpa using getBy_none hg z hz
  | some y =>
    obtain ⟨hy, rfl⟩ := getBy_some hg
    exact getBy_of_mem (rise_put h x) ((putBy_mem nm x y l).2 (.inr ⟨hy, fun e => hk e.symm⟩))

theorem getBy_del_same (nm : α → List UInt8) (k : List UInt8) (l : List α) : getBy nm k (delBy nm k l) = none := by
  unfold getBy
  rw [List.find?_eq_none]
  intro z hz
  simpa using ((delBy_mem nm k z l).1 hz).2

theorem getBy_del_other (nm : α → List UInt8) (j k : List UInt8) (l : List α) (h : Rise nm l) (hk : j ≠ k) : getBy nm k (delBy nm j l) = getBy nm k l := by
  cases hg : getBy nm k l with
  | none =>
    unfold getBy
    rw [List.find?_eq_none]
    intro z hz
    simpa using getBy_none hg z ((delBy_mem nm j z l).1 hz).1
  | some y =>
    obtain ⟨hy, rfl⟩ := getBy_some hg
    exact getBy_of_mem (rise_del h j) ((delBy_mem nm j y l).2 ⟨hy, fun e => hk e.symm⟩)

theorem setBy_mem {nm : α → List UInt8} {x z : α} {l : List α} (h : z ∈ setBy nm x l) : z = x ∨ (z ∈ l ∧ nm z ≠ nm x) := by
  unfold setBy at h
  obtain ⟨y, hy, e⟩ := List.mem_map.1 h
  split at e
  · exact .inl e.symm
  · subst e; exact .inr ⟨hy, by assumption⟩

theorem getBy_set_same (nm : α → List UInt8) (x y : α) (l : List α) (h : getBy nm (nm x) l = some y) : getBy nm (nm x) (setBy nm x l) = some x := by
  induction l with
  | nil => simp [getBy] at h
  | cons z r ih =>
    unfold setBy getBy
    rw [List.map_cons, List.find?_cons]
    by_cases e : nm z = nm x
    · rw [if_pos e]; simp
    · rw [if_neg e, show (nm z == nm x) = false by simpa using e]
      refine ih ?_
      unfold getBy at h
      rw [List.find?_cons, show (nm z == nm x) = false by simpa using e] at h
      exact h

theorem getBy_set_other (nm : α → List UInt8) (x : α) (l : List α) (k : List UInt8) (hk : nm x ≠ k) : getBy nm k (setBy nm x l) = getBy nm k l := by
  induction l with
  | nil => rfl
  | cons z r ih =>
    unfold setBy getBy at *
    rw [List.map_cons, List.find?_cons, List.find?_cons]
    by_cases e : nm z = nm x
    · rw [if_pos e, show (nm x == k) = false by simpa using hk, show (nm z == k) = false by rw [e]; simpa using hk]
      exact ih
    · rw [if_neg e]
      cases nm z == k
      · exact ih
      · rfl

theorem setBy_length (nm : α → List UInt8) (x : α) (l : List α) : (setBy nm x l).length = l.length := by simp [setBy]

theorem delBy_length (nm : α → List UInt8) (k : List UInt8) (l : List α) : (delBy nm k l).length ≤ l.length := List.length_filter_le _ _

theorem delBy_len_eq {nm : α → List UInt8} {l : List α} (h : Rise nm l) {k : List UInt8} {x : α} (hx : getBy nm k l = some x) : (delBy nm k l).length + 1 = l.length := by
  induction l with
  | nil => simp [getBy] at hx
  | cons y r ih =>
    obtain ⟨h1, h2⟩ := List.pairwise_cons.1 h
    unfold getBy at hx
    rw [List.find?_cons] at hx
    unfold delBy
    rw [List.filter_cons]
    by_cases e : nm y = k
    · have : r.filter (fun x => !(nm x == k)) = r := List.filter_eq_self.2 fun z hz => by
        have := h1 z hz
        have hne : nm z ≠ k := fun e' => by rw [e, ← e', WideAt.bytes_irrefl] at this; cases this
        simpa using hne
      simp [e, this]
    · rw [show (nm y == k) = false by simpa using e] at hx ⊢
      have := ih h2 hx
      simp only [Bool.not_false, if_true, List.length_cons]
      unfold delBy at this
      omega

theorem delBy_none {nm : α → List UInt8} {l : List α} {k : List UInt8} (hx : getBy nm k l = none) : delBy nm k l = l :=
  List.filter_eq_self.2 fun z hz => by simpa using getBy_none hx z hz

end

/-- a file: its name, its bytes, how many of them are synced -/
structure FileA where
  name : List UInt8
  data : List UInt8
  syn : Nat

/-- a disk: the power, the room, the files by rising names -/
structure Dsk where
  off : Bool
  left : Int
  ch : Int
  room : Int
  fs : List FileA

/-- what a change makes of the power: its answer, and the disk behind it -/
def chg (S : Dsk) : Int × Dsk :=
  if S.off = true then (9, S)
  else if S.left = 0 then (0, { S with off := false, left := 0, ch := S.ch + 1 })
  else if 0 < S.left - 1 then (0, { S with off := false, left := S.left - 1, ch := S.ch + 1 })
  else (9, { S with off := true, left := S.left - 1, ch := S.ch + 1 })

theorem chg_fs (S : Dsk) : (chg S).2.fs = S.fs ∧ (chg S).2.room = S.room := by
  unfold chg
  repeat' split
  all_goals exact ⟨rfl, rfl⟩

def usedA (fs : List FileA) : Nat := (fs.map fun f => f.data.length).sum

end Go.Proofs.Ytanmfmllnbbdoaa
