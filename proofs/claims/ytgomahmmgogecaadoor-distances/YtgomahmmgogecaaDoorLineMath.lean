/-
  Plain mathematics of lines: a text's lines as the document has them (bytes, bare or not) and as the program has them (bytes with their newline). No program stands in it.
-/
import Derived.Lib.Bytealg
import Derived.Test.YtgomahmmgogecaaDoorMath
namespace Go.Proofs.YtgomahmmgogecaaDoor
namespace Ed

/-- The lines of a text behind 'cur', what stands ahead in the same line. -/
def rlGo : List UInt8 → List UInt8 → List (List UInt8 × Bool)
  | cur, [] => if cur = [] then [] else [(cur, true)]
  | cur, c :: t => if c = 10 then (cur, false) :: rlGo [] t else rlGo (cur ++ [c]) t
def rl (s : List UInt8) : List (List UInt8 × Bool) := rlGo [] s
def join (x : List UInt8 × Bool) : List UInt8 := if x.2 then x.1 else x.1 ++ [10]
def pl (s : List UInt8) : List (List UInt8) := (rl s).map join
/-- Where the first line is over. -/
def lend : List UInt8 → Nat
  | [] => 0
  | c :: t => if c = 10 then 1 else lend t + 1

theorem lend_le : ∀ s : List UInt8, lend s ≤ s.length
  | [] => Nat.le_refl _
  | c :: t => by
    have := lend_le t
    unfold lend; split <;> simp <;> omega
theorem lend_pos : ∀ s : List UInt8, s ≠ [] → 0 < lend s
  | [], h => absurd rfl h
  | c :: t, _ => by unfold lend; split <;> omega

theorem lend_index (s : List UInt8) : (lend s : Int) = if Go.Lib.indexByte s 10 < 0 then (s.length : Int) else Go.Lib.indexByte s 10 + 1 := by
  induction s with
  | nil => rfl
  | cons b l ih =>
    have hg := Go.Lib.indexByte_ge l 10
    unfold lend Go.Lib.indexByte
    by_cases h : b = 10
    · simp [h]
    · by_cases h2 : Go.Lib.indexByte l 10 = -1
      · simp [h, h2] at ih ⊢; omega
      · have h3 : ¬ Go.Lib.indexByte l 10 < 0 := by omega
        have h4 : ¬ Go.Lib.indexByte l 10 + 1 < 0 := by omega
        simp [h, h2, h3, h4] at ih ⊢; omega

theorem rlGo_map (s : List UInt8) : ∀ cur : List UInt8, (cur ≠ [] ∨ s ≠ []) → (rlGo cur s).map join = (cur ++ s.take (lend s)) :: pl (s.drop (lend s)) := by
  induction s with
  | nil => intro cur h; simp at h; simp [rlGo, h, join, lend, pl, rl]
  | cons c t ih =>
    intro cur _
    unfold rlGo lend
    by_cases hc : c = 10
    · simp [hc, join, pl, rl]
    · simp only [hc, if_false]
      rw [ih (cur ++ [c]) (by simp)]
      simp

theorem pl_cons (s : List UInt8) (h : s ≠ []) : pl s = s.take (lend s) :: pl (s.drop (lend s)) := by
  have := rlGo_map s [] (.inr h)
  simpa [pl, rl] using this
theorem pl_nil : pl [] = [] := rfl

theorem rlGo_no10 (s : List UInt8) : ∀ cur : List UInt8, (10 : UInt8) ∉ cur → ∀ x ∈ rlGo cur s, (10 : UInt8) ∉ x.1 := by
  induction s with
  | nil =>
    intro cur h x hx
    unfold rlGo at hx
    split at hx
    · simp at hx
    · simp at hx; subst hx; exact h
  | cons c t ih =>
    intro cur h x hx
    unfold rlGo at hx
    split at hx
    · rcases List.mem_cons.1 hx with rfl | hx
      · exact h
      · exact ih [] (by simp) x hx
    · rename_i hc
      exact ih (cur ++ [c]) (by simp [h]; exact fun e => hc e.symm) x hx

theorem join_inj {x y : List UInt8 × Bool} (hx : (10 : UInt8) ∉ x.1) (hy : (10 : UInt8) ∉ y.1) (h : join x = join y) : x = y := by
  obtain ⟨a, p⟩ := x
  obtain ⟨b, q⟩ := y
  unfold join at h
  cases p <;> cases q <;> simp at h hx hy ⊢
  · exact h
  · subst h; simp at hy
  · subst h; simp at hx
  · exact h

/-- Are the lines i of the one and j of the other row the same? Beyond the rows: no. -/
def same {α : Type} [DecidableEq α] (A B : List α) (i j : Nat) : Bool :=
  match A[i]?, B[j]? with
  | some x, some y => decide (x = y)
  | _, _ => false

theorem same_left {α : Type} [DecidableEq α] (A B : List α) (i j : Nat) (h : A.length ≤ i) : same A B i j = false := by
  simp [same, List.getElem?_eq_none h]
theorem same_right {α : Type} [DecidableEq α] (A B : List α) (i j : Nat) (h : B.length ≤ j) : same A B i j = false := by
  unfold same
  rw [List.getElem?_eq_none h]
  split <;> first | rfl | (rename_i h'; cases h')
theorem same_in {α : Type} [DecidableEq α] (A B : List α) (i j : Nat) (hi : i < A.length) (hj : j < B.length) : same A B i j = decide (A[i] = B[j]) := by
  simp [same, List.getElem?_eq_getElem hi, List.getElem?_eq_getElem hj]

theorem same_map {α β : Type} [DecidableEq α] [DecidableEq β] (f : α → β) (A B : List α) (hf : ∀ x ∈ A, ∀ y ∈ B, f x = f y → x = y) : same (A.map f) (B.map f) = same A B := by
  funext i j
  unfold same
  simp only [List.getElem?_map]
  cases ha : A[i]? with
  | none => rfl
  | some x =>
    cases hb : B[j]? with
    | none => rfl
    | some y =>
      simp only [Option.map_some]
      exact decide_eq_decide.2 ⟨hf x (List.mem_of_getElem? ha) y (List.mem_of_getElem? hb), fun e => by rw [e]⟩

theorem same_pl (a b : List UInt8) : same (pl a) (pl b) = same (rl a) (rl b) :=
  same_map join _ _ fun x hx y hy h => join_inj (rlGo_no10 a [] (by simp) x hx) (rlGo_no10 b [] (by simp) y hy) h
theorem pl_length (a : List UInt8) : (pl a).length = (rl a).length := by simp [pl]

theorem rlGo_length (s : List UInt8) : ∀ cur : List UInt8, (rlGo cur s).length ≤ s.length + (if cur = [] then 0 else 1) := by
  induction s with
  | nil => intro cur; unfold rlGo; split <;> simp
  | cons c t ih =>
    intro cur
    unfold rlGo
    split
    · have := ih []; simp at this ⊢; omega
    · have := ih (cur ++ [c]); simp at this ⊢; omega
theorem rl_length (s : List UInt8) : (rl s).length ≤ s.length := by simpa [rl] using rlGo_length s []

theorem rl_step_nl (s : List UInt8) (k frm : Nat) (hk : k < s.length) (hc : s[k] = 10) : rlGo ((s.take k).drop frm) (s.drop k) = ((s.take k).drop frm, false) :: rlGo ((s.take (k + 1)).drop (k + 1)) (s.drop (k + 1)) := by
  rw [List.drop_eq_getElem_cons hk]
  conv => lhs; unfold rlGo
  rw [if_pos hc, List.drop_of_length_le (l := s.take (k + 1)) (by simp; omega)]
theorem rl_step_no (s : List UInt8) (k frm : Nat) (hk : k < s.length) (hf : frm ≤ k) (hc : ¬ s[k] = 10) : rlGo ((s.take k).drop frm) (s.drop k) = rlGo ((s.take (k + 1)).drop frm) (s.drop (k + 1)) := by
  rw [List.drop_eq_getElem_cons hk]
  conv => lhs; unfold rlGo
  rw [if_neg hc, List.take_succ_eq_append_getElem hk, List.drop_append_of_le_length (by simp; omega)]
theorem rl_end (s : List UInt8) (frm : Nat) : rlGo ((s.take s.length).drop frm) (s.drop s.length) = if frm < s.length then [(s.drop frm, true)] else [] := by
  rw [List.take_length, List.drop_length]
  unfold rlGo
  by_cases h : frm < s.length
  · rw [if_pos h, if_neg (by simp; omega)]
  · rw [if_neg h, if_pos (by simp; omega)]

/-- How far two texts are apart. -/
def dist (a b : List UInt8) : Nat := E (same (rl a) (rl b)) (rl a).length (rl b).length
theorem dist_pl (a b : List UInt8) : dist a b = E (same (pl a) (pl b)) (pl a).length (pl b).length := by
  rw [same_pl, pl_length, pl_length]; rfl

end Ed
end Go.Proofs.YtgomahmmgogecaaDoor
