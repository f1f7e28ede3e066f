/-
  Plain mathematics for Distances: how far two rows are apart, by beginnings ('E'), and Myers' diagonals. No program stands in it.
-/
namespace Go.Proofs.YtgomahmmgogecaaDoor
namespace Ed

/-- The least number of lines that go or come, of the beginnings of i and j lines. -/
def E (q : Nat → Nat → Bool) : Nat → Nat → Nat
  | 0, j => j
  | i + 1, 0 => i + 1
  | i + 1, j + 1 => if q i j then E q i j else min (E q (i + 1) j) (E q i (j + 1)) + 1
termination_by i j => i + j

theorem E_zero (q : Nat → Nat → Bool) (j : Nat) : E q 0 j = j := by rw [E]
theorem E_zero' (q : Nat → Nat → Bool) (i : Nat) : E q i 0 = i := by cases i <;> rw [E]
theorem E_eq {q : Nat → Nat → Bool} {i j : Nat} (h : q i j = true) : E q (i + 1) (j + 1) = E q i j := by rw [E, if_pos h]
theorem E_ne {q : Nat → Nat → Bool} {i j : Nat} (h : q i j = false) : E q (i + 1) (j + 1) = min (E q (i + 1) j) (E q i (j + 1)) + 1 := by
  rw [E, if_neg (by simp [h])]

theorem steps (q : Nat → Nat → Bool) : ∀ n i j : Nat, i + j = n →
    E q (i + 1) j ≤ E q i j + 1 ∧ E q i (j + 1) ≤ E q i j + 1 ∧ E q i j ≤ E q (i + 1) j + 1 ∧ E q i j ≤ E q i (j + 1) + 1 := by
  intro n
  induction n using Nat.strongRecOn with
  | ind n ih =>
    intro i j hn
    have A : E q (i + 1) j ≤ E q i j + 1 ∧ E q i j ≤ E q (i + 1) j + 1 := by
      cases j with
      | zero => rw [E_zero', E_zero']; omega
      | succ j' =>
        obtain ⟨h1, h2, h3, h4⟩ := ih (i + j') (by omega) i j' rfl
        cases hq : q i j' with
        | true => rw [E_eq hq]; omega
        | false => rw [E_ne hq]; omega
    have B : E q i (j + 1) ≤ E q i j + 1 ∧ E q i j ≤ E q i (j + 1) + 1 := by
      cases i with
      | zero => rw [E_zero, E_zero]; omega
      | succ i' =>
        obtain ⟨h1, h2, h3, h4⟩ := ih (i' + j) (by omega) i' j rfl
        cases hq : q i' j with
        | true => rw [E_eq hq]; omega
        | false => rw [E_ne hq]; omega
    exact ⟨A.1, B.1, A.2, B.2⟩

theorem bounds (q : Nat → Nat → Bool) : ∀ n i j : Nat, i + j = n →
    i ≤ E q i j + j ∧ j ≤ E q i j + i ∧ E q i j ≤ i + j ∧ (E q i j + i + j) % 2 = 0 := by
  intro n
  induction n using Nat.strongRecOn with
  | ind n ih =>
    intro i j hn
    cases i with
    | zero => rw [E_zero]; omega
    | succ i' =>
      cases j with
      | zero => rw [E_zero']; omega
      | succ j' =>
        have h0 := ih (i' + j') (by omega) i' j' rfl
        have h1 := ih (i' + 1 + j') (by omega) (i' + 1) j' rfl
        have h2 := ih (i' + (j' + 1)) (by omega) i' (j' + 1) rfl
        cases hq : q i' j' with
        | true => rw [E_eq hq]; omega
        | false =>
          rw [E_ne hq]
          by_cases h : E q (i' + 1) j' ≤ E q i' (j' + 1)
          · rw [Nat.min_eq_left h]; omega
          · rw [Nat.min_eq_right (by omega)]; omega

theorem mono1 (q : Nat → Nat → Bool) (N : Nat) (hN : ∀ i j, N ≤ i → q i j = false) (i : Nat) (hi : N ≤ i) : ∀ j, E q i j ≤ E q (i + 1) j := by
  intro j
  induction j with
  | zero => rw [E_zero', E_zero']; omega
  | succ j ih =>
    rw [E_ne (hN i j hi)]
    have := (steps q (i + j) i j rfl).2.1
    omega

theorem mono2 (q : Nat → Nat → Bool) (M : Nat) (hM : ∀ i j, M ≤ j → q i j = false) (j : Nat) (hj : M ≤ j) : ∀ i, E q i j ≤ E q i (j + 1) := by
  intro i
  induction i with
  | zero => rw [E_zero, E_zero]; omega
  | succ i ih =>
    rw [E_ne (hM i j hj)]
    have := (steps q (i + j) i j rfl).1
    omega

theorem mono1' (q : Nat → Nat → Bool) (N : Nat) (hN : ∀ i j, N ≤ i → q i j = false) (j : Nat) : ∀ d, E q N j ≤ E q (N + d) j := by
  intro d
  induction d with
  | zero => exact Nat.le_refl _
  | succ d ih => exact Nat.le_trans ih (mono1 q N hN (N + d) (by omega) j)

theorem mono2' (q : Nat → Nat → Bool) (M : Nat) (hM : ∀ i j, M ≤ j → q i j = false) (i : Nat) : ∀ d, E q i M ≤ E q i (M + d) := by
  intro d
  induction d with
  | zero => exact Nat.le_refl _
  | succ d ih => exact Nat.le_trans ih (mono2 q M hM (M + d) (by omega) i)

theorem beyond (q : Nat → Nat → Bool) (N M : Nat) (hN : ∀ i j, N ≤ i → q i j = false) (hM : ∀ i j, M ≤ j → q i j = false) (x y : Nat) (hx : N ≤ x) (hy : M ≤ y) :
    E q N M ≤ E q x y := by
  obtain ⟨d, rfl⟩ : ∃ d, x = N + d := ⟨x - N, by omega⟩
  obtain ⟨e, rfl⟩ : ∃ e, y = M + e := ⟨y - M, by omega⟩
  exact Nat.le_trans (mono1' q N hN M d) (mono2' q M hM (N + d) e)

/-- The farthest place on the diagonal k that d changes reach. -/
def Far (q : Nat → Nat → Bool) (d : Nat) (k v : Int) : Prop :=
  0 ≤ v ∧ k ≤ v ∧ E q v.toNat (v - k).toNat ≤ d ∧ ∀ i j : Nat, (i : Int) - j = k → E q i j ≤ d → (i : Int) ≤ v

/-- From x0 on the diagonal k as long as lines are the same: to x1. -/
def SlideTo (q : Nat → Nat → Bool) (k x0 x1 : Int) : Prop :=
  x0 ≤ x1 ∧ (∀ t : Int, x0 ≤ t → t < x1 → q t.toNat (t - k).toNat = true) ∧ q x1.toNat (x1 - k).toNat = false

theorem slide_unique {q : Nat → Nat → Bool} {k x0 x1 x2 : Int} (h1 : SlideTo q k x0 x1) (h2 : SlideTo q k x0 x2) : x1 = x2 := by
  obtain ⟨a1, b1, c1⟩ := h1
  obtain ⟨a2, b2, c2⟩ := h2
  by_cases h : x1 < x2
  · have := b2 x1 a1 h; rw [c1] at this; cases this
  · by_cases h' : x2 < x1
    · have := b1 x2 a2 h'; rw [c2] at this; cases this
    · omega

theorem slide_exists (q : Nat → Nat → Bool) (N : Nat) (hN : ∀ i j, N ≤ i → q i j = false) (k : Int) : ∀ (m : Nat) (x0 : Int), 0 ≤ x0 → N - x0.toNat = m → ∃ x1, SlideTo q k x0 x1 ∧ x1 ≤ max x0 N := by
  intro m
  induction m with
  | zero => intro x0 h0 hm; exact ⟨x0, ⟨Int.le_refl _, fun t a b => by omega, hN _ _ (by omega)⟩, by omega⟩
  | succ m ih =>
    intro x0 h0 hm
    cases hq : q x0.toNat (x0 - k).toNat with
    | false => exact ⟨x0, ⟨Int.le_refl _, fun t a b => by omega, hq⟩, by omega⟩
    | true =>
      obtain ⟨x1, ⟨a, b, c⟩, hb⟩ := ih (x0 + 1) (by omega) (by omega)
      refine ⟨x1, ⟨by omega, fun t h1 h2 => ?_, c⟩, by omega⟩
      by_cases e : t = x0
      · subst e; exact hq
      · exact b t (by omega) h2

theorem slide_E (q : Nat → Nat → Bool) (k x0 : Int) (h0 : 0 ≤ x0) (hk : k ≤ x0) :
    ∀ n : Nat, (∀ t : Int, x0 ≤ t → t < x0 + n → q t.toNat (t - k).toNat = true) → E q (x0 + n).toNat (x0 + n - k).toNat = E q x0.toNat (x0 - k).toNat := by
  intro n
  induction n with
  | zero => intro _; simp
  | succ n ih =>
    intro h
    have e := ih (fun t a b => h t a (by omega))
    have hq := h (x0 + n) (by omega) (by omega)
    have e1 : (x0 + ((n + 1 : Nat) : Int)).toNat = (x0 + n).toNat + 1 := by omega
    have e2 : (x0 + ((n + 1 : Nat) : Int) - k).toNat = (x0 + n - k).toNat + 1 := by omega
    rw [e1, e2, E_eq hq, e]

/-- ONE DIAGONAL OF ONE ROUND. l, r: what stands at the diagonals k - 1 and k + 1: the farthest with one change less, or -1 where there is no place. -/
theorem far_step (q : Nat → Nat → Bool) (d : Nat) (k l r x1 : Int) (hk1 : -(d : Int) ≤ k) (hk2 : k ≤ d)
    (hl : (∃ d', d = d' + 1 ∧ Far q d' (k - 1) l) ∨ (l = -1 ∧ k = -(d : Int)))
    (hr : (∃ d', d = d' + 1 ∧ Far q d' (k + 1) r) ∨ (r = -1 ∧ k = (d : Int)))
    (hs : SlideTo q k (max (l + 1) r) x1) : Far q d k x1 := by
  have hx0 : 0 ≤ max (l + 1) r ∧ k ≤ max (l + 1) r ∧ E q (max (l + 1) r).toNat (max (l + 1) r - k).toNat ≤ d := by
    have L : l + 1 ≥ r → 0 ≤ l + 1 ∧ k ≤ l + 1 ∧ E q (l + 1).toNat (l + 1 - k).toNat ≤ d := by
      intro hlr
      rcases hl with ⟨d', rfl, h1, h2, h3, h4⟩ | ⟨rfl, hk⟩
      · refine ⟨by omega, by omega, ?_⟩
        have := (steps q _ l.toNat (l - (k - 1)).toNat rfl).1
        rw [show (l + 1).toNat = l.toNat + 1 from by omega, show (l + 1 - k).toNat = (l - (k - 1)).toNat from by congr 1; omega]
        omega
      · refine ⟨by omega, by omega, ?_⟩
        rw [show ((-1 : Int) + 1).toNat = 0 from rfl, E_zero]; omega
    have R : l + 1 ≤ r → 0 ≤ r ∧ k ≤ r ∧ E q r.toNat (r - k).toNat ≤ d := by
      intro hlr
      rcases hr with ⟨d', rfl, h1, h2, h3, h4⟩ | ⟨rfl, hk⟩
      · refine ⟨by omega, by omega, ?_⟩
        have := (steps q _ r.toNat (r - (k + 1)).toNat rfl).2.1
        rw [show (r - k).toNat = (r - (k + 1)).toNat + 1 from by omega]
        omega
      · rcases hl with ⟨d', rfl, h1, h2, h3, h4⟩ | ⟨rfl, hk'⟩
        · omega
        · omega
    by_cases h : l + 1 ≤ r
    · rw [show max (l + 1) r = r from by omega]; exact R h
    · rw [show max (l + 1) r = l + 1 from by omega]; exact L (by omega)
  obtain ⟨a0, a1, a2⟩ := hx0
  obtain ⟨s0, s1, s2⟩ := hs
  generalize hx : max (l + 1) r = x0 at *
  refine ⟨by omega, by omega, ?_, ?_⟩
  · obtain ⟨n, rfl⟩ : ∃ n : Nat, x1 = x0 + n := ⟨(x1 - x0).toNat, by omega⟩
    rw [slide_E q k x0 a0 a1 n (fun t h1 h2 => s1 t h1 h2)]
    exact a2
  · intro i
    induction i with
    | zero => intro j _ _; omega
    | succ i ih =>
      intro j hij hE
      cases j with
      | zero => omega
      | succ j =>
        cases hq : q i j with
        | true =>
          rw [E_eq hq] at hE
          have h := ih j (by omega) hE
          by_cases hlt : (i : Int) < x1
          · omega
          · have : x1 = i := by omega
            subst this
            rw [show ((i : Int)).toNat = i from by omega, show ((i : Int) - k).toNat = j from by omega] at s2
            rw [s2] at hq; cases hq
        | false =>
          rw [E_ne hq] at hE
          by_cases hm : E q (i + 1) j ≤ E q i (j + 1)
          · rw [Nat.min_eq_left hm] at hE
            have hb := bounds q _ (i + 1) j rfl
            rcases hr with ⟨d', rfl, h1, h2, h3, h4⟩ | ⟨rfl, hk⟩
            · have := h4 (i + 1) j (by omega) (by omega)
              omega
            · omega
          · rw [Nat.min_eq_right (by omega)] at hE
            have hb := bounds q _ i (j + 1) rfl
            rcases hl with ⟨d', rfl, h1, h2, h3, h4⟩ | ⟨rfl, hk⟩
            · have := h4 i (j + 1) (by omega) (by omega)
              omega
            · omega

/-- What stands at the diagonal k, z being the place of the diagonal 0. -/
def at_ (L : List Int) (z : Nat) (k : Int) : Int := L.getD ((z : Int) + k).toNat 0

/-- The rounds ahead of d are over. -/
def Inv (q : Nat → Nat → Bool) (z d : Nat) (L : List Int) : Prop :=
  L.length = 2 * z + 1 ∧ ∀ k : Int, -(z : Int) ≤ k → k ≤ z →
    ((k < -((d : Int) - 1) ∨ (d : Int) - 1 < k) → at_ L z k = -1) ∧
    (-((d : Int) - 1) ≤ k → k ≤ (d : Int) - 1 → ((d : Int) - 1 + k) % 2 = 0 → ∀ d', d = d' + 1 → Far q d' k (at_ L z k))

/-- In the round d, all diagonals ahead of m are done; none has come to the end. -/
def Mid (q : Nat → Nat → Bool) (N M z d : Nat) (m : Int) (L : List Int) : Prop :=
  L.length = 2 * z + 1 ∧ ∀ k : Int, -(z : Int) ≤ k → k ≤ z →
    ((k < -(d : Int) ∨ (d : Int) < k) → at_ L z k = -1) ∧
    (-((d : Int) - 1) ≤ k → k ≤ (d : Int) - 1 → ((d : Int) - 1 + k) % 2 = 0 → ∀ d', d = d' + 1 → Far q d' k (at_ L z k)) ∧
    (-(d : Int) ≤ k → k < m → k ≤ d → ((d : Int) + k) % 2 = 0 → Far q d k (at_ L z k) ∧ ¬ ((N : Int) ≤ at_ L z k ∧ (M : Int) ≤ at_ L z k - k))

theorem at_set_same (L : List Int) (z : Nat) (k v : Int) (h : ((z : Int) + k).toNat < L.length) : at_ (L.set ((z : Int) + k).toNat v) z k = v := by
  unfold at_
  rw [List.getD_eq_getElem?_getD, List.getElem?_set_self h]; rfl

theorem at_set_other (L : List Int) (z : Nat) (k k' v : Int) (h0 : 0 ≤ (z : Int) + k) (h0' : 0 ≤ (z : Int) + k') (hne : k ≠ k') : at_ (L.set ((z : Int) + k).toNat v) z k' = at_ L z k' := by
  unfold at_
  rw [List.getD_eq_getElem?_getD, List.getElem?_set_ne (by omega), ← List.getD_eq_getElem?_getD]

theorem inv_zero (q : Nat → Nat → Bool) (z : Nat) : Inv q z 0 (List.replicate (2 * z + 1) (-1)) := by
  refine ⟨by simp, fun k h1 h2 => ⟨fun _ => ?_, fun _ _ _ d' h => by omega⟩⟩
  unfold at_
  rw [List.getD_eq_getElem?_getD, List.getElem?_replicate_of_lt (by omega)]; rfl

theorem mid_start {q : Nat → Nat → Bool} {N M z d : Nat} {L : List Int} (h : Inv q z d L) : Mid q N M z d (-(d : Int)) L := by
  obtain ⟨hl, h⟩ := h
  refine ⟨hl, fun k h1 h2 => ?_⟩
  obtain ⟨a, b⟩ := h k h1 h2
  exact ⟨fun hk => a (by omega), b, fun x y => by omega⟩

theorem mid_far {q : Nat → Nat → Bool} {N M z d : Nat} {m : Int} {L : List Int} (h : Mid q N M z d m L) (hdz : d < z) (hm1 : -(d : Int) ≤ m) (hm2 : m ≤ d) (hp : ((d : Int) + m) % 2 = 0)
    {x1 : Int} (hs : SlideTo q m (max (at_ L z (m - 1) + 1) (at_ L z (m + 1))) x1) : Far q d m x1 := by
  obtain ⟨hl, h⟩ := h
  refine far_step q d m _ _ x1 hm1 hm2 ?_ ?_ hs
  · obtain ⟨a, b, _⟩ := h (m - 1) (by omega) (by omega)
    by_cases e : m = -(d : Int)
    · exact .inr ⟨a (by omega), e⟩
    · obtain ⟨d', rfl⟩ : ∃ d', d = d' + 1 := ⟨d - 1, by omega⟩
      exact .inl ⟨d', rfl, b (by omega) (by omega) (by omega) d' rfl⟩
  · obtain ⟨a, b, _⟩ := h (m + 1) (by omega) (by omega)
    by_cases e : m = (d : Int)
    · exact .inr ⟨a (by omega), e⟩
    · obtain ⟨d', rfl⟩ : ∃ d', d = d' + 1 := ⟨d - 1, by omega⟩
      exact .inl ⟨d', rfl, b (by omega) (by omega) (by omega) d' rfl⟩

theorem mid_low {q : Nat → Nat → Bool} {N M z d : Nat} {m : Int} {L : List Int} (h : Mid q N M z d m L) (hdz : d < z) (hm1 : -(d : Int) ≤ m) (hm2 : m ≤ d) (hp : ((d : Int) + m) % 2 = 0) : m ≤ at_ L z (m - 1) + 1 := by
  obtain ⟨hl, h⟩ := h
  obtain ⟨a, b, _⟩ := h (m - 1) (by omega) (by omega)
  by_cases e : m = -(d : Int)
  · rw [a (by omega)]; omega
  · obtain ⟨d', rfl⟩ : ∃ d', d = d' + 1 := ⟨d - 1, by omega⟩
    have := (b (by omega) (by omega) (by omega) d' rfl).2.1
    omega

theorem mid_step {q : Nat → Nat → Bool} {N M z d : Nat} {m : Int} {L : List Int} (h : Mid q N M z d m L) (hdz : d < z) (hm1 : -(d : Int) ≤ m) (hm2 : m ≤ d) (hp : ((d : Int) + m) % 2 = 0)
    {x1 : Int} (hf : Far q d m x1) (hno : ¬ ((N : Int) ≤ x1 ∧ (M : Int) ≤ x1 - m)) : Mid q N M z d (m + 2) (L.set ((z : Int) + m).toNat x1) := by
  obtain ⟨hl, h⟩ := h
  refine ⟨by simp [hl], fun k h1 h2 => ?_⟩
  by_cases e : m = k
  · subst e
    rw [at_set_same L z m x1 (by omega)]
    exact ⟨fun x => by omega, fun _ _ x => by omega, fun _ _ _ _ => ⟨hf, hno⟩⟩
  · rw [at_set_other L z m k x1 (by omega) (by omega) e]
    obtain ⟨a, b, c⟩ := h k h1 h2
    exact ⟨a, b, fun x1 x2 x3 x4 => c x1 (by omega) x3 x4⟩

theorem mid_end {q : Nat → Nat → Bool} {N M z d : Nat} {m : Int} {L : List Int} (h : Mid q N M z d m L) (hm : (d : Int) < m) (hdz : d < z) (hz : N + M = z) (hle : d ≤ E q N M) :
    Inv q z (d + 1) L ∧ d + 1 ≤ E q N M := by
  obtain ⟨hl, h⟩ := h
  refine ⟨⟨hl, fun k h1 h2 => ?_⟩, ?_⟩
  · obtain ⟨a, b, c⟩ := h k h1 h2
    exact ⟨fun x => a (by omega), fun x1 x2 x3 d' e => by
      obtain rfl : d' = d := by omega
      exact (c (by omega) (by omega) (by omega) (by omega)).1⟩
  · by_cases hlt : E q N M ≤ d
    · exfalso
      have hb := bounds q _ N M rfl
      obtain ⟨_, _, c⟩ := h ((N : Int) - M) (by omega) (by omega)
      obtain ⟨⟨_, _, _, f⟩, hno⟩ := c (by omega) (by omega) (by omega) (by omega)
      have := f N M rfl hlt
      omega
    · omega

theorem arrived {q : Nat → Nat → Bool} {N M d : Nat} {k x : Int} (hN : ∀ i j, N ≤ i → q i j = false) (hM : ∀ i j, M ≤ j → q i j = false) (hf : Far q d k x) (h1 : (N : Int) ≤ x) (h2 : (M : Int) ≤ x - k) (hle : d ≤ E q N M) :
    E q N M = d := by
  obtain ⟨_, _, hE, _⟩ := hf
  have := beyond q N M hN hM x.toNat (x - k).toNat (by omega) (by omega)
  omega

theorem E_le (q : Nat → Nat → Bool) (N M : Nat) : E q N M ≤ N + M := (bounds q _ N M rfl).2.2.1

end Ed
end Go.Proofs.YtgomahmmgogecaaDoor
