/-
  arrives: one round of Myers' way.
-/
import Derived.Test.YtgomahmmgogecaaDoorSlide
namespace Go.Proofs.YtgomahmmgogecaaDoor
open Go.RowKit Go.Sort

/-- A walk in memory: the two rows of lines, and what stands on the diagonals. -/
structure WalkAt (w : World) (b : Nat) (fa ta : Option Addr) (fc tc gr rc : Nat) (A B : List (List UInt8)) (z : Nat) (L : List Int) : Prop where
  hf : w.cell? ⟨b, 0, none⟩ = some (.slice fa A.length fc)
  ht : w.cell? ⟨b, 1, none⟩ = some (.slice ta B.length tc)
  hr : w.cell? ⟨b, 2, none⟩ = some (.slice (some ⟨gr, 0, none⟩) (2 * z + 1) rc)
  hz : w.cell? ⟨b, 3, none⟩ = some (.int .i64 (z : Int))
  hA : StrsAt w fa A
  hB : StrsAt w ta B
  len : L.length = 2 * z + 1
  hL : ∀ i (h : i < L.length), w.cell? ⟨gr, i, none⟩ = some (.int .i64 L[i])
  fz : ∀ i, i < L.length → w.frozen? ⟨gr, i, none⟩ = false
  nb : b ≠ gr
  nf : ∀ g, fa = some ⟨g, 0, none⟩ → g ≠ gr
  nt : ∀ g, ta = some ⟨g, 0, none⟩ → g ≠ gr

theorem below_drawn {B : Nat} {a w : World} (h : Below B a w) (n : Nat) : Below B a (w.drewN n) := ⟨h.os, h.tape, h.output, h.size, h.block⟩
theorem ne_block {g i g' j : Nat} (h : g' ≠ g) : (⟨g, i, none⟩ : Addr) ≠ ⟨g', j, none⟩ := fun e => by cases e; exact h rfl
theorem ne_off {g i j : Nat} (h : i ≠ j) : (⟨g, i, none⟩ : Addr) ≠ ⟨g, j, none⟩ := fun e => by cases e; exact h rfl

theorem StrsAt.set {w : World} {a : Option Addr} {A : List (List UInt8)} (h : StrsAt w a A) {gr : Nat} (hn : ∀ g, a = some ⟨g, 0, none⟩ → g ≠ gr) (i : Nat) (v : Value) : StrsAt (w.setCell ⟨gr, i, none⟩ v) a A := by
  intro j hj
  obtain ⟨g, e, hc⟩ := h j hj
  exact ⟨g, e, (World.cell?_setCell_other _ _ _ _ (ne_block (hn g e))).trans hc⟩

theorem StrsAt.drawn {w : World} {a : Option Addr} {A : List (List UInt8)} (h : StrsAt w a A) (n : Nat) : StrsAt (w.drewN n) a A := h

theorem WalkAt.drawn {w : World} {b : Nat} {fa ta : Option Addr} {fc tc gr rc : Nat} {A B : List (List UInt8)} {z : Nat} {L : List Int} (h : WalkAt w b fa ta fc tc gr rc A B z L) (n : Nat) : WalkAt (w.drewN n) b fa ta fc tc gr rc A B z L :=
  ⟨h.hf, h.ht, h.hr, h.hz, h.hA, h.hB, h.len, h.hL, h.fz, h.nb, h.nf, h.nt⟩

theorem WalkAt.set {w : World} {b : Nat} {fa ta : Option Addr} {fc tc gr rc : Nat} {A B : List (List UInt8)} {z : Nat} {L : List Int} (h : WalkAt w b fa ta fc tc gr rc A B z L) (i : Nat) (hi : i < L.length) (v : Int) :
    WalkAt (w.setCell ⟨gr, i, none⟩ (.int .i64 v)) b fa ta fc tc gr rc A B z (L.set i v) := by
  refine ⟨(World.cell?_setCell_other _ _ _ _ (ne_block h.nb)).trans h.hf, (World.cell?_setCell_other _ _ _ _ (ne_block h.nb)).trans h.ht, (World.cell?_setCell_other _ _ _ _ (ne_block h.nb)).trans h.hr, (World.cell?_setCell_other _ _ _ _ (ne_block h.nb)).trans h.hz,
    h.hA.set h.nf i _, h.hB.set h.nt i _, by simp [h.len], fun j hj => ?_, fun j hj => ?_, h.nb, h.nf, h.nt⟩
  · have hj' : j < L.length := by simpa using hj
    by_cases e : i = j
    · subst e
      rw [World.cell?_setCell_same _ _ _ (h.hL i hi)]; simp
    · rw [World.cell?_setCell_other _ _ _ _ (ne_off e), h.hL j hj']; simp [e]
  · rw [World.frozen?_setCell]; exact h.fz j (by simpa using hj)

theorem WalkAt.at {w : World} {b : Nat} {fa ta : Option Addr} {fc tc gr rc : Nat} {A B : List (List UInt8)} {z : Nat} {L : List Int} (h : WalkAt w b fa ta fc tc gr rc A B z L) (k : Int) (h1 : -(z : Int) ≤ k) (h2 : k ≤ z) :
    w.cell? ⟨gr, ((z : Int) + k).toNat, none⟩ = some (.int .i64 (Ed.at_ L z k)) := by
  have hi : ((z : Int) + k).toNat < L.length := by have := h.len; omega
  rw [h.hL _ hi]
  unfold Ed.at_
  rw [List.getD_eq_getElem?_getD, List.getElem?_eq_getElem hi]; rfl

/-- No number on a diagonal is great. -/
def Small (L : List Int) (c : Nat) : Prop := ∀ (z : Nat) (k : Int), -1 ≤ Ed.at_ L z k ∧ Ed.at_ L z k ≤ c

theorem Small.set {L : List Int} {c : Nat} (h : Small L c) {c' : Nat} (hc : c ≤ c') (i : Nat) (v : Int) (h1 : -1 ≤ v) (h2 : v ≤ c') : Small (L.set i v) c' := by
  intro z k
  have := h z k
  unfold Ed.at_ at *
  rw [List.getD_eq_getElem?_getD] at *
  rw [List.getElem?_set]
  split
  · split
    · exact ⟨h1, h2⟩
    · simp
  · omega


set_option maxHeartbeats 1000000 in
theorem arrives_any (b : Nat) (fa ta : Option Addr) (fc tc gr rc : Nat) (A B : List (List UInt8)) (z d : Nat) (L : List Int) (w : World) (n0 : Nat) (hn0 : n0 ≤ gr)
    (hW : WalkAt w b fa ta fc tc gr rc A B z L) (hI : Ed.Inv (Ed.same A B) z d L) (hS : Small L (300 + 2000 * d)) (hdz : d < z) (hz : A.length + B.length = z) (hAl : A.length ≤ 300) (hBl : B.length ≤ 300)
    (hle : d ≤ Ed.E (Ed.same A B) A.length B.length) :
    Calls Tryd.prog 26 #[.pointer (some ⟨b, 0, none⟩), .int .i64 d] w fun e w' => Below n0 w w' ∧
      ((e = .returned (.bool true) ∧ Ed.E (Ed.same A B) A.length B.length = d) ∨
       (e = .returned (.bool false) ∧ d + 1 ≤ Ed.E (Ed.same A B) A.length B.length ∧ ∃ L', WalkAt w' b fa ta fc tc gr rc A B z L' ∧ Ed.Inv (Ed.same A B) z (d + 1) L' ∧ Small L' (300 + 2000 * (d + 1)))) := by
  go_enter Tryd.func26, Tryd.ntmps26
  go_wp2
  go_loopw [5] (fun v wr => ∃ (m : Int) (L' : List Int), v = .int .i64 m ∧ -(d : Int) ≤ m ∧ m ≤ d + 2 ∧ ((d : Int) + m) % 2 = 0 ∧ WalkAt wr b fa ta fc tc gr rc A B z L' ∧ Ed.Mid (Ed.same A B) A.length B.length z d m L' ∧ Small L' (300 + 2000 * d + (m + d).toNat) ∧ Below n0 w wr)
    (fun v _ => ((d : Int) + 2 - intOf v).toNat)
  case atStart => exact ⟨-(d : Int), L, rfl, by omega, by omega, by omega, hW, Ed.mid_start hI, by rw [show (-(d : Int) + d).toNat = 0 from by omega]; exact hS, Below.refl _ _⟩
  case round =>
    obtain ⟨m, L', rfl, hm1, hm2, hp, hW', hM, hS', hB⟩ := hrel
    have HP : Hid (((d : Int) + m) % 2 = 0) := hp
    have HZ : Hid (A.length + B.length = z) := hz
    clear hp
    by_cases hmd : m ≤ d
    · have hf := hW'.hf
      have ht := hW'.ht
      have hr := hW'.hr
      have hzc := hW'.hz
      obtain ⟨i, hi⟩ : ∃ i : Nat, (z : Int) + m = (i : Int) + 1 := ⟨((z : Int) + m - 1).toNat, by omega⟩
      have cl := hW'.at (m - 1) (by omega) (by omega)
      have cr := hW'.at (m + 1) (by omega) (by omega)
      have hfz := hW'.fz (i + 1) (by have := hW'.len; omega)
      rw [show ((z : Int) + (m - 1)).toNat = i from by omega] at cl
      rw [show ((z : Int) + (m + 1)).toNat = i + 2 from by omega] at cr
      have hcs := hW'.hL (i + 1) (by have := hW'.len; omega)
      obtain ⟨R, hR⟩ : ∃ R, R = 2 * z + 1 := ⟨_, rfl⟩
      rw [← hR] at hr
      have hiR : i + 2 < R := by omega
      have hR2 : R ≤ 2000 := by omega
      have HR : Hid (R = 2 * z + 1) := hR
      clear hR
      obtain ⟨hl1, hl2⟩ := hS' z (m - 1)
      obtain ⟨hr1, hr2⟩ := hS' z (m + 1)
      have hlow := Ed.mid_low hM hdz hm1 hmd HP.out
      have hfar := @Ed.mid_far _ _ _ _ _ _ _ hM hdz hm1 hmd HP.out
      have hx0 : 0 ≤ max (Ed.at_ L' z (m - 1) + 1) (Ed.at_ L' z (m + 1)) := by omega
      obtain ⟨x1, hs, hx1⟩ := Ed.slide_exists (Ed.same A B) A.length (fun i j h => Ed.same_left A B i j h) m _ (max (Ed.at_ L' z (m - 1) + 1) (Ed.at_ L' z (m + 1))) hx0 rfl
      have hF := hfar hs
      clear hfar
      generalize Ed.at_ L' z (m - 1) = l at *
      generalize Ed.at_ L' z (m + 1) = r at *
      have hx0k : m ≤ max (l + 1) r := by omega
      clear hlow
      obtain ⟨x0, hx0e⟩ : ∃ x0, x0 = max (l + 1) r := ⟨_, rfl⟩
      rw [← hx0e] at hs hx1 hx0k hx0
      have hx0b : x0 ≤ 2000000 := by omega
      have hm3 : -2000000 ≤ m := by omega
      have hif : (if l + 1 < r then r else l + 1) = x0 := by rw [hx0e]; split <;> omega
      have HX : Hid (x0 = max (l + 1) r) := hx0e
      clear hx0e
      have c40 : ∀ nq, Calls Tryd.prog 40 #[.pointer (some ⟨b, 0, none⟩), .int .i64 x0, .int .i64 m] (wr.drewN nq) fun e w' => e = .returned (.int .i64 x1) ∧ ∃ n, w' = (wr.drewN nq).drewN n :=
        fun nq => slide_det b fa ta fc tc A B x0 m x1 (wr.drewN nq) hf ht hW'.hA hW'.hB hx0 hx0k hx0b hm3 hAl hBl hs
      have C40 : Hid (∀ nq, Calls Tryd.prog 40 #[.pointer (some ⟨b, 0, none⟩), .int .i64 x0, .int .i64 m] (wr.drewN nq) fun e w' => e = .returned (.int .i64 x1) ∧ ∃ n, w' = (wr.drewN nq).drewN n) := c40
      clear c40 hs
      have w1 : IntKind.i64.wrap (i : Int) = (i : Int) := by rw [IntKind.wrap_i64]; omega
      have w2 : IntKind.i64.wrap ((i : Int) + 1 + 1) = (i : Int) + 2 := by rw [IntKind.wrap_i64]; omega
      have w3 : IntKind.i64.wrap (l + 1) = l + 1 := by rw [IntKind.wrap_i64]; omega
      have b1 : (i : Int) < (R : Int) := by omega
      have b4 : (i : Int) + 2 < (R : Int) := by omega
      have hW2 := fun nq : Nat => (hW'.drawn nq).set (i + 1) (by have := hW'.len; omega) x1
      have hf2 := fun nq : Nat => (hW2 nq).hf
      have ht2 := fun nq : Nat => (hW2 nq).ht
      have HI : Hid (((z : Int) + m).toNat = i + 1) := by show ((z : Int) + m).toNat = i + 1; omega
      have hx1a : 0 ≤ x1 := hF.1
      have hx1b : x1 ≤ 3000000 := by omega
      have hx1c : x1 ≤ (300 + 2000 * d + (m + 2 + d).toNat : Nat) := by have := HX.out; omega
      have hends : ¬ ((A.length : Int) ≤ x1 ∧ (B.length : Int) ≤ x1 - m) →
          Ed.Mid (Ed.same A B) A.length B.length z d (m + 2) (L'.set (i + 1) x1) ∧ Small (L'.set (i + 1) x1) (300 + 2000 * d + (m + 2 + d).toNat) := fun hno => by
        have h1 := Ed.mid_step hM hdz hm1 hmd HP.out hF hno
        rw [HI.out] at h1
        exact ⟨h1, hS'.set (by omega) (i + 1) x1 (by omega) hx1c⟩
      have HE := hends
      clear hends
      by_cases hN : (A.length : Int) ≤ x1
      · by_cases hMM : (B.length : Int) ≤ x1 - m
        · have hfin := Ed.arrived (fun i j h => Ed.same_left A B i j h) (fun i j h => Ed.same_right A B i j h) hF hN hMM hle
          have HFIN : Hid (Ed.E (Ed.same A B) A.length B.length = d) := hfin
          clear hfin HE hW2 hM hS' hW hI hS
          go_wp2_with fail
          go_quiet ((go_at_call 40; exact Calls.quiet_of (C40.out _)))
          go_wp2
          go_ret
          exact ⟨(below_drawn hB nq).setCell (p := ⟨gr, i + 1, none⟩) hn0 _, .inl ⟨rfl, HFIN.out⟩⟩
        · obtain ⟨hM2, hS2⟩ := HE (by omega)
          clear HE hM hS' hW hI hS
          go_wp2_with fail
          go_quiet ((go_at_call 40; exact Calls.quiet_of (C40.out _)))
          go_wp2
          go_roundw
          case rel => exact ⟨m + 2, L'.set (i + 1) x1, rfl, by omega, by omega, by have := HP.out; omega, hW2 nq, hM2, hS2, (below_drawn hB nq).setCell (p := ⟨gr, i + 1, none⟩) hn0 _⟩
          case measure => simp [intOf]; omega
      · obtain ⟨hM2, hS2⟩ := HE (by omega)
        clear HE hM hS' hW hI hS
        go_wp2_with fail
        go_quiet ((go_at_call 40; exact Calls.quiet_of (C40.out _)))
        go_wp2
        go_roundw
        case rel => exact ⟨m + 2, L'.set (i + 1) x1, rfl, by omega, by omega, by have := HP.out; omega, hW2 nq, hM2, hS2, (below_drawn hB nq).setCell (p := ⟨gr, i + 1, none⟩) hn0 _⟩
        case measure => simp [intOf]; omega
    · go_wp2
      go_ret
      have := Ed.mid_end hM (by omega) hdz HZ.out hle
      exact ⟨hB, .inr ⟨rfl, this.2, L', hW', this.1, fun z' k => by have := hS' z' k; omega⟩⟩

end Go.Proofs.YtgomahmmgogecaaDoor
