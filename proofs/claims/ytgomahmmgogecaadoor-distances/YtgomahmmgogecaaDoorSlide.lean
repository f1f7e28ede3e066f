/-
  slide: on a diagonal as long as lines are the same.
-/
import Derived.WalkKit
import Derived.Deep.QuietTactic
import Derived.BigQuiet
import Derived.Sort.EncStr
import Derived.Test.YtgomahmmgogecaaDoorProg
import Derived.Test.YtgomahmmgogecaaDoorLineMath
namespace Go.Proofs.YtgomahmmgogecaaDoor
open Go.RowKit Go.Sort

/-- A slice value that holds the strings A, cell by cell. -/
def StrsAt (w : World) (a : Option Addr) (A : List (List UInt8)) : Prop :=
  ∀ i (h : i < A.length), ∃ g, a = some ⟨g, 0, none⟩ ∧ w.cell? ⟨g, i, none⟩ = some (encStr A[i])

theorem slideTo_stop {A B : List (List UInt8)} {k : Int} {x t : Nat} (hxt : x ≤ t) (hsame : ∀ s : Nat, x ≤ s → s < t → Ed.same A B s ((s : Int) - k).toNat = true)
    (hno : Ed.same A B t ((t : Int) - k).toNat = false) : Ed.SlideTo (Ed.same A B) k (x : Int) (t : Int) := by
  refine ⟨by omega, fun s h1 h2 => ?_, by simpa using hno⟩
  have := hsame s.toNat (by omega) (by omega)
  rwa [show ((s.toNat : Nat) : Int) = s from by omega] at this

set_option maxHeartbeats 1000000 in
theorem slide_any (b : Nat) (fa ta : Option Addr) (fc tc : Nat) (A B : List (List UInt8)) (x0 k : Int) (w : World)
    (hf : w.cell? ⟨b, 0, none⟩ = some (.slice fa A.length fc)) (ht : w.cell? ⟨b, 1, none⟩ = some (.slice ta B.length tc))
    (hA : StrsAt w fa A) (hB : StrsAt w ta B) (hx : 0 ≤ x0) (hk : k ≤ x0) (hx2 : x0 ≤ 2000000) (hk1 : -2000000 ≤ k) (hAl : A.length ≤ 300) (hBl : B.length ≤ 300) :
    Calls Tryd.prog 40 #[.pointer (some ⟨b, 0, none⟩), .int .i64 x0, .int .i64 k] w fun e w' =>
      ∃ x1 : Int, e = .returned (.int .i64 x1) ∧ Ed.SlideTo (Ed.same A B) k x0 x1 ∧ x1 ≤ max x0 300 ∧ ∃ n, w' = w.drewN n := by
  obtain ⟨x, rfl⟩ := Int.eq_ofNat_of_zero_le hx
  go_enter Tryd.func40, Tryd.ntmps40
  go_wp2
  go_loopw [1] (fun v wr => ∃ t : Nat, v = .int .i64 t ∧ x ≤ t ∧ t ≤ max x 300 ∧ (∀ s : Nat, x ≤ s → s < t → Ed.same A B s ((s : Int) - k).toNat = true) ∧ ∃ n, wr = w.drewN n) (fun v _ => 300 - (intOf v).toNat)
  case atStart => exact ⟨x, rfl, Nat.le_refl _, by omega, fun s h1 h2 => by omega, 0, rfl⟩
  case round =>
    obtain ⟨t, rfl, hxt, htm, hsame, n, rfl⟩ := hrel
    have HS : Hid (∀ s : Nat, x ≤ s → s < t → Ed.same A B s ((s : Int) - k).toNat = true) := hsame
    clear hsame
    by_cases h1 : t < A.length
    · by_cases h2 : (t : Int) - k < B.length
      · obtain ⟨g1, rfl, c1⟩ := hA t h1
        obtain ⟨g2, rfl, c2⟩ := hB ((t : Int) - k).toNat (by omega)
        generalize hu : A[t] = u at *
        generalize hv : B[((t : Int) - k).toNat]'(by omega) = v at *
        have HU : Hid (A[t] = u) := hu
        have HV : Hid (B[((t : Int) - k).toNat]'(by omega) = v) := hv
        clear hu hv hA hB
        have h3 : 0 ≤ (t : Int) - k := by omega
        have h4 : (t : Int) < (A.length : Int) := by omega
        by_cases h5 : u = v
        · subst h5
          have HT : Hid (Ed.same A B t ((t : Int) - k).toNat = true) := by
            show Ed.same A B t ((t : Int) - k).toNat = true
            rw [Ed.same_in A B t _ h1 (by omega), HU.out, HV.out]; simp
          go_wp2_with fail
          go_quiet (fail)
          go_wp2
          refine ⟨⟨t + 1, by go_num, by omega, by omega, fun s h1 h2 => ?_, _, rfl⟩, by simp [intOf]; omega⟩
          by_cases e : s = t
          · subst e; exact HT.out
          · exact HS.out s h1 (by omega)
        · have HT : Hid (Ed.same A B t ((t : Int) - k).toNat = false) := by
            show Ed.same A B t ((t : Int) - k).toNat = false
            rw [Ed.same_in A B t _ h1 (by omega), HU.out, HV.out]; simpa using h5
          have hd : (u == v) = false := by simpa using h5
          clear h5
          go_wp2_with fail
          go_quiet (fail)
          go_wp2
          go_ret
          exact ⟨t, rfl, slideTo_stop hxt HS.out HT.out, by omega, _, World.drewN_drewN _ _ _⟩
      · have hd : decide ((t : Int) - k < B.length) = false := by simpa using h2
        have HT : Hid (Ed.same A B t ((t : Int) - k).toNat = false) := Ed.same_right A B _ _ (by omega)
        go_wp2_with fail
        go_quiet (fail)
        go_wp2
        go_ret
        exact ⟨t, rfl, slideTo_stop hxt HS.out HT.out, by omega, _, World.drewN_drewN _ _ _⟩
    · have hd : decide (t < A.length) = false := by simpa using h1
      have HT : Hid (Ed.same A B t ((t : Int) - k).toNat = false) := Ed.same_left A B _ _ (by omega)
      go_wp2_with fail
      go_quiet (fail)
      go_wp2
      go_ret
      exact ⟨t, rfl, slideTo_stop hxt HS.out HT.out, by omega, _, World.drewN_drewN _ _ _⟩

/-- Where it comes to is known ahead. -/
theorem slide_det (b : Nat) (fa ta : Option Addr) (fc tc : Nat) (A B : List (List UInt8)) (x0 k x1 : Int) (w : World)
    (hf : w.cell? ⟨b, 0, none⟩ = some (.slice fa A.length fc)) (ht : w.cell? ⟨b, 1, none⟩ = some (.slice ta B.length tc))
    (hA : StrsAt w fa A) (hB : StrsAt w ta B) (hx : 0 ≤ x0) (hk : k ≤ x0) (hx2 : x0 ≤ 2000000) (hk1 : -2000000 ≤ k) (hAl : A.length ≤ 300) (hBl : B.length ≤ 300)
    (hs : Ed.SlideTo (Ed.same A B) k x0 x1) :
    Calls Tryd.prog 40 #[.pointer (some ⟨b, 0, none⟩), .int .i64 x0, .int .i64 k] w fun e w' => e = .returned (.int .i64 x1) ∧ ∃ n, w' = w.drewN n := by
  refine (slide_any b fa ta fc tc A B x0 k w hf ht hA hB hx hk hx2 hk1 hAl hBl).mono ?_
  rintro e w' ⟨x2, rfl, h2, _, n, rfl⟩
  exact ⟨by rw [Ed.slide_unique hs h2], n, rfl⟩

end Go.Proofs.YtgomahmmgogecaaDoor
