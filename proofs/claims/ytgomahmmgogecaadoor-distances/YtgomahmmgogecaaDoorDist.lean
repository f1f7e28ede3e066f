/-
  tailor.Distance.
-/
import Derived.Test.YtgomahmmgogecaaDoorLeast
import Derived.Test.YtgomahmmgogecaaDoorLines2
namespace Go.Proofs.YtgomahmmgogecaaDoor
open Go.RowKit Go.Sort

theorem strs_of_row {w : World} {base : Nat} {v : Value} {A : List (List UInt8)} (h : w.ownsRow base 9 1 v A.length (A.map encStr)) :
    ∃ fa fc, v = .slice fa A.length fc ∧ StrsAt w fa A ∧ ∀ g, fa = some ⟨g, 0, none⟩ → base ≤ g ∧ g < w.heap.size := by
  rcases h.2 with ⟨rfl, h0⟩ | ⟨g, cap, cur, rfl, hb, hg, h1, h2, h3, h4⟩
  · refine ⟨none, 0, by rw [h0], fun i hi => by omega, fun g e => by cases e⟩
  · refine ⟨some ⟨g, 0, none⟩, cap, rfl, fun i hi => ⟨g, rfl, ?_⟩, fun g' e => by cases e; exact ⟨hb, (Array.getElem?_eq_some_iff.1 hg).1⟩⟩
    have hc : cur.toList[i]? = some (encStr A[i]) := by
      have e : (cur.toList.take (A.length * 1))[i]? = (A.map encStr)[i]? := by rw [h4]
      rw [List.getElem?_take_of_lt (by omega)] at e
      rw [e]; simp [hi]
    simp only [World.cell?, hg]
    simpa using hc

theorem distance_long (a b : ByteArray) (w : World) (h : 300 < a.size ∨ 300 < b.size) :
    Calls Tryd.prog 6 #[.string a, .string b] w fun e w' => e = .returned (.tuple #[.int .i64 0, .int .i64 1]) ∧ w' = w := by
  by_cases ha : 300 < a.size
  · go_enter Tryd.func6, Tryd.ntmps6
    go_wp2
    go_ret2
    exact ⟨rfl, rfl⟩
  · have hb : 300 < b.size := by omega
    clear h
    go_enter Tryd.func6, Tryd.ntmps6
    go_wp2
    go_ret2
    exact ⟨rfl, rfl⟩

set_option maxRecDepth 100000 in
set_option maxHeartbeats 400000 in
theorem distance_any (a b : List UInt8) (w : World) (ha : a.length ≤ 300) (hb : b.length ≤ 300) :
    Calls Tryd.prog 6 #[encStr a, encStr b] w fun e w' => e = .returned (.tuple #[.int .i64 (Ed.dist a b), .int .i64 0]) ∧ Below w.heap.size w w' := by
  have hla : (Ed.pl a).length ≤ 300 := by have h1 := Ed.pl_length a; have h2 := Ed.rl_length a; omega
  have hlb : (Ed.pl b).length ≤ 300 := by have h1 := Ed.pl_length b; have h2 := Ed.rl_length b; omega
  have HD : Hid (Ed.dist a b = Ed.E (Ed.same (Ed.pl a) (Ed.pl b)) (Ed.pl a).length (Ed.pl b).length) := Ed.dist_pl a b
  go_enter Tryd.func6, Tryd.ntmps6
  go_wp2_with fail
  refine (lines_any _ _).mono ?_
  rintro e w1 ⟨rfl, rfl⟩
  go_wp2_with fail
  refine (collect_any w.heap.size a ha _ (by simp) (by simp)).mono ?_
  rintro e w2 ⟨v, rfl, hrow, hb2⟩
  obtain ⟨fa, fc, rfl, hA, hfa⟩ := strs_of_row hrow
  clear hrow
  have hB2 : Below w.heap.size w w2 := ((Below.refl _ w).alloc (Nat.le_refl _) _).trans (hb2.mono (by simp))
  clear hb2
  go_wp2_with fail
  refine (lines_any _ _).mono ?_
  rintro e w3 ⟨rfl, rfl⟩
  go_wp2_with fail
  refine (collect_any w2.heap.size b hb _ (by simp) (by simp)).mono ?_
  rintro e w4 ⟨v, rfl, hrow, hb4⟩
  obtain ⟨ta, tc, rfl, hB, hta⟩ := strs_of_row hrow
  clear hrow
  have hB4 : Below w2.heap.size w2 w4 := ((Below.refl _ w2).alloc (Nat.le_refl _) _).trans (hb4.mono (by simp))
  clear hb4
  have hA4 := hA.below hB4
  have hfa4 : ∀ g, fa = some ⟨g, 0, none⟩ → g < w4.heap.size := fun g e => Nat.lt_of_lt_of_le (hfa g e).2 hB4.size
  have hta4 : ∀ g, ta = some ⟨g, 0, none⟩ → g < w4.heap.size := fun g e => (hta g e).2
  go_wp2_with fail
  refine (leastChanges_any fa ta fc tc (Ed.pl a) (Ed.pl b) w4 hA4 hB hfa4 hta4 hla hlb).mono ?_
  rintro e w5 ⟨rfl, hb5⟩
  rw [← HD.out]
  go_wp2
  go_ret2
  exact ⟨rfl, (hB2.trans (hB4.mono hB2.size)).trans (hb5.mono (Nat.le_trans hB2.size hB4.size))⟩

end Go.Proofs.YtgomahmmgogecaaDoor
