/-
  newWalk, leastChanges.
-/
import Derived.Test.YtgomahmmgogecaaDoorArrives
import Derived.Test.YtgomahmmgogecaaDoorRepeat
namespace Go.Proofs.YtgomahmmgogecaaDoor
open Go.RowKit Go.Sort

theorem StrsAt.below {w w' : World} {a : Option Addr} {A : List (List UInt8)} (h : StrsAt w a A) (hb : Below w.heap.size w w') : StrsAt w' a A := by
  intro j hj
  obtain ⟨g, e, hc⟩ := h j hj
  exact ⟨g, e, (hb.cell (p := ⟨g, j, none⟩) (World.block_lt_of_cell? _ _ hc)).trans hc⟩

theorem rowOf_full (v : Int) (c : Nat) : rowOf v c c = (List.replicate c v).map (Value.int .i64) := by simp [rowOf]

theorem walkAt_new (w w1 : World) (fa ta : Option Addr) (fc tc gr z : Nat) (A B : List (List UInt8)) (hA : StrsAt w fa A) (hB : StrsAt w ta B) (hfa : ∀ g, fa = some ⟨g, 0, none⟩ → g < w.heap.size) (hta : ∀ g, ta = some ⟨g, 0, none⟩ → g < w.heap.size)
    (hgr : w.heap.size ≤ gr) (hrow : w1.heap[gr]? = some (.cells (rowOf (-1) (2 * z + 1) (2 * z + 1)).toArray 3 (0, 0))) (hb : Below w.heap.size w w1) :
    WalkAt (w1.alloc (.cells #[.slice fa A.length fc, .slice ta B.length tc, .slice (some ⟨gr, 0, none⟩) (2 * z + 1) (2 * z + 1), .int .i64 z] 91)) w1.heap.size fa ta fc tc gr (2 * z + 1) A B z (List.replicate (2 * z + 1) (-1)) := by
  have hlt : gr < w1.heap.size := (Array.getElem?_eq_some_iff.1 hrow).1
  have hb2 : Below w.heap.size w (w1.alloc (.cells #[.slice fa A.length fc, .slice ta B.length tc, .slice (some ⟨gr, 0, none⟩) (2 * z + 1) (2 * z + 1), .int .i64 z] 91)) := hb.alloc hb.size _
  have hrow2 := (Below.heap_alloc w1 (.cells #[.slice fa A.length fc, .slice ta B.length tc, .slice (some ⟨gr, 0, none⟩) (2 * z + 1) (2 * z + 1), .int .i64 z] 91) gr hlt).trans hrow
  refine ⟨by simp, by simp, by simp, by simp, hA.below hb2, hB.below hb2, by simp, fun i hi => ?_, fun i hi => frozen_row hrow2, by omega, fun g e => by have := hfa g e; omega, fun g e => by have := hta g e; omega⟩
  have hi' : i < 2 * z + 1 := by simpa using hi
  refine cell_row hrow2 ?_
  rw [rowOf_get _ _ _ _ hi']; simp

set_option maxRecDepth 100000 in
set_option maxHeartbeats 400000 in
theorem newWalk_any (fa ta : Option Addr) (fc tc : Nat) (A B : List (List UInt8)) (w : World) (hA : StrsAt w fa A) (hB : StrsAt w ta B) (hfa : ∀ g, fa = some ⟨g, 0, none⟩ → g < w.heap.size) (hta : ∀ g, ta = some ⟨g, 0, none⟩ → g < w.heap.size)
    (hAl : A.length ≤ 300) (hBl : B.length ≤ 300) :
    Calls Tryd.prog 25 #[.slice fa A.length fc, .slice ta B.length tc] w fun e w' => ∃ b gr, e = .returned (.pointer (some ⟨b, 0, none⟩)) ∧ w.heap.size ≤ gr ∧
      WalkAt w' b fa ta fc tc gr (2 * (A.length + B.length) + 1) A B (A.length + B.length) (List.replicate (2 * (A.length + B.length) + 1) (-1)) ∧ Below w.heap.size w w' := by
  go_enter Tryd.func25, Tryd.ntmps25
  go_wp2_with fail
  rw [show (2 * ((A.length : Int) + (B.length : Int)) + 1) = ((2 * (A.length + B.length) + 1 : Nat) : Int) from by omega]
  refine (repeat_any w.heap.size (2 * (A.length + B.length) + 1) (by omega) (by omega) (-1) _ (by simp) (by simp)).mono ?_
  rintro e w1 ⟨rfl, hrow, hb⟩
  have HR : Hid (w1.heap[(w.alloc (Obj.cells #[Value.int IntKind.i64 (-1)] 3)).heap.size]? = some (.cells (rowOf (-1) (2 * (A.length + B.length) + 1) (2 * (A.length + B.length) + 1)).toArray 3 (0, 0))) := hrow
  clear hrow
  have hb0 : Below w.heap.size w w1 := ((Below.refl _ w).alloc (Nat.le_refl _) _).trans (hb.mono (by simp))
  have hsz : w.heap.size + 2 ≤ w1.heap.size := by
    have := (Array.getElem?_eq_some_iff.1 HR.out).1
    simp at this; omega
  go_wp2
  go_ret
  have hcast : ((A.length : Int) + (B.length : Int)) = ((A.length + B.length : Nat) : Int) := by omega
  simp only [hcast]
  exact ⟨w1.heap.size, w.heap.size + 1, rfl, by omega, walkAt_new w w1 fa ta fc tc _ _ A B hA hB hfa hta (by omega) (by have := HR.out; simpa using this) hb0, hb0.alloc hb0.size _⟩

set_option maxRecDepth 100000 in
set_option maxHeartbeats 400000 in
theorem leastChanges_any (fa ta : Option Addr) (fc tc : Nat) (A B : List (List UInt8)) (w : World) (hA : StrsAt w fa A) (hB : StrsAt w ta B) (hfa : ∀ g, fa = some ⟨g, 0, none⟩ → g < w.heap.size) (hta : ∀ g, ta = some ⟨g, 0, none⟩ → g < w.heap.size)
    (hAl : A.length ≤ 300) (hBl : B.length ≤ 300) :
    Calls Tryd.prog 14 #[.slice fa A.length fc, .slice ta B.length tc] w fun e w' => e = .returned (.int .i64 (Ed.E (Ed.same A B) A.length B.length)) ∧ Below w.heap.size w w' := by
  obtain ⟨z, hz⟩ : ∃ z, z = A.length + B.length := ⟨_, rfl⟩
  have hcast : ((A.length : Int) + (B.length : Int)) = (z : Int) := by omega
  have hz6 : z ≤ 600 := by omega
  have HZ : Hid (z = A.length + B.length) := hz
  have hEle := Ed.E_le (Ed.same A B) A.length B.length
  rw [← hz] at hEle
  clear hz
  generalize hE : Ed.E (Ed.same A B) A.length B.length = ED at *
  have HE : Hid (Ed.E (Ed.same A B) A.length B.length = ED) := hE
  clear hE
  go_enter Tryd.func14, Tryd.ntmps14
  go_wp2_with fail
  refine (newWalk_any fa ta fc tc A B w hA hB hfa hta hAl hBl).mono ?_
  rintro e w1 ⟨b, gr, rfl, hgr, hW, hb⟩
  rw [← HZ.out] at hW
  go_wp2_with fail
  go_loopw [17] (fun p wr => ∃ (d : Nat) (L : List Int), p = .int .i64 d ∧ d ≤ z ∧ d ≤ ED ∧ WalkAt wr b fa ta fc tc gr (2 * z + 1) A B z L ∧ Ed.Inv (Ed.same A B) z d L ∧ Small L (300 + 2000 * d) ∧ Below w.heap.size w wr) (fun p _ => z - (intOf p).toNat)
  case atStart => exact ⟨0, _, rfl, by omega, by omega, hW, Ed.inv_zero _ _, fun z' k => by unfold Ed.at_; rw [List.getD_eq_getElem?_getD, List.getElem?_replicate]; split <;> simp, hb⟩
  case round =>
    clear hW hb
    obtain ⟨d, L, rfl, hdz, hdE, hW, hI, hS, hb⟩ := hrel
    by_cases hlt : d < z
    · go_wp2_with fail
      refine (arrives_any b fa ta fc tc gr (2 * z + 1) A B z d L wr w.heap.size hgr hW hI hS hlt HZ.out.symm hAl hBl (by rw [HE.out]; exact hdE)).mono ?_
      rintro e w2 ⟨hb2, ⟨rfl, hfin⟩ | ⟨rfl, hnext, L', hW', hI', hS'⟩⟩
      · rw [HE.out] at hfin
        have HF : Hid (ED = d) := hfin
        clear hfin
        go_wp2
        go_ret
        exact ⟨by rw [HF.out]; rfl, hb.trans hb2⟩
      · rw [HE.out] at hnext
        go_wp2
        go_roundw
        case rel => exact ⟨d + 1, L', by go_num, by omega, by omega, hW', hI', hS', hb.trans hb2⟩
        case measure => simp [intOf]; omega
    · have HF : Hid (d = z) := by show d = z; omega
      have HF2 : Hid (ED = z) := by show ED = z; omega
      go_wp2
      go_ret
      exact ⟨by rw [HF2.out]; rfl, hb⟩

end Go.Proofs.YtgomahmmgogecaaDoor
