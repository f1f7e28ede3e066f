/-
  tailorref.apart: the table of all beginnings, row by row.
-/
import Derived.WalkKit
import Derived.Deep.QuietTactic
import Derived.BigQuiet
import Derived.Laws.StructEq
import Derived.Test.YtgomahmmgogecaaDoorRefLines
import Derived.Test.YtgomahmmgogecaaDoorRepeat
namespace Go.Proofs.YtgomahmmgogecaaDoor
open Go.RowKit Go.Sort

/-- The lines l lie from a on, two cells each. -/
def LnsAt (w : World) (a : Option Addr) (l : List (List UInt8 × Bool)) : Prop :=
  ∀ i (h : i < l.length), ∃ g, a = some ⟨g, 0, none⟩ ∧ w.cell? ⟨g, i * 2, none⟩ = some (encStr l[i].1) ∧ w.cell? ⟨g, i * 2 + 1, none⟩ = some (.bool l[i].2)

/-- n numbers f 0, f 1, .. lie in the block g. -/
def IntsAt (w : World) (g n : Nat) (f : Nat → Int) : Prop := ∀ j, j < n → w.cell? ⟨g, j, none⟩ = some (.int .i64 (f j)) ∧ w.frozen? ⟨g, j, none⟩ = false

theorem IntsAt.set {w : World} {g n : Nat} {f : Nat → Int} (h : IntsAt w g n f) (k : Nat) (v : Int) : IntsAt (w.setCell ⟨g, k, none⟩ (.int .i64 v)) g n (fun t => if t = k then v else f t) := by
  intro j hj
  obtain ⟨h1, h2⟩ := h j hj
  refine ⟨?_, by rw [World.frozen?_setCell]; exact h2⟩
  by_cases e : j = k
  · subst e; rw [World.cell?_setCell_same _ _ _ h1]; simp
  · rw [World.cell?_setCell_other _ _ _ _ (fun e' => by cases e'; exact e rfl), h1]; simp [e]

theorem IntsAt.other {w : World} {g n : Nat} {f : Nat → Int} (h : IntsAt w g n f) {g' : Nat} (hne : g ≠ g') (k : Nat) (v : Value) : IntsAt (w.setCell ⟨g', k, none⟩ v) g n f := by
  intro j hj
  obtain ⟨h1, h2⟩ := h j hj
  exact ⟨(World.cell?_setCell_other _ _ _ _ (fun e => by cases e; exact hne rfl)).trans h1, by rw [World.frozen?_setCell]; exact h2⟩

theorem IntsAt.congr {w : World} {g n : Nat} {f f' : Nat → Int} (h : IntsAt w g n f) (e : ∀ j, j < n → f' j = f j) : IntsAt w g n f' := fun j hj => by rw [e j hj]; exact h j hj

theorem IntsAt.drawn {w : World} {g n : Nat} {f : Nat → Int} (h : IntsAt w g n f) (k : Nat) : IntsAt (w.drewN k) g n f := h

theorem IntsAt.below {B : Nat} {w w' : World} {g n : Nat} {f : Nat → Int} (h : IntsAt w g n f) (hb : Below B w w') (hg : g < B) : IntsAt w' g n f := fun j hj =>
  ⟨(hb.cell (p := ⟨g, j, none⟩) hg).trans (h j hj).1, (hb.frozen (p := ⟨g, j, none⟩) hg).trans (h j hj).2⟩

theorem IntsAt.made (w : World) (n : Nat) : IntsAt (w.alloc (.cells (rowOf 0 0 n).toArray 3)) w.heap.size n (fun _ => 0) := fun j hj =>
  ⟨cell_row (heap_alloc_new _ _) (by simp [rowOf, hj]), frozen_row (heap_alloc_new _ _)⟩

theorem IntsAt.made1 (w : World) (n : Nat) (v : Int) : IntsAt (w.alloc (.cells ((rowOf 0 0 n).set 0 (.int .i64 v)).toArray 3)) w.heap.size n (fun t => if t = 0 then v else 0) := fun j hj =>
  ⟨cell_row (heap_alloc_new _ _) (by
    have hl : 0 < (rowOf 0 0 n).length := by rw [rowOf_length _ _ _ (by omega)]; omega
    rw [List.getElem?_set]
    by_cases e : 0 = j
    · subst e; rw [if_pos rfl, if_pos hl]; simp
    · have e' : ¬ j = 0 := fun h => e h.symm
      rw [if_neg e]; simp [rowOf, hj, e']), frozen_row (heap_alloc_new _ _)⟩

theorem LnsAt.below {w w' : World} {a : Option Addr} {l : List (List UInt8 × Bool)} (h : LnsAt w a l) (hb : Below w.heap.size w w') : LnsAt w' a l := by
  intro j hj
  obtain ⟨g, e, hc, hd⟩ := h j hj
  exact ⟨g, e, (hb.cell (p := ⟨g, j * 2, none⟩) (World.block_lt_of_cell? _ _ hc)).trans hc, (hb.cell (p := ⟨g, j * 2 + 1, none⟩) (World.block_lt_of_cell? _ _ hd)).trans hd⟩

theorem flat_get (l : List (List UInt8 × Bool)) : ∀ i (h : i < l.length), (l.flatMap lineCells)[i * 2]? = some (encStr l[i].1) ∧ (l.flatMap lineCells)[i * 2 + 1]? = some (.bool l[i].2) := by
  induction l with
  | nil => intro i h; simp at h
  | cons x t ih =>
    intro i h
    cases i with
    | zero => simp [lineCells]
    | succ i =>
      have := ih i (by simpa using h)
      simp only [List.flatMap_cons, lineCells, List.cons_append, List.nil_append, List.getElem_cons_succ]
      rw [show (i + 1) * 2 = i * 2 + 1 + 1 from by omega, show i * 2 + 1 + 1 + 1 = (i * 2 + 1) + 1 + 1 from rfl]
      simp only [List.getElem?_cons_succ]
      exact this

theorem lns_of_row {w : World} {base : Nat} {v : Value} {l : List (List UInt8 × Bool)} (h : LinesAt w base v l) : ∃ a c, v = .slice a l.length c ∧ LnsAt w a l := by
  rcases h.2 with ⟨rfl, h0⟩ | ⟨g, cap, cur, rfl, hb, hg, h1, h2, h3, h4⟩
  · exact ⟨none, 0, by rw [h0], fun i hi => by omega⟩
  · refine ⟨some ⟨g, 0, none⟩, cap, rfl, fun i hi => ⟨g, rfl, ?_, ?_⟩⟩
    · have := (flat_get l i hi).1
      rw [← h4, List.getElem?_take_of_lt (by omega)] at this
      simp only [World.cell?, hg]; simpa using this
    · have := (flat_get l i hi).2
      rw [← h4, List.getElem?_take_of_lt (by omega)] at this
      simp only [World.cell?, hg]; simpa using this

theorem inner_step {wr : World} {g g2 n j k : Nat} {f : Nat → Int} {e : Nat → Nat} {v : Int} (hR : IntsAt wr g n f) (hN : IntsAt wr g2 n (fun t => if t ≤ j then (e t : Int) else 0)) (hne : g ≠ g2) (hv : (e (j + 1) : Int) = v) :
    IntsAt ((wr.drewN k).setCell ⟨g2, j + 1, none⟩ (.int .i64 v)) g n f ∧ IntsAt ((wr.drewN k).setCell ⟨g2, j + 1, none⟩ (.int .i64 v)) g2 n (fun t => if t ≤ j + 1 then (e t : Int) else 0) := by
  refine ⟨(hR.drawn k).other hne _ _, ((hN.drawn k).set (j + 1) v).congr (fun t _ => ?_)⟩
  by_cases h : t = j + 1
  · subst h; simp [hv]
  · by_cases h2 : t ≤ j
    · simp [h, h2, show t ≤ j + 1 from by omega]
    · simp [h, h2, show ¬ t ≤ j + 1 from by omega]

theorem below_drew2 {B : Nat} {a w : World} (h : RowKit.Below B a w) (n : Nat) : RowKit.Below B a (w.drewN n) := ⟨h.os, h.tape, h.output, h.size, h.block⟩

theorem line_held : Tryd.prog.stoodInHeld 70 = false := by kernel_rfl
theorem line_guard : Tryd.prog.eqGuardType Tryd.prog.depth 70 = false := by kernel_rfl

set_option maxRecDepth 100000 in
set_option maxHeartbeats 400000 in
theorem apart_any (aa ba : Option Addr) (ac bc : Nat) (A B : List (List UInt8 × Bool)) (w : World) (hA : LnsAt w aa A) (hB : LnsAt w ba B) (hAl : A.length ≤ 300) (hBl : B.length ≤ 300) :
    Calls Tryd.prog 17 #[.slice aa A.length ac, .slice ba B.length bc] w fun e w' => e = .returned (.int .i64 (Ed.E (Ed.same A B) A.length B.length)) ∧ Below w.heap.size w w' := by
  obtain ⟨M, hM⟩ : ∃ M, M = B.length := ⟨_, rfl⟩
  have hM3 : M ≤ 300 := by omega
  have HM : Hid (M = B.length) := hM
  rw [← hM]
  clear hM
  have hmk : ∀ W : World, (Instr.makeSlice 68 (.int .i64 ((M : Int) + 1)) (.int .i64 ((M : Int) + 1))).run Tryd.prog W = .ok (.slice (some ⟨W.heap.size, 0, none⟩) (M + 1) (M + 1)) (W.alloc (.cells (rowOf 0 0 (M + 1)).toArray 3)) := fun W => make_ints (M + 1) (by omega) W
  go_enter Tryd.func17, Tryd.ntmps17
  go_wp2_with fail
  go_loopw [6] (fun p wr => ∃ j : Nat, p = .int .i64 j ∧ j ≤ M + 1 ∧ IntsAt wr w.heap.size (M + 1) (fun t => if t < j then (t : Int) else 0) ∧ Below w.heap.size w wr ∧ w.heap.size < wr.heap.size) (fun p _ => M + 1 - (intOf p).toNat)
  case atStart => exact ⟨0, rfl, by omega, IntsAt.made w _ |>.congr (fun j _ => by simp), (Below.refl _ w).alloc (Nat.le_refl _) _, by simp⟩
  case round =>
    obtain ⟨j, rfl, hj, hI, hb, hsz⟩ := hrel
    by_cases hlt : j ≤ M
    · obtain ⟨hc, hf⟩ := hI j (by omega)
      go_wp2
      go_roundw
      case rel => exact ⟨j + 1, by go_num, by omega, (hI.set j j).congr (fun t _ => by split <;> (try split) <;> (try split) <;> omega), hb.setCell (p := ⟨w.heap.size, j, none⟩) (Nat.le_refl _) _, by simpa using hsz⟩
      case measure => simp [intOf]; omega
    · have hI0 : IntsAt wr w.heap.size (M + 1) (fun t => (Ed.E (Ed.same A B) 0 t : Int)) := hI.congr (fun t ht => by rw [Ed.E_zero, if_pos (by omega)])
      clear hI
      go_wp2_with fail
      clear hlt hj
      go_loopw [5, 7] (fun r iv wr => ∃ (i g : Nat), iv = .int .i64 i ∧ i ≤ A.length ∧ r = .slice (some ⟨g, 0, none⟩) (M + 1) (M + 1) ∧ IntsAt wr g (M + 1) (fun t => (Ed.E (Ed.same A B) i t : Int)) ∧ w.heap.size ≤ g ∧ g < wr.heap.size ∧ Below w.heap.size w wr)
        (fun _ iv _ => A.length - (intOf iv).toNat)
      case atStart => exact ⟨0, w.heap.size, rfl, by omega, rfl, hI0, Nat.le_refl _, hsz, hb⟩
      case round =>
        clear hI0 hb hsz
        obtain ⟨i, g, rfl, hi, rfl, hR, hg1, hg2, hb⟩ := hrel
        generalize wr = wo at hR hg2 hb ⊢
        by_cases hlt : i < A.length
        · have hz1 : ∀ W : World, (W.alloc (.cells (rowOf 0 0 (M + 1)).toArray 3)).cell? ⟨W.heap.size, 0, none⟩ = some (.int .i64 0) := fun W => (IntsAt.made W (M + 1) 0 (by omega)).1
          have hz2 : ∀ W : World, (W.alloc (.cells (rowOf 0 0 (M + 1)).toArray 3)).frozen? ⟨W.heap.size, 0, none⟩ = false := fun W => (IntsAt.made W (M + 1) 0 (by omega)).2
          have hN0 := IntsAt.made1 wo (M + 1) ((i : Int) + 1)
          have hR0 : IntsAt (wo.alloc (.cells ((rowOf 0 0 (M + 1)).set 0 (.int .i64 ((i : Int) + 1))).toArray 3)) g (M + 1) (fun t => (Ed.E (Ed.same A B) i t : Int)) := hR.below ((Below.refl wo.heap.size wo).alloc (Nat.le_refl _) _) hg2
          have hb0 : Below w.heap.size w (wo.alloc (.cells ((rowOf 0 0 (M + 1)).set 0 (.int .i64 ((i : Int) + 1))).toArray 3)) := hb.alloc hb.size _
          obtain ⟨g2, hg2e⟩ : ∃ g2, g2 = wo.heap.size := ⟨_, rfl⟩
          have hgne : g ≠ g2 := by omega
          go_wp2_with fail
          clear hz1 hz2
          go_loopw [9] (fun jv wr2 => ∃ j : Nat, jv = .int .i64 j ∧ j ≤ M ∧ IntsAt wr2 g (M + 1) (fun t => (Ed.E (Ed.same A B) i t : Int)) ∧ IntsAt wr2 wo.heap.size (M + 1) (fun t => if t ≤ j then (Ed.E (Ed.same A B) (i + 1) t : Int) else 0) ∧
            Below w.heap.size w wr2 ∧ wo.heap.size < wr2.heap.size) (fun jv _ => M - (intOf jv).toNat)
          case atStart => exact ⟨0, rfl, by omega, hR0, hN0.congr (fun t _ => by
            by_cases e : t = 0
            · subst e; rw [if_pos (Nat.le_refl _), if_pos rfl, Ed.E_zero']; omega
            · rw [if_neg (by omega), if_neg e]), hb0, by simp⟩
          case round =>
            clear hN0 hR0 hb0 hmk hR
            obtain ⟨j, rfl, hj, hR, hN, hb2, hsz2⟩ := hrel
            have hb2' : RowKit.Below w.heap.size w wr := hb2
            by_cases hjM : j < M
            · have hjB : j < B.length := by rw [← HM.out]; exact hjM
              obtain ⟨ga, rfl, ca1, ca2⟩ := (hA.below hb2') i hlt
              obtain ⟨gb, rfl, cb1, cb2⟩ := (hB.below hb2') j hjB
              have cr1 := (hR j (by omega)).1
              have cr2 := (hR (j + 1) (by omega)).1
              have cn1 := (hN j (by omega)).1
              obtain ⟨cn2, fn2⟩ := hN (j + 1) (by omega)
              dsimp only at cr1 cr2 cn1 cn2
              rw [if_pos (Nat.le_refl _)] at cn1
              rw [if_neg (by omega)] at cn2
              have hE1 := (Ed.bounds (Ed.same A B) _ i j rfl).2.2.1
              have hE2 := (Ed.bounds (Ed.same A B) _ i (j + 1) rfl).2.2.1
              have hE3 := (Ed.bounds (Ed.same A B) _ (i + 1) j rfl).2.2.1
              have hsame := Ed.same_in A B i j hlt hjB
              have HQ1 : Hid (Ed.same A B i j = true → Ed.E (Ed.same A B) (i + 1) (j + 1) = Ed.E (Ed.same A B) i j) := fun h => Ed.E_eq h
              have HQ2 : Hid (Ed.same A B i j = false → Ed.E (Ed.same A B) (i + 1) (j + 1) = min (Ed.E (Ed.same A B) (i + 1) j) (Ed.E (Ed.same A B) i (j + 1)) + 1) := fun h => Ed.E_ne h
              have HSM : Hid (Ed.same A B i j = decide (A[i] = B[j])) := hsame
              clear hsame
              generalize hx : A[i] = x at *
              generalize hy : B[j] = y at *
              generalize he1 : Ed.E (Ed.same A B) i j = d1 at *
              generalize he2 : Ed.E (Ed.same A B) i (j + 1) = d2 at *
              generalize he3 : Ed.E (Ed.same A B) (i + 1) j = d3 at *
              clear hx hy he1 he2 he3
              obtain ⟨x1, x2⟩ := x
              obtain ⟨y1, y2⟩ := y
              dsimp only at ca1 ca2 cb1 cb2
              have hs1 := line_held
              have hs2 := line_guard
              have hgo : w.heap.size ≤ wo.heap.size := by omega
              have hgn : g ≠ wo.heap.size := by omega
              by_cases hxy : x1 = y1 ∧ x2 = y2
              · have HV : Hid ((Ed.E (Ed.same A B) (i + 1) (j + 1) : Int) = (d1 : Int)) := by
                  have := HQ1.out (HSM.out.trans (by simp [hxy])); show (_ : Int) = _; rw [this]
                obtain ⟨rfl, rfl⟩ := hxy
                go_wp2_with fail
                go_quiet (fail)
                go_wp2
                go_roundw
                case rel => exact ⟨j + 1, by go_num, by omega, (inner_step hR hN hgn HV.out).1, (inner_step hR hN hgn HV.out).2, (below_drew2 hb2 nq).setCell (p := ⟨wo.heap.size, j + 1, none⟩) hgo _, by simpa using hsz2⟩
                case measure => simp [intOf]; omega
              · have hmin := HQ2.out (HSM.out.trans (by simpa using hxy))
                have HMIN : Hid (Ed.E (Ed.same A B) (i + 1) (j + 1) = min d3 d2 + 1) := hmin
                clear hmin HQ1 HQ2 HSM
                by_cases hd : d3 < d2
                · have HV : Hid ((Ed.E (Ed.same A B) (i + 1) (j + 1) : Int) = (d3 : Int) + 1) := by
                    show (_ : Int) = _; rw [HMIN.out]; omega
                  have hdi : (d3 : Int) < (d2 : Int) := by omega
                  by_cases hx1 : x1 = y1
                  · have hx2 : ¬ x2 = y2 := fun h => hxy ⟨hx1, h⟩
                    subst hx1
                    clear hxy
                    go_wp2_with fail
                    go_quiet (fail)
                    go_wp2_with fail
                    go_quiet (fail)
                    go_wp2
                    go_roundw
                    case rel => exact ⟨j + 1, by go_num, by omega, (inner_step hR hN hgn HV.out).1, (inner_step hR hN hgn HV.out).2, (below_drew2 hb2 _).setCell (p := ⟨wo.heap.size, j + 1, none⟩) hgo _, by simpa using hsz2⟩
                    case measure => simp [intOf]; omega
                  · clear hxy
                    go_wp2_with fail
                    go_quiet (fail)
                    go_wp2_with fail
                    go_quiet (fail)
                    go_wp2
                    go_roundw
                    case rel => exact ⟨j + 1, by go_num, by omega, (inner_step hR hN hgn HV.out).1, (inner_step hR hN hgn HV.out).2, (below_drew2 hb2 _).setCell (p := ⟨wo.heap.size, j + 1, none⟩) hgo _, by simpa using hsz2⟩
                    case measure => simp [intOf]; omega
                · have HV : Hid ((Ed.E (Ed.same A B) (i + 1) (j + 1) : Int) = (d2 : Int) + 1) := by
                    show (_ : Int) = _; rw [HMIN.out]; omega
                  have hdi : (d2 : Int) ≤ (d3 : Int) := by omega
                  by_cases hx1 : x1 = y1
                  · have hx2 : ¬ x2 = y2 := fun h => hxy ⟨hx1, h⟩
                    subst hx1
                    clear hxy
                    go_wp2_with fail
                    go_quiet (fail)
                    go_wp2_with fail
                    go_quiet (fail)
                    go_wp2
                    go_roundw
                    case rel => exact ⟨j + 1, by go_num, by omega, (inner_step hR hN hgn HV.out).1, (inner_step hR hN hgn HV.out).2, (below_drew2 hb2 _).setCell (p := ⟨wo.heap.size, j + 1, none⟩) hgo _, by simpa using hsz2⟩
                    case measure => simp [intOf]; omega
                  · clear hxy
                    go_wp2_with fail
                    go_quiet (fail)
                    go_wp2_with fail
                    go_quiet (fail)
                    go_wp2
                    go_roundw
                    case rel => exact ⟨j + 1, by go_num, by omega, (inner_step hR hN hgn HV.out).1, (inner_step hR hN hgn HV.out).2, (below_drew2 hb2 _).setCell (p := ⟨wo.heap.size, j + 1, none⟩) hgo _, by simpa using hsz2⟩
                    case measure => simp [intOf]; omega
            · have hN' : IntsAt wr wo.heap.size (M + 1) (fun t => (Ed.E (Ed.same A B) (i + 1) t : Int)) := hN.congr (fun t ht => by rw [if_pos (by omega)])
              go_wp2
              go_roundw
              case rel => exact ⟨i + 1, wo.heap.size, by go_num, by omega, rfl, hN', by omega, hsz2, hb2⟩
              case measure => simp [intOf]; omega
        · obtain rfl : i = A.length := by omega
          obtain ⟨hc, _⟩ := hR M (by omega)
          go_wp2
          go_ret
          exact ⟨by rw [HM.out]; rfl, hb⟩

end Go.Proofs.YtgomahmmgogecaaDoor
