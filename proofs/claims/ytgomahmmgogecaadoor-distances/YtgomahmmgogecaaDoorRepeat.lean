/-
  slices.Repeat at one number.
-/
import Derived.WalkKit
import Derived.RegionTactic
import Derived.BigRegion
import Derived.Deep.RegionLaw
import Derived.Laws.CopyOwn
import Derived.Laws.MakeOwn
import Derived.Test.YtgomahmmgogecaaDoorLay
namespace Go.Proofs.YtgomahmmgogecaaDoor
open Go.RowKit

/-- n times v, then zeros: c in all. -/
def rowOf (v : Int) (n c : Nat) : List Value := List.replicate n (Value.int .i64 v) ++ List.replicate (c - n) (Value.int .i64 0)

theorem rowOf_length (v : Int) (n c : Nat) (h : n ≤ c) : (rowOf v n c).length = c := by simp [rowOf]; omega

theorem rowOf_get (v : Int) (n c : Nat) (j : Nat) (hj : j < n) : (rowOf v n c)[j]? = some (Value.int .i64 v) := by
  simp [rowOf, List.getElem?_append, hj]

theorem rowOf_splice (v : Int) (n k c : Nat) (h : n + k ≤ c) : splice (rowOf v n c) n (List.replicate k (Value.int .i64 v)) = rowOf v (n + k) c := by
  unfold splice rowOf
  rw [List.take_append_of_le_length (by simp), List.take_of_length_le (by simp)]
  rw [List.drop_append]
  simp only [List.length_replicate, List.drop_replicate]
  rw [show n - (n + k) = 0 from by omega, show c - n - (n + k - n) = c - (n + k) from by omega]
  rw [← List.append_assoc, List.replicate_append_replicate]; simp

theorem mul_one (c : Nat) (hc : c ≤ 100000) (w : World) : Calls Tryd.prog 47 #[.int .u64 1, .int .u64 c] w fun e w' => e = .returned (.tuple #[.int .u64 0, .int .u64 c]) ∧ w' = w := by
  have h := Any.bits_Mul Tryd.laysMul 1 c (by omega) (by omega) w
  refine Calls.mono h ?_
  rintro e w' ⟨rfl, rfl⟩
  have e1 : 1 * c / 18446744073709551616 = 0 := by omega
  have e2 : 1 * c % 18446744073709551616 = c := by omega
  rw [e1, e2]
  exact ⟨rfl, rfl⟩

theorem info_int : (Tryd.prog.info? 3).map (fun i => (i.zero, i.size, i.bytes)) = some (some (.int .i64 0), 1, 8) := by kernel_rfl
theorem size_int : (Tryd.prog.info? 3).map (·.size) = some 1 := by kernel_rfl

theorem make_ints (c : Nat) (hc : c ≤ 100000) (w : World) :
    (Instr.makeSlice 68 (.int .i64 c) (.int .i64 c)).run Tryd.prog w = .ok (.slice (some ⟨w.heap.size, 0, none⟩) c c) (w.alloc (.cells (rowOf 0 0 c).toArray 3)) := by
  obtain ⟨i0, hi, hz0, hz1, hz2⟩ := info_parts info_int
  have := run_make (P := Tryd.prog) w 68 3 i0 (.int .i64 0) Tryd.underlying68 hi hz0 .i64 .i64 (c : Int) (c : Int) (by omega) (by omega) (by rw [hz2]; omega) (by omega)
  have e : madeCells (Value.cells (.int .i64 0)) (c * i0.size) = (rowOf 0 0 c).toArray := by
    rw [hz1]
    unfold madeCells rowOf
    apply Array.ext
    · simp
    · intro j h1 h2
      simp [Value.cells]
      rw [Nat.mod_one]; rfl
  rw [this, Int.toNat_natCast, e]

theorem cell_row {W : World} {g j : Nat} {cur : List Value} {t : TypeId} {x : Value} (h : W.heap[g]? = some (.cells cur.toArray t (0, 0))) (hj : cur[j]? = some x) : W.cell? ⟨g, j, none⟩ = some x := by
  simp [World.cell?, h, hj]
theorem add_zero_off (g j : Nat) : (⟨g, 0, none⟩ : Addr).add j = ⟨g, j, none⟩ := by simp [Addr.add]; exact fun h => h.symm

theorem frozen_row {W : World} {g j : Nat} {cur : Array Value} {t : TypeId} (h : W.heap[g]? = some (.cells cur t (0, 0))) : W.frozen? ⟨g, j, none⟩ = false := by
  simp [World.frozen?, h]

theorem rowOf_zero (v : Int) (c : Nat) : rowOf 0 0 c = rowOf v 0 c := by simp [rowOf]

theorem copy_row (W w0 : World) (g off dLen dCap : Nat) (ad : Addr) (sLen sCap c k B : Nat) (v : Int) (hk : k = Nat.min sLen dLen) (hfit : off + k ≤ c)
    (hg : W.heap[g]? = some (.cells (rowOf v off c).toArray 3 (0, 0))) (hsrc : ∀ j, j < k → W.cell? (ad.add j) = some (.int .i64 v)) (hb : Below B w0 W) (hB : B ≤ g) :
    ∃ W1, (Builtin.copy_ #[68, 68] 3 #[.slice (some ⟨g, off, none⟩) dLen dCap, .slice (some ad) sLen sCap]).run Tryd.prog W = .ok (.int .i64 k) W1 ∧
      W1.heap[g]? = some (.cells (rowOf v (off + k) c).toArray 3 (0, 0)) ∧ Below B w0 W1 := by
  have hoc : off ≤ c := by omega
  have h := run_copy_row (P := Tryd.prog) W 68 68 3 3 g off dLen dCap ad sLen sCap (rowOf v off c).toArray 3 (List.replicate k (.int .i64 v)) Tryd.underlying68 size_int hg (by simpa using hk)
    (fun j x hx => by
      have hj : j < k := by have := List.getElem?_eq_some_iff.1 hx; simpa using this.1
      have : x = .int .i64 v := by simpa [hj] using hx.symm
      rw [this]; exact hsrc j hj)
    (by simp [rowOf_length _ _ _ hoc]; exact hfit) (fun x hx => by rw [List.eq_of_mem_replicate hx]; rfl)
  have e := rowOf_splice v off k c hfit
  unfold splice at e
  rw [List.length_replicate] at h e
  rw [List.append_assoc, e] at h
  exact ⟨W.setRow g (rowOf v (off + k) c).toArray, h, setRow_heap _ _ _ _ _ _ hg, below_setRow hb hB _⟩

set_option maxRecDepth 100000 in
set_option maxHeartbeats 400000 in
theorem repeat_any (gx c : Nat) (hc0 : 1 ≤ c) (hc : c ≤ 100000) (v : Int) (w : World) (hx : w.cell? ⟨gx, 0, none⟩ = some (.int .i64 v)) (hgx : gx < w.heap.size) :
    Calls Tryd.prog 39 #[.slice (some ⟨gx, 0, none⟩) 1 1, .int .i64 c] w fun e w' => e = .returned (.slice (some ⟨w.heap.size, 0, none⟩) c c) ∧
      w'.heap[w.heap.size]? = some (.cells (rowOf v c c).toArray 3 (0, 0)) ∧ Below w.heap.size w w' := by
  go_enter Tryd.func39, Tryd.ntmps39
  have hmk := make_ints c hc
  go_wp2_with fail
  refine (mul_one c hc w).mono ?_
  rintro e w' ⟨rfl, rfl⟩
  go_wp2_with fail
  have hx' : (w'.alloc (.cells (rowOf 0 0 c).toArray 3)).cell? ⟨gx, 0, none⟩ = some (.int .i64 v) := (World.cell?_alloc_lt _ _ _ hgx).trans hx
  obtain ⟨W1, hrun, hrow, hb⟩ := copy_row (w'.alloc (.cells (rowOf 0 0 c).toArray 3)) w' w'.heap.size 0 c c ⟨gx, 0, none⟩ 1 1 c 1 w'.heap.size v (by show _ = min 1 c; omega) (by omega)
    (by rw [rowOf_zero v]; exact heap_alloc_new _ _) (fun j hj => by
      have e : j = 0 := by omega
      rw [e]; exact hx') ((Below.refl _ _).alloc (Nat.le_refl _) _) (Nat.le_refl _)
  rw [hrun]
  simp only [Result.andThen]
  rw [Oper.upon_value]
  have HR : Hid (W1.heap[w'.heap.size]? = some (.cells (rowOf v (0 + 1) c).toArray 3 (0, 0))) := hrow
  clear hrun hrow hmk hx'
  go_wp2_with fail
  go_loopw [8] (fun p wr => ∃ n : Nat, p = .int .i64 n ∧ 1 ≤ n ∧ n ≤ c ∧ Hid (wr.heap[w'.heap.size]? = some (.cells (rowOf v n c).toArray 3 (0, 0))) ∧ Below w'.heap.size w' wr) (fun p _ => c - (intOf p).toNat)
  case atStart => exact ⟨1, rfl, by omega, by omega, by simpa using HR, hb⟩
  case round =>
    clear HR hb
    obtain ⟨n, rfl, hn1, hnc, HN, hb⟩ := hrel
    by_cases hlt : n < c
    · obtain ⟨k, hk⟩ : ∃ k, k = Nat.min n (c - n) := ⟨_, rfl⟩
      have hk1 : 1 ≤ k := by rw [hk]; show 1 ≤ min n (c - n); omega
      have hk2 : n + k ≤ c := by rw [hk]; show n + min n (c - n) ≤ c; omega
      obtain ⟨W2, hrun, hrow2, hb2⟩ := copy_row wr.drew w' w'.heap.size n (c - n) (c - n) ⟨w'.heap.size, 0, none⟩ n c c k w'.heap.size v hk hk2 HN.out
        (fun j hj => by
          have := HN.out
          have hj' : j < n := by rw [hk] at hj; have : Nat.min n (c - n) ≤ n := Nat.min_le_left _ _; omega
          rw [World.cell?_drew, add_zero_off]; exact cell_row this (rowOf_get v n c j hj')) hb.drew (Nat.le_refl _)
      clear hk
      go_wp2_with fail
      go_region
      go_wp2
      go_roundw
      case rel => exact ⟨n + k, by go_num, by omega, by omega, hrow2, hb2⟩
      case measure => simp [intOf]; omega
    · obtain rfl : n = c := by omega
      go_wp2
      go_ret
      exact ⟨rfl, HN.out, hb⟩

end Go.Proofs.YtgomahmmgogecaaDoor
