/-
  tailorref.Distance; the law Distances, step by step.
-/
import Derived.Test.YtgomahmmgogecaaDoorApart
import Derived.Test.YtgomahmmgogecaaDoorDist
namespace Go.Proofs.YtgomahmmgogecaaDoor
open Go.RowKit Go.Sort

theorem refDistance_long (a b : ByteArray) (w : World) (h : 300 < a.size ∨ 300 < b.size) :
    Calls Tryd.prog 7 #[.string a, .string b] w fun e w' => e = .returned (.tuple #[.int .i64 0, .int .i64 1]) ∧ w' = w := by
  by_cases ha : 300 < a.size
  · go_enter Tryd.func7, Tryd.ntmps7
    go_wp2
    go_ret2
    exact ⟨rfl, rfl⟩
  · have hb : 300 < b.size := by omega
    clear h
    go_enter Tryd.func7, Tryd.ntmps7
    go_wp2
    go_ret2
    exact ⟨rfl, rfl⟩

set_option maxRecDepth 100000 in
set_option maxHeartbeats 400000 in
theorem refDistance_any (a b : List UInt8) (w : World) (ha : a.length ≤ 300) (hb : b.length ≤ 300) :
    Calls Tryd.prog 7 #[encStr a, encStr b] w fun e w' => e = .returned (.tuple #[.int .i64 (Ed.dist a b), .int .i64 0]) ∧ RowKit.Below w.heap.size w w' := by
  have hla : (Ed.rl a).length ≤ 300 := by have h2 := Ed.rl_length a; omega
  have hlb : (Ed.rl b).length ≤ 300 := by have h2 := Ed.rl_length b; omega
  have HD : Hid (Ed.dist a b = Ed.E (Ed.same (Ed.rl a) (Ed.rl b)) (Ed.rl a).length (Ed.rl b).length) := rfl
  go_enter Tryd.func7, Tryd.ntmps7
  go_wp2_with fail
  refine (refLines_any a ha w).mono ?_
  rintro e w1 ⟨v, rfl, hrow, hb1⟩
  obtain ⟨fa, fc, rfl, hA⟩ := lns_of_row hrow
  clear hrow
  go_wp2_with fail
  refine (refLines_any b hb w1).mono ?_
  rintro e w2 ⟨v, rfl, hrow, hb2⟩
  obtain ⟨ta, tc, rfl, hB⟩ := lns_of_row hrow
  clear hrow
  have hA2 := hA.below hb2
  go_wp2_with fail
  refine (apart_any fa ta fc tc (Ed.rl a) (Ed.rl b) w2 hA2 hB hla hlb).mono ?_
  rintro e w3 ⟨rfl, hb3⟩
  rw [← HD.out]
  go_wp2
  go_ret2
  exact ⟨rfl, (hb1.trans (hb2.mono hb1.size)).trans (hb3.mono (Nat.le_trans hb1.size hb2.size))⟩

/-- A string, as its bytes. -/
theorem str_list (s : ByteArray) : Value.string s = encStr s.data.toList := by simp [encStr]

set_option maxRecDepth 100000 in
set_option maxHeartbeats 400000 in
theorem plays_one (a u : Int) (s t : ByteArray) (w : World) :
    Calls Tryd.prog 5 #[.agg #[.int .i64 1, .int .i64 a, .int .i64 u, .string s, .string t]] w fun e w' => e = .returned (.bool true) ∧ RowKit.Below w.heap.size w w' := by
  by_cases hl : 300 < s.size ∨ 300 < t.size
  · go_enter Tryd.func5, Tryd.ntmps5
    go_wp2_with fail
    refine (distance_long s t _ hl).mono ?_
    rintro e w1 ⟨rfl, rfl⟩
    go_wp2_with fail
    refine (refDistance_long s t _ hl).mono ?_
    rintro e w1 ⟨rfl, rfl⟩
    go_wp2_with fail
    refine (num_any 1 _).mono ?_
    rintro e w1 ⟨rfl, rfl⟩
    go_wp2
    go_ret
    exact ⟨rfl, (Below.refl _ w).alloc (Nat.le_refl _) _⟩
  · have hs : s.data.toList.length ≤ 300 := by
      have : ¬ 300 < s.size := fun h => hl (.inl h)
      rw [Array.length_toList]; exact Nat.le_of_not_lt this
    have ht : t.data.toList.length ≤ 300 := by
      have : ¬ 300 < t.size := fun h => hl (.inr h)
      rw [Array.length_toList]; exact Nat.le_of_not_lt this
    clear hl
    rw [str_list s, str_list t]
    generalize s.data.toList = sl at *
    generalize t.data.toList = tl at *
    go_enter Tryd.func5, Tryd.ntmps5
    go_wp2_with fail
    refine (distance_any sl tl _ hs ht).mono ?_
    rintro e w1 ⟨rfl, hb1⟩
    have c3 : w1.cell? ⟨w.heap.size, 3, none⟩ = some (encStr sl) := (hb1.cell (p := ⟨w.heap.size, 3, none⟩) (by simp)).trans (by simp)
    have c4 : w1.cell? ⟨w.heap.size, 4, none⟩ = some (encStr tl) := (hb1.cell (p := ⟨w.heap.size, 4, none⟩) (by simp)).trans (by simp)
    have hB1 : RowKit.Below w.heap.size w w1 := ((Below.refl _ w).alloc (Nat.le_refl _) _).trans (hb1.mono (by simp))
    clear hb1
    go_wp2_with fail
    refine (refDistance_any sl tl _ hs ht).mono ?_
    rintro e w2 ⟨rfl, hb2⟩
    generalize Ed.dist sl tl = d at *
    go_wp2_with fail
    refine (num_any 0 _).mono ?_
    rintro e w3 ⟨rfl, rfl⟩
    go_wp2
    go_ret
    exact ⟨rfl, hB1.trans (hb2.mono hB1.size)⟩

/-- The script in memory: n steps of five cells each. -/
def OpsAt (w : World) (sa : Option Addr) (n : Nat) : Prop :=
  ∀ i, i < n → ∃ (b off : Nat) (k a u : Int) (s t : ByteArray), sa = some ⟨b, off, none⟩ ∧ w.cell? ⟨b, off + i * 5, none⟩ = some (.int .i64 k) ∧ w.cell? ⟨b, off + i * 5 + 1, none⟩ = some (.int .i64 a) ∧
    w.cell? ⟨b, off + i * 5 + 2, none⟩ = some (.int .i64 u) ∧ w.cell? ⟨b, off + i * 5 + 3, none⟩ = some (.string s) ∧ w.cell? ⟨b, off + i * 5 + 4, none⟩ = some (.string t)

theorem OpsAt.below {w w' : World} {sa : Option Addr} {n : Nat} (h : OpsAt w sa n) (hb : RowKit.Below w.heap.size w w') : OpsAt w' sa n := by
  intro i hi
  obtain ⟨b, off, k, a, u, s, t, e, h0, h1, h2, h3, h4⟩ := h i hi
  have hlt := World.block_lt_of_cell? _ _ h0
  have hc : ∀ o, w'.cell? ⟨b, o, none⟩ = w.cell? ⟨b, o, none⟩ := fun o => hb.cell (p := ⟨b, o, none⟩) hlt
  exact ⟨b, off, k, a, u, s, t, e, (hc _).trans h0, (hc _).trans h1, (hc _).trans h2, (hc _).trans h3, (hc _).trans h4⟩

set_option maxRecDepth 100000 in
set_option maxHeartbeats 400000 in
theorem upTo_any (sa : Option Addr) (n cap : Nat) (w : World) (hO : OpsAt w sa n) (hn : n ≤ 140737488355328) :
    Calls Tryd.prog 4 #[.slice sa n cap, .int .i64 1, .int .i64 1] w fun e w' => e = .returned (.int .i64 (-1)) ∧ RowKit.Below w.heap.size w w' := by
  go_enter Tryd.func4, Tryd.ntmps4
  go_wp2_with fail
  go_loopw [7] (fun p wr => ∃ i : Nat, p = .int .i64 i ∧ i ≤ n ∧ RowKit.Below w.heap.size w wr) (fun p _ => n - (intOf p).toNat)
  case atStart => exact ⟨0, rfl, by omega, Below.refl _ _⟩
  case round =>
    obtain ⟨i, rfl, hi, hb⟩ := hrel
    by_cases hlt : i < n
    · obtain ⟨b, off, k, a, u, s, t, rfl, h0, h1, h2, h3, h4⟩ := hO.below hb i hlt
      have hi' : (i : Int) < 1152921504606846976 := by omega
      by_cases hk : k = 1
      · subst hk
        go_wp2_with fail
        refine (plays_one a u s t _).mono ?_
        rintro e w1 ⟨rfl, hb1⟩
        have hB1 : RowKit.Below w.heap.size w w1 := (hb.alloc hb.size _).trans (hb1.mono (by have := hb.size; simp; omega))
        clear hb1 h0 h1 h2 h3 h4
        go_wp2
        go_roundw
        case rel => exact ⟨i + 1, by go_num, by omega, hB1⟩
        case measure => simp [intOf]; omega
      · by_cases hk2 : k ≤ 0
        · have hq : decide (1 ≤ k) = false := by simp; omega
          clear hk hk2 hO
          go_wp2
          go_roundw
          case rel => exact ⟨i + 1, by go_num, by omega, hb.alloc hb.size _⟩
          case measure => simp [intOf]; omega
        · have hq1 : decide (1 ≤ k) = true := by simp; omega
          have hq2 : decide (k ≤ 1) = false := by simp; omega
          clear hk hk2 hO
          go_wp2
          go_roundw
          case rel => exact ⟨i + 1, by go_num, by omega, hb.alloc hb.size _⟩
          case measure => simp [intOf]; omega
    · go_wp2
      go_ret
      exact ⟨rfl, hb⟩

theorem distances_any (sa : Option Addr) (n cap : Nat) (w : World) (hO : OpsAt w sa n) (hn : n ≤ 140737488355328) :
    Calls Tryd.prog 3 #[.slice sa n cap] w fun e w' => e = .returned (.bool true) ∧ RowKit.Below w.heap.size w w' := by
  go_enter Tryd.func3, Tryd.ntmps3
  go_wp2_with fail
  refine (upTo_any sa n cap w hO hn).mono ?_
  rintro e w1 ⟨rfl, hb⟩
  go_wp2
  go_ret
  exact ⟨rfl, hb⟩

end Go.Proofs.YtgomahmmgogecaaDoor
