/-
  The leaves: strings.IndexByte, lineEnd, num.
-/
import Derived.Test.YtgomahmmgogecaaDoorProg
import Derived.Lib.Strings
import Derived.Lib.Slices
import Derived.Lib.Walk
import Derived.Lib.Bytealg
import Derived.WalkKit
import Derived.Test.YtgomahmmgogecaaDoorLineMath
namespace Go.Proofs.YtgomahmmgogecaaDoor
open Go.RowKit

set_option maxHeartbeats 1000000 in
set_option maxRecDepth 100000 in
theorem stringslite_IndexByte (s : ByteArray) (c : Int) (w : World) :
    Calls Tryd.prog 48 #[.string s, .int .u8 c] w fun e w' => e = .returned (.int .i64 (Lib.indexByte s.data.toList c.toNat.toUInt8)) ∧ w' = w := by
  go_enter Tryd.func48, Tryd.ntmps48
  go_wp2
  rw [run_callFunc_extern Tryd.func55 (by kernel_rfl) (by kernel_rfl) (by kernel_rfl) (e := Extern.BytealgIndexByte.indexByte) (by kernel_rfl), Lib.run_indexByteString]
  simp only [Result.andThen]
  rw [Oper.upon_value]
  go_wp2
  go_ret
  exact ⟨rfl, rfl⟩

set_option maxHeartbeats 1000000 in
theorem strings_IndexByte (s : ByteArray) (c : Int) (w : World) :
    Calls Tryd.prog 41 #[.string s, .int .u8 c] w fun e w' => e = .returned (.int .i64 (Lib.indexByte s.data.toList c.toNat.toUInt8)) ∧ w' = w := by
  go_enter Tryd.func41, Tryd.ntmps41
  go_wp2_with (go_at_call 48; refine (stringslite_IndexByte _ _ _).mono ?_; rintro e w' ⟨rfl, rfl⟩)
  go_ret
  exact ⟨rfl, rfl⟩

theorem ret_int {k : IntKind} {a b : Int} (h : a = b) : Ending.returned (.int k a) = .returned (.int k b) := by rw [h]

set_option maxHeartbeats 1000000 in
theorem lineEnd_any (s : ByteArray) (w : World) (hs : s.size ≤ 300) :
    Calls Tryd.prog 29 #[.string s] w fun e w' => e = .returned (.int .i64 (Ed.lend s.data.toList : Int)) ∧ w' = w := by
  have hi := Ed.lend_index s.data.toList
  have hle := Ed.lend_le s.data.toList
  have hge := Lib.indexByte_ge s.data.toList 10
  have hsz : s.data.toList.length ≤ 300 := by simpa using hs
  have H : Hid ((Ed.lend s.data.toList : Int) = if Lib.indexByte s.data.toList 10 < 0 then (s.data.toList.length : Int) else Lib.indexByte s.data.toList 10 + 1) := hi
  have H2 : Hid ((s.data.toList.length : Int) = (s.size : Int)) := congrArg (fun n : Nat => (n : Int)) (Array.length_toList (xs := s.data))
  by_cases hn : Lib.indexByte s.data.toList 10 < 0
  · rw [if_pos hn] at hi
    clear hi
    go_enter Tryd.func29, Tryd.ntmps29
    go_wp2_with (go_at_call 41; refine (strings_IndexByte _ _ _).mono ?_; rintro e w' ⟨rfl, rfl⟩)
    go_ret
    exact ⟨ret_int (by rw [H.out, if_pos hn, H2.out]), rfl⟩
  · rw [if_neg hn] at hi
    have hb : Lib.indexByte s.data.toList 10 ≤ 300 := by omega
    have hn' : 0 ≤ Lib.indexByte s.data.toList 10 := by omega
    clear hi
    go_enter Tryd.func29, Tryd.ntmps29
    go_wp2_with (go_at_call 41; refine (strings_IndexByte _ _ _).mono ?_; rintro e w' ⟨rfl, rfl⟩)
    go_ret
    exact ⟨ret_int (by rw [H.out, if_neg (by omega)]), rfl⟩

theorem num_any (e : Int) (w : World) : Calls Tryd.prog 8 #[.int .i64 e] w fun r w' => r = .returned (.int .i64 e) ∧ w' = w := by
  go_enter Tryd.func8, Tryd.ntmps8
  go_wp2
  go_ret
  exact ⟨rfl, rfl⟩

end Go.Proofs.YtgomahmmgogecaaDoor
