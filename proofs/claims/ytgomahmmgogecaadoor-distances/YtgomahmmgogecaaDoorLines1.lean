/-
  The iterator 'lines': what its function gives, line by line.
-/
import Derived.RangeFuncGives
import Derived.RangeFuncNested
import Derived.RangeFuncBound
import Derived.RangeFuncCalls
import Derived.RangeFuncLeaves
import Derived.Shelf.Abstract
import Derived.Shelf.RegionOpen
import Derived.WalkKit
import Derived.OwnWalkIn
import Derived.TacticsInMore
import Derived.LoopNIn
import Derived.LoopIn
import Derived.Sort.EncStr
import Derived.Test.YtgomahmmgogecaaDoorLeaf
namespace Go.Proofs.YtgomahmmgogecaaDoor
open Go.RowKit Go.Shelf Go.Sort
attribute [local go_sem] Oper.semAt_some

theorem ext_take (r : List UInt8) (k : Nat) : ByteArray.extract ⟨r.toArray⟩ 0 k = ⟨(r.take k).toArray⟩ := by
  apply ByteArray.ext; simp
theorem ext_drop (r : List UInt8) (k : Nat) : ByteArray.extract ⟨r.toArray⟩ k r.length = ⟨(r.drop k).toArray⟩ := by
  apply ByteArray.ext; simp; exact List.take_of_length_le (by simp)

def strLen : Value → Nat
  | .string s => s.size
  | _ => 0

set_option maxRecDepth 100000 in
set_option maxHeartbeats 400000 in
theorem lines1_in (n : Nat) (hn : 2 ≤ n) (l Bt : Nat) (s : List UInt8) (hs : s.length ≤ 300) (J : List (List UInt8) → World → Prop)
    (hY : ∀ pre x W, J pre W → pre.length < (Ed.pl s).length → YieldAt Fence.wide (n - 1) Tryd.prog l #[encStr x] W fun e W' => e = .returned (.bool true) ∧ J (pre ++ [x]) W' ∧ KeepsWalks W W')
    (W : World) (hm : W.cell? ⟨Bt, 0, none⟩ = some (encStr s)) (h0 : J [] W) :
    CallsIn Fence.wide n Tryd.prog 28 #[.func (.yield l) #[] #[], .pointer (some ⟨Bt, 0, none⟩)] W fun e W' => (∃ v, e = .returned v) ∧ ∃ xs, xs = Ed.pl s ∧ J xs W' := by
  have hf29 : Fence.wide.fn 29 := trivial
  refine callsIn_of_wp Tryd.func28 rfl trivial ?_ rfl
  simp only [Tryd.ntmps28, List.size_toArray, List.length_cons, List.length_nil, Nat.reduceAdd, Nat.reduceSub, Array.replicate_succ, Array.replicate_zero, List.push_toArray, List.append_toArray, List.nil_append, List.cons_append]
  gi_wp2
  gi_loopw [3] (fun p wr => ∃ (pre : List (List UInt8)) (r : List UInt8), p = encStr r ∧ pre ++ Ed.pl r = Ed.pl s ∧ r.length ≤ 300 ∧ J pre wr)
    (fun p _ => strLen p)
  case atStart =>
    exact ⟨[], s, rfl, rfl, hs, h0⟩
  case round =>
    obtain ⟨pre, r, rfl, hx, hr, hJs⟩ := hrel
    have HX : Hid (pre ++ Ed.pl r = Ed.pl s) := hx
    clear hx hm
    cases r with
    | nil =>
      gi_wp2
      go_end0
      exact ⟨⟨_, rfl⟩, pre, by have := HX.out; simpa [Ed.pl_nil] using this, hJs⟩
    | cons c t =>
      generalize hr' : (c :: t : List UInt8) = r at *
      have hne : r ≠ [] := by rw [← hr']; simp
      have hcons := Ed.pl_cons r hne
      have hlen : pre.length < (Ed.pl s).length := by rw [← HX.out, hcons]; simp
      have hle := Ed.lend_le r
      have hpos := Ed.lend_pos r hne
      have HC : Hid (Ed.pl r = r.take (Ed.lend r) :: Ed.pl (r.drop (Ed.lend r))) := hcons
      have hem : (!r.isEmpty) = true := by cases r with | nil => exact absurd rfl hne | cons => rfl
      clear hcons hr'
      obtain ⟨fn, tmps, assign, body, hy, hR⟩ := hY pre (r.take (Ed.lend r)) wr hJs hlen
      clear hY
      have e1 := ext_take r (Ed.lend r)
      have e2 := ext_drop r (Ed.lend r)
      gi_wp2_with fail
      refine ⟨fun _ => by omega, ?_⟩
      refine (callsIn_wide.2 (lineEnd_any _ _ (show r.toArray.size ≤ 300 from by simpa using hr))).mono ?_
      rintro e w' ⟨rfl, rfl⟩
      gi_wp2
      refine ⟨fun _ => by omega, hR.mono ?_⟩
      rintro e W3 ⟨rfl, hJ3, hk3⟩
      gi_wp2
      go_roundw
      case rel => exact ⟨pre ++ [r.take (Ed.lend r)], r.drop (Ed.lend r), rfl, by have := HX.out; rw [HC.out] at this; simpa using this, by simp; omega, hJ3⟩
      case measure => simp [strLen, ByteArray.size]; omega

end Go.Proofs.YtgomahmmgogecaaDoor
