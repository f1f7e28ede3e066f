/-
  lines and slices.Collect over it.
-/
import Derived.Test.YtgomahmmgogecaaDoorLay
import Derived.Test.YtgomahmmgogecaaDoorLines1
namespace Go.Proofs.YtgomahmmgogecaaDoor
open Go.RowKit Go.Shelf Go.Sort

theorem lines_any (s : ByteArray) (w : World) :
    Calls Tryd.prog 16 #[.string s] w fun e w' => e = .returned (.func (.func 28) #[] #[.pointer (some ⟨w.heap.size, 0, none⟩)]) ∧ w' = w.alloc (.cells #[.string s] 9) := by
  go_enter Tryd.func16, Tryd.ntmps16
  go_wp2
  go_ret
  exact ⟨rfl, rfl⟩

theorem lines_gives (n : Nat) (hn : 2 ≤ n) (Bt : Nat) (s : List UInt8) (hs : s.length ≤ 300) (w : World) (hBt : Bt < w.heap.size) (hm : w.cell? ⟨Bt, 0, none⟩ = some (encStr s)) :
    SeqGives Fence.wide n Tryd.prog 28 #[.pointer (some ⟨Bt, 0, none⟩)] encStr (fun ss => ss = Ed.pl s) (Ed.pl s).length w := fun l J W hW _ hY h0 =>
  lines1_in n hn l Bt s hs J hY W ((hW.cell (p := ⟨Bt, 0, none⟩) hBt).trans hm) h0

theorem collect_any (Bt : Nat) (s : List UInt8) (hs : s.length ≤ 300) (w : World) (hBt : Bt < w.heap.size) (hm : w.cell? ⟨Bt, 0, none⟩ = some (encStr s)) :
    Calls Tryd.prog 15 #[.func (.func 28) #[] #[.pointer (some ⟨Bt, 0, none⟩)]] w fun e w' => ∃ v : Value, e = .returned v ∧
      w'.ownsRow w.heap.size 9 1 v (Ed.pl s).length ((Ed.pl s).map encStr) ∧ Below w.heap.size w w' := by
  have hl : (Ed.pl s).length ≤ 300 := by have h1 := Ed.pl_length s; have h2 := Ed.rl_length s; omega
  refine callsIn_wide (n := 6).1 ?_
  refine (AnyZ.collect_in Tryd.laysCollect Fence.wide 6 trivial trivial rfl (by omega) 28 #[.pointer (some ⟨Bt, 0, none⟩)] trivial (enters_of Tryd.func28 (by kernel_rfl) rfl) _ _ (by unfold maxLen; omega) (by omega) w (lines_gives 4 (by omega) Bt s hs w hBt hm)).mono ?_
  rintro e w' ⟨v, ss, rfl, rfl, hrow, _, hb⟩
  exact ⟨v, rfl, hrow, hb⟩

end Go.Proofs.YtgomahmmgogecaaDoor
