/-
  tailorref.Lines: the document's lines.
-/
import Derived.WalkKit
import Derived.WalkSmall
import Derived.WalkSpells
import Derived.Laws.AppendOwn
import Derived.Sort.EncStr
import Derived.Test.YtgomahmmgogecaaDoorProg
import Derived.Test.YtgomahmmgogecaaDoorLineMath
namespace Go.Proofs.YtgomahmmgogecaaDoor
open Go.RowKit Go.Sort

def lineCells (x : List UInt8 × Bool) : List Value := [encStr x.1, .bool x.2]
def LinesAt (w : World) (base : Nat) (v : Value) (l : List (List UInt8 × Bool)) : Prop := w.ownsRow base 70 2 v l.length (l.flatMap lineCells)

theorem info_line : (Tryd.prog.info? 70).map (fun i => (i.zero, i.size, i.bytes)) = some (some (.agg #[.string ⟨#[]⟩, .bool false]), 2, 24) := by kernel_rfl

/-- 'append(l, Line{x, b})': the line in a new block, then behind the others. -/
theorem append_line (W w0 : World) (base : Nat) (v : Value) (l : List (List UInt8 × Bool)) (x : List UInt8 × Bool) (h : LinesAt W base v l) (hl : l.length ≤ 1000) (hb : Below base w0 W) (hB : base ≤ W.heap.size) :
    ∃ v' W1, (Builtin.append_ #[47, 47] 47 #[v, .slice (some ⟨W.heap.size, 0, none⟩) 1 1]).run Tryd.prog (W.alloc (.cells #[encStr x.1, .bool x.2] 70)) = .ok v' W1 ∧
      LinesAt W1 base v' (l ++ [x]) ∧ Below base w0 W1 ∧ base ≤ W1.heap.size := by
  obtain ⟨i0, hi, hz0, hz1, hz2⟩ := info_parts info_line
  have hown : (W.alloc (.cells #[encStr x.1, .bool x.2] 70)).ownsRow base 70 2 v l.length (l.flatMap lineCells) := h.alloc _
  obtain ⟨v', W1, hr, ho, hg, _⟩ := run_append_own (P := Tryd.prog) (W.alloc (.cells #[encStr x.1, .bool x.2] 70)) base 47 47 70 i0 (.agg #[.string ⟨#[]⟩, .bool false]) 2 24 Tryd.underlying47 hi hz0 hz1 hz2 rfl (by decide)
    v l.length (l.flatMap lineCells) hown ⟨W.heap.size, 0, none⟩ 1 1 [encStr x.1, .bool x.2] rfl (cell_two_new _ _ _ _) (by simp [Value.oneCell']) (by unfold maxLen; omega) (by omega) (by simp; omega)
  refine ⟨v', W1, hr, ?_, (hb.alloc hB _).grown hg (by simp; omega) (fun k e => (hown.lt k e).1), by have := hg.size; simp at this; omega⟩
  unfold LinesAt
  rw [List.length_append, List.flatMap_append]
  simpa [lineCells] using ho

theorem wpList_append_line {ops : Array Oper} {rest : List Oper} {o : Oper} {a : Act} {Q : Exit → Act → World → Prop} (hgd : o.guard = none) (s x : Operand)
    (ho : o.op = .call { callee := .builtin .append, args := #[s, x], argTypes := #[47, 47] }) (hty : o.type = 47)
    (W w0 : World) (base : Nat) (v : Value) (l : List (List UInt8 × Bool)) (y : List UInt8 × Bool) (hs : a.eval s = v) (hx : a.eval x = .slice (some ⟨W.heap.size, 0, none⟩) 1 1)
    (h : LinesAt W base v l) (hl : l.length ≤ 1000) (hb : Below base w0 W) (hB : base ≤ W.heap.size)
    (K : ∀ v' W1, LinesAt W1 base v' (l ++ [y]) → Below base w0 W1 → base ≤ W1.heap.size → wpList Tryd.prog ops Q rest (a.put o.dst v') W1) :
    wpList Tryd.prog ops Q (o :: rest) a (W.alloc (.cells #[encStr y.1, .bool y.2] 70)) := by
  refine wpList_plain hgd fun K' hK => ?_
  obtain ⟨v', W1, hr, h1, h2, h3⟩ := append_line W w0 base v l y h hl hb hB
  unfold Oper.wp execOp
  simp only [ho, hty, resolve, invoke, builtin, Sem.run_bind, Sem.run_pure, Result.andThen_ok, List.map_toArray, List.map_cons, List.map_nil, hs, hx, hr]
  exact hK _ _ (K v' W1 h1 h2 h3)

theorem ext_mid (s : List UInt8) (i j : Nat) : ByteArray.extract ⟨s.toArray⟩ i j = ⟨((s.take j).drop i).toArray⟩ := by
  apply ByteArray.ext
  simp [List.drop_take]

set_option maxRecDepth 100000 in
set_option maxHeartbeats 400000 in
theorem refLines_any (s : List UInt8) (hs : s.length ≤ 300) (w : World) :
    Calls Tryd.prog 18 #[encStr s] w fun e w' => ∃ v, e = .returned v ∧ LinesAt w' w.heap.size v (Ed.rl s) ∧ Below w.heap.size w w' := by
  go_enter Tryd.func18, Tryd.ntmps18
  go_wp2_with fail
  go_loopw [3, 4, 5] (fun v f i wr => ∃ (k frm : Nat) (l : List (List UInt8 × Bool)), i = .int .i64 k ∧ f = .int .i64 frm ∧ frm ≤ k ∧ k ≤ s.length ∧ l.length ≤ k ∧ Hid (l ++ Ed.rlGo ((s.take k).drop frm) (s.drop k) = Ed.rl s) ∧
      LinesAt wr w.heap.size v l ∧ Below w.heap.size w wr ∧ w.heap.size ≤ wr.heap.size) (fun _ _ i _ => s.length - (intOf i).toNat)
  case atStart => exact ⟨0, 0, [], rfl, rfl, by omega, by omega, by simp, rfl, World.ownsRow_nil _ _ _ _, Below.refl _ _, Nat.le_refl _⟩
  case round =>
    obtain ⟨k, frm, l, rfl, rfl, h1, h2, h3, HL, hl, hb, hsz⟩ := hrel
    by_cases hlt : k < s.length
    · have e1 := ext_mid s frm k
      obtain ⟨cur, hcur⟩ : ∃ cur, (s.take k).drop frm = cur := ⟨_, rfl⟩
      rw [hcur] at e1
      have HC : Hid ((s.take k).drop frm = cur) := hcur
      clear hcur
      by_cases hc : s[k] = 10
      · have hq : (((((⟨s.toArray⟩ : ByteArray)[k]'(show k < s.toArray.size by simpa using hlt)).toNat : Int)) == 10) = true := by
          rw [beq_iff_eq]; show ((s[k].toNat : Int)) = 10; rw [hc]; rfl
        have HS : Hid (Ed.rlGo ((s.take k).drop frm) (s.drop k) = ((s.take k).drop frm, false) :: Ed.rlGo ((s.take (k + 1)).drop (k + 1)) (s.drop (k + 1))) := Ed.rl_step_nl s k frm hlt hc
        go_wp2_with (at_builtin; refine wpList_append_line rfl (.tmp 16) (.tmp 22) rfl rfl wr w w.heap.size _ l (cur, false) rfl rfl hl (by omega) hb hsz ?_; intro v' W1 hl' hb' hsz')
        go_roundw
        case rel => exact ⟨k + 1, k + 1, l ++ [(cur, false)], by go_num, by go_num, by omega, by omega, by simp; omega, by
          have := HL.out; rw [HS.out, HC.out] at this
          show _ = _
          simpa using this, hl', hb', hsz'⟩
        case measure => simp [intOf]; omega
      · have hq : (((((⟨s.toArray⟩ : ByteArray)[k]'(show k < s.toArray.size by simpa using hlt)).toNat : Int)) == 10) = false := by
          rw [beq_eq_false_iff_ne]; show ((s[k].toNat : Int)) ≠ 10
          intro e; apply hc; apply UInt8.toNat_inj.1; show s[k].toNat = 10; omega
        have HS : Hid (Ed.rlGo ((s.take k).drop frm) (s.drop k) = Ed.rlGo ((s.take (k + 1)).drop frm) (s.drop (k + 1))) := Ed.rl_step_no s k frm hlt h1 hc
        go_wp2
        go_roundw
        case rel => exact ⟨k + 1, frm, l, by go_num, rfl, by omega, by omega, by omega, by
          have := HL.out; rw [HS.out] at this
          exact this, hl, hb, hsz⟩
        case measure => simp [intOf]; omega
    · obtain rfl : k = s.length := by omega
      have HS : Hid (Ed.rlGo ((s.take s.length).drop frm) (s.drop s.length) = if frm < s.length then [(s.drop frm, true)] else []) := Ed.rl_end s frm
      by_cases hfl : frm < s.length
      · have e1 := ext_mid s frm s.length
        rw [List.take_length] at e1
        obtain ⟨cur, hcur⟩ : ∃ cur, s.drop frm = cur := ⟨_, rfl⟩
        rw [hcur] at e1
        have HC : Hid (s.drop frm = cur) := hcur
        clear hcur hlt
        go_wp2_with (at_builtin; refine wpList_append_line rfl (.tmp 30) (.tmp 35) rfl rfl wr w w.heap.size _ l (cur, true) rfl rfl hl (by omega) hb hsz ?_; intro v' W1 hl' hb' hsz')
        go_ret
        refine ⟨v', rfl, ?_, hb'⟩
        have := HL.out
        rw [HS.out, if_pos hfl, HC.out] at this
        rw [← this]; exact hl'
      · clear hlt
        go_wp2
        go_ret
        refine ⟨_, rfl, ?_, hb⟩
        have := HL.out
        rw [HS.out, if_neg hfl, List.append_nil] at this
        rw [← this]; exact hl

end Go.Proofs.YtgomahmmgogecaaDoor
