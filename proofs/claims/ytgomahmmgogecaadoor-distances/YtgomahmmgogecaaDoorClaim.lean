/-
  Distances: the row, and the card.
-/
import Derived.Test.YtgomahmmgogecaaDoorCards
import Derived.Test.YtgomahmmgogecaaDoorTie
import Derived.Test.YtgomahmmgogecaaDoorLaw
import Derived.ProofKit
import Derived.OpenShut
import Derived.ChangeOld
import Derived.Deep.Slices
import Derived.Deep.DeepHandedRow
import Derived.LaidMore
import Derived.Stop.Joined
import Derived.SevenTiedAt
namespace Go.Proofs.YtgomahmmgogecaaDoor.distances
open Go.ChangeShapes Go.WideShapes Go.ChangeAt Go.RowKit

theorem own : ownKnob Tryd.prog.godebug = none := by kernel_rfl
theorem laidOut : laidOutB Tryd.prog = true := by kernel_rfl
theorem cellsOp : Tryd.prog.cellsOf 26 = 5 := by kernel_rfl
theorem cellsInt : Tryd.prog.cellsOf 3 = 1 := by kernel_rfl
theorem cellsStr : Tryd.prog.cellsOf 9 = 1 := by kernel_rfl
theorem bytesOp : Tryd.prog.bytesOf 26 = 56 := by kernel_rfl
theorem fieldsOp : ((Tryd.prog.underlying 26).map fun u => match u with | .struct fs => fs.toList.map (fun f => (f.type, f.offset)) | _ => []) = some [(3, 0), (3, 1), (3, 2), (9, 3), (9, 4)] := by kernel_rfl

theorem list5 {α : Type} : ∀ {l : List α}, l.length = 5 → ∃ a b c d e, l = [a, b, c, d, e]
  | [a, b, c, d, e], _ => ⟨a, b, c, d, e, rfl⟩

/-- One step of a script, read as data: five cells of its kinds. -/
theorem open_op {H : Type} {enc : TypeId × Value → H} {w : World} {base : Nat} {spare : Nat → Bool} {held : Bool} {fuel : Nat} {cs : List Value} {x : DataW H × List MemPlace}
    (h : DataW.trod enc Tryd.prog w base spare held fuel 26 cs = some x) : ∃ (k a u : Int) (s t : ByteArray), cs = [.int .i64 k, .int .i64 a, .int .i64 u, .string s, .string t] := by
  have hF := fieldsOp
  cases hu : Tryd.prog.underlying 26 with
  | none => rw [hu] at hF; simp at hF
  | some u =>
    rw [hu] at hF
    cases u with
    | struct fs =>
      simp only [Option.map_some, Option.some.injEq] at hF
      obtain ⟨xs, n, rfl, rfl, hl, hxs, hel⟩ := DataW.trod_struct hu h
      rw [cellsOp] at hl
      obtain ⟨fl⟩ := fs
      have hlen : fl.length = 5 := by have := congrArg List.length hF; simpa using this
      obtain ⟨f0, f1, f2, f3, f4, rfl⟩ := list5 hlen
      simp only [List.map_cons, List.map_nil, List.cons.injEq, Prod.mk.injEq] at hF
      obtain ⟨⟨t0, o0⟩, ⟨t1, o1⟩, ⟨t2, o2⟩, ⟨t3, o3⟩, ⟨t4, o4⟩, _⟩ := hF
      obtain ⟨c0, c1, c2, c3, c4, rfl⟩ := list5 hl
      obtain ⟨x0, x1, x2, x3, x4, rfl⟩ := list5 (l := xs) hxs
      have e0 := hel 0 f0 rfl
      have e1 := hel 1 f1 rfl
      have e2 := hel 2 f2 rfl
      have e3 := hel 3 f3 rfl
      have e4 := hel 4 f4 rfl
      rw [t0, o0, cellsInt] at e0
      rw [t1, o1, cellsInt] at e1
      rw [t2, o2, cellsInt] at e2
      rw [t3, o3, cellsStr] at e3
      rw [t4, o4, cellsStr] at e4
      obtain ⟨k, q0, _, _⟩ := DataW.trod_int Tryd.underlying3 e0
      obtain ⟨a, q1, _, _⟩ := DataW.trod_int Tryd.underlying3 e1
      obtain ⟨u, q2, _, _⟩ := DataW.trod_int Tryd.underlying3 e2
      obtain ⟨s, q3, _⟩ := DataW.trod_string Tryd.underlying9 e3
      obtain ⟨t, q4, _⟩ := DataW.trod_string Tryd.underlying9 e4
      simp at q0 q1 q2 q3 q4
      exact ⟨k, a, u, s, t, by rw [q0, q1, q2, q3, q4]⟩
    | _ => simp at hF

theorem cells_get {w : World} {base : Nat} {a : Addr} {n : Nat} {cs : List Value} (h : w.cells? base a n = some cs) (j : Nat) (hj : j < n) : w.cell? (a.add j) = cs[j]? := by
  unfold World.cells? at h
  split at h
  · exact mapM_some_get h j j (by simp [hj])
  · cases h

set_option maxRecDepth 100000 in
/-- A script, read as data: its steps lie in memory. -/
theorem open_script {H : Type} {enc : TypeId × Value → H} {w : World} {v : Value} {d : DataW H} {p : List MemPlace} {a : Option Addr} {len cap : Nat} (hv : v = .slice a len cap)
    (h : DataW.Trod enc Tryd.prog w 0 (fun _ => true) true 22 v d p) : OpsAt w a len ∧ (d = .nil ∨ ∃ elems spare, d = .slice elems spare ∧ len ≤ elems.length) := by
  subst hv
  obtain ⟨fuel, hf⟩ := h
  rcases Deep.open_slice Tryd.underlying22 hf with ⟨hcs, hx⟩ | ⟨ad, l, c, m, n, D, Pl, hcs, _, hl, hm, hmm, hx, hel⟩
  · simp [Value.cells] at hcs
    obtain ⟨rfl, rfl, rfl⟩ := hcs
    simp only [Prod.mk.injEq] at hx
    exact ⟨fun i hi => by omega, .inl hx.1⟩
  · simp [Value.cells] at hcs
    obtain ⟨rfl, rfl, rfl⟩ := hcs
    simp only [Prod.mk.injEq] at hx
    refine ⟨fun i hi => ?_, .inr ⟨_, _, hx.1, by simp⟩⟩
    have him : ∀ j, j < len → j < m := fun j hj => by rw [hmm]; simp; omega
    obtain ⟨b, off, spot⟩ := ad
    obtain ⟨cs0, hc0, ht0⟩ := hel 0 (him 0 (by omega))
    obtain ⟨k0, x0, u0, s0, t0, rfl⟩ := open_op ht0
    rw [cellsOp] at hc0
    have z0 := cells_get hc0 0 (by omega)
    have hspot : spot = none := by
      have := World.cell?_spot z0
      simpa [Addr.add] using this
    subst hspot
    obtain ⟨cs, hc, ht⟩ := hel i (him i hi)
    obtain ⟨k, x, u, s, t, rfl⟩ := open_op ht
    rw [cellsOp] at hc
    have hadd : ∀ j, ((⟨b, off, none⟩ : Addr).add (i * 5)).add j = ⟨b, off + i * 5 + j, none⟩ := fun j => by rw [add_plain, add_plain]
    have q0 := cells_get hc 0 (by omega)
    have q1 := cells_get hc 1 (by omega)
    have q2 := cells_get hc 2 (by omega)
    have q3 := cells_get hc 3 (by omega)
    have q4 := cells_get hc 4 (by omega)
    rw [hadd] at q0 q1 q2 q3 q4
    exact ⟨b, off, k, x, u, s, t, rfl, q0, q1, q2, q3, q4⟩

set_option maxRecDepth 100000 in
/-- WHAT THE WALK GIVES, for every script and every world. -/
theorem contract (H : Type) (enc : TypeId × Value → H) (W : World) (base : Nat) (args : Array Value) (ds gs : List (DataW H)) (before : List MemPlace)
    (hval : ∀ (j : Nat) t v, Tryd.f3.params[j]? = some t → args[j]? = some v → Value.okWide Tryd.prog W .any base t v)
    (hW : DataW.Whole enc Tryd.prog Tryd.f3.params.toList Rows.distancesSpec.vars false W args.toList ds gs before)
    (hsz : (DataW.weightsEach Tryd.prog (Tryd.f3.params.toList ++ []) (ds ++ gs)).all (· ≤ reachBytes) = true) :
    Calls Tryd.prog 3 args W fun e W' => ∃ v, e = .returned v ∧ Rows.distancesSpec.post enc Tryd.prog Tryd.f3 false true false false W args v W' := by
  have hW' := hW
  obtain ⟨p, q, hA0, hV, rfl, hfz, hnd⟩ := hW
  have hA : DataW.TrodAll enc Tryd.prog W 0 (fun _ => true) true Tryd.f3.params.toList args.toList ds p := hA0
  rw [Tryd.params3] at hA hval hsz
  obtain ⟨v0, vs0, d0, ds0, p0, q0, hargs, rfl, rfl, h0, r0⟩ := trodAll_cons hA
  obtain ⟨rfl, rfl, rfl⟩ := trodAll_nil r0
  obtain rfl : args = #[v0] := by cases args; simp_all
  obtain ⟨rfl, rfl⟩ := trodVars_none hV
  obtain ⟨a0, len0, cap0, rfl⟩ := okWide_slice Tryd.underlying22 (hval 0 22 v0 rfl rfl)
  have lt0 : ∀ x ∈ p0, x.block < W.heap.size := by obtain ⟨m, hm⟩ := h0; exact DataW.trod_lt m _ _ _ hm
  obtain ⟨hops, hd⟩ := open_script rfl h0
  have hlen : len0 ≤ 140737488355328 := by
    rcases hd with rfl | ⟨elems, spare, rfl, hle⟩
    · obtain ⟨fuel, hf⟩ := h0
      rcases Deep.open_slice Tryd.underlying22 hf with ⟨hcs, _⟩ | ⟨_, _, _, _, _, _, _, _, _, _, _, _, hx, _⟩
      · simp [Value.cells] at hcs; omega
      · simp at hx
    · have := sized_slice hsz (j := 0) (t := 22) (e := 26) rfl rfl Tryd.underlying22
      rw [bytesOp] at this
      have h47 := reachBytes_lt
      omega
  clear hA0
  refine (distances_any a0 len0 cap0 W hops hlen).mono fun e W' ⟨he, bel⟩ => ?_
  subst he
  exact ⟨_, rfl, _, _, _, [], _, [], hW', trodAll_mk1 (shut_bool Tryd.underlying4 _), (trodAll_cons_mk (Below.trod laidOut (by kernel_rfl) (of_decide_eq_true (by kernel_rfl)) h0 bel lt0) trodAll_mk0), rfl, bel.frame _, fun h => by cases h⟩

/-- The door's own heap meets the row's list. -/
theorem door_met (os : Os) (args : Array Value) : laidMetH Tryd.prog Rows.distancesRow.laid ((World.doorLaid Tryd.prog 24 os).forCall (fun _ _ => 0) ⟨#[], args, []⟩).memory :=
  laidMetH_of_parts3 (fuel := 8) (laidMet_of_run' 8 (by kernel_rfl) (by kernel_rfl)) (by kernel_rfl) (by kernel_rfl)

set_option maxRecDepth 100000 in
theorem lifted (os : Os) (started : os.Started) (H : Type) (enc : TypeId × Value → H) :
    ReturnsInHanded {} Tryd.checked os 3 .any (fun w args => (Rows.distancesSpec.pre enc Tryd.prog Tryd.f3 [] false w args ∧ laidMetH Tryd.prog Rows.distancesRow.laid w) ∧ sizedMet enc Tryd.prog Tryd.f3 (OpenSpec.ofChange Rows.distancesSpec) false w args)
      (Rows.distancesSpec.post enc Tryd.prog Tryd.f3 false true false false) := by
  refine returnsInHanded_of_change_and (C := Tryd.checked) (X := fun w _ => laidMetH Tryd.prog Rows.distancesRow.laid w) (fun _ _ _ hh h => h.of_heap hh) own started (by kernel_rfl) Tryd.func3
    (ChangeSpec.witness_shaped (enc := enc) (C := Tryd.checked) (os := os) (X := fun w _ => laidMetH Tryd.prog Rows.distancesRow.laid w) false (World.doorLaid Tryd.prog 24 os) #[.slice none 0 0] 8 rfl (World.shaped_of_RefB (by kernel_rfl) (by kernel_rfl)) (by kernel_rfl) (by kernel_rfl) (by kernel_rfl) (door_met os _)) ?_
  intro W base args ds gs before hval hW _ hsz _ _
  exact contract H enc W base args ds gs before hval hW hsz

theorem said : Rows.DistancesSaid :=
  OpenClaim.holds_of_wide 3 Tryd.f3 rfl rfl rfl rfl rfl rfl rfl ⟨rfl, rfl, rfl, rfl, rfl⟩ rfl rfl rfl rfl rfl (by kernel_rfl) Tryd.func3 (by kernel_rfl)
    (of_decide_eq_true (by kernel_rfl)) (by unfold Func.isWrapper; first | (rw [if_pos (by decide +kernel)]; kernel_rfl) | (rw [if_neg (by decide +kernel)]; exact ⟨rfl, rfl⟩))
    (fun os started H enc _ => lifted os started H enc)

/-- No parameter wants a stand-in; the program's own looks are off. -/
theorem plain (f : FuncId) (fn : Func) (hf : Tryd.pinned.checked.prog.funcNamed "tailor/tailorlaw.Distances" = some f) (hfn : Tryd.pinned.checked.prog.funcs[f]? = some fn) :
    false = Tryd.pinned.checked.prog.looks [] ∧ ∀ (j : Nat) t, fn.params[j]? = some t → Tryd.pinned.checked.prog.wantsStandIn t = false := by
  obtain rfl : f = 3 := Option.some.inj ((show Tryd.prog.funcNamed "tailor/tailorlaw.Distances" = some 3 by kernel_rfl).symm.trans hf) |>.symm
  obtain rfl : fn = Tryd.f3 := (Option.some.inj (Tryd.func3.symm.trans hfn)).symm
  refine ⟨by kernel_rfl, fun j t ht => ?_⟩
  rw [Tryd.params3] at ht
  obtain rfl : t = 22 := by simpa using Array.mem_of_getElem? ht
  exact (show Tryd.prog.wantsStandIn 22 = false by kernel_rfl)

/-- THE CARD. -/
theorem card : Rows.DistancesCardSaid :=
  Claim7.holds_tied_plain_at .later [] _ _ _ _ said (fun _ h => by cases h) (by kernel_rfl) (fun _ h => by cases h) distances_row_tie rfl ⟨rfl, rfl⟩ (by kernel_rfl) rfl plain (by kernel_rfl)

end Go.Proofs.YtgomahmmgogecaaDoor.distances
namespace Go.Proofs.YtgomahmmgogecaaDoor
/-- P3: how far any two texts are apart: every script. -/
theorem distances_card : Rows.DistancesCardSaid := distances.card
#print axioms distances_card
end Go.Proofs.YtgomahmmgogecaaDoor
