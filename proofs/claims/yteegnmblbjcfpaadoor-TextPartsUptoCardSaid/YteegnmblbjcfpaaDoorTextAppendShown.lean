/-
  text.appendShown: what is put behind for one thing that is taken.
-/
import Derived.Deep.RegionLaw
import Derived.Laws.BitsAllLaws
import Derived.Test.YteegnmblbjcfpaaDoorShelfR
import Derived.Test.YteegnmblbjcfpaaDoorTextRefShow
set_option linter.unusedVariables false
namespace Go.Proofs.YteegnmblbjcfpaaDoor.T
open Go Go.Lib Go.RowKit Go.Shelf

/-- what appendShown puts behind -/
def apL (c : Nat) (r : Int) : List UInt8 := if hexR r then (hexS c).data.toList else if r = 92 then [92, 92] else encodeRune r
/-- an append within a region that draws its order, its run known -/
theorem step_append_run {P : Program} {ops : Array Oper} {o : Oper} {a : Act} {w : World} {K : Act → World → Prop} {Q : Exit → Act → World → Prop} {E : Prop}
    (hg : o.guard = none) (s x : Operand) (t : TypeId) (hop : o.op = Op.call { callee := Callee.builtin Builtin.append, args := #[s, x], argTypes := #[t, t] })
    (v u v' : Value) (w' : World) (hs : a.eval s = v) (hx : a.eval x = u) (hrun : (Builtin.append_ #[t, t] o.type #[v, u]).run P w = .ok v' w') (hK : K (a.put o.dst v') w') :
    if Region.wanted o (yielded ops a.tmps) = true then Oper.wp P o a w K Q else E := by
  have hw : Region.wanted o (yielded ops a.tmps) = true := by simp [Region.wanted, hg]
  rw [if_pos hw]
  unfold Oper.wp
  simp [execOp, hop, resolve, invoke, builtin, hs, hx, hrun, Result.andThen]
  exact hK
theorem cell4_new (W : World) (a b c d : Value) (t : TypeId) : ∀ j u, [a, b, c, d][j]? = some u → (W.alloc (.cells #[a, b, c, d] t)).drew.cell? ((⟨W.heap.size, 0, none⟩ : Addr).add j) = some u := by
  intro j u hj
  have : ((⟨W.heap.size, 0, none⟩ : Addr).add j) = ⟨W.heap.size, j, none⟩ := by unfold Addr.add; split <;> simp_all
  rw [this]
  show (W.alloc (.cells #[a, b, c, d] t)).cell? _ = _
  rw [World.cell?_alloc_at _ _ _ _ rfl]
  simpa using hj
theorem cell2_new (W : World) (a b : Value) (t : TypeId) : ∀ j u, [a, b][j]? = some u → (W.alloc (.cells #[a, b] t)).cell? ((⟨W.heap.size, 0, none⟩ : Addr).add j) = some u := by
  intro j u hj
  have : ((⟨W.heap.size, 0, none⟩ : Addr).add j) = ⟨W.heap.size, j, none⟩ := by unfold Addr.add; split <;> simp_all
  rw [this, World.cell?_alloc_at _ _ _ _ rfl]
  simpa using hj
theorem grown_of_alloc' {w w' : World} {o : Obj} {row : Option Nat} (h : (w.alloc o).grownBy w' row) : w.grownBy w' row :=
  ⟨h.os, h.tape, h.output, Nat.le_trans (by simp) h.size, fun k hk hne => (h.block k (by simp; omega) hne).trans (Below.heap_alloc w o k hk)⟩
theorem grown_of_alloc {w w' : World} {o : Obj} {row : Option Nat} (h : (w.alloc o).drew.grownBy w' row) : w.grownBy w' row := grown_of_alloc' (o := o) ⟨h.os, h.tape, h.output, h.size, h.block⟩
theorem hexd_lt (n : Nat) (h : n < 16) : hexd n < 256 := by unfold hexd; split <;> omega
theorem hex_cells (c : Nat) (hc : c < 256) : byteCells (hexS c).data.toList = [.int .u8 92, .int .u8 120, .int .u8 (hexd (c / 16)), .int .u8 (hexd (c % 16))] := by
  have h1 := hexd_lt (c / 16) (by omega)
  have h2 := hexd_lt (c % 16) (by omega)
  unfold hexS byteCells
  rw [strOfNums_data]
  simp [UInt8.toNat_ofNat']
  omega
def ApPost (B : Nat) (w : World) (v : Value) (l : List UInt8) (e : Ending) (w' : World) : Prop := ∃ v', e = .returned v' ∧ BytesRow B w' v' l ∧ w.grownBy w' v.ownBlock

set_option maxRecDepth 100000 in
set_option maxHeartbeats 2000000 in
theorem ap_hex (B : Nat) (w : World) (v : Value) (l : List UInt8) (c : Nat) (r : Int) (hc : c < 256) (hr : -1 ≤ r) (hh : hexR r = true) (hl : l.length ≤ 268435456) (hB : B ≤ w.heap.size) (h : BytesRow B w v l) :
    Calls Tryd.prog 35 #[v, .int .u8 c, .int .i32 r] w (ApPost B w v (l ++ apL c r)) := by
  have b0 : (c : Int) < 256 := by omega
  have d1 : ∀ W : World, (Instr.index 9 (.string ⟨#[48, 49, 50, 51, 52, 53, 54, 55, 56, 57, 97, 98, 99, 100, 101, 102]⟩) (.int .u8 ((c : Int) / 16))).run Tryd.prog W = .ok (.int .u8 (hexd (c / 16))) W := fun W => digit_at (c / 16) (by omega) W
  have d2 : ∀ W : World, (Instr.index 9 (.string ⟨#[48, 49, 50, 51, 52, 53, 54, 55, 56, 57, 97, 98, 99, 100, 101, 102]⟩) (.int .u8 ((c : Int) % 16))).run Tryd.prog W = .ok (.int .u8 (hexd (c % 16))) W := fun W => digit_at (c % 16) (by omega) W
  have hand : bits BinOp.and IntKind.u8 (c : Int) 15 = (c : Int) % 16 := by
    have h := u8_and_nat c 15 hc (by omega)
    rw [show ((15 : Nat) : Int) = 15 from rfl] at h
    rw [h, show (15 : Nat) = 2 ^ 4 - 1 from rfl, Nat.and_two_pow_sub_one_eq_mod]; rfl
  obtain ⟨i0, hi, hz0, hz1, hz2⟩ := info_parts infoByte
  obtain ⟨v', w', hrun, hown', hgrow, _⟩ := run_append_own (P := Tryd.prog) (w.alloc (.cells #[.int .u8 92, .int .u8 120, .int .u8 (hexd (c / 16)), .int .u8 (hexd (c % 16))] 5)).drew B 54 54 5 i0 (.int .u8 0) 1 1 Tryd.underlying54 hi hz0 hz1 hz2 rfl (by decide) v l.length (byteCells l) (World.ownsRow.alloc h _) ⟨w.heap.size, 0, none⟩ 4 4 [.int .u8 92, .int .u8 120, .int .u8 (hexd (c / 16)), .int .u8 (hexd (c % 16))] rfl
    (cell4_new w _ _ _ _ _) (by simp [Value.oneCell']) (by unfold maxLen; omega) (by omega) (by simp; omega)
  go_enter Tryd.func35, Tryd.ntmps35
  go_wp2_with (go_at_call 50; refine (hex_yes r hr hh _).mono ?_; rintro e w' ⟨rfl, rfl⟩)
  go_region_law (refine step_append_run rfl (.tmp 10) (.tmp 17) 54 rfl v (.slice (some ⟨w.heap.size, 0, none⟩) 4 4) v' w' (by simp [Act.eval]) (by simp [Act.eval]) hrun ?_)
  all_goals go_wp2
  all_goals go_ret
  all_goals
    refine ⟨v', rfl, ?_, grown_of_alloc hgrow⟩
    unfold BytesRow
    rw [byteCells_append, List.length_append]
    have e : byteCells (apL c r) = [.int .u8 92, .int .u8 120, .int .u8 (hexd (c / 16)), .int .u8 (hexd (c % 16))] := by
      unfold apL; rw [if_pos hh]; exact hex_cells c hc
    have e2 : (apL c r).length = 4 := by rw [← byteCells_length, e]; rfl
    rw [e, e2]
    exact hown'

set_option maxRecDepth 100000 in
set_option maxHeartbeats 2000000 in
theorem ap_esc (B : Nat) (w : World) (v : Value) (l : List UInt8) (c : Nat) (hl : l.length ≤ 268435456) (hB : B ≤ w.heap.size) (h : BytesRow B w v l) :
    Calls Tryd.prog 35 #[v, .int .u8 c, .int .i32 92] w (ApPost B w v (l ++ apL c 92)) := by
  obtain ⟨i0, hi, hz0, hz1, hz2⟩ := info_parts infoByte
  have h' : w.ownsRow B 5 1 v l.length (byteCells l) := h
  go_enter Tryd.func35, Tryd.ntmps35
  go_wp2_with (first | (go_at_call 50; refine (hex_no 92 (by omega) rfl _).mono ?_; rintro e w' ⟨rfl, rfl⟩) | (at_builtin; refine wpList_append_own _ rfl _ _ 54 rfl B 5 i0 (.int .u8 0) 1 1 Tryd.underlying54 hi hz0 hz1 hz2 rfl (by decide) _ _ _ rfl (h'.alloc _) ⟨w.heap.size, 0, none⟩ 2 2 [.int .u8 92, .int .u8 92] rfl rfl (cell2_new _ _ _ _) (by simp [Value.oneCell']) (by unfold maxLen; omega) (by omega) (by simp; omega) ?_; intro v' w1 hown' hgrow _))
  go_ret
  refine ⟨v', rfl, ?_, grown_of_alloc' hgrow⟩
  unfold BytesRow
  rw [byteCells_append, List.length_append]
  exact hown'
set_option maxRecDepth 100000 in
set_option maxHeartbeats 2000000 in
theorem ap_rune (B : Nat) (w : World) (v : Value) (l : List UInt8) (c : Nat) (r : Int) (hr : -1 ≤ r) (hr2 : r ≤ 1114111) (hh : hexR r = false) (h9 : ¬ r = 92) (hl : l.length ≤ 268435456) (hB : B ≤ w.heap.size) (h : BytesRow B w v l) :
    Calls Tryd.prog 35 #[v, .int .u8 c, .int .i32 r] w (ApPost B w v (l ++ apL c r)) := by
  have h' : w.ownsRow B 5 1 v l.length (byteCells l) := h
  have b9 : (r == 92) = false := by rw [beq_eq_false_iff_ne]; exact h9
  go_enter Tryd.func35, Tryd.ntmps35
  go_wp2_with (first | (go_at_call 50; refine (hex_no r hr hh _).mono ?_; rintro e w' ⟨rfl, rfl⟩) | (go_at_call 51; refine (Tryd.utf8_AppendRune_plain B v l.length (byteCells l) r (by omega) (by omega) _ h' (by omega) hB).mono ?_; rintro e w' ⟨v', rfl, hown', o, hgrow⟩))
  go_ret
  refine ⟨v', rfl, ?_, grown_of_alloc' hgrow⟩
  unfold BytesRow
  rw [byteCells_append, List.length_append]
  have e : byteCells (apL c r) = runeCells r := by
    unfold apL; rw [hh]; simp only [Bool.false_eq_true, if_false]; rw [if_neg h9]; exact byteCells_encodeRune r
  rw [e, show (apL c r).length = (runeCells r).length from by rw [← e, byteCells_length]]
  exact hown'
theorem appendShown_in (B : Nat) (w : World) (v : Value) (l : List UInt8) (c : Nat) (r : Int) (hc : c < 256) (hr : -1 ≤ r) (hr2 : r ≤ 1114111) (hl : l.length ≤ 268435456) (hB : B ≤ w.heap.size) (h : BytesRow B w v l) :
    Calls Tryd.prog 35 #[v, .int .u8 c, .int .i32 r] w (ApPost B w v (l ++ apL c r)) := by
  cases hh : hexR r with
  | true => exact ap_hex B w v l c r hc hr hh hl hB h
  | false =>
    by_cases h9 : r = 92
    · subst h9; exact ap_esc B w v l c hl hB h
    · exact ap_rune B w v l c r hr hr2 hh h9 hl hB h
end Go.Proofs.YteegnmblbjcfpaaDoor.T
