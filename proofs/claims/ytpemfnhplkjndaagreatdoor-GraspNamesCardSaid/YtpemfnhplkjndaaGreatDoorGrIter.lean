/-
  grasp.those: the iterator, over what is told here of errors.
-/
import Derived.Test.YtpemfnhplkjndaaGreatDoorGrRange
set_option linter.unusedVariables false
namespace Go.Proofs.YtpemfnhplkjndaaGreatDoor.T
open Go Go.Lib Go.RowKit Go.Shelf
attribute [local go_sem] run_store_float
attribute [local go_sem] Oper.semAt_some

theorem asCode_wrap (v : Value) (W : World) : (Instr.typeAssert (.iface 137 v) 23 72 true).run Tryz.prog W = .ok (.tuple #[.int .i16 0, .bool false]) W := by kernel_rfl
theorem asCode_veil (v : Value) (W : World) : (Instr.typeAssert (.iface 190 v) 23 72 true).run Tryz.prog W = .ok (.tuple #[.int .i16 0, .bool false]) W := by kernel_rfl
theorem asCode_code (v : Value) (W : World) : (Instr.typeAssert (.iface 72 v) 23 72 true).run Tryz.prog W = .ok (.tuple #[v, .bool true]) W := by kernel_rfl
set_option maxRecDepth 100000 in
set_option maxHeartbeats 1000000 in
theorem iter_wrap (n : Nat) (hn : 1 ≤ n) (bx g : Nat) (u : Value) (c : Int) (w : World) (hbx : w.cell? ⟨bx, 0, none⟩ = some (.slice (some ⟨g, 0, none⟩) 2 2)) (hg : w.heap[g]? = some (.cells #[.iface 137 u, .iface 72 (.int .i16 c)] 23 (0, 0))) :
    SeqStopsK Fence.wide n Tryz.prog 62 #[.pointer (some ⟨bx, 0, none⟩)] (fun _ : Unit => #[.int .i64 1, .int .i16 c]) (fun _ _ => True) (fun xs => xs = [()]) (fun xs => xs = [()]) 1 w := fun l J Jx W hW hJ hJx hY h0 => by
  have hc := (hW.cell (p := ⟨bx, 0, none⟩) (World.block_lt_of_cell? _ _ hbx)).trans hbx
  have hgW := (hW.block g (blk_lt hg)).trans hg
  have d0 := cells_of hgW 0
  have d1 := cells_of hgW 1
  simp only [List.getElem?_toArray, List.getElem?_cons_zero, List.getElem?_cons_succ] at d0 d1
  have A1 := asCode_wrap
  have A2 := asCode_code
  refine callsIn_of_wp Tryz.func62 rfl trivial ?_ rfl
  simp only [Tryz.ntmps62, List.size_toArray, List.length_cons, List.length_nil, Nat.reduceAdd, Nat.reduceSub, Array.replicate_succ, Array.replicate_zero, List.push_toArray, List.append_toArray, List.nil_append, List.cons_append]
  gi_wp2
  gi_loopw [9] (fun i wr => ∃ k : Nat, i = .int .i64 k ∧ ((k = 0 ∧ wr = W) ∨ (k = 1 ∧ wr = W) ∨ (k = 2 ∧ J [()] wr))) (fun i _ => 2 - (RowKit.intOf i).toNat)
  case atStart => exact ⟨0, rfl, .inl ⟨rfl, rfl⟩⟩
  case round =>
    obtain ⟨k, rfl, h⟩ := hrel
    rcases h with ⟨rfl, rfl⟩ | ⟨rfl, rfl⟩ | ⟨rfl, hJ2⟩
    · gi_wp2
      refine ⟨fun f hf => (by cases hf), ?_⟩
      gi_wp2
      go_roundw
      case rel => exact ⟨1, rfl, .inr (.inl ⟨rfl, trivial⟩)⟩
      case measure => simp [RowKit.intOf]
    · obtain ⟨fn, tmps, assign, body, hy, hR⟩ := hY [] () wr h0 (by simp)
      gi_wp2
      refine hR.mono ?_
      rintro e W3 (⟨rfl, hJ3, _⟩ | ⟨rfl, hJ3⟩)
      · gi_wp2
        go_roundw
        case rel => exact ⟨2, rfl, .inr (.inr ⟨rfl, hJ3⟩)⟩
        case measure => simp [RowKit.intOf]
      · gi_wp2
        refine bodyPost_ret (results_none rfl _ _ _) rfl ?_
        exact ⟨⟨_, rfl⟩, .inr ⟨[()], rfl, hJ3⟩⟩
    · gi_wp2
      go_end0
      exact ⟨⟨_, rfl⟩, .inl ⟨[()], rfl, hJ2⟩⟩
set_option maxRecDepth 100000 in
set_option maxHeartbeats 1000000 in
theorem iter_veil {α : Type} (encs : α → Array Value) (n : Nat) (hn : 1 ≤ n) (bx g : Nat) (u : Value) (w : World) (hbx : w.cell? ⟨bx, 0, none⟩ = some (.slice (some ⟨g, 0, none⟩) 1 1)) (hg : w.heap[g]? = some (.cells #[.iface 190 u] 23 (0, 0))) :
    SeqStopsK Fence.wide n Tryz.prog 62 #[.pointer (some ⟨bx, 0, none⟩)] encs (fun _ _ => True) (fun xs => xs = []) (fun _ => False) 0 w := fun l J Jx W hW hJ hJx hY h0 => by
  have hc := (hW.cell (p := ⟨bx, 0, none⟩) (World.block_lt_of_cell? _ _ hbx)).trans hbx
  have hgW := (hW.block g (blk_lt hg)).trans hg
  have d0 := cells_of hgW 0
  simp only [List.getElem?_toArray, List.getElem?_cons_zero] at d0
  have A1 := asCode_veil
  refine callsIn_of_wp Tryz.func62 rfl trivial ?_ rfl
  simp only [Tryz.ntmps62, List.size_toArray, List.length_cons, List.length_nil, Nat.reduceAdd, Nat.reduceSub, Array.replicate_succ, Array.replicate_zero, List.push_toArray, List.append_toArray, List.nil_append, List.cons_append]
  gi_wp2
  gi_loopw [9] (fun i wr => ∃ k : Nat, k ≤ 1 ∧ i = .int .i64 k ∧ wr = W) (fun i _ => 1 - (RowKit.intOf i).toNat)
  case atStart => exact ⟨0, by omega, rfl, rfl⟩
  case round =>
    obtain ⟨k, hk, rfl, rfl⟩ := hrel
    by_cases h : k = 0
    · subst h
      gi_wp2
      refine ⟨fun f hf => (by cases hf), ?_⟩
      gi_wp2
      go_roundw
      case rel => exact ⟨1, by omega, rfl, trivial⟩
      case measure => simp [RowKit.intOf]
    · obtain rfl : k = 1 := by omega
      gi_wp2
      go_end0
      exact ⟨⟨_, rfl⟩, .inl ⟨[], rfl, h0⟩⟩
set_option maxRecDepth 100000 in
/-- of no errors nothing is told -/
theorem iter_any {α : Type} (encs : α → Array Value) (N : Nat) (n : Nat) (hn : 1 ≤ n) (bx : Nat) (a : Option Addr) (c : Nat) (w : World) (hbx : w.cell? ⟨bx, 0, none⟩ = some (.slice a 0 c)) :
    SeqStopsK Fence.wide n Tryz.prog 35 #[.pointer (some ⟨bx, 0, none⟩)] encs (fun _ _ => True) (fun xs => xs = []) (fun _ => False) N w := fun l J Jx W hW hJ hJx hY h0 => by
  have hc := (hW.cell (p := ⟨bx, 0, none⟩) (World.block_lt_of_cell? _ _ hbx)).trans hbx
  refine callsIn_of_wp Tryz.func35 rfl trivial ?_ rfl
  simp only [Tryz.ntmps35, List.size_toArray, List.length_cons, List.length_nil, Nat.reduceAdd, Nat.reduceSub, Array.replicate_succ, Array.replicate_zero, List.push_toArray, List.append_toArray, List.nil_append, List.cons_append]
  gi_wp2
  gi_loopw [9] (fun i wr => i = .int .i64 0 ∧ wr = W) (fun i _ => 0)
  case atStart => exact ⟨rfl, rfl⟩
  case round =>
    obtain ⟨rfl, rfl⟩ := hrel
    gi_wp2
    go_end0
    exact ⟨⟨_, rfl⟩, .inl ⟨[], rfl, h0⟩⟩
set_option maxRecDepth 100000 in
/-- of no errors nothing is told -/
theorem iter_error {α : Type} (encs : α → Array Value) (N : Nat) (n : Nat) (hn : 1 ≤ n) (bx : Nat) (a : Option Addr) (c : Nat) (w : World) (hbx : w.cell? ⟨bx, 0, none⟩ = some (.slice a 0 c)) :
    SeqStopsK Fence.wide n Tryz.prog 31 #[.pointer (some ⟨bx, 0, none⟩)] encs (fun _ _ => True) (fun xs => xs = []) (fun _ => False) N w := fun l J Jx W hW hJ hJx hY h0 => by
  have hc := (hW.cell (p := ⟨bx, 0, none⟩) (World.block_lt_of_cell? _ _ hbx)).trans hbx
  refine callsIn_of_wp Tryz.func31 rfl trivial ?_ rfl
  simp only [Tryz.ntmps31, List.size_toArray, List.length_cons, List.length_nil, Nat.reduceAdd, Nat.reduceSub, Array.replicate_succ, Array.replicate_zero, List.push_toArray, List.append_toArray, List.nil_append, List.cons_append]
  gi_wp2
  gi_loopw [9] (fun i wr => i = .int .i64 0 ∧ wr = W) (fun i _ => 0)
  case atStart => exact ⟨rfl, rfl⟩
  case round =>
    obtain ⟨rfl, rfl⟩ := hrel
    gi_wp2
    go_end0
    exact ⟨⟨_, rfl⟩, .inl ⟨[], rfl, h0⟩⟩
end Go.Proofs.YtpemfnhplkjndaaGreatDoor.T
