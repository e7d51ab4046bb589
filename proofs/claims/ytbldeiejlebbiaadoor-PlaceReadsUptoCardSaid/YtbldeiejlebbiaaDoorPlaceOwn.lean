/-
  erratalaw03.own and ref: places of the program's and of the document's.
-/
import Derived.Test.YtbldeiejlebbiaaDoorPlaceRow
set_option linter.unusedVariables false
namespace Go.Proofs.YtbldeiejlebbiaaDoor.T
open Go Go.Lib Go.RowKit

def IsRow (e : TypeId) (l : List Pl) (w : World) (en : Ending) (w' : World) : Prop := ∃ v, en = .returned v ∧ PRow e w.heap.size w' v l ∧ Below w.heap.size w w'
theorem PlSl.split {B : Nat} {w : World} {v : Value} {l : List Pl} (h : PlSl B w v l) : ∃ a c, v = .slice a l.length c ∧ l.length ≤ c ∧ c ≤ 9223372036854775807 ∧ (l ≠ [] → ∃ bk o, a = some ⟨bk, o, none⟩ ∧ bk < B ∧ PlAt w bk o l) := h

set_option maxRecDepth 100000 in
set_option maxHeartbeats 2000000 in
theorem own_in (l : List Pl) (hl : l.length ≤ 5864062014700) (v : Value) (w : World) (h : PlSl w.heap.size w v l) :
    Calls Tryd.prog 39 #[v] w (IsRow 39 l w) := by
  obtain ⟨a, c, rfl, hc1, hc2, hcells⟩ := h
  go_enter Tryd.func39, Tryd.ntmps39
  go_wp2
  go_loopw [3, 4] (fun v i wr => ∃ (k : Nat), k ≤ l.length ∧ i = .int .i64 k ∧ PRow 39 w.heap.size wr v (l.take k) ∧ Below w.heap.size w wr)
    (fun _ i _ => l.length - (intOf i).toNat)
  case atStart => exact ⟨0, Nat.zero_le _, rfl, PRow.nil _ _ _, Below.refl _ _⟩
  case round =>
    obtain ⟨k, hk, rfl, hrow, hbw⟩ := hrel
    have hszr := hbw.size
    by_cases hlt : k < l.length
    · obtain ⟨bk, o, rfl, hbk, hat⟩ := hcells (by intro e; subst e; simp at hlt)
      have hx : l[k]? = some l[k] := List.getElem?_eq_getElem hlt
      have hat2 := (hat.below hbw hbk) k _ hx
      have htk : l.take (k + 1) = l.take k ++ [l[k]] := by rw [List.take_add_one, hx]; rfl
      have HTK := Lib.hid htk
      generalize l[k] = x at *
      have c1 := hat2.1
      have c2 := hat2.2
      have hlk : (l.take k).length = k := by rw [List.length_take]; omega
      obtain ⟨v', w', hrun, hrow', hgrow⟩ := app_run (sl := 23) (by kernel_rfl) infoOwn w.heap.size wr _ (l.take k) hrow x (by omega) hszr
      have hb' := hrow.grown hbw hgrow hszr
      clear htk hx
      generalize l.length = n at *
      have hN : decide ((k : Int) < (n : Int)) = true := by simp; omega
      go_wp2
      go_region_law (refine step_append_run rfl (.tmp 11) (.tmp 23) 23 rfl _ (.slice (some ⟨wr.heap.size, 0, none⟩) 1 1) v' w' (by simp [Act.eval]) (by simp [Act.eval]) hrun ?_)
      all_goals
        go_wp2
        go_roundw
        case rel => exact ⟨k + 1, hlt, by go_num, by rw [HTK.out]; exact hrow', hb'⟩
        case measure => simp [intOf]; omega
    · have : k = l.length := by omega
      subst this
      rw [List.take_length] at hrow
      go_wp2
      go_ret
      exact ⟨_, rfl, hrow, hbw⟩
set_option maxRecDepth 100000 in
set_option maxHeartbeats 2000000 in
theorem ref_in (l : List Pl) (hl : l.length ≤ 5864062014700) (v : Value) (w : World) (h : PlSl w.heap.size w v l) :
    Calls Tryd.prog 12 #[v] w (IsRow 96 l w) := by
  obtain ⟨a, c, rfl, hc1, hc2, hcells⟩ := h
  go_enter Tryd.func12, Tryd.ntmps12
  go_wp2
  go_loopw [3, 4] (fun v i wr => ∃ (k : Nat), k ≤ l.length ∧ i = .int .i64 k ∧ PRow 96 w.heap.size wr v (l.take k) ∧ Below w.heap.size w wr)
    (fun _ i _ => l.length - (intOf i).toNat)
  case atStart => exact ⟨0, Nat.zero_le _, rfl, PRow.nil _ _ _, Below.refl _ _⟩
  case round =>
    obtain ⟨k, hk, rfl, hrow, hbw⟩ := hrel
    have hszr := hbw.size
    by_cases hlt : k < l.length
    · obtain ⟨bk, o, rfl, hbk, hat⟩ := hcells (by intro e; subst e; simp at hlt)
      have hx : l[k]? = some l[k] := List.getElem?_eq_getElem hlt
      have hat2 := (hat.below hbw hbk) k _ hx
      have htk : l.take (k + 1) = l.take k ++ [l[k]] := by rw [List.take_add_one, hx]; rfl
      have HTK := Lib.hid htk
      generalize l[k] = x at *
      have c1 := hat2.1
      have c2 := hat2.2
      have hlk : (l.take k).length = k := by rw [List.length_take]; omega
      obtain ⟨v', w', hrun, hrow', hgrow⟩ := app_run (sl := 32) (by kernel_rfl) infoRef w.heap.size wr _ (l.take k) hrow x (by omega) hszr
      have hb' := hrow.grown hbw hgrow hszr
      clear htk hx
      generalize l.length = n at *
      have hN : decide ((k : Int) < (n : Int)) = true := by simp; omega
      go_wp2
      go_region_law (refine step_append_run rfl (.tmp 11) (.tmp 23) 32 rfl _ (.slice (some ⟨wr.heap.size, 0, none⟩) 1 1) v' w' (by simp [Act.eval]) (by simp [Act.eval]) hrun ?_)
      all_goals
        go_wp2
        go_roundw
        case rel => exact ⟨k + 1, hlt, by go_num, by rw [HTK.out]; exact hrow', hb'⟩
        case measure => simp [intOf]; omega
    · have : k = l.length := by omega
      subst this
      rw [List.take_length] at hrow
      go_wp2
      go_ret
      exact ⟨_, rfl, hrow, hbw⟩
end Go.Proofs.YtbldeiejlebbiaaDoor.T
