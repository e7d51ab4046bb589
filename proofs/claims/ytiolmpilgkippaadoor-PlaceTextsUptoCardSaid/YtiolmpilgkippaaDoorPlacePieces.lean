/-
  errataref03.pieces: what stands between " < ".
-/
import Derived.Lib.IndexLaws
import Derived.Test.YtiolmpilgkippaaDoorPlaceStrs
import Derived.Test.YtiolmpilgkippaaDoorPlaceRefText
set_option linter.unusedVariables false
namespace Go.Proofs.YtiolmpilgkippaaDoor.T
open Go Go.Lib Go.RowKit

theorem spl_fuel : ∀ (f : Nat) (s : List UInt8), s.length ≤ f → spl f s = spl s.length s := by
  have key : ∀ (f g : Nat) (s : List UInt8), s.length ≤ f → s.length ≤ g → spl f s = spl g s := by
    intro f
    induction f with
    | zero =>
      intro g s hf hg
      have : s = [] := List.eq_nil_of_length_eq_zero (by omega)
      subst this
      cases g with
      | zero => rfl
      | succ g =>
        unfold spl
        rw [if_neg (by decide)]
    | succ f ih =>
      intro g s hf hg
      cases g with
      | zero =>
        have : s = [] := List.eq_nil_of_length_eq_zero (by omega)
        subst this
        unfold spl
        rw [if_neg (by decide)]
      | succ g =>
        unfold spl
        split
        · rename_i hi
          have hr := index_room s sepL hi
          have h3 : sepL.length = 3 := rfl
          rw [h3] at hr
          rw [ih g _ (by rw [List.length_drop]; omega) (by rw [List.length_drop]; omega)]
        · rfl
  intro f s h
  exact key f s.length s h (Nat.le_refl _)
def sp (s : List UInt8) : List (List UInt8) := spl s.length s
theorem sp_hit {s : List UInt8} {i : Nat} (h : index s sepL = i) : sp s = s.take i :: sp (s.drop (i + 3)) := by
  have hr := index_room s sepL (by omega)
  have h3 : sepL.length = 3 := rfl
  rw [h3, h] at hr
  unfold sp
  obtain ⟨n, hn⟩ : ∃ n, s.length = n + 1 := ⟨s.length - 1, by omega⟩
  rw [hn]
  rw [spl, h, if_pos (by omega), Int.toNat_natCast, spl_fuel n _ (by rw [List.length_drop]; omega)]
theorem sp_none {s : List UInt8} (h : index s sepL = -1) : sp s = [s] := by
  unfold sp
  cases hn : s.length with
  | zero => rfl
  | succ n => rw [spl, h, if_neg (by decide)]
def mkB (q : List UInt8) : ByteArray := ⟨q.toArray⟩
theorem ext_mk (s : ByteArray) (a b : Nat) : s.extract a b = mkB ((s.data.toList.drop a).take (b - a)) := by
  refine ba_ext ?_
  unfold mkB
  simp [ByteArray.data_extract, List.extract_eq_take_drop]
theorem occ_iff (s : ByteArray) (i : Nat) : (s.extract i (i + 3)).toList = [32, 60, 32] ↔ occAt s.data.toList sepL i = true := by
  rw [ByteArray.toList_eq, ext_mk]
  show (s.data.toList.drop i).take (i + 3 - i) = [32, 60, 32] ↔ _
  rw [show i + 3 - i = 3 from by omega]
  unfold occAt
  rw [List.isPrefixOf_iff_prefix]
  constructor
  · intro h
    exact ⟨(s.data.toList.drop i).drop 3, by show [32, 60, 32] ++ _ = _; rw [← h, List.take_append_drop]⟩
  · rintro ⟨t, ht⟩
    rw [← ht]; rfl
theorem occ_drop (s : List UInt8) (a i : Nat) (h : a ≤ i) : occAt (s.drop a) sepL (i - a) = occAt s sepL i := by
  unfold occAt
  rw [List.drop_drop, show a + (i - a) = i from by omega]
def pcsB (s : ByteArray) : List ByteArray := (pcsOf s.data.toList).map mkB

theorem slice_lh (s : ByteArray) (p q : Nat) (x y : Int) (hx : x = p) (hy : y = q) (h1 : p ≤ q) (h : q ≤ s.size) (W : World) : (Instr.slice 9 (.string s) (some (.int .i64 x)) (some (.int .i64 y)) none).run Tryd.prog W = .ok (.string (s.extract p q)) W := by
  subst hx; subst hy
  have e := run_slice_string (P := Tryd.prog) W 9 s .i64 .i64 (p : Int) (q : Int) Tryd.underlying9 (by omega) (by omega) (by omega)
  rw [e, Int.toNat_natCast, Int.toNat_natCast]

set_option maxRecDepth 100000 in
set_option maxHeartbeats 8000000 in
theorem pieces_in (s : ByteArray) (hs : s.size ≤ 16777216) (w : World) :
    Calls Tryd.prog 60 #[.string s] w fun e w' => ∃ v, e = .returned v ∧ SRow w.heap.size w' v (pcsB s) ∧ Below w.heap.size w w' := by
  obtain ⟨i0, hi, hz0, hz1, hz2⟩ := info_parts infoStr
  have hsl : s.data.toList.length = s.size := rfl
  generalize hP : pcsB s = P at *
  have HP := Lib.hid hP
  clear hP
  go_enter Tryd.func60, Tryd.ntmps60
  go_wp2
  go_loopw [3, 4, 5] (fun v a i wr => ∃ (k p : Nat) (acc : List (List UInt8)), a = .int .i64 p ∧ i = .int .i64 k ∧ p ≤ s.size ∧ p ≤ k + 2 ∧ k ≤ s.size ∧ acc.length ≤ k ∧ NoOcc (s.data.toList.drop p) sepL (k - p) ∧ acc ++ sp (s.data.toList.drop p) = sp s.data.toList ∧ SRow w.heap.size wr v (acc.map mkB) ∧ Below w.heap.size w wr)
    (fun _ _ i _ => s.size - (RowKit.intOf i).toNat)
  case atStart => exact ⟨0, 0, [], rfl, rfl, Nat.zero_le _, by omega, Nat.zero_le _, Nat.le_refl _, fun j hj => by omega, rfl, World.ownsRow_nil _ _ _ _, Below.refl _ _⟩
  case round =>
    obtain ⟨k, p, acc, rfl, rfl, hp, hpk, hk, hal, hno, hacc, hrow, hbw⟩ := hrel
    have hszr := hbw.size
    have hrow' : wr.ownsRow w.heap.size 9 1 u3 acc.length ((acc.map mkB).map Value.string) := by
      have h := hrow
      unfold SRow at h
      rw [List.length_map] at h
      exact h
    have HNO := Lib.hid hno
    have HAC := Lib.hid hacc
    clear hno hacc hrow
    by_cases hlt : k + 3 ≤ s.size
    · have hN : decide ((k : Int) + 3 ≤ (s.size : Int)) = true := by simp; omega
      have hx := fun W => slice_lh s k (k + 3) (k : Int) ((k : Int) + 3) rfl (by omega) (by omega) (by omega) W
      have ho := occ_iff s k
      cases hoc : occAt s.data.toList sepL k with
      | true =>
        have he := ho.2 hoc
        by_cases hge : p ≤ k
        · have hN2 : decide ((k : Int) ≥ (p : Int)) = true := by simp; omega
          have hy := fun W => slice_lh s p k (p : Int) (k : Int) rfl rfl hge (by omega) W
          have hidx : index (s.data.toList.drop p) sepL = ((k - p : Nat) : Int) := index_hit HNO.out (by rw [List.length_drop]; omega) (by rw [occ_drop _ _ _ hge]; exact hoc)
          have hsp := sp_hit hidx
          have hd : (s.data.toList.drop p).drop (k - p + 3) = s.data.toList.drop (k + 3) := by rw [List.drop_drop]; congr 1; omega
          rw [hd] at hsp
          have hex := ext_mk s p k
          have hnew : (acc ++ [(s.data.toList.drop p).take (k - p)]) ++ sp (s.data.toList.drop (k + 3)) = sp s.data.toList := by rw [← HAC.out, hsp]; simp
          have HNW := Lib.hid hnew
          have HEX := Lib.hid hex
          clear hnew hex hsp hd hidx hoc ho
          generalize s.extract k (k + 3) = t3 at *
          generalize hpc : s.extract p k = pc at *
          go_wp2_with (at_builtin; refine wpList_append_own _ rfl _ _ 44 rfl w.heap.size 9 i0 (.string ⟨#[]⟩) 1 16 Tryd.underlying44 hi hz0 hz1 hz2 rfl (by decide) _ acc.length _ rfl (hrow'.alloc _) ⟨wr.heap.size, 0, none⟩ 1 1 [.string pc] rfl rfl (cell_one_new _ _ _) (by simp [Value.oneCell']) (by unfold maxLen; omega) (by omega) (by simp; omega) ?_; intro v' w2 hown' hgrow _)
          have hb2 := hbw.grown (grown_of_alloc' hgrow) hszr (fun j hj => (World.ownsRow.lt hrow' j hj).1)
          go_roundw
          case rel =>
            refine ⟨k + 1, k + 3, acc ++ [(s.data.toList.drop p).take (k - p)], by first | go_num | (congr 1; omega), by go_num, by omega, by omega, by omega, by simp; omega, fun j hj => by omega, HNW.out, ?_, hb2⟩
            unfold SRow
            rw [List.length_map, List.length_append, List.map_append, List.map_append]
            simp only [List.map_cons, List.map_nil]
            rw [← HEX.out]
            exact hown'
          case measure => simp [RowKit.intOf]; omega
        · have hN2 : decide ((k : Int) ≥ (p : Int)) = false := by simp; omega
          have hnk : NoOcc (s.data.toList.drop p) sepL (k + 1 - p) := fun j hj => by omega
          have HNK := Lib.hid hnk
          clear hnk hoc ho
          generalize s.extract k (k + 3) = t3 at *
          go_wp2
          go_roundw
          case rel => exact ⟨k + 1, p, acc, rfl, by go_num, hp, by omega, by omega, by omega, HNK.out, HAC.out, by unfold SRow; rw [List.length_map]; exact hrow', hbw⟩
          case measure => simp [RowKit.intOf]; omega
      | false =>
        have hnk : NoOcc (s.data.toList.drop p) sepL (k + 1 - p) := fun j hj => by
          by_cases hjk : j < k - p
          · exact HNO.out j hjk
          · have : j = k - p := by omega
            subst this
            rw [occ_drop _ _ _ (by omega)]
            exact hoc
        have HNK := Lib.hid hnk
        have hne : (s.extract k (k + 3)).toList ≠ [32, 60, 32] := fun e => by
          have := ho.1 e
          rw [hoc] at this; cases this
        clear hnk hoc ho
        generalize s.extract k (k + 3) = t3 at *
        have hb0 : (t3.toList == [32, 60, 32]) = false := by rw [beq_eq_false_iff_ne]; exact hne
        go_wp2
        all_goals first
          | (exfalso; apply hne; first | assumption | (simp_all; done))
          | skip
        all_goals
          go_roundw
          case rel => exact ⟨k + 1, p, acc, rfl, by go_num, hp, by omega, by omega, by omega, HNK.out, HAC.out, by unfold SRow; rw [List.length_map]; exact hrow', hbw⟩
          case measure => simp [RowKit.intOf]; omega
    · have hN : decide ((k : Int) + 3 ≤ (s.size : Int)) = false := by simp; omega
      have hidx : index (s.data.toList.drop p) sepL = -1 := index_past (by decide) HNO.out (by rw [List.length_drop]; show _ < k - p + 3; omega)
      have hsp := sp_none hidx
      have hfin : acc ++ [s.data.toList.drop p] = sp s.data.toList := by rw [← hsp]; exact HAC.out
      have hex := ext_mk s p s.size
      rw [List.take_of_length_le (by rw [List.length_drop]; omega)] at hex
      have hsz : (s.data.toList = [] → P = []) ∧ (s.data.toList ≠ [] → P = (acc ++ [s.data.toList.drop p]).map mkB) := by
        refine ⟨fun h => ?_, fun h => ?_⟩
        · rw [← HP.out]; unfold pcsB pcsOf; rw [if_pos h]; rfl
        · rw [← HP.out, hfin]; unfold pcsB pcsOf; rw [if_neg h]; rfl
      have HSZ := Lib.hid hsz
      have HEX := Lib.hid hex
      clear hsz hex hfin hsp hidx
      have hsl2 : ∀ W : World, (Instr.slice 9 (.string s) (some (.int .i64 (p : Int))) none none).run Tryd.prog W = .ok (.string (s.extract p s.size)) W := fun W => by
        rw [run_slice_string_from_if (P := Tryd.prog) W 9 s .i64 (p : Int) Tryd.underlying9, if_pos (by omega), Int.toNat_natCast]
      generalize hpc : s.extract p s.size = pc at *
      by_cases hs0 : s.data.toList = []
      · have hPn := HSZ.out.1 hs0
        have hE1 : s.toList = [] := by rw [ByteArray.toList_eq]; exact hs0
        subst hPn
        clear hs0
        go_wp2
        all_goals first
          | (exfalso; have hx : s.toList.isEmpty = false := by assumption
             rw [hE1] at hx; cases hx)
          | skip
        all_goals
          go_ret
          exact ⟨_, rfl, World.ownsRow_nil _ _ _ _, hbw⟩
      · have hPn := HSZ.out.2 hs0
        have hE1 : s.toList ≠ [] := by rw [ByteArray.toList_eq]; exact hs0
        clear hs0
        go_wp2_with (at_builtin; refine wpList_append_own _ rfl _ _ 44 rfl w.heap.size 9 i0 (.string ⟨#[]⟩) 1 16 Tryd.underlying44 hi hz0 hz1 hz2 rfl (by decide) _ acc.length _ rfl (hrow'.alloc _) ⟨wr.heap.size, 0, none⟩ 1 1 [.string pc] rfl rfl (cell_one_new _ _ _) (by simp [Value.oneCell']) (by unfold maxLen; omega) (by omega) (by simp; omega) ?_; intro v' w2 hown' hgrow _)
        all_goals first
          | (exfalso; have hx : s.toList.isEmpty = true := by assumption
             exact hE1 (List.isEmpty_iff.1 hx))
          | skip
        all_goals
          have hb2 := hbw.grown (grown_of_alloc' hgrow) hszr (fun j hj => (World.ownsRow.lt hrow' j hj).1)
          go_ret
          refine ⟨_, rfl, ?_, hb2⟩
          rw [hPn]
          unfold SRow
          rw [List.length_map, List.length_append, List.map_append, List.map_append]
          simp only [List.map_cons, List.map_nil]
          rw [← HEX.out]
          exact hown'
end Go.Proofs.YtiolmpilgkippaaDoor.T
