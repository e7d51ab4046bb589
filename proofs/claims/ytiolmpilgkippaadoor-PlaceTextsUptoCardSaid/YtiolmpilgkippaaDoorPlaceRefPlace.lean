/-
  errataref03.place: the place that a text seems to be.
-/
import Derived.Test.YtiolmpilgkippaaDoorPlacePieces
set_option linter.unusedVariables false
namespace Go.Proofs.YtiolmpilgkippaaDoor.T
open Go Go.Lib Go.RowKit

theorem bt_list (s : ByteArray) (j : Nat) (h : j < s.size) : ∃ b, s.data.toList[j]? = some b ∧ b.toNat = bt s j := by
  refine ⟨s[j], ?_, (bt_get s j h).symm⟩
  have h' : j < s.data.toList.length := h
  rw [List.getElem?_eq_getElem h']
  rfl
theorem col_eq (s : ByteArray) (k : Nat) (hk : k ≤ s.size) (hno : ∀ j, j < k → bt s j ≠ 58) (hend : k < s.size → bt s k = 58) : colAt s.data.toList = k := by
  have hl : s.data.toList.length = s.size := rfl
  have hp : ∀ j (h : j < s.data.toList.length), (s.data.toList[j] == 58) = decide (bt s j = 58) := fun j h => by
    obtain ⟨b, hb, hb2⟩ := bt_list s j h
    rw [List.getElem?_eq_getElem h] at hb
    rw [Option.some.inj hb, ← hb2]
    by_cases e : b = 58
    · subst e; rfl
    · have : ¬ b.toNat = 58 := fun h => e (by apply UInt8.toNat_inj.1; exact h)
      rw [decide_eq_false this, beq_eq_false_iff_ne]
      exact e
  unfold colAt
  rcases Nat.lt_or_ge k s.size with h | h
  · rw [List.findIdx_eq (by rw [hl]; exact h)]
    refine ⟨by rw [hp k (by rw [hl]; exact h), decide_eq_true (hend h)], fun j hj => ?_⟩
    rw [hp j (by rw [hl]; omega)]
    exact decide_eq_false (hno j hj)
  · have : k = s.size := by omega
    subst this
    rw [← hl]
    refine List.findIdx_eq_length.2 (fun b hb => ?_)
    obtain ⟨j, hj, rfl⟩ := List.getElem_of_mem hb
    have := hp j hj
    rw [this]
    simp
    exact hno j (by rw [← hl]; exact hj)
theorem val10_lt : ∀ (l : List UInt8), val10 l + 2 ≤ 2 * 10 ^ l.length := by
  intro l
  suffices h : ∀ (l : List UInt8), val10 l.reverse + 2 ≤ 2 * 10 ^ l.length by
    have := h l.reverse
    simpa using this
  intro l
  induction l with
  | nil => simp [val10]
  | cons b l ih =>
    rw [List.reverse_cons, val10_snoc, List.length_cons, Nat.pow_succ]
    have := Nat.mod_lt b.toNat (show 16 > 0 by decide)
    omega
theorem set_one {w : World} {b : Nat} {x y u : Value} {t : TypeId} {z : Nat × Nat} (h : w.heap[b]? = some (.cells #[x, y] t z)) : (w.setCell ⟨b, 1, none⟩ u).heap[b]? = some (.cells #[x, u] t z) := by
  simp [World.setCell, Array.getElem?_modify, h]
theorem set_zero {w : World} {b : Nat} {x y u : Value} {t : TypeId} {z : Nat × Nat} (h : w.heap[b]? = some (.cells #[x, y] t z)) : (w.setCell ⟨b, 0, none⟩ u).heap[b]? = some (.cells #[u, y] t z) := by
  simp [World.setCell, Array.getElem?_modify, h]
theorem set_far {w : World} {b c i : Nat} {u : Value} {o : Obj} (h : w.heap[c]? = some o) (hne : c ≠ b) : (w.setCell ⟨b, i, none⟩ u).heap[c]? = some o := by
  rw [Below.heap_setCell w ⟨b, i, none⟩ u c hne]; exact h
theorem results_plR {fn : Func} {p : Tmp} (h : fn.results = #[.cell p 111]) (tmps : Array Value) (w : World) (g : Nat) (s : ByteArray) (k : Int)
    (hp : tmps.getD p undef = .pointer (some ⟨g, 0, none⟩)) (h0 : w.cell? ⟨g, 0, none⟩ = some (.string s)) (h1 : w.cell? ⟨g, 1, none⟩ = some (.int .i64 k)) :
    (results fn tmps).run Tryd.prog w = .ok (.agg #[.string s, .int .i64 k]) w := by
  have hp' : tmps[p]?.getD undef = .pointer (some ⟨g, 0, none⟩) := by simpa using hp
  simp only [results, h]
  simp [hp', asAddr]
  go_simp

set_option maxRecDepth 100000 in
set_option maxHeartbeats 8000000 in
theorem refPlace_in (s : ByteArray) (hs : s.size ≤ 16777216) (w : World) :
    Calls Tryd.prog 61 #[.string s] w fun e w' => e = .returned (.agg #[.string (placeF s.data.toList).n, .int .i64 (placeF s.data.toList).k]) ∧ Below w.heap.size w w' := by
  have hsl : s.data.toList.length = s.size := rfl
  generalize hP : placeF s.data.toList = P at *
  have HP := Lib.hid hP
  clear hP
  have hb0 : Below w.heap.size w ((w.alloc (.cells #[.string ⟨#[]⟩, .int .i64 0] 111)).alloc (.cells #[.string ⟨#[]⟩, .int .i64 0] 111)) := ((Below.refl _ w).alloc (Nat.le_refl _) _).alloc (by simp) _
  have hh0 : ((w.alloc (.cells #[.string ⟨#[]⟩, .int .i64 0] 111)).alloc (.cells #[.string ⟨#[]⟩, .int .i64 0] 111)).heap[w.heap.size]? = some (.cells #[.string ⟨#[]⟩, .int .i64 0] 111 (0, 0)) := by
    rw [Below.heap_alloc _ _ _ (by simp)]; exact World.alloc_heap_new w _
  have hh1 : ((w.alloc (.cells #[.string ⟨#[]⟩, .int .i64 0] 111)).alloc (.cells #[.string ⟨#[]⟩, .int .i64 0] 111)).heap[w.heap.size + 1]? = some (.cells #[.string ⟨#[]⟩, .int .i64 0] 111 (0, 0)) := by
    have h := World.alloc_heap_new (w.alloc (.cells #[.string ⟨#[]⟩, .int .i64 0] 111)) (.cells #[.string ⟨#[]⟩, .int .i64 0] 111)
    rwa [World.size_alloc] at h
  go_enter Tryd.func61, Tryd.ntmps61
  go_wp2
  generalize (w.alloc (.cells #[.string ⟨#[]⟩, .int .i64 0] 111)).alloc (.cells #[.string ⟨#[]⟩, .int .i64 0] 111) = W at *
  go_loop [4] (fun i => ∃ (k : Nat), k ≤ s.size ∧ i = .int .i64 k ∧ ∀ j, j < k → bt s j ≠ 58) (fun i => s.size - (RowKit.intOf i).toNat)
  case atStart => exact ⟨0, Nat.zero_le _, rfl, fun j hj => by omega⟩
  case round =>
    obtain ⟨k, hk, rfl, hno⟩ := hrel
    have HNO := Lib.hid hno
    clear hno
    by_cases hgo : k < s.size ∧ bt s k ≠ 58
    · obtain ⟨hlt, h58⟩ := hgo
      have ix := fun W : World => idx_bt s k hlt W
      have hN : decide ((k : Int) < (s.size : Int)) = true := by simp; omega
      have hc := bt_lt s k
      have hnx : ∀ j, j < k + 1 → bt s j ≠ 58 := fun j hj => by
        rcases Nat.lt_or_ge j k with h | h
        · exact HNO.out j h
        · rw [show j = k from by omega]; exact h58
      have HNX := Lib.hid hnx
      clear hnx
      generalize bt s k = c at *
      have hN2 : ((c : Int) != 58) = true := by simp; omega
      go_wp2
      go_round
      case rel => exact ⟨k + 1, hlt, by go_num, HNX.out⟩
      case measure => simp [RowKit.intOf]; omega
    · have hcol : colAt s.data.toList = k := col_eq s k hk HNO.out (fun h => by
        by_cases h5 : bt s k = 58
        · exact h5
        · exact absurd ⟨h, h5⟩ hgo)
      have hPn : P = ⟨s.extract 0 k, (val10 ((s.data.toList.drop (k + 1)).take 8) : Int)⟩ := by
        rw [← HP.out]
        unfold placeF
        rw [hcol, ext_mk]
        simp [mkB]
      have HPN := Lib.hid hPn
      clear hPn hcol
      have hsl1 : ∀ W : World, (Instr.slice 9 (.string s) none (some (.int .i64 (k : Int))) none).run Tryd.prog W = .ok (.string (s.extract 0 k)) W := fun W => by
        rw [run_slice_string_to_if (P := Tryd.prog) W 9 s .i64 (k : Int) Tryd.underlying9, if_pos (by omega), Int.toNat_natCast]
      generalize hnm : s.extract 0 k = nm at *
      have c0 := cell_heap (o := 0) hh1 rfl
      have f0 := frozen_heap (o := 0) hh1
      have hend : k = s.size ∨ (k < s.size ∧ decide ((k : Int) < (s.size : Int)) = true ∧ bt s k = 58) := by
        rcases Nat.lt_or_ge k s.size with h | h
        · right
          refine ⟨h, by simp; omega, ?_⟩
          by_cases h5 : bt s k = 58
          · exact h5
          · exact absurd ⟨h, h5⟩ hgo
        · left; omega
      clear hgo
      have hn1 := set_zero (u := .string nm) hh1
      have hn0 := set_far (b := w.heap.size + 1) (i := 0) (u := .string nm) hh0 (by omega)
      have hnb := hb0.setCell (p := ⟨w.heap.size + 1, 0, none⟩) (Nat.le_succ _) (.string nm)
      rcases hend with hks | ⟨hlt, hN, h58⟩
      · subst hks
        go_wp2
        generalize W.setCell ⟨w.heap.size + 1, 0, none⟩ (.string nm) = V at *
        go_loopw [5] (fun i wr => ∃ (j q vv : Nat), j ≤ 8 ∧ q = s.size + 1 + j ∧ i = .int .i64 q ∧ vv = val10 ((s.data.toList.drop (s.size + 1)).take j) ∧ vv ≤ 200000000 ∧ wr.heap[w.heap.size]? = some (.cells #[.string ⟨#[]⟩, .int .i64 0] 111 (0, 0)) ∧ wr.heap[w.heap.size + 1]? = some (.cells #[.string nm, .int .i64 vv] 111 (0, 0)) ∧ Below w.heap.size w wr)
          (fun i _ => s.size + 11 - (RowKit.intOf i).toNat)
        case atStart => exact ⟨0, s.size + 1, 0, by omega, rfl, by go_num, by simp [val10], by omega, hn0, hn1, hnb⟩
        case round =>
          obtain ⟨j, q, vv, hj8, hq, rfl, hvv, hvb, hA, hB, hbr⟩ := hrel
          have c1 := cell_heap (o := 1) hB rfl
          have c00 := cell_heap (o := 0) hB rfl
          have f1 := frozen_heap (o := 1) hB
          have HVV := Lib.hid hvv
          have HQ := Lib.hid hq
          clear hvv hq
          by_cases hgo : q < s.size ∧ j < 8
          · obtain ⟨hq1, hq2⟩ := hgo
            have hM1 : decide ((q : Int) < (s.size : Int)) = true := by simp; omega
            have hM2 : decide ((q : Int) < (s.size : Int) + 9) = true := by have := HQ.out; simp; omega
            have ixq := fun W : World => idx_bt s q hq1 W
            have hcq := bt_lt s q
            obtain ⟨b, hb1, hb2⟩ := bt_list s q hq1
            have htk : val10 ((s.data.toList.drop (s.size + 1)).take (j + 1)) = 10 * vv + bt s q % 16 := by
              have e : (s.data.toList.drop (s.size + 1))[j]? = some b := by rw [List.getElem?_drop, ← HQ.out]; exact hb1
              rw [List.take_add_one, e]
              simp only [Option.toList]
              rw [val10_snoc, HVV.out, hb2]
            have hvl := val10_lt ((s.data.toList.drop (s.size + 1)).take (j + 1))
            have hvl2 : 10 ^ ((s.data.toList.drop (s.size + 1)).take (j + 1)).length ≤ 10 ^ 8 := Nat.pow_le_pow_right (by decide) (by rw [List.length_take]; omega)
            rw [htk] at hvl
            have hvl3 : 10 * vv + bt s q % 16 ≤ 200000000 := by omega
            have HTK := Lib.hid htk
            clear htk hvl hvl2 hb1 hb2
            generalize bt s q = cq at *
            have hB2 := set_one (u := .int .i64 (10 * (vv : Int) + (cq : Int) % 16)) hB
            have hA2 := set_far (b := w.heap.size + 1) (i := 1) (u := .int .i64 (10 * (vv : Int) + (cq : Int) % 16)) hA (by omega)
            have hbr2 := hbr.setCell (p := ⟨w.heap.size + 1, 1, none⟩) (Nat.le_succ _) (.int .i64 (10 * (vv : Int) + (cq : Int) % 16))
            go_wp2
            go_region
            all_goals
              go_wp2
              go_roundw
              case rel => exact ⟨j + 1, q + 1, 10 * vv + cq % 16, hq2, by have := HQ.out; omega, by go_num, HTK.out.symm, by omega, hA2, by
                have e : ((10 * vv + cq % 16 : Nat) : Int) = 10 * (vv : Int) + (cq : Int) % 16 := by omega
                rw [e]; exact hB2, by first | exact hbr2 | exact hbr2.drew | exact Go.below_drewN hbr2 _⟩
              case measure => have := HQ.out; simp [RowKit.intOf]; omega
          · have hfinal : P = ⟨nm, (vv : Int)⟩ := by
              rw [HPN.out, HVV.out]
              have : (s.data.toList.drop (s.size + 1)).take 8 = (s.data.toList.drop (s.size + 1)).take j := by
                by_cases h8 : j = 8
                · rw [h8]
                · have hqs : s.size ≤ q := by omega
                  have hdl : (s.data.toList.drop (s.size + 1)).length ≤ j := by rw [List.length_drop]; have := HQ.out; omega
                  rw [List.take_of_length_le (by omega), List.take_of_length_le hdl]
              rw [this]
            have hM : (decide ((q : Int) < (s.size : Int)) = false) ∨ (decide ((q : Int) < (s.size : Int)) = true ∧ decide ((q : Int) < (s.size : Int) + 9) = false) := by
              have := HQ.out
              by_cases h : q < s.size
              · right; refine ⟨by simp; omega, by simp; omega⟩
              · left; simp; omega
            subst hfinal
            have d0 := cell_heap (o := 0) hA rfl
            have d1 := cell_heap (o := 1) hA rfl
            have g0 := frozen_heap (o := 0) hA
            have g1 := frozen_heap (o := 1) hA
            clear hgo
            rcases hM with hM1 | ⟨hM1, hM2⟩
            all_goals
              go_wp2
              all_goals first
                | (refine bodyPost_ret (v := .agg #[.string nm, .int .i64 (vv : Int)]) (results_plR rfl _ _ w.heap.size _ _ rfl (cell2_set0 d0 d1) (cell2_set1 d1)) rfl ⟨rfl, ?_⟩
                   exact (hbr.setCell (p := ⟨w.heap.size, 0, none⟩) (Nat.le_refl _) _).setCell (p := ⟨w.heap.size, 1, none⟩) (Nat.le_refl _) _)
                | (exfalso; have hq0 := HQ.out; simp at hM1; try simp at hM2
                   omega)
                | (exfalso; have hq0 := HQ.out; simp_all; done)
      · have ix := fun W : World => idx_bt s k hlt W
        have hN2 : ((bt s k : Int) != 58) = false := by rw [h58]; rfl
        clear h58
        generalize bt s k = ck at *
        go_wp2
        generalize W.setCell ⟨w.heap.size + 1, 0, none⟩ (.string nm) = V at *
        go_loopw [5] (fun i wr => ∃ (j q vv : Nat), j ≤ 8 ∧ q = k + 1 + j ∧ i = .int .i64 q ∧ vv = val10 ((s.data.toList.drop (k + 1)).take j) ∧ vv ≤ 200000000 ∧ wr.heap[w.heap.size]? = some (.cells #[.string ⟨#[]⟩, .int .i64 0] 111 (0, 0)) ∧ wr.heap[w.heap.size + 1]? = some (.cells #[.string nm, .int .i64 vv] 111 (0, 0)) ∧ Below w.heap.size w wr)
          (fun i _ => s.size + 11 - (RowKit.intOf i).toNat)
        case atStart => exact ⟨0, k + 1, 0, by omega, rfl, by go_num, by simp [val10], by omega, hn0, hn1, hnb⟩
        case round =>
          obtain ⟨j, q, vv, hj8, hq, rfl, hvv, hvb, hA, hB, hbr⟩ := hrel
          have c1 := cell_heap (o := 1) hB rfl
          have c00 := cell_heap (o := 0) hB rfl
          have f1 := frozen_heap (o := 1) hB
          have HVV := Lib.hid hvv
          have HQ := Lib.hid hq
          clear hvv hq
          by_cases hgo : q < s.size ∧ j < 8
          · obtain ⟨hq1, hq2⟩ := hgo
            have hM1 : decide ((q : Int) < (s.size : Int)) = true := by simp; omega
            have hM2 : decide ((q : Int) < (k : Int) + 9) = true := by have := HQ.out; simp; omega
            have ixq := fun W : World => idx_bt s q hq1 W
            have hcq := bt_lt s q
            obtain ⟨b, hb1, hb2⟩ := bt_list s q hq1
            have htk : val10 ((s.data.toList.drop (k + 1)).take (j + 1)) = 10 * vv + bt s q % 16 := by
              have e : (s.data.toList.drop (k + 1))[j]? = some b := by rw [List.getElem?_drop, ← HQ.out]; exact hb1
              rw [List.take_add_one, e]
              simp only [Option.toList]
              rw [val10_snoc, HVV.out, hb2]
            have hvl := val10_lt ((s.data.toList.drop (k + 1)).take (j + 1))
            have hvl2 : 10 ^ ((s.data.toList.drop (k + 1)).take (j + 1)).length ≤ 10 ^ 8 := Nat.pow_le_pow_right (by decide) (by rw [List.length_take]; omega)
            rw [htk] at hvl
            have hvl3 : 10 * vv + bt s q % 16 ≤ 200000000 := by omega
            have HTK := Lib.hid htk
            clear htk hvl hvl2 hb1 hb2
            generalize bt s q = cq at *
            have hB2 := set_one (u := .int .i64 (10 * (vv : Int) + (cq : Int) % 16)) hB
            have hA2 := set_far (b := w.heap.size + 1) (i := 1) (u := .int .i64 (10 * (vv : Int) + (cq : Int) % 16)) hA (by omega)
            have hbr2 := hbr.setCell (p := ⟨w.heap.size + 1, 1, none⟩) (Nat.le_succ _) (.int .i64 (10 * (vv : Int) + (cq : Int) % 16))
            go_wp2
            go_region
            all_goals
              go_wp2
              go_roundw
              case rel => exact ⟨j + 1, q + 1, 10 * vv + cq % 16, hq2, by have := HQ.out; omega, by go_num, HTK.out.symm, by omega, hA2, by
                have e : ((10 * vv + cq % 16 : Nat) : Int) = 10 * (vv : Int) + (cq : Int) % 16 := by omega
                rw [e]; exact hB2, by first | exact hbr2 | exact hbr2.drew | exact Go.below_drewN hbr2 _⟩
              case measure => have := HQ.out; simp [RowKit.intOf]; omega
          · have hfinal : P = ⟨nm, (vv : Int)⟩ := by
              rw [HPN.out, HVV.out]
              have : (s.data.toList.drop (k + 1)).take 8 = (s.data.toList.drop (k + 1)).take j := by
                by_cases h8 : j = 8
                · rw [h8]
                · have hqs : s.size ≤ q := by omega
                  have hdl : (s.data.toList.drop (k + 1)).length ≤ j := by rw [List.length_drop]; have := HQ.out; omega
                  rw [List.take_of_length_le (by omega), List.take_of_length_le hdl]
              rw [this]
            have hM : (decide ((q : Int) < (s.size : Int)) = false) ∨ (decide ((q : Int) < (s.size : Int)) = true ∧ decide ((q : Int) < (k : Int) + 9) = false) := by
              have := HQ.out
              by_cases h : q < s.size
              · right; refine ⟨by simp; omega, by simp; omega⟩
              · left; simp; omega
            subst hfinal
            have d0 := cell_heap (o := 0) hA rfl
            have d1 := cell_heap (o := 1) hA rfl
            have g0 := frozen_heap (o := 0) hA
            have g1 := frozen_heap (o := 1) hA
            clear hgo
            rcases hM with hM1 | ⟨hM1, hM2⟩
            all_goals
              go_wp2
              all_goals first
                | (refine bodyPost_ret (v := .agg #[.string nm, .int .i64 (vv : Int)]) (results_plR rfl _ _ w.heap.size _ _ rfl (cell2_set0 d0 d1) (cell2_set1 d1)) rfl ⟨rfl, ?_⟩
                   exact (hbr.setCell (p := ⟨w.heap.size, 0, none⟩) (Nat.le_refl _) _).setCell (p := ⟨w.heap.size, 1, none⟩) (Nat.le_refl _) _)
                | (exfalso; have hq0 := HQ.out; simp at hM1; try simp at hM2
                   omega)
                | (exfalso; have hq0 := HQ.out; simp_all; done)
end Go.Proofs.YtiolmpilgkippaaDoor.T
