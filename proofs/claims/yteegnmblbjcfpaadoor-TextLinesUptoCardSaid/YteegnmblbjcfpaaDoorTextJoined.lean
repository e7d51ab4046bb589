/-
  erratalaw01.joined, plain.
-/
import Derived.Test.YteegnmblbjcfpaaDoorTextLinesP
set_option linter.unusedVariables false
namespace Go.Proofs.YteegnmblbjcfpaaDoor.T
open Go Go.Lib Go.RowKit Go.Shelf

set_option maxRecDepth 100000 in
set_option maxHeartbeats 8000000 in
theorem joined_in (B : Nat) (v : Value) (xs : List ByteArray) (hxs : tot xs + xs.length ≤ 33554432) (w : World) (hB : B ≤ w.heap.size) (hv : WsAt B w v xs) :
    Calls Tryd.prog 30 #[v] w fun e w' => e = .returned (.string (joinS xs)) ∧ Below w.heap.size w w' := by
  obtain ⟨j0, ji, jz0, jz1, jz2⟩ := info_parts infoByte
  obtain ⟨a, c, rfl, hc1, hc2, hcells⟩ := hv
  have hcl : ∀ (k : Nat) (x : ByteArray), xs[k]? = some x → ∃ bk o, a = some ⟨bk, o, none⟩ ∧ bk < B ∧ w.cell? ⟨bk, o + k, none⟩ = some (.string x) := fun k x hk => by
    obtain ⟨bk, o, h1, h2, h3⟩ := hcells (by rintro rfl; simp at hk)
    exact ⟨bk, o, h1, h2, h3 k x hk⟩
  have HC := Lib.hid hcl
  clear hcells hcl
  go_enter Tryd.func30, Tryd.ntmps30
  go_wp2
  go_loopw [3, 4] (fun v i wr => ∃ k : Nat, k ≤ xs.length ∧ i = .int .i64 k ∧ BytesRow w.heap.size wr v (Lib.join ((xs.take k).map (·.data.toList)) [32]) ∧ Below w.heap.size w wr)
    (fun _ i _ => xs.length - (intOf i).toNat)
  case atStart => exact ⟨0, Nat.zero_le _, rfl, World.ownsRow_nil _ _ _ _, Below.refl _ _⟩
  case round =>
    obtain ⟨k, hk, rfl, hrow, hbw⟩ := hrel
    have hszr := hbw.size
    by_cases hlt : k < xs.length
    · obtain ⟨y, hy⟩ : ∃ y, xs[k]? = some y := ⟨_, List.getElem?_eq_getElem hlt⟩
      obtain ⟨bk, o, rfl, hbk, hcy⟩ := HC.out k y hy
      have htk : xs.take (k + 1) = xs.take k ++ [y] := by rw [List.take_add_one, hy]; rfl
      have hjl := join_tot (xs.take k)
      have htt : tot (xs.take k) + y.size ≤ tot xs := by
        have h1 := tot_app (xs.take (k + 1)) (xs.drop (k + 1))
        rw [List.take_append_drop, htk, tot_app, tot_cons] at h1
        simp [tot] at h1 ⊢; omega
      have hlk : (xs.take k).length = k := by rw [List.length_take]; omega
      by_cases hk0 : k = 0
      · subst hk0
        have hcy0 : wr.cell? ⟨bk, o, none⟩ = some (.string y) := (hbw.cell (p := ⟨bk, o, none⟩) (by simp; omega)).trans hcy
        have hcur : Lib.join ((xs.take (0 + 1)).map (·.data.toList)) [32] = y.data.toList := by rw [htk]; simp [Lib.join_one]
        have HCUR := Lib.hid hcur
        clear hcur htk hy hcy
        have hrow0 : wr.ownsRow w.heap.size 5 1 _ 0 [] := hrow
        go_wp2_with (at_builtin; refine wpList_append_own_string _ rfl _ _ 54 9 rfl w.heap.size 5 j0 Tryd.underlying54 Tryd.underlying9 ji jz0 jz1 jz2 _ _ _ rfl hrow0 y rfl (by unfold maxLen; first | omega | (simp; omega)) (by first | omega | (simp; omega)) (by omega) ?_; intro v4 w4 hown4 hgrow4 _)
        have hbw4 : Below w.heap.size w w4 := hbw.grown hgrow4 hszr (fun j hj => (hrow0.lt j hj).1)
        go_wp2
        go_roundw
        case rel =>
          refine ⟨1, by omega, by first | rfl | go_num, ?_, hbw4⟩
          rw [HCUR.out]
          unfold BytesRow
          rw [Nat.zero_add, List.nil_append] at hown4
          exact hown4
        case measure => simp [intOf]; omega
      · obtain ⟨x0, l0, hx0⟩ : ∃ x0 l0, xs.take k = x0 :: l0 := by
          cases h : xs.take k with
          | nil => rw [h] at hlk; simp at hlk; omega
          | cons x0 l0 => exact ⟨x0, l0, rfl⟩
        have hcur : Lib.join ((xs.take (k + 1)).map (·.data.toList)) [32] = Lib.join ((xs.take k).map (·.data.toList)) [32] ++ [32] ++ y.data.toList := by
          rw [htk, hx0, List.map_append, List.map_cons, List.map_cons, List.map_nil]
          exact join_snoc _ _ _
        have hkp : 0 < k := by omega
        generalize Lib.join ((xs.take k).map (·.data.toList)) [32] = cur at *
        have HCUR := Lib.hid hcur
        have hcy0 : ∀ W, Below w.heap.size w W → W.cell? ⟨bk, o + k, none⟩ = some (.string y) := fun W hb => (hb.cell (p := ⟨bk, o + k, none⟩) (by simp; omega)).trans hcy
        have HCY := Lib.hid hcy0
        have hcr := hcy0 wr hbw
        clear hcur htk hy hcy hcy0 hx0 hk0
        have hrow0 : wr.ownsRow w.heap.size 5 1 _ cur.length (byteCells cur) := hrow
        go_wp2_with (first | (at_builtin; refine wpList_append_own _ rfl _ _ 54 rfl w.heap.size 5 j0 (.int .u8 0) 1 1 Tryd.underlying54 ji jz0 jz1 jz2 rfl (by decide) _ cur.length _ rfl (hrow0.alloc _) ⟨wr.heap.size, 0, none⟩ 1 1 [.int .u8 32] rfl rfl (cell_one_new _ _ _) (by simp [Value.oneCell']) (by unfold maxLen; omega) (by omega) (by simp; omega) ?_; intro v3 w3 hown3 hgrow3 _; have hbw3 : Below w.heap.size w w3 := (hbw.alloc hszr _).grown hgrow3 (by simp; omega) (fun j hj => (hrow0.lt j hj).1); have hc3 := HCY.out w3 hbw3; have hsz3 := hbw3.size) | (at_builtin; refine wpList_append_own_string _ rfl _ _ 54 9 rfl w.heap.size 5 j0 Tryd.underlying54 Tryd.underlying9 ji jz0 jz1 jz2 _ _ _ rfl hown3 y rfl (by unfold maxLen; first | omega | (simp; omega)) (by first | omega | (simp; omega)) (by omega) ?_; intro v4 w4 hown4 hgrow4 _))
        have hbw4 : Below w.heap.size w w4 := hbw3.grown hgrow4 hsz3 (fun j hj => (hown3.lt j hj).1)
        go_wp2
        go_roundw
        case rel =>
          refine ⟨k + 1, by omega, by first | rfl | go_num, ?_, hbw4⟩
          rw [HCUR.out]
          unfold BytesRow
          rw [byteCells_append, byteCells_append, List.length_append, List.length_append]
          have e : byteCells [32] = [.int .u8 32] := rfl
          rw [e]
          exact hown4
        case measure => simp [intOf]; omega
    · obtain rfl : k = xs.length := by omega
      rw [List.take_length] at hrow
      have hcv := row_string hrow
      go_wp2
      go_ret
      exact ⟨rfl, hbw⟩

set_option maxRecDepth 100000 in
set_option maxHeartbeats 8000000 in
theorem plain_in (s : ByteArray) (hs : s.size ≤ 33554432) (w : World) :
    Calls Tryd.prog 31 #[.string s] w fun e w' => e = .returned (.string ⟨(s.data.toList.filter okB).toArray⟩) ∧ Below w.heap.size w w' := by
  obtain ⟨j0, ji, jz0, jz1, jz2⟩ := info_parts infoByte
  go_enter Tryd.func31, Tryd.ntmps31
  go_wp2
  go_loopw [3, 4] (fun v i wr => ∃ k : Nat, k ≤ s.size ∧ i = .int .i64 k ∧ BytesRow w.heap.size wr v ((s.data.toList.take k).filter okB) ∧ Below w.heap.size w wr)
    (fun _ i _ => s.size - (intOf i).toNat)
  case atStart => exact ⟨0, Nat.zero_le _, rfl, World.ownsRow_nil _ _ _ _, Below.refl _ _⟩
  case round =>
    obtain ⟨k, hk, rfl, hrow, hbw⟩ := hrel
    have hszr := hbw.size
    by_cases hlt : k < s.size
    · have hl2 : ((s.data.toList.take k).filter okB).length ≤ k := Nat.le_trans (List.length_filter_le _ _) (List.length_take_le _ _)
      have htk : s.data.toList.take (k + 1) = s.data.toList.take k ++ [s[k]] := by
        rw [List.take_succ_eq_append_getElem (by rw [data_len]; exact hlt)]; simp; rfl
      have hcur : (s.data.toList.take (k + 1)).filter okB = (s.data.toList.take k).filter okB ++ (if okB s[k] = true then [s[k]] else []) := by
        rw [htk, List.filter_append]; congr 1
        by_cases h : okB s[k] = true <;> simp [h]
      have hok : okB s[k] = !spP s[k].toNat := rfl
      generalize (s.data.toList.take k).filter okB = cur at *
      have HCUR := Lib.hid hcur
      clear hcur htk
      have hrow0 : wr.ownsRow w.heap.size 5 1 _ cur.length (byteCells cur) := hrow
      cases hsp : spP s[k].toNat with
      | false =>
        obtain ⟨n1, n2⟩ := sp_neq _ hsp
        rw [hsp] at hok
        have HOK := Lib.hid hok
        clear hok hsp
        go_wp2_with (at_builtin; refine wpList_append_own _ rfl _ _ 54 rfl w.heap.size 5 j0 (.int .u8 0) 1 1 Tryd.underlying54 ji jz0 jz1 jz2 rfl (by decide) _ cur.length _ rfl (hrow0.alloc _) ⟨wr.heap.size, 0, none⟩ 1 1 [.int .u8 s[k].toNat] rfl rfl (cell_one_new _ _ _) (by simp [Value.oneCell']) (by unfold maxLen; omega) (by omega) (by simp; omega) ?_; intro v3 w3 hown3 hgrow3 _)
        have hbw3 : Below w.heap.size w w3 := (hbw.alloc hszr _).grown hgrow3 (by simp; omega) (fun j hj => (hrow0.lt j hj).1)
        go_wp2
        go_roundw
        case rel =>
          refine ⟨k + 1, by omega, by first | rfl | go_num, ?_, hbw3⟩
          rw [HCUR.out, HOK.out]
          unfold BytesRow
          simp only [Bool.not_false, if_true]
          rw [byteCells_append, List.length_append]
          exact hown3
        case measure => simp [intOf]; omega
      | true =>
        have hok2 : okB s[k] = false := by rw [hok, hsp]; rfl
        have hcs : (((s[k].toNat : Int) != 32) = false) ∨ ((((s[k].toNat : Int) != 32) = true) ∧ (((s[k].toNat : Int) != 10) = false)) := by
          unfold spP at hsp
          have h3 : s[k].toNat = 32 ∨ s[k].toNat = 10 := by simpa using hsp
          rcases h3 with h3 | h3 <;> rw [h3]
          · exact .inl rfl
          · exact .inr ⟨rfl, rfl⟩
        have HOK := Lib.hid hok2
        clear hok hok2 hsp
        rcases hcs with hb | ⟨hb, hb2⟩
        all_goals
          go_wp2
          go_roundw
          case rel =>
            refine ⟨k + 1, by omega, by first | rfl | go_num, ?_, hbw⟩
            rw [HCUR.out, HOK.out]
            simp only [Bool.false_eq_true, if_false, List.append_nil]
            exact hrow
          case measure => simp [intOf]; omega
    · obtain rfl : k = s.size := by omega
      rw [List.take_of_length_le (by rw [data_len]; omega)] at hrow
      have hcv := row_string hrow
      go_wp2
      go_ret
      exact ⟨rfl, hbw⟩
end Go.Proofs.YteegnmblbjcfpaaDoor.T
