/-
  errataref01.Wrap; and that its lines are text's.
-/
import Derived.Test.YteegnmblbjcfpaaDoorTextRefWords
set_option linter.unusedVariables false
namespace Go.Proofs.YteegnmblbjcfpaaDoor.T
open Go Go.Lib Go.RowKit Go.Shelf

/-! ### plain -/
/-- the lines from a word on; the line at hand, and its width -/
def rl (room : Int) : List ByteArray → List UInt8 → Int → List ByteArray
  | [], cur, _ => [⟨cur.toArray⟩]
  | x :: l, cur, n => if room - n - 1 < wd x then ⟨cur.toArray⟩ :: rl room l x.data.toList (wd x) else rl room l (cur ++ [32] ++ x.data.toList) (n + 1 + wd x)
def refLines (room : Int) : List ByteArray → List ByteArray
  | [] => []
  | x :: l => rl room l x.data.toList (wd x)
theorem joinTail_snoc (L : List (List UInt8)) (x : List UInt8) : Lib.joinTail [32] (L ++ [x]) = Lib.joinTail [32] L ++ ([32] ++ x) := by simp [Lib.joinTail]
theorem join_snoc (y : List UInt8) (L : List (List UInt8)) (x : List UInt8) : Lib.join ((y :: L) ++ [x]) [32] = Lib.join (y :: L) [32] ++ [32] ++ x := by
  rw [List.cons_append, Lib.join_cons, Lib.join_cons, joinTail_snoc]; simp
theorem rl_lines (room : Int) : ∀ (k : Nat) (l : List ByteArray), l.length ≤ k → ∀ (y : ByteArray) (pre : List ByteArray) (n : Int),
    rl room l (Lib.join ((y :: pre).map (·.data.toList)) [32]) n = joinS ((y :: pre) ++ l.take (lineG room n l)) :: lines room (l.drop (lineG room n l))
  | k, [], _, y, pre, n => by simp [rl, lineG, lines_nil, joinS]
  | 0, x :: l, h, _, _, _ => by simp at h
  | k + 1, x :: l, h, y, pre, n => by
    unfold rl lineG
    by_cases c : room < n + (1 + wd x)
    · rw [if_pos (by omega), if_pos c]
      simp only [List.take_zero, List.append_nil, List.drop_zero]
      have ih := rl_lines room k l (by simp at h; omega) x [] (wd x)
      simp only [List.map_cons, List.map_nil, Lib.join_one] at ih
      rw [ih, lines_cons]
      have e : lineN room (x :: l) = lineG room (wd x) l + 1 := rfl
      rw [e]
      simp [joinS]
    · rw [if_neg (by omega), if_neg c]
      have ih := rl_lines room k l (by simp at h; omega) y (pre ++ [x]) (n + (1 + wd x))
      have e : Lib.join ((y :: (pre ++ [x])).map (·.data.toList)) [32] = Lib.join ((y :: pre).map (·.data.toList)) [32] ++ [32] ++ x.data.toList := by
        have := join_snoc y.data.toList (pre.map (·.data.toList)) x.data.toList
        simpa using this
      rw [e] at ih
      rw [show n + 1 + wd x = n + (1 + wd x) by omega, ih]
      simp
theorem refLines_lines (room : Int) (ws : List ByteArray) : refLines room ws = lines room ws := by
  cases ws with
  | nil => rfl
  | cons x l =>
    have h := rl_lines room l.length l (Nat.le_refl _) x [] (wd x)
    simp only [List.map_cons, List.map_nil, Lib.join_one] at h
    show rl room l x.data.toList (wd x) = _
    rw [h, lines_cons]
    have e : lineN room (x :: l) = lineG room (wd x) l + 1 := rfl
    rw [e]
    simp

theorem rows_apart {w : World} {B1 B2 e1 e2 s1 s2 n1 n2 : Nat} {v1 v2 : Value} {xs1 xs2 : List Value} (h1 : w.ownsRow B1 e1 s1 v1 n1 xs1) (h2 : w.ownsRow B2 e2 s2 v2 n2 xs2) (hne : ¬ e1 = e2) : v1.ownBlock = none ∨ v1.ownBlock ≠ v2.ownBlock := by
  obtain ⟨_, ⟨rfl, _⟩ | ⟨g, cap, cur, rfl, _, hg, _⟩⟩ := h1
  · left; rfl
  · right
    obtain ⟨_, ⟨rfl, _⟩ | ⟨g2, cap2, cur2, rfl, _, hg2, _⟩⟩ := h2
    · simp [Value.ownBlock]
    · simp only [Value.ownBlock]
      intro e
      have : g = g2 := by simpa using e
      subst this
      rw [hg] at hg2
      simp at hg2
      exact hne hg2.2
def St (room : Int) (WL R : List ByteArray) (k : Nat) (acc : List ByteArray) (cur : List UInt8) (n : Int) : Prop :=
  (k = 0 ∧ acc = [] ∧ cur = [] ∧ n = 0) ∨ (1 ≤ k ∧ acc ++ rl room (WL.drop k) cur n = R)
theorem St.first {room : Int} {x : ByteArray} {l R : List ByteArray} (hR : rl room l x.data.toList (wd x) = R) {acc : List ByteArray} {cur : List UInt8} {n : Int} (h : St room (x :: l) R 0 acc cur n) : acc = [] ∧ cur = [] ∧ n = 0 := by
  rcases h with ⟨_, h⟩ | ⟨h, _⟩
  · exact h
  · omega
theorem St.later {room : Int} {WL R : List ByteArray} {k : Nat} (hk : 0 < k) {acc : List ByteArray} {cur : List UInt8} {n : Int} (h : St room WL R k acc cur n) : acc ++ rl room (WL.drop k) cur n = R := by
  rcases h with ⟨h, _⟩ | ⟨_, h⟩
  · omega
  · exact h
theorem refWrap_arg (s : ByteArray) (room : Int) (hr : room < 4) (w : World) :
    Calls Tryd.prog 26 #[.string s, .int .i64 room] w fun e w' => e = .returned (.tuple #[.slice none 0 0, .int .i64 1]) ∧ w = w' := by
  go_enter Tryd.func26, Tryd.ntmps26
  go_wp2
  go_ret2
  exact ⟨rfl, rfl⟩

set_option maxRecDepth 100000 in
set_option maxHeartbeats 64000000 in
theorem refWrap_in (s : ByteArray) (room : Int) (h4 : 4 ≤ room) (hr2 : room ≤ 9223372036854775807) (hs : s.size ≤ 16777216) (w : World) :
    Calls Tryd.prog 26 #[.string s, .int .i64 room] w (IsLines (refLines room (rW s room)) w) := by
  obtain ⟨i0, hi, hz0, hz1, hz2⟩ := info_parts infoStr
  obtain ⟨j0, ji, jz0, jz1, jz2⟩ := info_parts infoByte
  have hN := refWords_in s room h4 hr2 hs w
  have hlen := rW_len s room h4
  have htot := rW_tot s room h4
  generalize rW s room = WL at *
  go_enter Tryd.func26, Tryd.ntmps26
  go_wp2_with (go_at_call 43; refine hN.mono ?_; rintro e w1 ⟨v1, rfl, hrow, hb1⟩)
  have hsz1 := hb1.size
  obtain ⟨a, c, rfl, hc1, hc2, hcells⟩ := hrow.ws
  clear hrow hN
  cases WL with
  | nil =>
    clear hcells
    refine wp_loop_rounds 1 ?_
    rw [rounds_succ]
    go_wp2
    go_ret2
    exact ⟨_, rfl, World.ownsRow_nil _ _ _ _, hb1⟩
  | cons x0 l0 =>
    obtain ⟨bk, o, rfl, hbk, hcl⟩ := hcells (by simp)
    clear hcells
    have hR0 : rl room l0 x0.data.toList (wd x0) = refLines room (x0 :: l0) := rfl
    generalize hR : refLines room (x0 :: l0) = R at *
    have HR := Lib.hid hR0
    clear hR hR0
    have HW : ∀ (y : ByteArray), y.size ≤ 16777216 → ∀ (W : World), Calls Tryd.prog 17 #[.string y] W fun e W' => e = .returned (.int .i64 (wd y)) ∧ Below W.heap.size W W' := fun y hy W => refWidth_in y hy W
    have hm : (x0 :: l0).length = l0.length + 1 := rfl
    obtain ⟨m, hm2⟩ : ∃ m, m = (x0 :: l0).length := ⟨_, rfl⟩
    have hmp : 0 < m := by omega
    have hml : m ≤ 16777216 := by omega
    have hmc : m ≤ c := by omega
    rw [← hm2]
    have HM := Lib.hid hm2
    have HWH := Lib.hid HW
    have HCL := Lib.hid hcl
    clear hm hm2 HW hcl hlen hc1
    go_loopw [6, 7, 9, 10] (fun v ln nv i wr => ∃ (k : Nat) (acc : List ByteArray) (cur : List UInt8) (nn : Int), i = .int .i64 k ∧ k ≤ m ∧ nv = .int .i64 nn ∧ 0 ≤ nn ∧
        nn + 5 * (tot ((x0 :: l0).drop k) : Int) + 2 * ((m : Int) - k) ≤ 128000000 ∧ cur.length + tot ((x0 :: l0).drop k) + (m - k) ≤ 64000000 ∧ acc.length ≤ k ∧
        StrRow w1.heap.size wr v acc ∧ BytesRow w1.heap.size wr ln cur ∧ Below w1.heap.size w1 wr ∧ St room (x0 :: l0) R k acc cur nn)
      (fun _ _ _ i _ => m - (intOf i).toNat)
    case atStart => exact ⟨0, [], [], 0, rfl, Nat.zero_le _, rfl, by omega, by simp only [List.drop_zero]; omega, by simp only [List.drop_zero, List.length_nil]; omega, Nat.le_refl _, World.ownsRow_nil _ _ _ _, World.ownsRow_nil _ _ _ _, Below.refl _ _, .inl ⟨rfl, rfl, rfl, rfl⟩⟩
    case round =>
      obtain ⟨k, acc, cur, nn, rfl, hk, rfl, hn0, hn1, hcu, hac, hout, hlin, hbw, hst⟩ := hrel
      have hszr := hbw.size
      by_cases hlt : k < m
      · obtain ⟨y, hy⟩ : ∃ y, (x0 :: l0)[k]? = some y := ⟨_, List.getElem?_eq_getElem (by rw [← HM.out]; exact hlt)⟩
        have hd : (x0 :: l0).drop k = y :: (x0 :: l0).drop (k + 1) := by
          have hlt' : k < (x0 :: l0).length := by rw [← HM.out]; exact hlt
          rw [List.drop_eq_getElem_cons hlt']
          rw [List.getElem?_eq_getElem hlt'] at hy
          cases hy; rfl
        have hcell : ∀ W, Below w1.heap.size w1 W → W.cell? ⟨bk, o + k, none⟩ = some (.string y) := fun W hb => (hb.cell (p := ⟨bk, o + k, none⟩) hbk).trans (HCL.out k y hy)
        have hc0 := hcell wr hbw
        have hwy := wd_bd y
        rw [hd, tot_cons] at hn1 hcu
        have hys : y.size ≤ 16777216 := by
          have : tot (x0 :: l0) = tot ((x0 :: l0).take k) + tot ((x0 :: l0).drop k) := by rw [← tot_app, List.take_append_drop]
          rw [hd, tot_cons y] at this; omega
        have hd2 := hd
        have HD := Lib.hid hd2
        have HC := Lib.hid hcell
        clear hd hd2 hcell
        generalize htd : tot ((x0 :: l0).drop (k + 1)) = td at *
        have HTD := Lib.hid htd
        clear htd
        have hk0 : k = 0 → y = x0 := fun h => by subst h; simpa using hy.symm
        clear hy
        go_wp2_with fail
        refine (HWH.out y hys _).mono ?_
        rintro e w2 ⟨rfl, hb2⟩
        have hbw2 := hbw.trans (hb2.mono hszr)
        have hsz2 := hbw2.size
        have hout2 : w2.ownsRow w1.heap.size 9 1 _ acc.length (acc.map Value.string) := row_none hout (below_grown hb2)
        have hlin2 : w2.ownsRow w1.heap.size 5 1 _ cur.length (byteCells cur) := row_none hlin (below_grown hb2)
        have hc2 := HC.out w2 hbw2
        by_cases hkz : k = 0
        · obtain ⟨h1, h2, h3⟩ : acc = [] ∧ cur = [] ∧ nn = 0 := by subst hkz; obtain rfl := hk0 rfl; exact St.first HR.out hst
          have hy0 := hk0 hkz
          subst hkz h1 h3
          have HY := Lib.hid hy0
          have HCU := Lib.hid h2
          have hc20 : w2.cell? ⟨bk, o, none⟩ = some (.string y) := hc2
          clear hst hk0 hy0 h2
          go_wp2_with (at_builtin; refine wpList_append_own_string _ rfl _ _ 54 9 rfl w1.heap.size 5 j0 Tryd.underlying54 Tryd.underlying9 ji jz0 jz1 jz2 _ _ _ rfl hlin2 y rfl (by unfold maxLen; first | omega | (simp; omega)) (by first | omega | (simp; omega)) (by omega) ?_; intro v4 w4 hown4 hgrow4 _)
          have hout4 := hout2.kept hgrow4 (rows_apart hout2 hlin2 (by decide))
          have hbw4 : Below w1.heap.size w1 w4 := hbw2.grown hgrow4 hsz2 (fun j hj => (hlin2.lt j hj).1)
          go_wp2
          go_roundw
          case rel =>
            refine ⟨1, [], y.data.toList, wd y, by first | rfl | go_num, by omega, by first | rfl | simp, hwy.1, ?_, ?_, by simp, hout4, ?_, hbw4, .inr ⟨by omega, ?_⟩⟩
            · rw [HTD.out]; omega
            · rw [HTD.out]; simp; omega
            · unfold BytesRow
              rw [HCU.out] at hown4
              have e : byteCells [] ++ strCells y = strCells y := rfl
              have e2 : ([] : List UInt8).length + y.size = y.size := Nat.zero_add _
              rw [e, e2] at hown4
              exact hown4
            · rw [HY.out, List.nil_append]; exact HR.out
          case measure => simp [intOf]; omega
        · have hkp : 0 < k := by omega
          have hst := St.later hkp hst
          rw [HD.out] at hst
          unfold rl at hst
          clear hkz hk0
          by_cases hgt : room - nn - 1 < wd y
          · rw [if_pos hgt] at hst
            have HST := Lib.hid hst
            clear hst
            have hcv := row_string hlin2
            have hnil := fun W : World => World.ownsRow_nil W w1.heap.size 5 1
            go_wp2_with (first | (at_builtin; refine wpList_append_own _ rfl _ _ 42 rfl w1.heap.size 9 i0 (.string ⟨#[]⟩) 1 16 Tryd.underlying42 hi hz0 hz1 hz2 rfl (by decide) _ acc.length _ rfl (hout2.alloc _) ⟨w2.heap.size, 0, none⟩ 1 1 [.string ⟨cur.toArray⟩] rfl rfl (cell1_str _ _ _) (by simp [Value.oneCell']) (by unfold maxLen; omega) (by omega) (by simp; omega) ?_; intro v3 w3 hown3 hgrow3 _; have hbw3 : Below w1.heap.size w1 w3 := (hbw2.alloc hsz2 _).grown hgrow3 (by simp; omega) (fun j hj => (hout2.lt j hj).1); have hc3 := HC.out w3 hbw3; have hsz3 := hbw3.size) | (at_builtin; refine wpList_append_own_string _ rfl _ _ 54 9 rfl w1.heap.size 5 j0 Tryd.underlying54 Tryd.underlying9 ji jz0 jz1 jz2 _ _ _ rfl (hnil _) y rfl (by unfold maxLen; first | omega | (simp; omega)) (by first | omega | (simp; omega)) (by omega) ?_; intro v4 w4 hown4 hgrow4 _))
            have hbw4 : Below w1.heap.size w1 w4 := hbw3.grown hgrow4 hsz3 (fun j hj => ((hnil w3).lt j hj).1)
            have hout4 := hown3.kept hgrow4 (rows_apart hown3 (hnil w3) (by decide))
            go_wp2
            go_roundw
            case rel =>
              refine ⟨k + 1, acc ++ [⟨cur.toArray⟩], y.data.toList, wd y, by first | rfl | go_num, by omega, by first | rfl | simp, hwy.1, ?_, ?_, by simp; omega, str_snoc hout4, ?_, hbw4, .inr ⟨by omega, ?_⟩⟩
              · rw [HTD.out]; omega
              · rw [HTD.out]; simp; omega
              · unfold BytesRow
                rw [Nat.zero_add, List.nil_append] at hown4
                exact hown4
              · rw [← HST.out]; simp
            case measure => simp [intOf]; omega
          · rw [if_neg hgt] at hst
            have HST := Lib.hid hst
            clear hst
            go_wp2_with (first | (at_builtin; refine wpList_append_own _ rfl _ _ 54 rfl w1.heap.size 5 j0 (.int .u8 0) 1 1 Tryd.underlying54 ji jz0 jz1 jz2 rfl (by decide) _ cur.length _ rfl (hlin2.alloc _) ⟨w2.heap.size, 0, none⟩ 1 1 [.int .u8 32] rfl rfl (cell_one_new _ _ _) (by simp [Value.oneCell']) (by unfold maxLen; omega) (by omega) (by simp; omega) ?_; intro v3 w3 hown3 hgrow3 _; have hbw3 : Below w1.heap.size w1 w3 := (hbw2.alloc hsz2 _).grown hgrow3 (by simp; omega) (fun j hj => (hlin2.lt j hj).1); have hc3 := HC.out w3 hbw3; have hsz3 := hbw3.size; have hout3 := (World.ownsRow.alloc hout2 _).kept hgrow3 (rows_apart hout2 hlin2 (by decide))) | (at_builtin; refine wpList_append_own_string _ rfl _ _ 54 9 rfl w1.heap.size 5 j0 Tryd.underlying54 Tryd.underlying9 ji jz0 jz1 jz2 _ _ _ rfl hown3 y rfl (by unfold maxLen; first | omega | (simp; omega)) (by first | omega | (simp; omega)) (by omega) ?_; intro v4 w4 hown4 hgrow4 _))
            have hbw4 : Below w1.heap.size w1 w4 := hbw3.grown hgrow4 hsz3 (fun j hj => (hown3.lt j hj).1)
            have hout4 := hout3.kept hgrow4 (rows_apart hout3 hown3 (by decide))
            go_wp2
            go_roundw
            case rel =>
              refine ⟨k + 1, acc, cur ++ [32] ++ y.data.toList, nn + 1 + wd y, by first | rfl | go_num, by omega, by first | rfl | simp, by omega, ?_, ?_, by omega, hout4, ?_, hbw4, .inr ⟨by omega, ?_⟩⟩
              · rw [HTD.out]; omega
              · rw [HTD.out]; simp; omega
              · unfold BytesRow
                rw [byteCells_append, byteCells_append, List.length_append, List.length_append]
                have e : byteCells [32] = [.int .u8 32] := rfl
                rw [e]
                exact hown4
              · exact HST.out
            case measure => simp [intOf]; omega
      · obtain rfl : k = m := by omega
        have hst := St.later hmp hst
        rw [HM.out, List.drop_length] at hst
        unfold rl at hst
        have HST := Lib.hid hst
        clear hst
        have hout2 : wr.ownsRow w1.heap.size 9 1 _ acc.length (acc.map Value.string) := hout
        have hcv := row_string hlin
        go_wp2_with (at_builtin; refine wpList_append_own _ rfl _ _ 42 rfl w1.heap.size 9 i0 (.string ⟨#[]⟩) 1 16 Tryd.underlying42 hi hz0 hz1 hz2 rfl (by decide) _ acc.length _ rfl (hout2.alloc _) ⟨wr.heap.size, 0, none⟩ 1 1 [.string ⟨cur.toArray⟩] rfl rfl (cell1_str _ _ _) (by simp [Value.oneCell']) (by unfold maxLen; omega) (by omega) (by simp; omega) ?_; intro v3 w3 hown3 hgrow3 _)
        have hbw3 : Below w1.heap.size w1 w3 := (hbw.alloc hszr _).grown hgrow3 (by simp; omega) (fun j hj => (hout2.lt j hj).1)
        go_wp2
        go_ret2
        refine ⟨_, rfl, ?_, hb1.trans (hbw3.mono hsz1)⟩
        rw [← HST.out]
        exact StrRow.base (str_snoc hown3) hsz1
end Go.Proofs.YteegnmblbjcfpaaDoor.T
