/-
  erratalaw01.TextCuts, walked.
-/
import Derived.Maps.AppendAt
import Derived.Deep.QuietTactic
import Derived.BigQuiet
import Derived.Test.YtcnbfabogiakcaaDoorTextRefWrap
set_option linter.unusedVariables false
namespace Go.Proofs.YtcnbfabogiakcaaDoor.T
open Go Go.Lib Go.RowKit Go.Shelf

theorem after {w W : World} {P : Program} {f : FuncId} {args : Array Value} {v : Value} (hb : Below w.heap.size w W) (h : Calls P f args W fun e W' => e = .returned v ∧ Below W.heap.size W W') :
    Calls P f args W fun e W' => e = .returned v ∧ Below w.heap.size w W' := h.mono fun e W' k => ⟨k.1, hb.trans (k.2.mono hb.size)⟩
/-- two rows of the same texts are the same -/
theorem sameTexts_in (B1 B2 : Nat) (va vb : Value) (xs : List ByteArray) (hxs : xs.length ≤ 1048576) (w : World) (ha : StrRow B1 w va xs) (hb : StrRow B2 w vb xs) :
    Calls Tryd.prog 28 #[va, vb] w fun e w' => e = .returned (.bool true) ∧ ∃ n, w' = w.drewN n := by
  obtain ⟨a, c, rfl, hc1, hc2, hca⟩ := ha.ws
  obtain ⟨b, d, rfl, hd1, hd2, hcb⟩ := hb.ws
  clear ha hb
  cases xs with
  | nil =>
    clear hca hcb
    go_enter Tryd.func28, Tryd.ntmps28
    go_wp2
    refine wp_loop_rounds 1 ?_
    rw [rounds_succ]
    go_wp2
    go_ret
    exact ⟨rfl, 0, rfl⟩
  | cons x0 l0 =>
    obtain ⟨ga, oa, rfl, hga, hcla⟩ := hca (by simp)
    obtain ⟨gb, ob, rfl, hgb, hclb⟩ := hcb (by simp)
    clear hca hcb
    generalize (x0 :: l0) = xs at *
    go_enter Tryd.func28, Tryd.ntmps28
    go_wp2
    go_loopw [5] (fun i wr => ∃ k : Nat, k ≤ xs.length ∧ i = .int .i64 k ∧ ∃ n, wr = w.drewN n) (fun i _ => xs.length - (intOf i).toNat)
    case atStart => exact ⟨0, Nat.zero_le _, rfl, 0, rfl⟩
    case round =>
      obtain ⟨k, hk, rfl, n, rfl⟩ := hrel
      by_cases hlt : k < xs.length
      · obtain ⟨y, hy⟩ : ∃ y, xs[k]? = some y := ⟨_, List.getElem?_eq_getElem hlt⟩
        have ea : w.cell? ⟨ga, oa + k, none⟩ = some (.string y) := hcla k y hy
        have eb : w.cell? ⟨gb, ob + k, none⟩ = some (.string y) := hclb k y hy
        clear hy
        go_wp2
        go_quiet (fail)
        go_wp2
        go_roundw
        case rel => exact ⟨k + 1, by omega, by go_num, n + nq, rfl⟩
        case measure => simp [intOf]; omega
      · obtain rfl : k = xs.length := by omega
        go_wp2
        go_ret
        exact ⟨rfl, n, rfl⟩
theorem strs_below {w w' : World} {B n : Nat} {v : Value} {xs : List ByteArray} (h : StrRow B w v xs) (hb : Below n w w') (hl : ∀ g, v.ownBlock = some g → g < n) : StrRow B w' v xs := by
  obtain ⟨hlen, h0 | ⟨g, cap, cur, rfl, hB, hg, hr⟩⟩ := h
  · exact ⟨hlen, .inl h0⟩
  · exact ⟨hlen, .inr ⟨g, cap, cur, rfl, hB, (hb.block g (hl g rfl)).trans hg, hr⟩⟩
theorem set_strs (xs : List ByteArray) (t : ByteArray) (j : Nat) (h : j < xs.length) : ((List.replicate j t ++ xs.drop j).map Value.string).set j (.string t) = (List.replicate (j + 1) t ++ xs.drop (j + 1)).map Value.string := by
  have e : xs.drop j = xs[j] :: xs.drop (j + 1) := List.drop_eq_getElem_cons h
  rw [e]
  simp only [List.map_append, List.map_cons]
  rw [List.set_append_right _ _ (by simp)]
  simp only [List.length_map, List.length_replicate, Nat.sub_self, List.set_cons_zero]
  rw [List.replicate_succ', List.map_append]
  simp

def WrapPost (code : Int) (xs : List ByteArray) (W : World) (e : Ending) (W' : World) : Prop := ∃ v, e = .returned (.tuple #[v, .int .i64 code]) ∧ StrRow W.heap.size W' v xs ∧ Below W.heap.size W W'
theorem wraps (s : ByteArray) (room : Int) (hr1 : -9223372036854775808 ≤ room) (hr2 : room ≤ 9223372036854775807) (hs : s.size ≤ 1048576) :
    ∃ (code : Int) (xs : List ByteArray), xs.length ≤ 1048576 ∧ (∀ W, Calls Tryd.prog 26 #[.string s, .int .i64 room] W (WrapPost code xs W)) ∧
      (∀ W, Tabs W → 2 ≤ W.heap.size → Calls Tryd.prog 27 #[.string s, .int .i64 room] W (WrapPost code xs W)) := by
  by_cases h : room < 4
  · refine ⟨1, [], by simp, fun W => ?_, fun W _ _ => ?_⟩
    · exact (refWrap_arg s room h W).mono fun e W' ⟨he, hw⟩ => ⟨_, he, World.ownsRow_nil _ _ _ _, hw ▸ Below.refl _ _⟩
    · exact (wrap_arg s room h W).mono fun e W' ⟨he, hw⟩ => ⟨_, he, World.ownsRow_nil _ _ _ _, hw ▸ Below.refl _ _⟩
  · have h4 : 4 ≤ room := by omega
    refine ⟨0, lines room (nW s room), ?_, fun W => ?_, fun W hT h2 => ?_⟩
    · have hl : ∀ (f : Nat) (l : List ByteArray), (linesF room f l).length ≤ f := by
        intro f
        induction f with
        | zero => intro l; simp [linesF]
        | succ f ih =>
          intro l
          unfold linesF
          split
          · simp
          · have := ih (l.drop (lineN room l)); simp; omega
      have := hl (nW s room).length (nW s room)
      have h3 := rW_len s room h4
      rw [← nW_rW] at h3
      unfold lines; omega
    · have h := refWrap_in s room h4 hr2 hs W
      rw [refLines_lines, ← nW_rW] at h
      exact h
    · exact wrap_in s room h4 hr2 hs W hT h2

set_option maxRecDepth 100000 in
set_option maxHeartbeats 4000000 in
theorem textCuts_in (s : ByteArray) (room : Int) (hr1 : -9223372036854775808 ≤ room) (hr2 : room ≤ 9223372036854775807) (hs : s.size ≤ 1048576) (w : World) (hT : Tabs w) (h2 : 2 ≤ w.heap.size) :
    Calls Tryd.prog 5 #[.string s, .int .i64 room] w fun e w' => e = .returned (.bool true) ∧ Below w.heap.size w w' := by
  obtain ⟨code, xs, hx, cR, cT⟩ := wraps s room hr1 hr2 hs
  have cC := fun (W : World) (hb : Below w.heap.size w W) => after hb (Cut_in s room (by omega) W (hT.below hb h2) (by have := hb.size; omega))
  have cD := fun (W : World) (hb : Below w.heap.size w W) => after hb (refCut_in s room hr1 hr2 hs W)
  generalize s.extract 0 (fit s room) = C at *
  have CR := Lib.hid cR; have CT := Lib.hid cT; have CC := Lib.hid cC; have CD := Lib.hid cD
  clear cR cT cC cD
  have hb0 := Below.refl w.heap.size w
  go_enter Tryd.func5, Tryd.ntmps5
  go_wp2_with fail
  refine (CC.out _ hb0).mono ?_
  rintro e w1 ⟨rfl, hb1⟩
  go_wp2_with fail
  refine (CD.out _ hb1).mono ?_
  rintro e w2 ⟨rfl, hb2⟩
  go_wp2_with fail
  refine (CR.out _).mono ?_
  rintro e w3 ⟨vw, rfl, rw3, hb3'⟩
  have hz2 := hb2.size
  have hb3 := hb2.trans (hb3'.mono hz2)
  have hz3' := hb3'.size
  have hz3 := hb3.size
  go_wp2_with fail
  refine (CT.out _ (hT.below hb3 h2) (by omega)).mono ?_
  rintro e w4 ⟨va, rfl, ra4, hb4'⟩
  have hb4 := hb3.trans (hb4'.mono hz3)
  have hz4' := hb4'.size
  have hz4 := hb4.size
  go_wp2_with fail
  refine (CT.out _ (hT.below hb4 h2) (by omega)).mono ?_
  rintro e w5 ⟨vb, rfl, rb5, hb5'⟩
  have hb5 := hb4.trans (hb5'.mono hz4)
  have hz5' := hb5'.size
  have hz5 := hb5.size
  have rw5 : StrRow w2.heap.size w5 vw xs := strs_below (strs_below rw3 hb4' (fun g h => (World.ownsRow.lt rw3 g h).2)) hb5' (fun g h => by have := (World.ownsRow.lt rw3 g h).2; omega)
  have ra5 : StrRow w3.heap.size w5 va xs := strs_below ra4 hb5' (fun g h => (World.ownsRow.lt ra4 g h).2)
  go_wp2_with fail
  refine (sameTexts_in _ _ va vw xs hx _ ra5 rw5).mono ?_
  rintro e w6 ⟨rfl, n1, rfl⟩
  go_wp2_with fail
  refine (sameTexts_in _ _ vb vw xs hx _ (show StrRow w4.heap.size (w5.drewN n1) vb xs from rb5) (show StrRow w2.heap.size (w5.drewN n1) vw xs from rw5)).mono ?_
  rintro e w7 ⟨rfl, n2, rfl⟩
  have raX : StrRow w3.heap.size ((w5.drewN n1).drewN n2) va xs := ra5
  have rbX : StrRow w4.heap.size ((w5.drewN n1).drewN n2) vb xs := rb5
  have rwX : StrRow w2.heap.size ((w5.drewN n1).drewN n2) vw xs := rw5
  have hbX : Below w.heap.size w ((w5.drewN n1).drewN n2) := below_drewN (below_drewN hb5 _) _
  have hzX : w5.heap.size ≤ ((w5.drewN n1).drewN n2).heap.size := Nat.le_refl _
  have hpa : ∀ g, va.ownBlock = some g → g < w4.heap.size ∧ w3.heap.size ≤ g := fun g h => ⟨(World.ownsRow.lt ra4 g h).2, (World.ownsRow.lt ra4 g h).1⟩
  have hpw : ∀ g, vw.ownBlock = some g → g < w3.heap.size := fun g h => (World.ownsRow.lt rw3 g h).2
  have hpb : ∀ g, vb.ownBlock = some g → w4.heap.size ≤ g ∧ g < w5.heap.size := fun g h => World.ownsRow.lt rb5 g h
  generalize (w5.drewN n1).drewN n2 = X at *
  clear rw5 ra5 rb5 rw3 ra4 hb5' hb4' hb3' hb1 hb2 hb3 hb4 hb5 hb0 CR CT CC CD
  obtain ⟨pa, ca, rfl, ca1, ca2, hwa⟩ := raX.ws
  obtain ⟨pb, cb, rfl, _, _, _⟩ := rbX.ws
  obtain ⟨pw, cw, rfl, _, _, _⟩ := rwX.ws
  clear hwa
  go_wp2
  go_loopw [11] (fun i wx => ∃ j : Nat, j ≤ xs.length ∧ i = .int .i64 j ∧ wx.ownsRow w3.heap.size 9 1 (.slice pa xs.length ca) xs.length ((List.replicate j (⟨#[126]⟩ : ByteArray) ++ xs.drop j).map Value.string) ∧ StrRow w4.heap.size wx (.slice pb xs.length cb) xs ∧ Below w3.heap.size X wx) (fun i _ => xs.length - (intOf i).toNat)
  case atStart => exact ⟨0, Nat.zero_le _, rfl, by simp only [List.replicate_zero, List.nil_append, List.drop_zero]; exact raX, rbX, Below.refl _ _⟩
  case round =>
    obtain ⟨j, hj, rfl, hrj, hbj, hbx⟩ := hrel
    by_cases hjl : j < xs.length
    · obtain ⟨g, hgg⟩ : ∃ g, pa = some ⟨g, 0, none⟩ := by
        obtain ⟨_, ⟨_, h0⟩ | ⟨g, cp, cur, hv, _⟩⟩ := hrj
        · omega
        · exact ⟨g, by cases hv; rfl⟩
      subst hgg
      have hgl : g < w4.heap.size ∧ w3.heap.size ≤ g := hpa g rfl
      have hcg : wr.cell? ⟨g, j, none⟩ = some (.string (xs[j])) := by
        rw [hrj.cellAt j (by omega), List.getElem?_map, List.getElem?_append_right (by simp), List.length_replicate, Nat.sub_self, List.getElem?_drop]
        simp [hjl]
      have hfg := hrj.frozenAt j
      obtain ⟨hst1, hst2⟩ := hrj.stored j (.string ⟨#[126]⟩)
      have hbj2 : StrRow w4.heap.size (wr.setCell ⟨g, j, none⟩ (.string ⟨#[126]⟩)) (.slice pb xs.length cb) xs := World.ownsRow.kept hbj hst2 (by
        cases hvb : (Value.slice pb xs.length cb).ownBlock with
        | none => exact .inl rfl
        | some gb => exact .inr (fun e => by have := hpb gb hvb; simp at e; omega))
      have hl2 := set_strs xs ⟨#[126]⟩ j hjl
      have HL2 := Lib.hid hl2
      have HS1 := Lib.hid hst1
      clear hl2 hst1
      go_wp2
      go_roundw
      case rel => exact ⟨j + 1, by omega, by go_num, HL2.out ▸ HS1.out, hbj2, hbx.setCell (p := ⟨g, j, none⟩) hgl.2 _⟩
      case measure => simp [intOf]; omega
    · obtain rfl : j = xs.length := by omega
      rw [List.drop_length, List.append_nil] at hrj
      obtain ⟨i0, hi, hz0, hz1, hz2⟩ := info_parts infoStr
      obtain ⟨Y, rfl⟩ : ∃ Y, Y = wr := ⟨_, rfl⟩
      have hXY := hbx.size
      go_wp2
      go_loopw [7, 12] (fun v i wr => ∃ j : Nat, j ≤ 20 ∧ i = .int .i64 j ∧ wr.ownsRow w3.heap.size 9 1 v (xs.length + j) ((List.replicate (xs.length + j) (⟨#[126]⟩ : ByteArray)).map Value.string) ∧ (∀ g, v.ownBlock = some g → g < w4.heap.size ∨ w5.heap.size ≤ g) ∧ StrRow w4.heap.size wr (.slice pb xs.length cb) xs ∧ Below w3.heap.size X wr) (fun _ i _ => 20 - (intOf i).toNat)
      case atStart => exact ⟨0, by omega, rfl, hrj, fun g hg => .inl (hpa g hg).1, hbj, hbx⟩
      case round =>
        obtain ⟨j, hj, rfl, hrk, hvk, hbk, hbz⟩ := hrel
        have hsz := hbz.size
        by_cases hj2 : j < 20
        · have HVK := Lib.hid hvk
          clear hvk
          go_wp2_with (at_builtin; refine wpList_append_own_at _ rfl _ _ 42 rfl w3.heap.size 9 i0 (.string ⟨#[]⟩) 1 16 Tryd.underlying42 hi hz0 hz1 hz2 rfl (by decide) _ _ _ rfl (hrk.alloc _) ⟨wr.heap.size, 0, none⟩ 1 1 [.string ⟨#[126]⟩] rfl rfl (cell1_str _ _ _) (by simp [Value.oneCell']) (by unfold maxLen; omega) (by omega) (by simp; omega) ?_; intro v' w7 hown' hgrow _ hat)
          go_wp2
          go_roundw
          case rel =>
            refine ⟨j + 1, by omega, by go_num, ?_, ?_, ?_, ?_⟩
            · rw [show xs.length + (j + 1) = xs.length + j + 1 from rfl, List.replicate_succ', List.map_append]
              exact hown'
            · intro g hg
              rcases hat with h | h
              · exact HVK.out g (h ▸ hg)
              · rw [h] at hg
                have e : (wr.alloc (.cells #[.string ⟨#[126]⟩] 9)).heap.size = g := by simpa using hg
                simp at e
                exact .inr (by omega)
            · refine World.ownsRow.kept (World.ownsRow.alloc hbk _) hgrow ?_
              cases hvb : (Value.slice pb xs.length cb).ownBlock with
              | none => exact .inl rfl
              | some gb => exact .inr (fun e => by have h1 := hpb gb hvb; have h2 := HVK.out gb e.symm; omega)
            · exact (hbz.alloc (by omega) _).grown hgrow (by simp; omega) (fun k hk => (hrk.lt k hk).1)
          case measure => simp [intOf]; omega
        · obtain rfl : j = 20 := by omega
          have hvs : ∃ pv cv, u7 = .slice pv (xs.length + 20) cv := by
            obtain ⟨_, ⟨h, h0⟩ | ⟨g, cap, cur, h, _⟩⟩ := hrk
            · omega
            · exact ⟨_, _, h⟩
          obtain ⟨pv, cv, rfl⟩ := hvs
          have rwz : StrRow w2.heap.size wr (.slice pw xs.length cw) xs := strs_below rwX hbz hpw
          have hll : (((xs.length + 20 : Nat) : Int) == (xs.length : Int) + 20) = true := by rw [beq_iff_eq]; omega
          have hbf := hbX.trans (hbz.mono hz3)
          clear hvk
          go_wp2_with fail
          refine (sameTexts_in _ _ _ _ xs hx _ hbk rwz).mono ?_
          rintro e w8 ⟨rfl, n8, rfl⟩
          go_wp2
          go_ret
          exact ⟨rfl, below_drewN hbf n8⟩
end Go.Proofs.YtcnbfabogiakcaaDoor.T
