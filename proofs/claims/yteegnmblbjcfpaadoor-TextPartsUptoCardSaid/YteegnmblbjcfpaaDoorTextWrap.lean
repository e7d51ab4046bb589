/-
  text.Wrap.
-/
import Derived.Test.YteegnmblbjcfpaaDoorTextLineLen
set_option linter.unusedVariables false
namespace Go.Proofs.YteegnmblbjcfpaaDoor.T
open Go Go.Lib Go.RowKit Go.Shelf

/-! ### plain: the lines -/
def joinS (xs : List ByteArray) : ByteArray := ⟨(Lib.join (xs.map (·.data.toList)) [32]).toArray⟩
theorem join_tot : ∀ xs : List ByteArray, (Lib.join (xs.map (·.data.toList)) [32]).length ≤ tot xs + xs.length
  | [] => by simp [Lib.join_nil]
  | x :: l => by
    have h : ∀ l : List ByteArray, (Lib.joinTail [32] (l.map (·.data.toList))).length = tot l + l.length := by
      intro l
      induction l with
      | nil => rfl
      | cons y l ih =>
        have e : y.data.size = y.size := rfl
        unfold Lib.joinTail at ih ⊢
        simp [tot] at ih ⊢; omega
    have e : x.data.size = x.size := rfl
    rw [List.map_cons, Lib.join_cons, List.length_append, h l, tot_cons]
    simp; omega
def lineN (room : Int) : List ByteArray → Nat
  | [] => 0
  | x :: l => lineG room (wd x) l + 1
def linesF (room : Int) : Nat → List ByteArray → List ByteArray
  | 0, _ => []
  | f + 1, xs => if xs = [] then [] else joinS (xs.take (lineN room xs)) :: linesF room f (xs.drop (lineN room xs))
def lines (room : Int) (xs : List ByteArray) : List ByteArray := linesF room xs.length xs
theorem lineN_bd (room : Int) (x : ByteArray) (l : List ByteArray) : 1 ≤ lineN room (x :: l) ∧ lineN room (x :: l) ≤ (x :: l).length := by
  have := lineG_le room l (wd x)
  unfold lineN; simp; omega
theorem linesF_same (room : Int) : ∀ (f g : Nat) (xs : List ByteArray), xs.length ≤ f → xs.length ≤ g → linesF room f xs = linesF room g xs
  | 0, 0, _, _, _ => rfl
  | 0, g + 1, xs, h, _ => by have : xs = [] := List.eq_nil_of_length_eq_zero (by omega); subst this; simp [linesF]
  | f + 1, 0, xs, _, h => by have : xs = [] := List.eq_nil_of_length_eq_zero (by omega); subst this; simp [linesF]
  | f + 1, g + 1, [], _, _ => by simp [linesF]
  | f + 1, g + 1, x :: l, h, k => by
    have hb := lineN_bd room x l
    unfold linesF
    rw [if_neg (by simp), if_neg (by simp), linesF_same room f g _ (by rw [List.length_drop]; omega) (by rw [List.length_drop]; omega)]
theorem lines_nil (room : Int) : lines room [] = [] := rfl
theorem lines_cons (room : Int) (x : ByteArray) (l : List ByteArray) : lines room (x :: l) = joinS ((x :: l).take (lineN room (x :: l))) :: lines room ((x :: l).drop (lineN room (x :: l))) := by
  have hb := lineN_bd room x l
  unfold lines
  rw [show (x :: l).length = l.length + 1 from rfl, linesF, if_neg (by simp)]
  rw [linesF_same room l.length ((x :: l).drop (lineN room (x :: l))).length _ (by rw [List.length_drop]; simp at hb ⊢; omega) (Nat.le_refl _)]

/-- a slice that reads as these texts, in a block below B -/
def WsAt (B : Nat) (w : World) (v : Value) (xs : List ByteArray) : Prop :=
  ∃ a c, v = .slice a xs.length c ∧ xs.length ≤ c ∧ c ≤ 9223372036854775807 ∧ (xs ≠ [] → ∃ bk o, a = some ⟨bk, o, none⟩ ∧ bk < B ∧ CellsAt w bk o xs)
theorem StrRow.ws {B : Nat} {w : World} {v : Value} {xs : List ByteArray} (h : StrRow B w v xs) : WsAt w.heap.size w v xs := by
  have h' : w.ownsRow B 9 1 v xs.length (xs.map Value.string) := h
  obtain ⟨_, ⟨rfl, h0⟩ | ⟨g, cap, cur, rfl, hg0, hg1, hc1, hc2, _⟩⟩ := h
  · have : xs = [] := List.eq_nil_of_length_eq_zero h0
    subst this
    exact ⟨none, 0, rfl, by simp, by omega, fun h => absurd rfl h⟩
  · unfold maxLen at hc2
    refine ⟨some ⟨g, 0, none⟩, cap, rfl, hc1, by omega, fun _ => ⟨g, 0, rfl, (Array.getElem?_eq_some_iff.1 hg1).1, fun j x hj => ?_⟩⟩
    have hlt : j < xs.length := by
      rcases Nat.lt_or_ge j xs.length with h | h
      · exact h
      · rw [List.getElem?_eq_none h] at hj; cases hj
    rw [Nat.zero_add]
    exact (h'.cellAt j (by omega)).trans (by rw [List.getElem?_map, hj]; rfl)
def IsLines (xs : List ByteArray) (w : World) (e : Ending) (w' : World) : Prop := ∃ v, e = .returned (.tuple #[v, .int .i64 0]) ∧ StrRow w.heap.size w' v xs ∧ Below w.heap.size w w'
theorem wrap_arg (s : ByteArray) (room : Int) (hr : room < 4) (w : World) :
    Calls Tryd.prog 27 #[.string s, .int .i64 room] w fun e w' => e = .returned (.tuple #[.slice none 0 0, .int .i64 1]) ∧ w = w' := by
  go_enter Tryd.func27, Tryd.ntmps27
  go_wp2
  go_ret2
  exact ⟨rfl, rfl⟩
theorem slice_front (bk o n c k : Nat) (hk : k ≤ c) (hc : 0 < c) (W : World) : (Instr.slice 42 (.slice (some ⟨bk, o, none⟩) n c) none (some (.int .i64 (k : Int))) none).run Tryd.prog W = .ok (.slice (some ⟨bk, o, none⟩) k c) W := by
  rw [run_slice_h (P := Tryd.prog) W 42 (some ⟨bk, o, none⟩) n c (by kernel_rfl) .i64 (k : Int) (by omega) (by omega)]
  have hz : (sizeOf (Tryd.prog.elem 42)).run Tryd.prog W = .ok 1 W := by kernel_rfl
  rw [hz]
  simp only [Result.andThen, sliced, Int.toNat_natCast]
  rw [if_neg (by omega)]
  simp [Addr.add]

set_option maxRecDepth 100000 in
set_option maxHeartbeats 64000000 in
theorem wrap_in (s : ByteArray) (room : Int) (h4 : 4 ≤ room) (hr2 : room ≤ 9223372036854775807) (hs : s.size ≤ 16777216) (w : World) (hT : Tabs w) (h2 : 2 ≤ w.heap.size) :
    Calls Tryd.prog 27 #[.string s, .int .i64 room] w (IsLines (lines room (nW s room)) w) := by
  obtain ⟨i0, hi, hz0, hz1, hz2⟩ := info_parts infoStr
  have hN := narrow_in s room h4 hs w hT h2
  have hlen := rW_len s room h4
  have htot := rW_tot s room h4
  rw [← nW_rW] at hlen htot
  generalize nW s room = WL at *
  generalize hR : lines room WL = R at *
  have HR := Lib.hid hR
  clear hR
  go_enter Tryd.func27, Tryd.ntmps27
  go_wp2_with (go_at_call 44; refine hN.mono ?_; rintro e w1 ⟨v1, rfl, hrow, hb1⟩)
  have hws := hrow.ws
  have hsz1 := hb1.size
  have hT1 := hT.below hb1 h2
  have h21 : 2 ≤ w1.heap.size := by omega
  clear hrow hN
  go_loopw [6, 7] (fun ws v wr => ∃ (rest acc : List ByteArray), WsAt w1.heap.size wr ws rest ∧ tot rest ≤ 16777216 ∧ acc.length + rest.length ≤ 16777216 ∧ acc ++ lines room rest = R ∧ StrRow w1.heap.size wr v acc ∧ Below w1.heap.size w1 wr)
    (fun ws _ _ => match ws with | .slice _ n _ => n | _ => 0)
  case atStart => exact ⟨WL, [], hws, by omega, by simp; omega, HR.out, World.ownsRow_nil _ _ _ _, Below.refl _ _⟩
  case round =>
    obtain ⟨rest, acc, ⟨a, c, rfl, hc1, hc2, hcells⟩, htr, hlr, hacc, hout, hbw⟩ := hrel
    have hszr := hbw.size
    cases rest with
    | nil =>
      rw [lines_nil, List.append_nil] at hacc
      subst hacc
      clear hcells
      go_wp2
      go_ret2
      exact ⟨_, rfl, StrRow.base hout hsz1, hb1.trans (hbw.mono hsz1)⟩
    | cons x l =>
      obtain ⟨bk, o, rfl, hbk, hcl⟩ := hcells (by simp)
      clear hcells
      have hLL := lineLength_in room (by omega) hr2 x l htr (by omega) bk o c hc1 wr (by omega) hcl (hT1.below hbw h21) (by omega)
      have hnb := lineN_bd room x l
      rw [lines_cons] at hacc
      have hn0 : lineN room (x :: l) = lineG room (wd x) l + 1 := rfl
      rw [← hn0] at hLL
      clear hn0
      generalize lineN room (x :: l) = n at *
      have hjt := join_tot ((x :: l).take n)
      have htt : tot ((x :: l).take n) ≤ 16777216 := by
        have := tot_app ((x :: l).take n) ((x :: l).drop n)
        rw [List.take_append_drop] at this; omega
      have htd : tot ((x :: l).drop n) ≤ 16777216 := by
        have := tot_app ((x :: l).take n) ((x :: l).drop n)
        rw [List.take_append_drop] at this; omega
      have hld : ((x :: l).drop n).length = (x :: l).length - n := List.length_drop
      have hlt : ((x :: l).take n).length = n := by rw [List.length_take]; omega
      have hws2 : ∀ W, Below w1.heap.size w1 W → CellsAt W bk o (x :: l) → WsAt w1.heap.size W (.slice (some ⟨bk, if c = n then o else o + n, none⟩) ((x :: l).length - n) (c - n)) ((x :: l).drop n) := fun W hb hcW => by
        refine ⟨_, _, by rw [hld], by omega, by omega, fun hne => ⟨bk, if c = n then o else o + n, rfl, hbk, ?_⟩⟩
        have : ¬ c = n := by
          intro e
          exact hne (List.eq_nil_of_length_eq_zero (by omega))
        rw [if_neg this]
        exact hcW.drop n
      have hJ := fun (W : World) (hb : Below w1.heap.size w1 W) (hcW : CellsAt W bk o (x :: l)) => Tryd.strings_Join bk o c ((x :: l).take n) ⟨#[32]⟩ W (hcW.take n) (by have := hb.size; omega) (by omega) (by omega) (by show (Lib.join _ [32]).length ≤ _; omega)
      simp only [hlt] at hJ
      have hJ2 : ∀ (W : World), Below w1.heap.size w1 W → CellsAt W bk o (x :: l) → Calls Tryd.prog 46 #[.slice (some ⟨bk, o, none⟩) n c, .string ⟨#[32]⟩] W fun e w' => e = .returned (.string (joinS ((x :: l).take n))) ∧ Below W.heap.size W w' := hJ
      have hjs : (joinS ((x :: l).take n)).size ≤ 67108864 := by
        have e : (joinS ((x :: l).take n)).size = (Lib.join (((x :: l).take n).map (·.data.toList)) [32]).length := by simp [joinS, ByteArray.size]
        rw [e]; omega
      clear hJ hjt htt
      have hsl1 := fun W => slice_front bk o (x :: l).length c n (by omega) (by omega) W
      have hsl2 := fun W => slice_strs bk o (x :: l).length c n (by omega) W
      generalize (if c = n then o else o + n) = o2 at *
      generalize joinS ((x :: l).take n) = J at *
      generalize (x :: l).drop n = D at *
      generalize (x :: l).length = m at *
      have HJ := Lib.hid hJ2
      have HW2 := Lib.hid hws2
      have HA := Lib.hid hacc
      have HLD := Lib.hid hld
      clear hJ2 hws2 hacc hld hlt
      have hm0 : decide ((m : Int) > 0) = true := by simp; omega
      go_wp2_with fail
      refine hLL.mono ?_
      rintro e w2 ⟨rfl, hb2⟩
      have hbw2 := hbw.trans (hb2.mono hszr)
      have hcl2 : CellsAt w2 bk o (x :: l) := hcl.below hb2 (by omega)
      have hrow2 := row_none hout (below_grown hb2)
      clear hLL
      go_wp2_with fail
      refine (HJ.out _ hbw2 hcl2).mono ?_
      rintro e w3 ⟨rfl, hb3⟩
      have hsz2 := hbw2.size
      have hbw3 := hbw2.trans (hb3.mono hsz2)
      have hsz3 := hbw3.size
      have hrow3 := row_none hrow2 (below_grown hb3)
      go_wp2_with fail
      refine (Clone_in J (by omega) _).mono ?_
      rintro e w4 ⟨rfl, hb4⟩
      have hbw4 := hbw3.trans (hb4.mono hsz3)
      have hsz4 := hbw4.size
      have hrow4 := row_none hrow3 (below_grown hb4)
      have hcl4 : CellsAt w4 bk o (x :: l) := (hcl2.below hb3 (by omega)).below hb4 (by omega)
      go_wp2_with (at_builtin; refine wpList_append_own _ rfl _ _ 42 rfl w1.heap.size 9 i0 (.string ⟨#[]⟩) 1 16 Tryd.underlying42 hi hz0 hz1 hz2 rfl (by decide) _ acc.length _ rfl (hrow4.alloc _) ⟨w4.heap.size, 0, none⟩ 1 1 [.string J] rfl rfl (cell1_str _ _ _) (by simp [Value.oneCell']) (by unfold maxLen; omega) (by omega) (by simp; omega) ?_; intro v' w5 hown' hgrow _)
      have hbw5 : Below w1.heap.size w1 w5 := (hbw4.alloc hsz4 _).grown hgrow (by simp; omega) (fun j hj => (hrow4.lt j hj).1)
      have hcl1 : CellsAt w1 bk o (x :: l) := fun j y hj => (hbw.cell (p := ⟨bk, o + j, none⟩) hbk).symm.trans (hcl j y hj)
      have hcl5 := hcl1.below hbw5 hbk
      go_roundw
      case rel => exact ⟨D, acc ++ [J], HW2.out _ hbw5 hcl5, htd, by rw [HLD.out, List.length_append]; simp; omega, by rw [← HA.out]; simp, str_snoc hown', hbw5⟩
      case measure => simp only; omega
end Go.Proofs.YteegnmblbjcfpaaDoor.T
