/-
  text.narrowWords, text.lineLength.
-/
import Derived.Test.YteegnmblbjcfpaaDoorShelfJ
import Derived.Test.YteegnmblbjcfpaaDoorTextSegs
import Derived.Test.YteegnmblbjcfpaaDoorTextPlainBack
set_option linter.unusedVariables false
namespace Go.Proofs.YteegnmblbjcfpaaDoor.T
open Go Go.Lib Go.RowKit Go.Shelf

theorem isSpace_at (w : World) : PredAt Tryd.prog 58 #[] encR spP w := fun W r _ => by
  unfold FnGives
  by_cases h1 : r = 32
  · subst h1
    go_enter Tryd.func58, Tryd.ntmps58
    go_wp2
    go_ret
    exact ⟨rfl, 0, rfl⟩
  by_cases h2 : r = 10
  · subst h2
    go_enter Tryd.func58, Tryd.ntmps58
    go_wp2
    go_ret
    exact ⟨rfl, 0, rfl⟩
  have b1 : ((r : Int) == 32) = false := by rw [beq_eq_false_iff_ne]; omega
  have b2 : ((r : Int) == 10) = false := by rw [beq_eq_false_iff_ne]; omega
  have e : spP r = false := by unfold spP; simp [h1, h2]
  rw [e]
  clear h1 h2 e
  go_enter Tryd.func58, Tryd.ntmps58
  go_wp2
  go_ret
  exact ⟨rfl, 0, rfl⟩
theorem infoStr : (Tryd.prog.info? 9).map (fun i => (i.zero, i.size, i.bytes)) = some (some (.string ⟨#[]⟩), 1, 16) := by kernel_rfl
/-- a row of the call's own that holds these texts -/
def StrRow (B : Nat) (w : World) (v : Value) (xs : List ByteArray) : Prop := w.ownsRow B 9 1 v xs.length (xs.map Value.string)
def IsStrs (xs : List ByteArray) (w : World) (e : Ending) (w' : World) : Prop := ∃ v, e = .returned v ∧ StrRow w.heap.size w' v xs ∧ Below w.heap.size w w'
theorem str_snoc {B : Nat} {w : World} {v : Value} {xs : List ByteArray} {x : ByteArray} (h : w.ownsRow B 9 1 v (xs.length + 1) (xs.map Value.string ++ [.string x])) : StrRow B w v (xs ++ [x]) := by
  unfold StrRow
  simpa using h
theorem StrRow.base {B B' : Nat} {w : World} {v : Value} {xs : List ByteArray} (h : StrRow B w v xs) (hB : B' ≤ B) : StrRow B' w v xs := by
  obtain ⟨h1, h2 | ⟨g, cap, cur, a, b, c⟩⟩ := h
  · exact ⟨h1, .inl h2⟩
  · exact ⟨h1, .inr ⟨g, cap, cur, a, by omega, c⟩⟩
theorem cell1_str (W : World) (x : ByteArray) (t : TypeId) : ∀ j u, [Value.string x][j]? = some u → (W.alloc (.cells #[.string x] t)).cell? ((⟨W.heap.size, 0, none⟩ : Addr).add j) = some u := cell_one_new _ _ _
theorem flat_snoc {α β : Type} (f : α → List β) (L : List α) (k : Nat) (x : α) (h : L[k]? = some x) : (L.take (k + 1)).flatMap f = (L.take k).flatMap f ++ f x := by
  rw [List.take_add_one, h]; simp
theorem flat_take_len {α β : Type} (f : α → List β) (L : List α) (k : Nat) : ((L.take k).flatMap f).length ≤ (L.flatMap f).length := by
  conv => rhs; rw [← List.take_append_drop k L, List.flatMap_append, List.length_append]
  omega

set_option maxRecDepth 100000 in
set_option maxHeartbeats 64000000 in
theorem narrow_in (s : ByteArray) (room : Int) (h4 : 4 ≤ room) (hs : s.size ≤ 16777216) (w : World) (hT : Tabs w) (h2 : 2 ≤ w.heap.size) :
    Calls Tryd.prog 44 #[.string s, .int .i64 room] w (IsStrs (nW s room) w) := by
  obtain ⟨i0, hi, hz0, hz1, hz2⟩ := info_parts infoStr
  have hC := Tryd.strings_FieldsFunc 58 #[] (enters_of Tryd.func58 (by kernel_rfl) rfl) spP s w (by omega) (isSpace_at w)
  have hlen := rW_len s room h4
  rw [← nW_rW] at hlen
  have hsz : ∀ (k : Nat) (x : ByteArray), (goFieldsP spP s)[k]? = some x → x.size ≤ s.size := by
    intro k x hx
    have := List.mem_of_getElem? hx
    unfold goFieldsP at this
    obtain ⟨y, _, rfl⟩ := List.mem_map.1 this
    simp; omega
  have e : nW s room = (goFieldsP spP s).flatMap (parts room) := rfl
  rw [e] at hlen ⊢
  clear e
  generalize goFieldsP spP s = FL at *
  have hfl := fun k => flat_take_len (parts room) FL k
  generalize hR : FL.flatMap (parts room) = R at *
  have hRE := Lib.hid hR
  have HSZ := Lib.hid hsz
  have HFL := Lib.hid hfl
  clear hR hsz hfl
  go_enter Tryd.func44, Tryd.ntmps44
  go_wp2_with (go_at_call 57; refine hC.mono ?_; rintro e w1 ⟨A, rfl, hA, hrow, hb1⟩)
  have hA2 : A < w1.heap.size := (hrow.lt A rfl).2
  have hFLb : FL.length ≤ 9223372036854775807 := by
    obtain ⟨_, ⟨h, _⟩ | ⟨g, cap, cur, _, _, _, h1, h3, _⟩⟩ := hrow
    · cases h
    · unfold maxLen at h3; omega
  have hsz1 := hb1.size
  have hT1 := hT.below hb1 h2
  have h21 : 2 ≤ w1.heap.size := by omega
  go_wp2
  go_loopw [5, 12] (fun v i wr => ∃ k : Nat, k ≤ FL.length ∧ i = .int .i64 k ∧ StrRow w1.heap.size wr v ((FL.take k).flatMap (parts room)) ∧ Below w1.heap.size w1 wr)
    (fun _ i _ => FL.length - (intOf i).toNat)
  case atStart => exact ⟨0, Nat.zero_le _, rfl, World.ownsRow_nil _ _ _ _, Below.refl _ _⟩
  case round =>
    obtain ⟨k, hk, rfl, hout, hbw⟩ := hrel
    by_cases hlt : k < FL.length
    · obtain ⟨x, hx⟩ : ∃ x, FL[k]? = some x := ⟨_, List.getElem?_eq_getElem hlt⟩
      have hc0 : wr.cell? ⟨A, k, none⟩ = some (.string x) := (hbw.cell (p := ⟨A, k, none⟩) hA2).trans ((hrow.cellAt _ (by omega)).trans (by rw [List.getElem?_map, hx]; rfl))
      have hsn := flat_snoc (parts room) FL k x hx
      have hl1 := HFL.out (k + 1)
      have hxs := HSZ.out k x hx
      rw [hsn] at hl1
      generalize (FL.take k).flatMap (parts room) = PR at *
      generalize hP : PR ++ parts room x = P1 at *
      generalize hP2 : (FL.take (k + 1)).flatMap (parts room) = P2 at *
      have HP := Lib.hid hP
      have HP2 := Lib.hid hP2
      have HSN := Lib.hid hsn
      clear hx hP hP2 hsn
      go_wp2
      obtain ⟨wo, rfl⟩ : ∃ wo : World, wo = wr := ⟨_, rfl⟩
      go_loopw [5, 7] (fun v t wr => ∃ (wd : ByteArray) (acc : List ByteArray), t = .string wd ∧ wd.size ≤ s.size ∧ acc ++ parts room wd = P1 ∧ StrRow w1.heap.size wr v acc ∧ Below w1.heap.size w1 wr)
        (fun _ t _ => match t with | .string b => b.size | _ => 0)
      case atStart => exact ⟨x, PR, rfl, hxs, HP.out, hout, hbw⟩
      case round =>
        obtain ⟨wd, acc, rfl, hwd, hacc, hout2, hbw2⟩ := hrel
        have hszr := hbw2.size
        by_cases hz : wd.size = 0
        · obtain rfl : wd = ⟨#[]⟩ := ba_ext (List.eq_nil_of_length_eq_zero hz)
          rw [parts_none room _ rfl, List.append_nil] at hacc
          subst hacc
          go_wp2
          go_roundw
          case rel => exact ⟨k + 1, by omega, by go_num, by rw [HP2.out, HSN.out]; exact hout2, hbw2⟩
          case measure => simp [intOf]; omega
        · have hle := fit_le wd room
          have hp := fit_pos wd room h4 (by omega)
          rw [parts_some room h4 wd hz] at hacc
          have hal : acc.length + 1 ≤ P1.length := by rw [← hacc]; simp
          have HF := fun (W : World) (hb : Below w1.heap.size w1 W) => callsIn_wide.1 (fitting_in wd room (by omega) W (hT1.below hb h21) (by have := hb.size; omega))
          have n1 : wd.toList.isEmpty = false := by
            cases h : wd.toList with
            | nil => rw [toList_data'] at h; exact absurd (by have := congrArg List.length h; simpa using this) hz
            | cons a b => rfl
          have n2 : (!wd.toList.isEmpty) = true := by rw [n1]; rfl
          have n3 : ¬ wd.toList = [] := by intro h; rw [h] at n1; cases n1
          have hes : (wd.extract (fit wd room) wd.size).size = wd.size - fit wd room := by simp
          have hsl1 : ∀ W : World, (Instr.slice 9 (.string wd) none (some (.int .i64 (fit wd room : Int))) none).run Tryd.prog W = .ok (.string (wd.extract 0 (fit wd room))) W := fun W => by
            rw [run_slice_string_to_if (P := Tryd.prog) W 9 wd .i64 (fit wd room : Int) Tryd.underlying9, if_pos (by omega), Int.toNat_natCast]
          have hsl2 : ∀ W : World, (Instr.slice 9 (.string wd) (some (.int .i64 (fit wd room : Int))) none none).run Tryd.prog W = .ok (.string (wd.extract (fit wd room) wd.size)) W := fun W => by
            rw [run_slice_string_from_if (P := Tryd.prog) W 9 wd .i64 (fit wd room : Int) Tryd.underlying9, if_pos (by omega), Int.toNat_natCast]
          have HA := Lib.hid hacc
          have HES := Lib.hid hes
          clear hacc hes
          go_wp2_with fail
          refine (HF _ hbw2).mono ?_
          rintro e w2 ⟨rfl, hb2⟩
          have hrow2 := row_none hout2 (below_grown hb2)
          have hsz2 := hb2.size
          go_wp2_with (at_builtin; refine wpList_append_own _ rfl _ _ 42 rfl w1.heap.size 9 i0 (.string ⟨#[]⟩) 1 16 Tryd.underlying42 hi hz0 hz1 hz2 rfl (by decide) _ acc.length _ rfl (hrow2.alloc _) ⟨w2.heap.size, 0, none⟩ 1 1 [.string (wd.extract 0 (fit wd room))] rfl rfl (cell1_str _ _ _) (by simp [Value.oneCell']) (by unfold maxLen; omega) (by omega) (by simp; omega) ?_; intro v' w3 hown' hgrow _)
          go_wp2
          go_roundw
          case rel =>
            refine ⟨_, acc ++ [wd.extract 0 (fit wd room)], rfl, by rw [HES.out]; omega, by rw [← HA.out]; simp, str_snoc hown', below_app hbw2 hb2 hgrow hrow2⟩
          case measure => simp only; rw [HES.out]; omega
    · obtain rfl : k = FL.length := by omega
      rw [List.take_length, hRE.out] at hout
      go_wp2
      go_ret
      exact ⟨_, rfl, StrRow.base hout hsz1, hb1.trans (hbw.mono hsz1)⟩
end Go.Proofs.YteegnmblbjcfpaaDoor.T
