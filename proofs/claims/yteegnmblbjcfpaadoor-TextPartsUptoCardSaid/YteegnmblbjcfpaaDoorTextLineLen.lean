/-
  text.lineLength.
-/
import Derived.Test.YteegnmblbjcfpaaDoorTextNarrow
set_option linter.unusedVariables false
namespace Go.Proofs.YteegnmblbjcfpaaDoor.T
open Go Go.Lib Go.RowKit Go.Shelf

/-! ### plain: how many words stand in a line -/
def wd (x : ByteArray) : Int := widthL (pcs x)
theorem wd_bd (x : ByteArray) : 0 ≤ wd x ∧ wd x ≤ 4 * x.size := by
  have h := widthL_bd (pcs x)
  have h2 := pcs_length x
  unfold wd; omega
def tot (l : List ByteArray) : Nat := (l.map (·.size)).sum
theorem tot_cons (x : ByteArray) (l : List ByteArray) : tot (x :: l) = x.size + tot l := rfl
theorem tot_app (a b : List ByteArray) : tot (a ++ b) = tot a + tot b := by simp [tot]
def lineG (room : Int) : Int → List ByteArray → Nat
  | _, [] => 0
  | t, x :: l => if room < t + (1 + wd x) then 0 else lineG room (t + (1 + wd x)) l + 1
theorem lineG_le (room : Int) : ∀ (l : List ByteArray) (t : Int), lineG room t l ≤ l.length
  | [], _ => Nat.le_refl _
  | x :: l, t => by
    unfold lineG
    split
    · simp
    · have := lineG_le room l (t + (1 + wd x)); simp; omega
theorem parts_tot (room : Int) (h4 : 4 ≤ room) : ∀ (k : Nat) (t : ByteArray), t.size ≤ k → tot (parts room t) = t.size
  | k, t, hk => by
    by_cases h : t.size = 0
    · rw [parts_none room t h, h]; rfl
    · cases k with
      | zero => omega
      | succ k =>
        have hp := fit_pos t room h4 (by omega)
        have hl := fit_le t room
        have hes : (t.extract (fit t room) t.size).size = t.size - fit t room := by simp
        have hes2 : (t.extract 0 (fit t room)).size = fit t room := by simp; omega
        have := parts_tot room h4 k (t.extract (fit t room) t.size) (by omega)
        rw [parts_some room h4 t h, tot_cons, this, hes, hes2]; omega
theorem flat_tot (s : ByteArray) (room : Int) (h4 : 4 ≤ room) : ∀ (L : List (Nat × Nat)), tot (L.flatMap fun x => parts room (s.extract x.1 x.2)) ≤ (L.map (fun x => x.2 - x.1)).sum
  | [] => by simp [tot]
  | x :: L => by
    have h1 := flat_tot s room h4 L
    have h2 := parts_tot room h4 _ (s.extract x.1 x.2) (Nat.le_refl _)
    have h3 : (s.extract x.1 x.2).size ≤ x.2 - x.1 := by simp; omega
    rw [List.flatMap_cons, tot_app, List.map_cons, List.sum_cons]; omega
theorem rW_tot (s : ByteArray) (room : Int) (h4 : 4 ≤ room) : tot (rW s room) ≤ s.size := by
  have := flat_tot s room h4 (segs s 0 0)
  have h2 := segs_sum s s.size 0 0 (by omega) (by omega) (by omega)
  unfold rW; omega

/-! ### slices of texts -/
/-- a slice of these texts, in a block below B -/
def CellsAt (w : World) (bk o : Nat) (xs : List ByteArray) : Prop := ∀ (j : Nat) (x : ByteArray), xs[j]? = some x → w.cell? ⟨bk, o + j, none⟩ = some (.string x)
theorem CellsAt.below {w w' : World} {B bk o : Nat} {xs : List ByteArray} (h : CellsAt w bk o xs) (hb : Below B w w') (hk : bk < B) : CellsAt w' bk o xs := fun j x hj => (hb.cell (p := ⟨bk, o + j, none⟩) hk).trans (h j x hj)
theorem CellsAt.drop {w : World} {bk o : Nat} {xs : List ByteArray} (h : CellsAt w bk o xs) (n : Nat) : CellsAt w bk (o + n) (xs.drop n) := fun j x hj => by
  rw [List.getElem?_drop] at hj
  rw [show o + n + j = o + (n + j) by omega]; exact h _ x hj
theorem CellsAt.take {w : World} {bk o : Nat} {xs : List ByteArray} (h : CellsAt w bk o xs) (n : Nat) : CellsAt w bk o (xs.take n) := fun j x hj => h j x (by
  rw [List.getElem?_take] at hj
  split at hj
  · exact hj
  · cases hj)
theorem slice_strs (bk o n c k : Nat) (hk : k ≤ n) (W : World) : (Instr.slice 42 (.slice (some ⟨bk, o, none⟩) n c) (some (.int .i64 (k : Int))) none none).run Tryd.prog W = .ok (.slice (some ⟨bk, if c = k then o else o + k, none⟩) (n - k) (c - k)) W := by
  rw [run_slice_l (P := Tryd.prog) W 42 (some ⟨bk, o, none⟩) n c (by kernel_rfl) .i64 (k : Int) (by omega) (by omega)]
  have hz : (sizeOf (Tryd.prog.elem 42)).run Tryd.prog W = .ok 1 W := by kernel_rfl
  rw [hz]
  simp only [Result.andThen, sliced, Int.toNat_natCast]
  by_cases hc : c = k
  · simp [hc]
  · by_cases h0 : k = 0
    · subst h0; simp [hc, Addr.add]
    · simp [hc, Addr.add, h0]

set_option maxRecDepth 100000 in
set_option maxHeartbeats 2000000 in
theorem lineLength_in (room : Int) (hr1 : -9223372036854775808 ≤ room) (hr2 : room ≤ 9223372036854775807) (x : ByteArray) (l : List ByteArray) (ht : tot (x :: l) ≤ 16777216) (hl : (x :: l).length ≤ 16777216) (bk o c : Nat) (hc : (x :: l).length ≤ c) (w : World) (hbk : bk < w.heap.size)
    (hcells : CellsAt w bk o (x :: l)) (hT : Tabs w) (h2 : 2 ≤ w.heap.size) :
    Calls Tryd.prog 45 #[.slice (some ⟨bk, o, none⟩) (x :: l).length c, .int .i64 room] w fun e w' => e = .returned (.int .i64 ((lineG room (wd x) l + 1 : Nat) : Int)) ∧ Below w.heap.size w w' := by
  have hwx := wd_bd x
  rw [tot_cons] at ht
  simp only [List.length_cons] at hl hc ⊢
  have h0 : w.cell? ⟨bk, o, none⟩ = some (.string x) := hcells 0 x rfl
  have hcl0 : CellsAt w bk (o + 1) l := hcells.drop 1
  have hsl0 := fun W => slice_strs bk o (l.length + 1) c 1 (by omega) W
  obtain ⟨o1, ho1⟩ : ∃ o1, o1 = if c = 1 then o else o + 1 := ⟨_, rfl⟩
  have hcl : CellsAt w bk o1 l := by
    by_cases hc1 : c = 1
    · have : l = [] := List.eq_nil_of_length_eq_zero (by omega)
      subst this
      intro j y hj; simp at hj
    · rw [if_neg hc1] at ho1; rw [ho1]; exact hcl0
  have hsl : ∀ W : World, (Instr.slice 42 (.slice (some ⟨bk, o, none⟩) (l.length + 1) c) (some (.int .i64 1)) none none).run Tryd.prog W = .ok (.slice (some ⟨bk, o1, none⟩) l.length (c - 1)) W := fun W => by rw [ho1]; exact hsl0 W
  have HW : ∀ (y : ByteArray), y.size ≤ 67108864 → ∀ (W : World), Below w.heap.size w W → Calls Tryd.prog 16 #[.string y] W fun e W' => e = .returned (.int .i64 (wd y)) ∧ Below W.heap.size W W' := fun y hy W hb => callsIn_wide.1 (Width_in y (by omega) W (hT.below hb h2) (by have := hb.size; omega))
  have hb0 := Below.refl w.heap.size w
  have hlg := lineG_le room l (wd x)
  generalize hR : lineG room (wd x) l = R at *
  have HR := Lib.hid hR
  have HCL := Lib.hid hcl
  have HWH := Lib.hid HW
  clear hR hcells hcl HW hcl0 hsl0 ho1
  go_enter Tryd.func45, Tryd.ntmps45
  go_wp2_with fail
  refine (HWH.out x (by omega) _ hb0).mono ?_
  rintro e w1 ⟨rfl, hb1⟩
  change Below _ _ _ at hb1
  have hsz1 := hb1.size
  go_wp2
  go_loopw [5, 15] (fun t i wr => ∃ (k : Nat) (tk : Int), i = .int .i64 k ∧ k ≤ l.length ∧ t = .int .i64 tk ∧ 0 ≤ tk ∧ tk + 4 * (tot (l.drop k) : Int) + ((l.drop k).length : Int) ≤ 96000000 ∧ lineG room tk (l.drop k) + k = R ∧ Below w.heap.size w wr)
    (fun _ i _ => l.length - (intOf i).toNat)
  case atStart => exact ⟨0, wd x, rfl, Nat.zero_le _, rfl, hwx.1, by simp only [List.drop_zero]; omega, by simpa using HR.out, hb1⟩
  case round =>
    obtain ⟨k, tk, rfl, hk, rfl, ht0, ht1, hr, hbw⟩ := hrel
    by_cases hlt : k < l.length
    · obtain ⟨y, hy⟩ : ∃ y, l[k]? = some y := ⟨_, List.getElem?_eq_getElem hlt⟩
      have hd : l.drop k = y :: l.drop (k + 1) := by
        rw [List.drop_eq_getElem_cons hlt]
        rw [List.getElem?_eq_getElem hlt] at hy
        cases hy; rfl
      have hc0 : wr.cell? ⟨bk, o1 + k, none⟩ = some (.string y) := (hbw.cell (p := ⟨bk, o1 + k, none⟩) hbk).trans (HCL.out k y hy)
      have hwy := wd_bd y
      rw [hd] at ht1 hr
      rw [tot_cons, List.length_cons] at ht1
      unfold lineG at hr
      have hys : y.size ≤ 67108864 := by omega
      clear hy hd
      by_cases hgt : room < tk + (1 + wd y)
      · rw [if_pos hgt] at hr
        have HR2 := Lib.hid hr
        clear hr
        go_wp2_with (go_at_call 16; refine (HWH.out y hys _ hbw).mono ?_; rintro e w2 ⟨rfl, hb2⟩)
        go_ret
        exact ⟨ret_i64 (by rw [← HR2.out]; omega), hbw.trans (hb2.mono hbw.size)⟩
      · rw [if_neg hgt] at hr
        have HR2 := Lib.hid hr
        clear hr
        go_wp2_with (go_at_call 16; refine (HWH.out y hys _ hbw).mono ?_; rintro e w2 ⟨rfl, hb2⟩)
        go_roundw
        case rel => exact ⟨k + 1, tk + (1 + wd y), by go_num, by omega, rfl, by omega, by omega, by rw [← HR2.out]; omega, hbw.trans (hb2.mono hbw.size)⟩
        case measure => simp [intOf]; omega
    · obtain rfl : k = l.length := by omega
      rw [List.drop_length] at hr
      unfold lineG at hr
      have HR2 := Lib.hid hr
      clear hr
      go_wp2
      go_ret
      exact ⟨ret_i64 (by rw [← HR2.out]; omega), hbw⟩
end Go.Proofs.YteegnmblbjcfpaaDoor.T
