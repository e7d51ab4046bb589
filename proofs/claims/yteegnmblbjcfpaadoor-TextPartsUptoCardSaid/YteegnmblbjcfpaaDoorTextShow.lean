/-
  text.Show and text.Quote: what appendShown puts behind, gathered.
-/
import Derived.Laws.MakeOwn
import Derived.Test.YteegnmblbjcfpaaDoorTextAppendShown
set_option linter.unusedVariables false
namespace Go.Proofs.YteegnmblbjcfpaaDoor.T
open Go Go.Lib Go.RowKit Go.Shelf
attribute [local go_sem] Oper.semAt_some
attribute [local go_sem] if_true

/-- what is put behind for one thing: in quotes, and not -/
def apQ (s : ByteArray) (q : Bool) (x : Nat × Int) : List UInt8 := (if q && decide (x.2 = 34) then [92] else []) ++ apL (bt s x.1) x.2
def shT (s : ByteArray) (q : Bool) (l : List (Nat × Int)) : List UInt8 := l.flatMap (apQ s q)
theorem shT_snoc (s : ByteArray) (q : Bool) (l : List (Nat × Int)) (x : Nat × Int) : shT s q (l ++ [x]) = shT s q l ++ apQ s q x := by simp [shT]
theorem apL_len (c : Nat) (r : Int) : (apL c r).length ≤ 4 := by
  unfold apL
  split
  · unfold hexS
    simp [strOfNums_data]
  · split
    · simp
    · unfold encodeRune encodeRuneZ; (repeat' split) <;> simp
theorem shT_len (s : ByteArray) (q : Bool) : ∀ l : List (Nat × Int), (shT s q l).length ≤ 5 * l.length
  | [] => Nat.le_refl _
  | x :: l => by
    have ih := shT_len s q l
    have h4 := apL_len (bt s x.1) x.2
    have e : shT s q (x :: l) = apQ s q x ++ shT s q l := rfl
    have h5 : (apQ s q x).length ≤ 5 := by
      unfold apQ; rw [List.length_append]
      split <;> simp <;> omega
    rw [e, List.length_append, List.length_cons]; omega
/-- the box holds v; a call has handed back v', which owns the longer row: what is owed behind the store -/
theorem boxed_called {W w1 : World} {n₀ B : Nat} {t e : TypeId} {size : Nat} {v v' : Value} {k m : Nat} {xs ys : List Value}
    (hv : Boxed W B t v) (hte : t ≠ e) (hrow : W.ownsRow n₀ e size v k xs) (hn₀ : n₀ ≤ W.heap.size) (hB : n₀ ≤ B)
    (hown' : w1.ownsRow n₀ e size v' m ys) (hgrow : W.grownBy w1 v.ownBlock) :
    Boxed w1 B t v ∧ Boxed (w1.setCell ⟨B, 0, none⟩ v') B t v' ∧ (w1.setCell ⟨B, 0, none⟩ v').ownsRow n₀ e size v' m ys ∧ KeepsOthers W (w1.setCell ⟨B, 0, none⟩ v') ∧ Below n₀ W (w1.setCell ⟨B, 0, none⟩ v') := by
  have hv1 : Boxed w1 B t v := hv.kept hgrow (hv.not_row hte hrow)
  refine ⟨hv1, hv1.set v', hown'.kept (grownBy_setCell' w1 B v') (.inr (hv1.not_row hte hown').symm), ?_, ?_⟩
  · refine (KeepsOthers.of_grownBy hgrow fun j o ej hj => ?_).trans (KeepsOthers.setCell _ _ _)
    rcases hrow.2 with ⟨rfl, _⟩ | ⟨g, cap, cur, rfl, _, hgb, _⟩
    · simp [Value.ownBlock] at ej
    · obtain rfl : g = j := by simpa [Value.ownBlock] using ej
      rw [hgb] at hj; cases hj; rfl
  · refine ((Below.refl n₀ W).grown hgrow hn₀ fun j ej => ?_).setCell (p := ⟨B, 0, none⟩) hB v'
    rcases hrow.2 with ⟨rfl, _⟩ | ⟨g, cap, cur, rfl, hb, _, _⟩
    · simp [Value.ownBlock] at ej
    · obtain rfl : g = j := by simpa [Value.ownBlock] using ej
      exact hb

theorem row_is_slice {B : Nat} {w : World} {v : Value} {l : List UInt8} (h : BytesRow B w v l) : ∃ p n c, v = .slice p n c := by
  rcases h.2 with ⟨h, _⟩ | ⟨g, cap, _, h, _⟩
  · exact ⟨_, _, _, h⟩
  · exact ⟨_, _, _, h⟩
set_option maxRecDepth 100000 in
set_option maxHeartbeats 2000000 in
theorem Show_in (s : ByteArray) (hs : s.size ≤ 16777216) (w : World) (hT : Tabs w) (h2 : 2 ≤ w.heap.size) :
    CallsIn Fence.wide 8 Tryd.prog 14 #[.string s] w fun e w' => e = .returned (.string ⟨(shT s false (pcs s)).toArray⟩) ∧ Below w.heap.size w w' := by
  have hro : Fence.wide.round = none := rfl
  have hw : ∀ f, Fence.wide.fn f := fun _ => trivial
  have hpl := pcs_length s
  obtain ⟨i0, hi, hz0, hz1, hz2⟩ := info_parts infoByte
  have hmk : ∀ W : World, (Instr.makeSlice 54 (.int .i64 0) (.int .i64 (s.size : Int))).run Tryd.prog W = .ok (.slice (some ⟨W.heap.size, 0, none⟩) 0 s.size) (W.alloc (.cells (madeCells (Value.int .u8 0).cells (s.size * 1)) 5)) := fun W => by
    have h := run_make (P := Tryd.prog) W 54 5 i0 (.int .u8 0) Tryd.underlying54 hi hz0 .i64 .i64 0 (s.size : Int) (by omega) (by omega) (by rw [hz2]; omega) (by omega)
    rw [hz1] at h
    simpa using h
  refine callsIn_of_wp_marks Tryd.func14 rfl trivial ?_ hro
  simp only [Tryd.ntmps14, List.size_toArray, List.length_cons, List.length_nil, Nat.reduceAdd, Nat.reduceSub, Array.replicate_succ, Array.replicate_zero, List.push_toArray, List.append_toArray, List.nil_append, List.cons_append]
  gi_wp2_with (gi_at_call 10; refine (Runes_in _ _ _).mono ?_; rintro e w' ⟨rfl, rfl⟩)
  have hB0 : Below w.heap.size w ((((w.alloc (.cells #[.string s] 9)).alloc (.cells (madeCells #[.int .u8 0] s.size) 5)).alloc (.cells #[.slice (some ⟨w.heap.size + 1, 0, none⟩) 0 s.size] 54)).alloc (.cells #[.string s] 9)) :=
    ((((Below.refl _ w).alloc (Nat.le_refl _) _).alloc (by simp) _).alloc (by simp; omega) _).alloc (by simp; omega) _
  have bS := (((Boxed.new w 9 (.string s)).alloc (.cells (madeCells #[.int .u8 0] s.size) 5)).alloc (.cells #[.slice (some ⟨w.heap.size + 1, 0, none⟩) 0 s.size] 54)).alloc (.cells #[.string s] 9)
  have bR := World.ownsRow_made (base := w.heap.size) (e := 5) (size := 1) (w.alloc (.cells #[.string s] 9)) (madeCells #[.int .u8 0] s.size) s.size (by simp) (by unfold maxLen; omega) (by simp [size_madeCells])
  have bO := (Boxed.new ((w.alloc (.cells #[.string s] 9)).alloc (.cells (madeCells #[.int .u8 0] s.size) 5)) 54 (.slice (some ⟨w.heap.size + 1, 0, none⟩) 0 s.size)).alloc (.cells #[.string s] 9)
  have bN := Boxed.new (((w.alloc (.cells #[.string s] 9)).alloc (.cells (madeCells #[.int .u8 0] s.size) 5)).alloc (.cells #[.slice (some ⟨w.heap.size + 1, 0, none⟩) 0 s.size] 54)) 9 (.string s)
  simp only [World.size_alloc] at bN bO bR
  have HT0 := hT.below hB0 h2
  refine wpIn_rangeFunc_ownF hro (by omega) (gf := 33) (lb := #[.pointer (some ⟨w.heap.size + 1 + 1 + 1, 0, none⟩)]) rfl trivial (enters_of Tryd.func33 (by kernel_rfl) rfl)
    (runes_stops 7 (by omega) (w.heap.size + 1 + 1 + 1) w.heap.size s (by omega) _ HT0 (by omega) (by simp; omega) (by simp) bN.cell) KpR.t (KpR.b (by simp; omega)) (Below.refl _ _) (fun _ => rfl)
    (fun pre W => (((∃ v, Boxed W (w.heap.size + 1 + 1) 54 v ∧ W.ownsRow w.heap.size 5 1 v (shT s false (vals pre)).length (byteCells (shT s false (vals pre))) ∧ True) ∧ Boxed W w.heap.size 9 (.string s)) ∧ Boxed W (w.heap.size + 1 + 1 + 1) 9 (.string s)) ∧ Below w.heap.size w W)
    (fun _ _ _ => False)
    (OwnFrom.and (OwnFrom.and (OwnFrom.and (Own.from (holdsRow_own w.heap.size (w.heap.size + 1 + 1) 54 5 1 (fun pre => (shT s false (vals pre)).length) (fun pre => byteCells (shT s false (vals pre))) (fun pre v => True)) _) (Own.from (boxed_own _ _ _) _)) (Own.from (boxed_own _ _ _) _)) (ownFrom_below (Nat.le_refl _) (by simp; omega)))
    (fun _ _ _ _ _ hs _ _ => hs)
    ⟨⟨⟨⟨_, bO, (bR.alloc _).alloc _, trivial⟩, bS⟩, bN⟩, hB0⟩
    (fun x => { tmps := #[.string s, .pointer (some ⟨w.heap.size, 0, none⟩), .string ⟨#[]⟩, .pointer (some ⟨w.heap.size + 1 + 1, 0, none⟩), .int .i64 x.1.1, .int .i32 x.1.2, .string s, .int .i64 s.size, .slice (some ⟨w.heap.size + 1, 0, none⟩) 0 s.size, .string s, .func (.func 33) #[] #[.pointer (some ⟨w.heap.size + 1 + 1 + 1, 0, none⟩)], .int .i64 x.1.1, .int .i32 x.1.2, undef, undef, undef, undef, undef, undef, undef, undef], defers := [] }) ?assign ?body ?done ?stop
  case assign =>
    intro l x W K hK
    gi_wp2
    exact hK
  case body =>
    rintro l pre x W ⟨⟨⟨⟨v, hv, hrow, _⟩, hbS⟩, hbN⟩, hB⟩ hlt
    have hc := hv.cell
    have hcS := hbS.cell
    have hxb := pc_bd s x.1.1
    have hxm := pcs_mem s x.1 x.2
    rw [← hxm.2] at hxb
    have hl5 := shT_len s false (vals pre)
    rw [vals_length] at hl5
    have hszW := hB.size
    have hsn : shT s false (vals (pre ++ [x])) = shT s false (vals pre) ++ apL (bt s x.1.1) x.1.2 := by
      rw [vals_snoc, shT_snoc]; simp [apQ]
    have HSN := Lib.hid hsn
    clear hsn
    have hix : ∀ W' : World, (Instr.index 9 (.string s) (.int .i64 (x.1.1 : Int))).run Tryd.prog W' = .ok (.int .u8 (bt s x.1.1 : Int)) W' := fun W' => by
      rw [run_index_string _ _ _ _ _ Tryd.underlying9, dif_pos ⟨by omega, by omega⟩, bt_get s _ hxm.1]
      simp
    have hap := appendShown_in w.heap.size W.drew v (shT s false (vals pre)) (bt s x.1.1) x.1.2 (bt_lt _ _) hxb.1 hxb.2 (by omega) hszW hrow
    have HAP := Lib.hid hap
    clear hap hxm
    have hmx : Tryd.prog.follows .mixedOrders = true := by kernel_rfl
    have hd : 1 ≤ 8 - 1 - 1 := by omega
    gi_wp2
    gi_region_with_o (gi_at_call 35; refine (CallsIn.inRound l (callsIn_wide.2 HAP.out)).mono ?_; rintro e w1 ⟨v', rfl, hown', hgrow⟩; obtain ⟨q1, q2, q3, rfl⟩ := row_is_slice hown'; obtain ⟨hv1, hv2, hr2, hk2, hb2⟩ := boxed_called (W := W.drew) hv (by decide) hrow hszW (by omega) hown' hgrow; have hc1 := hv1.cell; have hf1 := hv1.frozen)
    all_goals gi_wp2
    all_goals
      have hk3 := (KeepsOthers.drew W).trans hk2
      have hb3 := ((Below.refl w.heap.size W).drew).trans hb2
      have hS2 := ((show Boxed W.drew w.heap.size 9 (.string s) from hbS).kept hgrow ((show Boxed W.drew w.heap.size 9 (.string s) from hbS).not_row (by decide) (show W.drew.ownsRow _ _ _ _ _ _ from hrow))).other (B' := w.heap.size + 1 + 1) (by omega) (.slice q1 q2 q3)
      have hN2 := ((show Boxed W.drew (w.heap.size + 1 + 1 + 1) 9 (.string s) from hbN).kept hgrow ((show Boxed W.drew (w.heap.size + 1 + 1 + 1) 9 (.string s) from hbN).not_row (by decide) (show W.drew.ownsRow _ _ _ _ _ _ from hrow))).other (B' := w.heap.size + 1 + 1) (by omega) (.slice q1 q2 q3)
      refine ⟨hk3, ⟨hb3, hk3.walks, fun _ => hN2.cell⟩, ⟨⟨⟨_, hv2, And.intro ?_ trivial⟩, hS2⟩, hN2⟩, hB.trans hb3⟩
      rw [HSN.out]
      exact hr2
  case done =>
    rintro D ys W hD hys ⟨⟨⟨⟨v, hv, hrow, _⟩, hbS⟩, hbN⟩, hB⟩ hK
    have hc := hv.cell
    have hcv := row_string (B := w.heap.size) (w := W) (v := v) hrow
    rw [hys] at hcv
    gi_wp2
    refine ⟨by simp, .inl ⟨_, _, rfl, run_takeDeferred hK, ?_⟩⟩
    exact ⟨_, results_tmp rfl _ _ _, rfl, hB.trans (belowK_b (w := w) (Nat.le_refl _) W D _ _ (by simp at hD; omega) hK rfl rfl)⟩
  case stop =>
    rintro D c pre W _ _ h _
    exact h.elim
end Go.Proofs.YteegnmblbjcfpaaDoor.T
