/-
  text.Breaks: what Runes tells, gathered.
-/
import Derived.Maps.AppendAt
import Derived.RangeFuncBox
import Derived.Test.YteegnmblbjcfpaaDoorTextIter
import Derived.Test.YteegnmblbjcfpaaDoorTextBreaks
set_option linter.unusedVariables false
namespace Go.Proofs.YteegnmblbjcfpaaDoor.T
open Go Go.Lib Go.RowKit Go.Shelf
attribute [local go_sem] Oper.semAt_some
attribute [local go_sem] if_true

/-- Runes(s) HANDS BACK A VALUE THAT TELLS JUST WHAT IS TAKEN OF s, for every loop body that keeps what lay below n₀ -/
theorem runes_stops (n : Nat) (hn : 1 ≤ n) (Bs n₀ : Nat) (s : ByteArray) (hs : s.size ≤ 9223372036854775807) (w : World) (hT : Tabs w) (h2 : 2 ≤ n₀) (hn₀ : n₀ ≤ w.heap.size) (hBs : Bs < w.heap.size) (hc : w.cell? ⟨Bs, 0, none⟩ = some (.string s)) :
    SeqStopsK Fence.wide n Tryd.prog 33 #[.pointer (some ⟨Bs, 0, none⟩)] (encPc (s := s)) (KpR n₀ Bs s) (fun ys => vals ys = pcs s) (fun pre => vals pre <+: pcs s) (pcs s).length w := fun l J Jx W hW hJ _ hY h0 =>
  runes1_in n hn l Bs n₀ s hs J Jx hY W hJ (hT.below (hW.mono hn₀) h2) h2 (Nat.le_trans hn₀ hW.size) (Nat.lt_of_lt_of_le hBs hW.size) ((hW.cell (p := ⟨Bs, 0, none⟩) hBs).trans hc) h0

theorem vals_le {s : ByteArray} (l : List (Pc s)) : (brksOf (vals l)).length ≤ l.length := by have := brksOf_length (vals l); rw [vals_length] at this; exact this
set_option maxRecDepth 100000 in
set_option maxHeartbeats 2000000 in
theorem Breaks_in (s : ByteArray) (hs : s.size ≤ 16777216) (w : World) (hT : Tabs w) (h2 : 2 ≤ w.heap.size) :
    CallsIn Fence.wide 5 Tryd.prog 12 #[.string s] w (IsInts (brksOf (pcs s)) w) := by
  have hro : Fence.wide.round = none := rfl
  have hw : ∀ f, Fence.wide.fn f := fun _ => trivial
  have hpl := pcs_length s
  obtain ⟨i0, hi, hz0, hz1, hz2⟩ := info_parts infoInt
  refine callsIn_of_wp_marks Tryd.func12 rfl trivial ?_ hro
  simp only [Tryd.ntmps12, List.size_toArray, List.length_cons, List.length_nil, Nat.reduceAdd, Nat.reduceSub, Array.replicate_succ, Array.replicate_zero, List.push_toArray, List.append_toArray, List.nil_append, List.cons_append]
  gi_wp2_with (gi_at_call 10; refine (Runes_in _ _ _).mono ?_; rintro e w' ⟨rfl, rfl⟩)
  have bO := Boxed.new w 29 (.slice none 0 0)
  have bN := Boxed.new (w.alloc (.cells #[.slice none 0 0] 29)) 9 (.string s)
  rw [World.size_alloc] at bN
  have hB0 : Below w.heap.size w ((w.alloc (.cells #[.slice none 0 0] 29)).alloc (.cells #[.string s] 9)) := ((Below.refl _ w).alloc (Nat.le_refl _) _).alloc (by simp) _
  have hsz : ((w.alloc (.cells #[.slice none 0 0] 29)).alloc (.cells #[.string s] 9)).heap.size = w.heap.size + 2 := by simp
  have HT0 := hT.below hB0 h2
  refine wpIn_rangeFunc_ownF hro (by omega) (gf := 33) (lb := #[.pointer (some ⟨w.heap.size + 1, 0, none⟩)]) rfl trivial (enters_of Tryd.func33 (by kernel_rfl) rfl)
    (runes_stops 4 (by omega) (w.heap.size + 1) w.heap.size s (by omega) _ HT0 (by omega) (by omega) (by omega) bN.cell) KpR.t (KpR.b (by omega)) (Below.refl _ _) (fun _ => rfl)
    (fun pre W => ((∃ v, Boxed W w.heap.size 29 v ∧ W.ownsRow w.heap.size 3 1 v (brksOf (vals pre)).length ((brksOf (vals pre)).map (Value.int .i64)) ∧ True) ∧ Boxed W (w.heap.size + 1) 9 (.string s)) ∧ Below w.heap.size w W)
    (fun _ _ _ => False)
    (OwnFrom.and (OwnFrom.and (Own.from (holdsRow_own w.heap.size w.heap.size 29 3 1 (fun pre => (brksOf (vals pre)).length) (fun pre => (brksOf (vals pre)).map (Value.int .i64)) (fun pre v => True)) _) (Own.from (boxed_own _ _ _) _)) (ownFrom_below (Nat.le_refl _) (by omega)))
    (fun _ _ _ _ _ hs _ _ => hs)
    ⟨⟨⟨_, bO.alloc _, World.ownsRow_nil _ _ _ _, trivial⟩, bN⟩, hB0⟩
    (fun x => { tmps := #[.string s, undef, .slice none 0 0, .pointer (some ⟨w.heap.size, 0, none⟩), .int .i64 x.1.1, .int .i32 x.1.2, .string s, .func (.func 33) #[] #[.pointer (some ⟨w.heap.size + 1, 0, none⟩)], .int .i64 x.1.1, .int .i32 x.1.2, undef, undef, undef, undef, undef, undef, undef], defers := [] }) ?assign ?body ?done ?stop
  case assign =>
    intro l x W K hK
    gi_wp2
    exact hK
  case body =>
    rintro l pre x W ⟨⟨⟨v, hv, hrow, _⟩, hbS⟩, hB⟩ hlt
    have hc := hv.cell
    have hbl := vals_le pre
    have hsn := brksOf_snoc (vals pre) x.1
    rw [← vals_snoc] at hsn
    have HSN := Lib.hid hsn
    clear hsn
    have hszW := hB.size
    have hv0 := hv
    by_cases hx : x.1.2 = -1
    · gi_wp2_with (gi_at_builtin; refine wpListIn_append_own _ rfl _ _ 29 rfl w.heap.size 3 i0 (.int .i64 0) 1 8 Tryd.underlying29 hi hz0 hz1 hz2 rfl (by decide) _ _ _ rfl (hrow.alloc _) ⟨W.heap.size, 0, none⟩ 1 1 [.int .i64 x.1.1] rfl rfl (cell_one_new _ _ _) (by simp [Value.oneCell']) (by unfold maxLen; omega) (by omega) (by simp; omega) ?_; intro v' w1 hown' hgrow _; obtain ⟨g', cap', rfl⟩ := ownsRow_succ hown'; obtain ⟨hv1, hv2, hr2, hk2, hb2⟩ := hv.appended (by decide) hrow hszW (by omega) hown' hgrow; have hc1 := hv1.cell; have hf1 := hv1.frozen)
      have hS2 : Boxed (w1.setCell ⟨w.heap.size, 0, none⟩ (.slice (some ⟨g', 0, none⟩) ((brksOf (vals pre)).length + 1) cap')) (w.heap.size + 1) 9 (.string s) := ((hbS.alloc _).kept hgrow (hbS.not_row (by decide) hrow)).other (by omega) _
      refine ⟨hk2, ⟨hb2, hk2.walks, fun _ => hS2.cell⟩, ⟨⟨_, hv2, And.intro ?_ trivial⟩, hS2⟩, hB.trans hb2⟩
      rw [HSN.out, if_pos (by omega)]
      simpa using hr2
    · have hx1 : ¬ x.1.2 < 0 := by have := (pcs_mem s x.1 x.2).2; have := pc_bd s x.1.1; omega
      have hxb : (x.1.2 == -1) = false := by rw [beq_eq_false_iff_ne]; exact hx
      gi_wp2
      refine ⟨KeepsOthers.refl _, ⟨Below.refl _ _, KeepsWalks.refl _, fun c => c⟩, ⟨⟨_, hv, ?_⟩, hbS⟩, hB⟩
      rw [HSN.out, if_neg (by omega)]
      exact hrow
  case done =>
    rintro D ys W hD hys ⟨⟨⟨v, hv, hrow, _⟩, hbS⟩, hB⟩ hK
    have hc := hv.cell
    gi_wp2
    refine ⟨by simp, .inl ⟨_, _, rfl, run_takeDeferred hK, ?_⟩⟩
    rw [hys] at hrow
    exact ⟨_, results_tmp rfl _ _ _, v, rfl, IntsRow.base (ownsRow_putObj hrow _ hK rfl) (by omega), hB.trans (belowK_b (w := w) (Nat.le_refl _) W D _ _ (by simp at hD; omega) hK rfl rfl)⟩
  case stop =>
    rintro D c pre W _ _ h _
    exact h.elim
end Go.Proofs.YteegnmblbjcfpaaDoor.T
