/-
  How wide a text is shown: text.Width, and what stands under it.
-/
import Derived.RegionIn
import Derived.IntWalk
import Derived.Shelf.RegionOpen
import Derived.Test.YteegnmblbjcfpaaDoorTextTook
set_option linter.unusedVariables false
namespace Go.Proofs.YteegnmblbjcfpaaDoor.T
open Go Go.Lib Go.RowKit Go.Shelf
attribute [local go_sem] Oper.semAt_some

/-- is it shown by its byte's digits? -/
def hexR (r : Int) : Bool := decide (r < 32) || decide (r = 127)
/-- how wide it is shown -/
def wOf (r : Int) : Int := if hexR r then 4 else if r = 92 then 2 else 1
theorem wOf_bd (r : Int) : 1 ≤ wOf r ∧ wOf r ≤ 4 := by unfold wOf; (repeat' split) <;> omega
def widthL : List (Nat × Int) → Int
  | [] => 0
  | x :: l => wOf x.2 + widthL l
theorem widthL_app (a b : List (Nat × Int)) : widthL (a ++ b) = widthL a + widthL b := by
  induction a with
  | nil => simp [widthL]
  | cons x a ih => simp [widthL, ih]; omega
theorem widthL_snoc (l : List (Nat × Int)) (x : Nat × Int) : widthL (l ++ [x]) = widthL l + wOf x.2 := by rw [widthL_app]; simp [widthL]
theorem widthL_bd (l : List (Nat × Int)) : l.length ≤ widthL l ∧ widthL l ≤ 4 * l.length := by
  induction l with
  | nil => simp [widthL]
  | cons x l ih => have := wOf_bd x.2; simp [widthL]; omega

theorem isHex_in (r : Int) (h : -1 ≤ r) (w : World) : Calls Tryd.prog 50 #[.int .i32 r] w fun e w' => e = .returned (.bool (hexR r)) ∧ w = w' := by
  by_cases h1 : r = -1
  · subst h1
    go_enter Tryd.func50, Tryd.ntmps50
    go_wp2
    go_ret
    exact ⟨rfl, rfl⟩
  · have b1 : (r == -1) = false := by rw [beq_eq_false_iff_ne]; exact h1
    by_cases h2 : r < 32
    · have b2 : decide (r < 32) = true := by simpa using h2
      go_enter Tryd.func50, Tryd.ntmps50
      go_wp2
      go_ret
      exact ⟨ret_bool (by unfold hexR; simp; omega), rfl⟩
    · have b2 : decide (r < 32) = false := by simpa using h2
      go_enter Tryd.func50, Tryd.ntmps50
      go_wp2
      go_ret
      refine ⟨ret_bool (by unfold hexR; rw [Bool.eq_iff_iff]; simp; omega), rfl⟩
theorem hex_yes (r : Int) (h : -1 ≤ r) (hh : hexR r = true) (w : World) : Calls Tryd.prog 50 #[.int .i32 r] w fun e w' => e = .returned (.bool true) ∧ w = w' := by
  have := isHex_in r h w; rw [hh] at this; exact this
theorem hex_no (r : Int) (h : -1 ≤ r) (hh : hexR r = false) (w : World) : Calls Tryd.prog 50 #[.int .i32 r] w fun e w' => e = .returned (.bool false) ∧ w = w' := by
  have := isHex_in r h w; rw [hh] at this; exact this
theorem shownWidth_in (r : Int) (h : -1 ≤ r) (w : World) : Calls Tryd.prog 37 #[.int .i32 r] w fun e w' => e = .returned (.int .i64 (wOf r)) ∧ w' = w := by
  cases hh : hexR r with
  | true =>
    go_enter Tryd.func37, Tryd.ntmps37
    go_wp2_with (go_at_call 50; refine (hex_yes r h hh _).mono ?_; rintro e w' ⟨rfl, rfl⟩)
    go_ret
    exact ⟨by unfold wOf; rw [if_pos hh]; rfl, rfl⟩
  | false =>
    by_cases h9 : r = 92
    · subst h9
      go_enter Tryd.func37, Tryd.ntmps37
      go_wp2_with (go_at_call 50; refine (hex_no 92 h hh _).mono ?_; rintro e w' ⟨rfl, rfl⟩)
      go_ret
      exact ⟨rfl, rfl⟩
    · have b9 : (r == 92) = false := by rw [beq_eq_false_iff_ne]; exact h9
      go_enter Tryd.func37, Tryd.ntmps37
      go_wp2_with (go_at_call 50; refine (hex_no r h hh _).mono ?_; rintro e w' ⟨rfl, rfl⟩)
      go_ret
      exact ⟨by unfold wOf; rw [hh]; simp [h9], rfl⟩

set_option maxRecDepth 100000 in
set_option maxHeartbeats 2000000 in
theorem Width_in (s : ByteArray) (hs : s.size ≤ 67108864) (w : World) (hT : Tabs w) (h2 : 2 ≤ w.heap.size) :
    CallsIn Fence.wide 5 Tryd.prog 16 #[.string s] w fun e w' => e = .returned (.int .i64 (widthL (pcs s))) ∧ Below w.heap.size w w' := by
  have hro : Fence.wide.round = none := rfl
  have hw : ∀ f, Fence.wide.fn f := fun _ => trivial
  have hpl := pcs_length s
  refine callsIn_of_wp_marks Tryd.func16 rfl trivial ?_ hro
  simp only [Tryd.ntmps16, List.size_toArray, List.length_cons, List.length_nil, Nat.reduceAdd, Nat.reduceSub, Array.replicate_succ, Array.replicate_zero, List.push_toArray, List.append_toArray, List.nil_append, List.cons_append]
  gi_wp2_with (gi_at_call 10; refine (Runes_in _ _ _).mono ?_; rintro e w' ⟨rfl, rfl⟩)
  have bO := (Boxed.new w 3 (.int .i64 0)).alloc (.cells #[.string s] 9)
  have bN := Boxed.new (w.alloc (.cells #[.int .i64 0] 3)) 9 (.string s)
  rw [World.size_alloc] at bN
  have hB0 : Below w.heap.size w ((w.alloc (.cells #[.int .i64 0] 3)).alloc (.cells #[.string s] 9)) := ((Below.refl _ w).alloc (Nat.le_refl _) _).alloc (by simp) _
  have HT0 := hT.below hB0 h2
  refine wpIn_rangeFunc_ownF hro (by omega) (gf := 33) (lb := #[.pointer (some ⟨w.heap.size + 1, 0, none⟩)]) rfl trivial (enters_of Tryd.func33 (by kernel_rfl) rfl)
    (runes_stops 4 (by omega) (w.heap.size + 1) w.heap.size s (by omega) _ HT0 (by omega) (by simp; omega) (by simp) bN.cell) KpR.t (KpR.b (by simp; omega)) (Below.refl _ _) (fun _ => rfl)
    (fun pre W => Boxed W w.heap.size 3 (.int .i64 (widthL (vals pre))) ∧ Below w.heap.size w W)
    (fun _ _ _ => False)
    (OwnFrom.and (Own.from (boxed_own _ _ _) _) (ownFrom_below (Nat.le_refl _) (by simp; omega)))
    (fun _ _ _ _ _ hs _ _ => hs)
    ⟨bO, hB0⟩
    (fun x => { tmps := #[.string s, undef, .int .i64 0, .pointer (some ⟨w.heap.size, 0, none⟩), undef, .int .i32 x.1.2, .string s, .func (.func 33) #[] #[.pointer (some ⟨w.heap.size + 1, 0, none⟩)], .int .i64 x.1.1, .int .i32 x.1.2, undef, undef, undef, undef, undef], defers := [] }) ?assign ?body ?done ?stop
  case assign =>
    intro l x W K hK
    gi_wp2
    exact hK
  case body =>
    rintro l pre x W ⟨hv, hB⟩ hlt
    have hc := hv.cell
    have hf := hv.frozen
    have hxb : -1 ≤ x.1.2 := by rw [(pcs_mem s x.1 x.2).2]; exact (pc_bd s _).1
    have hwb := wOf_bd x.1.2
    have hlb := widthL_bd (vals pre)
    rw [vals_length] at hlb
    have hwr : IntKind.i64.wrap (widthL (vals pre) + wOf x.1.2) = widthL (vals pre) + wOf x.1.2 := IntWalk.i64_in _ (by omega)
    have HWR := Lib.hid hwr
    clear hwr
    have hmx : Tryd.prog.follows .mixedOrders = true := by kernel_rfl
    have hd : 1 ≤ 5 - 1 - 1 := by omega
    gi_wp2
    gi_region_with_o (gi_at_call 37; refine (CallsIn.inRound l (callsIn_wide.2 (shownWidth_in _ hxb _))).mono ?_; rintro e w' ⟨rfl, rfl⟩)
    all_goals gi_wp2
    all_goals
      rw [HWR.out]
      refine ⟨(KeepsOthers.setCell _ _ _).trans (KeepsOthers.drew _), ⟨((Below.refl _ W).setCell (p := ⟨w.heap.size, 0, none⟩) (Nat.le_refl _) _).drew, ⟨(KeepsWalks.setCell W _ _).size, (KeepsWalks.setCell W _ _).same⟩, fun c => (World.cell?_setCell_other _ _ _ _ (by simp <;> omega)).trans c⟩, ?_, (hB.setCell (p := ⟨w.heap.size, 0, none⟩) (Nat.le_refl _) _).drew⟩
      rw [vals_snoc, widthL_snoc]
      exact hv.set _
  case done =>
    rintro D ys W hD hys ⟨hv, hB⟩ hK
    have hc := hv.cell
    gi_wp2
    refine ⟨by simp, .inl ⟨_, _, rfl, run_takeDeferred hK, ?_⟩⟩
    rw [hys] at hc
    exact ⟨_, results_tmp rfl _ _ _, rfl, hB.trans (belowK_b (w := w) (Nat.le_refl _) W D _ _ (by simp at hD; omega) hK rfl rfl)⟩
  case stop =>
    rintro D c pre W _ _ h _
    exact h.elim

/-- how far the first things go that have a room -/
def fitF (s : ByteArray) (room : Int) : Nat → Nat → Int → Nat
  | 0, _, _ => s.size
  | f + 1, p, taken => if p < s.size then (if room < taken + wOf (pc s p).1 then p else fitF s room f (p + (pc s p).2) (taken + wOf (pc s p).1)) else s.size
end Go.Proofs.YteegnmblbjcfpaaDoor.T
