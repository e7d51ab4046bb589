/-
  How much of a text goes into a width: text.fitting, text.Cut.
-/
import Derived.Test.YteegnmblbjcfpaaDoorTextWidth
set_option linter.unusedVariables false
namespace Go.Proofs.YteegnmblbjcfpaaDoor.T
open Go Go.Lib Go.RowKit Go.Shelf
attribute [local go_sem] Oper.semAt_some

/-- where the first thing begins that has no room; n: none -/
def fitL (n : Nat) (room : Int) : Int → List (Nat × Int) → Nat
  | _, [] => n
  | t, x :: l => if room < t + wOf x.2 then x.1 else fitL n room (t + wOf x.2) l
def fit (s : ByteArray) (room : Int) : Nat := fitL s.size room 0 (pcs s)
theorem fitL_le (s : ByteArray) (room : Int) : ∀ (l : List (Nat × Int)) (t : Int), (∀ x ∈ l, x ∈ pcs s) → fitL s.size room t l ≤ s.size
  | [], _, _ => Nat.le_refl _
  | x :: l, t, h => by
    unfold fitL
    split
    · have := (pcs_mem s x (h x (by simp))).1; omega
    · exact fitL_le s room l _ (fun y hy => h y (by simp [hy]))
theorem fit_le (s : ByteArray) (room : Int) : fit s room ≤ s.size := fitL_le s room _ 0 (fun _ h => h)

theorem ret_i64 {a b : Int} (h : a = b) : Ending.returned (.int .i64 a) = .returned (.int .i64 b) := by rw [h]
theorem cell_drewSet (W : World) (a b : Addr) (v u : Value) (h : W.cell? b = some u) (hne : b.block ≠ a.block) : (W.setCell a v).drew.cell? b = some u := by
  show (W.setCell a v).cell? b = some u
  rw [World.cell?_setCell_other _ _ _ _ (fun e => hne (by rw [e]))]; exact h

set_option maxRecDepth 100000 in
set_option maxHeartbeats 2000000 in
theorem fitting_in (s : ByteArray) (room : Int) (hs : s.size ≤ 67108864) (w : World) (hT : Tabs w) (h2 : 2 ≤ w.heap.size) :
    CallsIn Fence.wide 5 Tryd.prog 42 #[.string s, .int .i64 room] w fun e w' => e = .returned (.int .i64 (fit s room)) ∧ Below w.heap.size w w' := by
  have hro : Fence.wide.round = none := rfl
  have hw : ∀ f, Fence.wide.fn f := fun _ => trivial
  have hpl := pcs_length s
  refine callsIn_of_wp_marks Tryd.func42 rfl trivial ?_ hro
  simp only [Tryd.ntmps42, List.size_toArray, List.length_cons, List.length_nil, Nat.reduceAdd, Nat.reduceSub, Array.replicate_succ, Array.replicate_zero, List.push_toArray, List.append_toArray, List.nil_append, List.cons_append]
  gi_wp2_with (gi_at_call 10; refine (Runes_in _ _ _).mono ?_; rintro e w' ⟨rfl, rfl⟩)
  have bR := (((Boxed.new w 3 (.int .i64 room)).alloc (.cells #[.int .i64 0] 3)).alloc (.cells #[.int .i64 0] 3)).alloc (.cells #[.string s] 9)
  have bQ := ((Boxed.new (w.alloc (.cells #[.int .i64 room] 3)) 3 (.int .i64 0)).alloc (.cells #[.int .i64 0] 3)).alloc (.cells #[.string s] 9)
  have bO := (Boxed.new ((w.alloc (.cells #[.int .i64 room] 3)).alloc (.cells #[.int .i64 0] 3)) 3 (.int .i64 0)).alloc (.cells #[.string s] 9)
  have bN := Boxed.new (((w.alloc (.cells #[.int .i64 room] 3)).alloc (.cells #[.int .i64 0] 3)).alloc (.cells #[.int .i64 0] 3)) 9 (.string s)
  simp only [World.size_alloc] at bQ bO bN
  have hB0 : Below w.heap.size w ((((w.alloc (.cells #[.int .i64 room] 3)).alloc (.cells #[.int .i64 0] 3)).alloc (.cells #[.int .i64 0] 3)).alloc (.cells #[.string s] 9)) := ((((Below.refl _ w).alloc (Nat.le_refl _) _).alloc (by simp) _).alloc (by simp; omega) _).alloc (by simp; omega) _
  have hsz : ((((w.alloc (.cells #[.int .i64 room] 3)).alloc (.cells #[.int .i64 0] 3)).alloc (.cells #[.int .i64 0] 3)).alloc (.cells #[.string s] 9)).heap.size = w.heap.size + 4 := by simp
  have HT0 := hT.below hB0 h2
  obtain ⟨W0, hW0⟩ : ∃ W0, ((((w.alloc (.cells #[.int .i64 room] 3)).alloc (.cells #[.int .i64 0] 3)).alloc (.cells #[.int .i64 0] 3)).alloc (.cells #[.string s] 9)) = W0 := ⟨_, rfl⟩
  rw [hW0] at bR bQ bO bN hB0 hsz HT0 ⊢
  clear hW0
  have HSZ := Lib.hid hsz
  clear hsz
  refine wpIn_rangeFunc_ownF hro (by omega) (gf := 33) (lb := #[.pointer (some ⟨w.heap.size + 1 + 1 + 1, 0, none⟩)]) rfl trivial (enters_of Tryd.func33 (by kernel_rfl) rfl)
    (runes_stops 4 (by omega) (w.heap.size + 1 + 1 + 1) w.heap.size s (by omega) _ HT0 (by omega) (by rw [HSZ.out]; omega) (by rw [HSZ.out]; omega) bN.cell) KpR.t (KpR.b (by rw [HSZ.out]; omega)) (Below.refl _ _) (fun _ => rfl)
    (fun pre W => ((((∀ L, fitL s.size room 0 (vals pre ++ L) = fitL s.size room (widthL (vals pre)) L) ∧ Boxed W (w.heap.size + 1 + 1) 3 (.int .i64 (widthL (vals pre)))) ∧ Boxed W w.heap.size 3 (.int .i64 room)) ∧ Boxed W (w.heap.size + 1) 3 (.int .i64 0)) ∧ Below w.heap.size w W)
    (fun c pre W => ((c = .ret ∧ ∀ L, fitL s.size room 0 (vals pre ++ L) = fitL s.size room 0 (vals pre)) ∧ Boxed W (w.heap.size + 1) 3 (.int .i64 (fitL s.size room 0 (vals pre)))) ∧ Below w.heap.size w W)
    (OwnFrom.and (OwnFrom.and (OwnFrom.and (OwnFrom.and (ownFrom_pure _ _) (Own.from (boxed_own _ _ _) _)) (Own.from (boxed_own _ _ _) _)) (Own.from (boxed_own _ _ _) _)) (ownFrom_below (Nat.le_refl _) (by rw [HSZ.out]; omega)))
    (fun c => OwnFrom.and (OwnFrom.and (ownFrom_pure _ _) (Own.from (boxed_own _ _ _) _)) (ownFrom_below (Nat.le_refl _) (by rw [HSZ.out]; omega)))
    ⟨⟨⟨⟨fun L => rfl, bO⟩, bR⟩, bQ⟩, hB0⟩
    (fun x => { tmps := #[.string s, .int .i64 room, undef, .pointer (some ⟨w.heap.size, 0, none⟩), .pointer (some ⟨w.heap.size + 1, 0, none⟩), .pointer (some ⟨w.heap.size + 1 + 1, 0, none⟩), .int .i64 x.1.1, .int .i32 x.1.2, .string s, .func (.func 33) #[] #[.pointer (some ⟨w.heap.size + 1 + 1 + 1, 0, none⟩)], .int .i64 x.1.1, .int .i32 x.1.2, undef, undef, undef, undef, undef, undef, undef, undef, undef, undef], defers := [] }) ?assign ?body ?done ?stop
  case assign =>
    intro l x W K hK
    gi_wp2
    exact hK
  case body =>
    rintro l pre x W ⟨⟨⟨⟨hfl, hv⟩, hR⟩, hQ⟩, hB⟩ hlt
    have hc := hv.cell
    have hf := hv.frozen
    have hcR := hR.cell
    have hcQ := hQ.cell
    have hfQ := hQ.frozen
    have hxb : -1 ≤ x.1.2 := by rw [(pcs_mem s x.1 x.2).2]; exact (pc_bd s _).1
    have hwb := wOf_bd x.1.2
    have hlb := widthL_bd (vals pre)
    rw [vals_length] at hlb
    have hwr : IntKind.i64.wrap (widthL (vals pre) + wOf x.1.2) = widthL (vals pre) + wOf x.1.2 := IntWalk.i64_in _ (by omega)
    have HFL := Lib.hid hfl
    clear hfl
    have hmx : Tryd.prog.follows .mixedOrders = true := by kernel_rfl
    have hd : 1 ≤ 5 - 1 - 1 := by omega
    by_cases hg : room < widthL (vals pre) + wOf x.1.2
    · gi_wp2
      gi_region_with_o (gi_at_call 37; refine (CallsIn.inRound l (callsIn_wide.2 (shownWidth_in _ hxb _))).mono ?_; rintro e w' ⟨rfl, rfl⟩)
      all_goals gi_wp2
      all_goals
        have hp1 : ∀ L, fitL s.size room 0 (vals (pre ++ [x]) ++ L) = x.1.1 := fun L => by
          rw [vals_snoc, List.append_assoc, HFL.out, List.singleton_append, fitL, if_pos hg]
        have hp0 : fitL s.size room 0 (vals (pre ++ [x])) = x.1.1 := by have := hp1 []; rwa [List.append_nil] at this
        refine ⟨((KeepsOthers.setCell _ _ _).trans (KeepsOthers.setCell _ _ _)).trans (KeepsOthers.drew _), ⟨⟨rfl, fun L => (hp1 L).trans hp0.symm⟩, ?_⟩, ((hB.setCell (p := ⟨w.heap.size + 1 + 1, 0, none⟩) (by simp; omega) _).setCell (p := ⟨w.heap.size + 1, 0, none⟩) (by simp) _).drew⟩
        rw [hp0]
        exact (hQ.other (by omega) _).set _
    · have hg' : widthL (vals pre) + wOf x.1.2 ≤ room := by omega
      gi_wp2
      gi_region_with_o (gi_at_call 37; refine (CallsIn.inRound l (callsIn_wide.2 (shownWidth_in _ hxb _))).mono ?_; rintro e w' ⟨rfl, rfl⟩)
      all_goals gi_wp2
      all_goals
        refine ⟨(KeepsOthers.setCell _ _ _).trans (KeepsOthers.drew _), ⟨((Below.refl _ W).setCell (p := ⟨w.heap.size + 1 + 1, 0, none⟩) (by simp; omega) _).drew, ⟨(KeepsWalks.setCell W _ _).size, (KeepsWalks.setCell W _ _).same⟩, fun c => (World.cell?_setCell_other _ _ _ _ (by simp <;> omega)).trans c⟩, ⟨⟨⟨fun L => ?_, ?_⟩, hR.other (by omega) _⟩, hQ.other (by omega) _⟩, (hB.setCell (p := ⟨w.heap.size + 1 + 1, 0, none⟩) (by simp; omega) _).drew⟩
        · rw [vals_snoc, List.append_assoc, HFL.out, List.singleton_append, fitL, if_neg (by omega), widthL_snoc]
        · rw [vals_snoc, widthL_snoc]; exact hv.set _
  case done =>
    rintro D ys W hD hys ⟨⟨⟨⟨hfl, hv⟩, hR⟩, hQ⟩, hB⟩ hK
    have hcQ := hQ.cell
    have hfQ := hQ.frozen
    have HFL := Lib.hid hfl
    clear hfl
    gi_wp2
    have hfl := HFL.out
    have hK' := (KeepsOthers.setCell W ⟨w.heap.size + 1, 0, none⟩ (.int .i64 s.size)).same D _ hK rfl
    refine ⟨by simp, .inl ⟨_, _, rfl, run_takeDeferred hK', ?_⟩⟩
    have hc5 := cell_kept (hQ.set (.int .i64 s.size)).cell (grownBy_putObj' _ D (.deferred none)) (fun r e => by cases e; exact ⟨_, hK', rfl⟩)
    refine ⟨.int .i64 s.size, ?_, ret_i64 ?_, (hB.setCell (p := ⟨w.heap.size + 1, 0, none⟩) (by simp) _).trans (belowK_b (w := w) (Nat.le_refl _) _ D _ _ (by have := HSZ.out; omega) hK' rfl rfl)⟩
    · simp [results, Tryd.f42, go_sem, hc5]
    · have := hfl []
      rw [List.append_nil, hys] at this
      rw [fit, this]; rfl
  case stop =>
    rintro D c pre W hD ⟨t, ht⟩ ⟨⟨⟨rfl, hfl⟩, hQ⟩, hB⟩ hK
    have hcQ := hQ.cell
    have HFL := Lib.hid hfl
    have HT := Lib.hid ht
    clear hfl ht
    gi_wp2
    refine ⟨by simp, .inl ⟨_, _, rfl, run_takeDeferred hK, ?_⟩⟩
    have hc5 := cell_kept hQ.cell (grownBy_putObj' _ D (.deferred none)) (fun r e => by cases e; exact ⟨_, hK, rfl⟩)
    refine ⟨.int .i64 (fitL s.size room 0 (vals pre)), ?_, ret_i64 ?_, hB.trans (belowK_b (w := w) (Nat.le_refl _) _ D _ _ (by have := HSZ.out; omega) hK rfl rfl)⟩
    · simp [results, Tryd.f42, go_sem, hc5]
    · rw [fit, ← HT.out, HFL.out]

theorem Clone_in (s : ByteArray) (hs : s.size ≤ 281474976710656) (w : World) : Calls Tryd.prog 41 #[.string s] w fun e w' => e = .returned (.string s) ∧ Below w.heap.size w w' := by
  go_enter Tryd.func41, Tryd.ntmps41
  go_wp2_with (go_at_call 56; refine (Tryd.stringslite_Clone s _ hs).mono ?_; rintro e w' ⟨rfl, hb⟩)
  go_ret
  exact ⟨rfl, hb⟩
theorem Cut_in (s : ByteArray) (room : Int) (hs : s.size ≤ 67108864) (w : World) (hT : Tabs w) (h2 : 2 ≤ w.heap.size) :
    Calls Tryd.prog 24 #[.string s, .int .i64 room] w fun e w' => e = .returned (.string (s.extract 0 (fit s room))) ∧ Below w.heap.size w w' := by
  have hle := fit_le s room
  have hsl : ∀ W : World, (Instr.slice 9 (.string s) none (some (.int .i64 (fit s room : Int))) none).run Tryd.prog W = .ok (.string (s.extract 0 (fit s room))) W := fun W => by
    rw [run_slice_string_to_if (P := Tryd.prog) W 9 s .i64 (fit s room : Int) Tryd.underlying9, if_pos (by omega), Int.toNat_natCast]
  go_enter Tryd.func24, Tryd.ntmps24
  go_wp2_with fail
  refine (callsIn_wide.1 (fitting_in s room hs _ hT h2)).mono ?_
  rintro e w1 ⟨rfl, hb1⟩
  go_wp2_with fail
  refine (Clone_in _ (by simp; omega) _).mono ?_
  rintro e w2 ⟨rfl, hb2⟩
  go_wp2
  go_ret
  exact ⟨rfl, hb1.trans (hb2.mono hb1.size)⟩
end Go.Proofs.YteegnmblbjcfpaaDoor.T
