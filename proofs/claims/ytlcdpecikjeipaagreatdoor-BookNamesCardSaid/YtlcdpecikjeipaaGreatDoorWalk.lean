/-
  erratalaw05.BookNames, walked.
-/
import Derived.Test.YtlcdpecikjeipaaGreatDoorNames
set_option linter.unusedVariables false
namespace Go.Proofs.YtlcdpecikjeipaaGreatDoor.T
open Go Go.RowKit Go.Shelf
attribute [local go_sem] run_store_float
attribute [local go_sem] Oper.semAt_some

theorem each1_nil (n : Nat) (hn : 1 ≤ n) (b : Nat) (w : World) (hc : w.cell? ⟨b, 0, none⟩ = some (.slice none 0 0)) (hb : b < w.heap.size) :
    SeqPre Fence.wide n Tryz.prog 25 #[.pointer (some ⟨b, 0, none⟩)] (fun _ : Unit => #[.int .i64 0, .nilIface]) (fun _ _ => True) (fun _ => False) (fun xs => xs = []) w := fun l J W hW hJ hY h0 => by
  have hc1 := (hW.cell (p := ⟨b, 0, none⟩) hb).trans hc
  refine callsIn_of_wp Tryz.func25 rfl trivial ?_ rfl
  simp only [Tryz.ntmps25, List.size_toArray, List.length_cons, List.length_nil, Nat.reduceAdd, Nat.reduceSub, Array.replicate_succ, Array.replicate_zero, List.push_toArray, List.append_toArray, List.nil_append, List.cons_append]
  gi_wp2
  gi_loopw [7] (fun i wr => i = .int .i64 0 ∧ wr = W) (fun _ _ => 0)
  case atStart => exact ⟨rfl, rfl⟩
  case round =>
    obtain ⟨rfl, rfl⟩ := hrel
    gi_wp2
    go_end0
    exact ⟨⟨_, rfl⟩, [], rfl, h0⟩
/-- the same, where no variable is taken and nothing is handed out -/
theorem range_none {F : Fence} {n : Nat} {P : Program} {α : Type} {g : Operand} {ps : Array Tmp} {assign body : Code} {Q : Exit → Act → World → Prop} {a : Act} {w : World}
    (hro : F.round = none) (h1 : 1 ≤ n) {gf : Nat} {lb : Array Value} (hg : a.eval g = .func (.func gf) #[] lb) (hFg : F.fn gf) (eg : ∀ args w, (callFunc gf args).run P w = .ok (.enter gf args) w)
    {encs : α → Array Value} {Kp : World → World → Prop} {G S : List α → Prop} {w0 : World} (hseq : SeqPre F (n - 1) P gf lb encs Kp G S w0)
    (hKt : ∀ {A B C : World}, Kp A B → Kp B C → Kp A C) (hKb : ∀ (W : World) (l : Nat) (o o' : Obj), w.heap.size ≤ l → W.heap[l]? = some o → o.isCells = false → o.isWalk = false → Kp W (W.putObj l o')) (hb0 : Below w0.heap.size w0 w) (hps : ∀ x, (encs x).size = ps.size)
    (I : List α → World → Prop) (hI : OwnFrom w.heap.size I) (h0 : I [] w)
    (hassign : ∀ (l : Nat) (x : α) (W : World) (K : Act → World → Prop), K { tmps := (ps.zip (encs x)).foldl (fun t (p, v) => t.setIfInBounds p v) a.tmps, defers := [] } W →
      assign.wpIn (F.inRound l) (n - 1 - 1) P (Exit.then K (fun _ _ _ => False)) { tmps := (ps.zip (encs x)).foldl (fun t (p, v) => t.setIfInBounds p v) a.tmps, defers := [] } W)
    (hbody : ∀ l, ¬ G l)
    (hdone : ∀ (D : Nat) (xs : List α) (W : World), w.heap.size ≤ D → S xs → I xs W → W.heap[D]? = some (.deferred (some [])) → Q .normal { a with defers := { target := .collected D, args := #[] } :: a.defers } W) :
    (Code.rangeFunc g ps assign body).wpIn F n P Q a w :=
  range_pre hro h1 hg hFg eg hseq hKt hKb hb0 hps I hI h0 (fun x => { tmps := (ps.zip (encs x)).foldl (fun t (p, v) => t.setIfInBounds p v) a.tmps, defers := [] }) hassign (fun _ pre x _ _ h => (hbody _ h).elim) hdone
theorem equalIn_func_nil (d : Nat) (w : World) (f : Fn) (a b : Array Value) : (Op.equalIn (d + 1) 50 (.func f a b) .nilFunc).run Tryz.prog w = .ok false w := by
  simp [Op.equalIn, run_underlying Tryz.underlying50]
theorem equal_func_nil (w : World) (f : Fn) (a b : Array Value) : (Op.equal 50 (.func f a b) .nilFunc).run Tryz.prog w = .ok false w := equalIn_func_nil 9999 w f a b
theorem neq_func_nil (w : World) (f : Fn) (a b : Array Value) : (binOp .neq 50 (.func f a b) .nilFunc).run Tryz.prog w = .ok (.bool true) w := by
  simp only [binOp]
  simp [equal_func_nil w f a b]
set_option maxRecDepth 100000 in
set_option maxHeartbeats 4000000 in
theorem bookNames_in (w : World) : CallsIn Fence.wide 5 Tryz.prog 3 #[] w fun e w' => e = .returned (.bool true) ∧ Below w.heap.size w w' := by
  have hro : Fence.wide.round = none := rfl
  have hw : ∀ f, Fence.wide.fn f := fun _ => trivial
  have bR := Boxed.new w 4 (.bool false)
  have hbA : Below w.heap.size w (w.alloc (.cells #[.bool false] 4)) := (Below.refl _ w).alloc (Nat.le_refl _) _
  have hzA : (w.alloc (.cells #[.bool false] 4)).heap.size = w.heap.size + 1 := by simp
  refine callsIn_of_wp_marks Tryz.func3 rfl trivial ?_ hro
  simp only [Tryz.ntmps3, List.size_toArray, List.length_nil, Nat.reduceSub, Array.replicate_succ, Array.replicate_zero, List.push_toArray, List.append_toArray, List.nil_append, List.cons_append]
  have c1 := make_nil; have c2 := error_nil; have c3 := spec_nil; have c4 := kind_nil; have c5 := parts_nil; have c6 := size_nil; have c7 := depth_nil; have c8 := length_nil; have c9 := text_nil; have c10 := each_nil; have c11 := len_nil; have c12 := copy_nil
  unfold spec1 at c1
  unfold specZ at c3
  unfold panZ at c9
  have C1 := Lib.hid c1; have C2 := Lib.hid c2; have C3 := Lib.hid c3; have C4 := Lib.hid c4; have C5 := Lib.hid c5; have C6 := Lib.hid c6; have C7 := Lib.hid c7; have C8 := Lib.hid c8; have C9 := Lib.hid c9; have C10 := Lib.hid c10; have C11 := Lib.hid c11; have C12 := Lib.hid c12
  clear c1 c2 c3 c4 c5 c6 c7 c8 c9 c10 c11 c12
  gi_wp2_with fail
  generalize w.alloc (.cells #[.bool false] 4) = wA at *
  refine (callsIn_wide.2 (C1.out _)).mono ?_
  rintro e w1 ⟨rfl, h1⟩
  gi_wp2_with fail
  refine (callsIn_wide.2 (C2.out _)).mono ?_
  rintro e w2 ⟨rfl, h2⟩
  have H2 := more h1 h2
  gi_wp2_with fail
  refine (callsIn_wide.2 (C3.out _)).mono ?_
  rintro e w3 ⟨rfl, h3⟩
  have H3 := more H2 h3
  gi_wp2_with fail
  refine (callsIn_wide.2 (C4.out _)).mono ?_
  rintro e w4 ⟨rfl, h4⟩
  have H3a := H3.alloc H3.size (.cells #[.int .u8 0, .bool false, .string ⟨#[]⟩, .int .i16 0, .int .i8 0, .float .f64 0, .float .f64 0, .bool false, .int .u32 0, .slice none 0 0, .slice none 0 0] 33)
  have H4 := more H3a h4
  gi_wp2_with fail
  refine (callsIn_wide.2 (C5.out _)).mono ?_
  rintro e w5 ⟨rfl, h5⟩
  have H5 := more H4 h5
  gi_wp2_with fail
  refine (callsIn_wide.2 (C6.out _)).mono ?_
  rintro e w6 ⟨rfl, h6⟩
  have H6 := more H5 h6
  gi_wp2_with fail
  refine (callsIn_wide.2 (C7.out _)).mono ?_
  rintro e w7 ⟨rfl, h7⟩
  have H7 := more H6 h7
  gi_wp2_with fail
  refine (callsIn_wide.2 (C8.out _)).mono ?_
  rintro e w8 ⟨rfl, h8⟩
  have H8 := more H7 h8
  gi_wp2_with fail
  refine (callsIn_wide.2 (C9.out _)).mono ?_
  rintro e w9 ⟨rfl, h9⟩
  have H9 := more H8 h9
  clear h1 h2 h3 h4 h5 h6 h7 h8 h9 H2 H3 H3a H4 H5 H6 H7 H8
  have hne := fun W => neq_func_nil W (.func 25) #[] #[.pointer (some ⟨w9.heap.size + 1, 0, none⟩)]
  gi_wp2_with fail
  refine (callsIn_wide.2 (C10.out _)).mono ?_
  rintro e w10 ⟨rfl, rfl⟩
  have H10 := (H9.alloc H9.size (.cells #[.int .i64 0, .string ⟨#[]⟩, .int .i64 0] 46)).alloc (by have := H9.size; simp; omega) (.cells #[.slice none 0 0] 63)
  have hz9 := H9.size
  have k0 : ((w9.alloc (.cells #[.int .i64 0, .string ⟨#[]⟩, .int .i64 0] 46)).alloc (.cells #[.slice none 0 0] 63)).cell? ⟨w9.heap.size, 0, none⟩ = some (.int .i64 0) := by simp
  have k1 : ((w9.alloc (.cells #[.int .i64 0, .string ⟨#[]⟩, .int .i64 0] 46)).alloc (.cells #[.slice none 0 0] 63)).cell? ⟨w9.heap.size, 1, none⟩ = some (.string ⟨#[]⟩) := by simp
  have k2 : ((w9.alloc (.cells #[.int .i64 0, .string ⟨#[]⟩, .int .i64 0] 46)).alloc (.cells #[.slice none 0 0] 63)).cell? ⟨w9.heap.size, 2, none⟩ = some (.int .i64 0) := by simp
  have k3 : ((w9.alloc (.cells #[.int .i64 0, .string ⟨#[]⟩, .int .i64 0] 46)).alloc (.cells #[.slice none 0 0] 63)).cell? ⟨w9.heap.size + 1, 0, none⟩ = some (.slice none 0 0) := by simp
  have hzE : ((w9.alloc (.cells #[.int .i64 0, .string ⟨#[]⟩, .int .i64 0] 46)).alloc (.cells #[.slice none 0 0] 63)).heap.size = w9.heap.size + 2 := by simp
  gi_wp2
  generalize ((w9.alloc (.cells #[.int .i64 0, .string ⟨#[]⟩, .int .i64 0] 46)).alloc (.cells #[.slice none 0 0] 63)) = wE at *
  refine range_none hro (by omega) (gf := 25) (lb := #[.pointer (some ⟨w9.heap.size + 1, 0, none⟩)]) rfl trivial (enters_of Tryz.func25 (by kernel_rfl) rfl)
    (each1_nil 4 (by omega) (w9.heap.size + 1) wE k3 (by omega)) (fun _ _ => trivial) (fun _ _ _ _ _ _ _ _ => trivial) (Below.refl _ _) (fun _ => rfl)
    (fun _ W => Below wE.heap.size wE W) (ownFrom_below (Nat.le_refl _) (Nat.le_refl _)) (Below.refl _ _) ?assign (fun _ h => h) ?done
  case assign =>
    intro l x W K hK
    gi_wp2
    first
      | exact hK
      | (simp at hK; exact hK)
      | (simp [go_sem] at hK; exact hK)
  case done =>
    rintro D ys W hD hys hB hK
    have d0 := (hB.cell (p := ⟨w9.heap.size, 0, none⟩) (by show w9.heap.size < _; omega)).trans k0
    have d1 := (hB.cell (p := ⟨w9.heap.size, 1, none⟩) (by show w9.heap.size < _; omega)).trans k1
    have d2 := (hB.cell (p := ⟨w9.heap.size, 2, none⟩) (by show w9.heap.size < _; omega)).trans k2
    have HK := Lib.hid hK
    clear hK
    have hBW := more H10 hB
    have hv : Boxed W w.heap.size 4 (.bool false) := (hBW.block _ (by omega)).trans bR
    have hc := hv.cell
    have hf := hv.frozen
    have hDw : w.heap.size ≤ D := by have := H10.size; omega
    gi_wp2_with fail
    refine (callsIn_wide.2 (C11.out _)).mono ?_
    rintro e W1 ⟨rfl, rfl⟩
    gi_wp2_with fail
    refine (callsIn_wide.2 (C12.out _)).mono ?_
    rintro e W2 ⟨rfl, rfl⟩
    gi_wp2
    have hBf : Below w.heap.size w (W2.setCell ⟨w.heap.size, 0, none⟩ (.bool true)) := (hbA.trans (hBW.mono (by omega))).setCell (p := ⟨w.heap.size, 0, none⟩) (Nat.le_refl _) _
    have hcf : Boxed (W2.setCell ⟨w.heap.size, 0, none⟩ (.bool true)) w.heap.size 4 (.bool true) := Boxed.set (W := W2) _ hv
    have kf : (W2.setCell ⟨w.heap.size, 0, none⟩ (.bool true)).heap[D]? = some (.deferred (some [])) := (KeepsOthers.setCell W2 ⟨w.heap.size, 0, none⟩ (.bool true)).same D _ HK.out rfl
    obtain ⟨V, hV⟩ : ∃ V, W2.setCell ⟨w.heap.size, 0, none⟩ (.bool true) = V := ⟨_, rfl⟩
    rw [hV] at hBf hcf kf ⊢
    clear hV
    refine ⟨by simp, .inl ⟨_, _, rfl, run_takeDeferred kf, ?_⟩⟩
    have hc1 := cell_kept hcf.cell (grownBy_putObj' _ D (.deferred none)) (fun r e => by cases e; exact ⟨_, kf, rfl⟩)
    refine ⟨.bool true, ?_, rfl, hBf.trans (belowK_b (w := w) (Nat.le_refl _) _ D _ _ hDw kf rfl rfl)⟩
    simp [results, Tryz.f3, go_sem, hc1]
end Go.Proofs.YtlcdpecikjeipaaGreatDoor.T
