/-
  erratalaw01.TextBack, walked.
-/
import Derived.Test.YtcnbfabogiakcaaDoorTextInj
import Derived.Test.YtcnbfabogiakcaaDoorTextWorksWalk
import Derived.Test.YtcnbfabogiakcaaDoorTextFront
set_option linter.unusedVariables false
namespace Go.Proofs.YtcnbfabogiakcaaDoor.T
open Go Go.Lib Go.RowKit Go.Shelf
attribute [local go_sem] Oper.semAt_some

theorem quB_size (u : ByteArray) : (quB u).size ≤ 5 * u.size + 2 := by
  have h1 := quL_len u (pcs u)
  have h2 := pcs_length u
  have e : (quB u).size = (quL u (pcs u)).length + 1 := by simp [quB, ByteArray.size]
  omega
theorem unT_size (t u : ByteArray) (h : unT t = some u) : u.size ≤ t.size := by
  unfold unT at h
  cases hf : frT t with
  | none => rw [hf] at h; cases h
  | some x =>
    obtain ⟨v, n⟩ := x
    rw [hf] at h
    simp only at h
    split at h
    · cases h
      unfold frT at hf
      cases hq : rqO t with
      | none => rw [hq] at hf; cases hf
      | some y =>
        obtain ⟨l, m⟩ := y
        have hb := rqO_bd t l m hq
        rw [hq] at hf
        simp only at hf
        split at hf
        · simp only [Option.some.injEq, Prod.mk.injEq] at hf
          obtain ⟨rfl, rfl⟩ := hf
          have e : (⟨l.toArray⟩ : ByteArray).size = l.length := by simp [ByteArray.size]
          omega
        · cases hf
    · cases h
theorem range_at {F : Fence} {n : Nat} {P : Program} {α : Type} {g : Operand} {ps : Array Tmp} {assign body : Code} {Q : Exit → Act → World → Prop} {a : Act} {w : World}
    (dst : Tmp) (val : α → Value)
    (hro : F.round = none) (h1 : 1 ≤ n) {gf : Nat} {lb : Array Value} (hg : a.eval g = .func (.func gf) #[] lb) (hFg : F.fn gf) (eg : ∀ args w, (callFunc gf args).run P w = .ok (.enter gf args) w)
    {encs : α → Array Value} {Kp : World → World → Prop} {S Sp : List α → Prop} {N : Nat} {w0 : World} (hseq : SeqStopsK F (n - 1) P gf lb encs Kp S Sp N w0)
    (hKt : ∀ {A B C : World}, Kp A B → Kp B C → Kp A C) (hKb : ∀ (W : World) (l : Nat) (o o' : Obj), w.heap.size ≤ l → W.heap[l]? = some o → o.isCells = false → o.isWalk = false → Kp W (W.putObj l o')) (hb0 : Below w0.heap.size w0 w) (hps : ∀ x, (encs x).size = ps.size)
    (I : List α → World → Prop) (hI : OwnFrom w.heap.size I) (h0 : I [] w)
    (hassign : ∀ (l : Nat) (x : α) (W : World) (K : Act → World → Prop), K { tmps := ((ps.zip (encs x)).foldl (fun t (p, v) => t.setIfInBounds p v) a.tmps).setIfInBounds dst (val x), defers := [] } W →
      assign.wpIn (F.inRound l) (n - 1 - 1) P (Exit.then K (fun _ _ _ => False)) { tmps := (ps.zip (encs x)).foldl (fun t (p, v) => t.setIfInBounds p v) a.tmps, defers := [] } W)
    (hbody : ∀ (l : Nat) (pre : List α) (x : α) (W : World), I pre W → pre.length < N → body.wpIn (F.inRound l) (n - 1 - 1) P (ownPostK Kp I (fun _ _ _ => False) (pre ++ [x]) W) { tmps := ((ps.zip (encs x)).foldl (fun t (p, v) => t.setIfInBounds p v) a.tmps).setIfInBounds dst (val x), defers := [] } W)
    (hdone : ∀ (D : Nat) (xs : List α) (W : World), w.heap.size ≤ D → S xs → I xs W → W.heap[D]? = some (.deferred (some [])) → Q .normal { a with defers := { target := .collected D, args := #[] } :: a.defers } W) :
    (Code.rangeFunc g ps assign body).wpIn F n P Q a w :=
  wpIn_rangeFunc_ownF hro h1 hg hFg eg hseq hKt hKb hb0 hps I (fun _ _ _ => False) hI (fun _ _ _ _ _ hs _ _ => hs) h0 _ hassign hbody hdone (fun _ _ _ _ _ _ h _ => h.elim)

set_option maxRecDepth 1000000 in
set_option maxHeartbeats 8000000 in
theorem textBack_in (s t rest : ByteArray) (hs : s.size + t.size + rest.size ≤ 1048576) (w : World) (hT : Tabs w) (h2 : 2 ≤ w.heap.size) :
    CallsIn Fence.wide 5 Tryd.prog 6 #[.string s, .string t, .string rest] w fun e w' => e = .returned (.bool true) ∧ Below w.heap.size w w' := by
  have hro : Fence.wide.round = none := rfl
  have hw : ∀ f, Fence.wide.fn f := fun _ => trivial
  have hq := quB_size s
  have hqz : (quB s ++ rest).size = (quB s).size + rest.size := by simp
  have hcat : ¬ 9223372036854775807 < (quB s).size + rest.size := by omega
  have hbA : Below w.heap.size w (w.alloc (.cells #[.bool false] 4)) := (Below.refl _ w).alloc (Nat.le_refl _) _
  have bR0 := Boxed.new w 4 (.bool false)
  have hzA : (w.alloc (.cells #[.bool false] 4)).heap.size = w.heap.size + 1 := by simp
  refine callsIn_of_wp_marks Tryd.func6 rfl trivial ?_ hro
  simp only [Tryd.ntmps6, List.size_toArray, List.length_cons, List.length_nil, Nat.reduceAdd, Nat.reduceSub, Array.replicate_succ, Array.replicate_zero, List.push_toArray, List.append_toArray, List.nil_append, List.cons_append]
  gi_wp2_with fail
  generalize w.alloc (.cells #[.bool false] 4) = wA at *
  have hTA := hT.below hbA h2
  have h2A : 2 ≤ wA.heap.size := by omega
  have two : ∀ W, Below wA.heap.size wA W → 2 ≤ W.heap.size := fun W hb => by have := hb.size; omega
  have hl1 := shT_len s false (pcs s)
  have hl2 := pcs_length s
  have cW := fun W (hb : Below wA.heap.size wA W) => after hb (works_in W (hTA.below hb h2A) (two W hb))
  have cQ := fun W (hb : Below wA.heap.size wA W) => after hb (callsIn_wide.1 (Quote_in s (by omega) W (hTA.below hb h2A) (two W hb)))
  have cU := fun W (hb : Below wA.heap.size wA W) => after hb (Unquote_in (quB s) (by omega) W (hTA.below hb h2A) (two W hb))
  have cF := fun W (hb : Below wA.heap.size wA W) => after hb (Front_in (quB s ++ rest) (by omega) W (hTA.below hb h2A) (two W hb))
  have cT := fun W (hb : Below wA.heap.size wA W) => after hb (Unquote_in t (by omega) W (hTA.below hb h2A) (two W hb))
  have cS := fun W (hb : Below wA.heap.size wA W) => after hb (callsIn_wide.1 (Show_in s (by omega) W (hTA.below hb h2A) (two W hb)))
  have cV := fun W (hb : Below wA.heap.size wA W) => after hb (callsIn_wide.1 (Show_in t (by omega) W (hTA.below hb h2A) (two W hb)))
  have cB := fun W (hb : Below wA.heap.size wA W) => callsIn_wide.1 (Breaks_in (quB s) (by omega) W (hTA.below hb h2A) (two W hb))
  have e1 : ∀ u, (⟨(quL u (pcs u) ++ [34]).toArray⟩ : ByteArray) = quB u := fun u => rfl
  have e2 : unT (quB s) = some s := by rw [← un_same, unR_quB]
  have e3 : frT (quB s ++ rest) = some (s, (quB s).size) := frT_of (by apply ba_ext; rw [ext_take]; simp) (by omega)
  have e4 : brksOf (pcs (quB s)) = [] := by
    unfold brksOf
    rw [List.filter_eq_nil_iff.2 (fun x hx => by have := quB_whole s x hx; simp; omega)]
    rfl
  simp only [e1] at cQ
  simp only [e2, unV] at cU
  simp only [e3, frV] at cF
  simp only [e4] at cB
  have hinj : (⟨(shT s false (pcs s)).toArray⟩ : ByteArray) = ⟨(shT t false (pcs t)).toArray⟩ ↔ s = t := by
    constructor
    · intro h
      have := congrArg (fun b : ByteArray => b.data.toList) h
      exact show_inj s t (by simpa using this)
    · rintro rfl; rfl
  have hfair := shown_fair s
  have hAz : (⟨(shT s false (pcs s)).toArray⟩ : ByteArray).size ≤ 16777216 := by simp [ByteArray.size]; omega
  have hun : ∀ u, unT t = some u → quB u = t := fun u h => unR_some (by rw [un_same]; exact h)
  have cX : ∀ u, unT t = some u → ∀ W, Below wA.heap.size wA W → Calls Tryd.prog 18 #[.string u] W fun e W' => e = .returned (.string t) ∧ Below wA.heap.size wA W' := fun u h W hb => by
    have h1 := hun u h
    have h2' : u.size ≤ 16777216 := by have := unT_size t u h; omega
    have := after hb (callsIn_wide.1 (Quote_in u h2' W (hTA.below hb h2A) (two W hb)))
    simp only [e1, h1] at this
    exact this
  generalize (⟨(shT s false (pcs s)).toArray⟩ : ByteArray) = A at *
  generalize (⟨(shT t false (pcs t)).toArray⟩ : ByteArray) = B at *
  generalize hqq : quB s = q at *
  generalize unT t = U at *
  clear hl1 hl2 hun e1 e2 e3 e4 hqq hqz two
  have CW := Lib.hid cW; have CQ := Lib.hid cQ; have CU := Lib.hid cU; have CF := Lib.hid cF; have CT := Lib.hid cT; have CS := Lib.hid cS; have CV := Lib.hid cV; have CB := Lib.hid cB; have CX := Lib.hid cX; have HF := Lib.hid hfair; have HZA := Lib.hid hzA
  have hzA1 : w.heap.size < wA.heap.size := by omega
  clear cW cQ cU cF cT cS cV cB cX hfair hzA
  have hAB : ((A.toList == B.toList) = true ∧ (s.toList == t.toList) = true) ∨ ((A.toList == B.toList) = false ∧ (s.toList == t.toList) = false) := by
    rw [toList_eq_iff, toList_eq_iff]
    by_cases h : s = t
    · exact .inl ⟨by simpa using hinj.2 h, by simpa using h⟩
    · exact .inr ⟨by simp; exact fun e => h (hinj.1 e), by simpa using h⟩
  clear hinj
  have hb0 := Below.refl wA.heap.size wA
  refine (callsIn_wide.2 (CW.out _ hb0)).mono ?_
  rintro e w1 ⟨rfl, hb1⟩
  gi_wp2_with fail
  refine (callsIn_wide.2 (CQ.out _ hb1)).mono ?_
  rintro e w2 ⟨rfl, hb2⟩
  gi_wp2_with fail
  refine (callsIn_wide.2 (CU.out _ hb2)).mono ?_
  rintro e w3 ⟨rfl, hb3⟩
  gi_wp2_with fail
  refine (callsIn_wide.2 (CF.out _ hb3)).mono ?_
  rintro e w4 ⟨rfl, hb4⟩
  have CX0 := CX.out
  rcases U with _ | u
  all_goals
    simp only [unV] at CT
  · clear CX CX0
    gi_wp2_with fail
    refine (callsIn_wide.2 (CT.out _ hb4)).mono ?_
    rintro e w5 ⟨rfl, hb5⟩
    gi_wp2_with fail
    refine (callsIn_wide.2 (CS.out _ hb5)).mono ?_
    rintro e w6 ⟨rfl, hb6⟩
    gi_wp2_with fail
    refine (callsIn_wide.2 (CV.out _ hb6)).mono ?_
    rintro e w7 ⟨rfl, hb7⟩
    rcases hAB with ⟨q1, q2⟩ | ⟨q1, q2⟩
    all_goals
      gi_wp2_with fail
      refine (callsIn_wide.2 (CS.out _ hb7)).mono ?_
      rintro e w8 ⟨rfl, hb8⟩
      gi_wp2_with (gi_at_call 10; refine (Runes_in _ _ _).mono ?_; rintro e w' ⟨rfl, rfl⟩)
      have hz8 := hb8.size
      have bN := Boxed.new w8 9 (.string A)
      have hbR := hb8.alloc hz8 (.cells #[.string A] 9)
      have bR9 : Boxed (w8.alloc (.cells #[.string A] 9)) w.heap.size 4 (.bool false) := (hbR.block _ (by omega)).trans bR0
      have HT9 := hTA.below hbR h2A
      refine range_at 16 (fun x => .int .i32 x.1.2) hro (by omega) (gf := 33) (lb := #[.pointer (some ⟨w8.heap.size, 0, none⟩)]) rfl trivial (enters_of Tryd.func33 (by kernel_rfl) rfl)
        (runes_stops 4 (by omega) w8.heap.size wA.heap.size A (by omega) _ HT9 (by omega) (by simp; omega) (by simp) bN.cell) KpR.t (KpR.b (by simp; omega)) (Below.refl _ _) (fun _ => rfl)
        (fun pre W => Boxed W w.heap.size 4 (.bool false) ∧ Below wA.heap.size wA W)
        (OwnFrom.and (Own.from (boxed_own _ _ _) _) (ownFrom_below (Nat.le_refl _) (by simp; omega)))
        ⟨bR9, hbR⟩ ?assign ?body ?done
      case assign =>
        intro l x W K hK
        gi_wp2
        first
          | exact hK
          | (simp at hK; exact hK)
          | (simp [go_sem] at hK; exact hK)
      case body =>
        rintro l pre x W ⟨hv, hB⟩ hlt
        have hx := HF.out x.1 x.2
        have hx1 : decide (x.1.2 < 32) = false := by simp; omega
        have hx2 : (x.1.2 == 127) = false := by rw [beq_eq_false_iff_ne]; exact hx.2
        clear hx
        gi_wp2
        exact ⟨KeepsOthers.refl _, ⟨Below.refl _ _, KeepsWalks.refl _, fun c => c⟩, hv, hB⟩
      case done =>
        rintro D ys W hD hys ⟨hv, hB⟩ hK
        gi_wp2_with fail
        refine (callsIn_wide.2 (CB.out W hB)).mono ?_
        rintro e w9 ⟨vb, rfl, rb, hb9⟩
        obtain ⟨_, ⟨rfl, _⟩ | ⟨g, cap, cur, rfl, _⟩⟩ := rb
        all_goals
          have hzW := hB.size
          have hB9 := hB.trans (hb9.mono hzW)
          have hv9 : Boxed w9 w.heap.size 4 (.bool false) := (hB9.block _ (by omega)).trans bR0
          have hK9 : w9.heap[D]? = some (.deferred (some [])) := (hb9.block _ (Array.getElem?_eq_some_iff.1 hK).1).trans hK
          have hc := hv9.cell
          have hf := hv9.frozen
          have HK := Lib.hid hK9
          clear hK9
          have hDw : w.heap.size ≤ D := by simp at hD; omega
          gi_wp2
          have hBf : Below w.heap.size w (w9.setCell ⟨w.heap.size, 0, none⟩ (.bool true)) := (hbA.trans (hB9.mono (by omega))).setCell (p := ⟨w.heap.size, 0, none⟩) (Nat.le_refl _) _
          have hcf : Boxed (w9.setCell ⟨w.heap.size, 0, none⟩ (.bool true)) w.heap.size 4 (.bool true) := Boxed.set (W := w9) _ hv9
          have kf : (w9.setCell ⟨w.heap.size, 0, none⟩ (.bool true)).heap[D]? = some (.deferred (some [])) := (KeepsOthers.setCell w9 ⟨w.heap.size, 0, none⟩ (.bool true)).same D _ HK.out rfl
          obtain ⟨V, hV⟩ : ∃ V, w9.setCell ⟨w.heap.size, 0, none⟩ (.bool true) = V := ⟨_, rfl⟩
          rw [hV] at hBf hcf kf ⊢
          clear hV
          refine ⟨by simp, .inl ⟨_, _, rfl, run_takeDeferred kf, ?_⟩⟩
          have hc1 := cell_kept hcf.cell (grownBy_putObj' _ D (.deferred none)) (fun r e => by cases e; exact ⟨_, kf, rfl⟩)
          refine ⟨.bool true, ?_, rfl, hBf.trans (belowK_b (w := w) (Nat.le_refl _) _ D _ _ hDw kf rfl rfl)⟩
          simp [results, Tryd.f6, go_sem, hc1]
  · have CY := Lib.hid (CX0 u rfl)
    clear CX CX0
    gi_wp2_with fail
    refine (callsIn_wide.2 (CT.out _ hb4)).mono ?_
    rintro e w5 ⟨rfl, hb5⟩
    gi_wp2_with fail
    refine (callsIn_wide.2 (CY.out _ hb5)).mono ?_
    rintro e wq ⟨rfl, hbq⟩
    gi_wp2_with fail
    refine (callsIn_wide.2 (CS.out _ hbq)).mono ?_
    rintro e w6 ⟨rfl, hb6⟩
    gi_wp2_with fail
    refine (callsIn_wide.2 (CV.out _ hb6)).mono ?_
    rintro e w7 ⟨rfl, hb7⟩
    rcases hAB with ⟨q1, q2⟩ | ⟨q1, q2⟩
    all_goals
      gi_wp2_with fail
      refine (callsIn_wide.2 (CS.out _ hb7)).mono ?_
      rintro e w8 ⟨rfl, hb8⟩
      gi_wp2_with (gi_at_call 10; refine (Runes_in _ _ _).mono ?_; rintro e w' ⟨rfl, rfl⟩)
      have hz8 := hb8.size
      have bN := Boxed.new w8 9 (.string A)
      have hbR := hb8.alloc hz8 (.cells #[.string A] 9)
      have bR9 : Boxed (w8.alloc (.cells #[.string A] 9)) w.heap.size 4 (.bool false) := (hbR.block _ (by omega)).trans bR0
      have HT9 := hTA.below hbR h2A
      refine range_at 16 (fun x => .int .i32 x.1.2) hro (by omega) (gf := 33) (lb := #[.pointer (some ⟨w8.heap.size, 0, none⟩)]) rfl trivial (enters_of Tryd.func33 (by kernel_rfl) rfl)
        (runes_stops 4 (by omega) w8.heap.size wA.heap.size A (by omega) _ HT9 (by omega) (by simp; omega) (by simp) bN.cell) KpR.t (KpR.b (by simp; omega)) (Below.refl _ _) (fun _ => rfl)
        (fun pre W => Boxed W w.heap.size 4 (.bool false) ∧ Below wA.heap.size wA W)
        (OwnFrom.and (Own.from (boxed_own _ _ _) _) (ownFrom_below (Nat.le_refl _) (by simp; omega)))
        ⟨bR9, hbR⟩ ?assign ?body ?done
      case assign =>
        intro l x W K hK
        gi_wp2
        first
          | exact hK
          | (simp at hK; exact hK)
          | (simp [go_sem] at hK; exact hK)
      case body =>
        rintro l pre x W ⟨hv, hB⟩ hlt
        have hx := HF.out x.1 x.2
        have hx1 : decide (x.1.2 < 32) = false := by simp; omega
        have hx2 : (x.1.2 == 127) = false := by rw [beq_eq_false_iff_ne]; exact hx.2
        clear hx
        gi_wp2
        exact ⟨KeepsOthers.refl _, ⟨Below.refl _ _, KeepsWalks.refl _, fun c => c⟩, hv, hB⟩
      case done =>
        rintro D ys W hD hys ⟨hv, hB⟩ hK
        gi_wp2_with fail
        refine (callsIn_wide.2 (CB.out W hB)).mono ?_
        rintro e w9 ⟨vb, rfl, rb, hb9⟩
        obtain ⟨_, ⟨rfl, _⟩ | ⟨g, cap, cur, rfl, _⟩⟩ := rb
        all_goals
          have hzW := hB.size
          have hB9 := hB.trans (hb9.mono hzW)
          have hv9 : Boxed w9 w.heap.size 4 (.bool false) := (hB9.block _ (by omega)).trans bR0
          have hK9 : w9.heap[D]? = some (.deferred (some [])) := (hb9.block _ (Array.getElem?_eq_some_iff.1 hK).1).trans hK
          have hc := hv9.cell
          have hf := hv9.frozen
          have HK := Lib.hid hK9
          clear hK9
          have hDw : w.heap.size ≤ D := by simp at hD; omega
          gi_wp2
          have hBf : Below w.heap.size w (w9.setCell ⟨w.heap.size, 0, none⟩ (.bool true)) := (hbA.trans (hB9.mono (by omega))).setCell (p := ⟨w.heap.size, 0, none⟩) (Nat.le_refl _) _
          have hcf : Boxed (w9.setCell ⟨w.heap.size, 0, none⟩ (.bool true)) w.heap.size 4 (.bool true) := Boxed.set (W := w9) _ hv9
          have kf : (w9.setCell ⟨w.heap.size, 0, none⟩ (.bool true)).heap[D]? = some (.deferred (some [])) := (KeepsOthers.setCell w9 ⟨w.heap.size, 0, none⟩ (.bool true)).same D _ HK.out rfl
          obtain ⟨V, hV⟩ : ∃ V, w9.setCell ⟨w.heap.size, 0, none⟩ (.bool true) = V := ⟨_, rfl⟩
          rw [hV] at hBf hcf kf ⊢
          clear hV
          refine ⟨by simp, .inl ⟨_, _, rfl, run_takeDeferred kf, ?_⟩⟩
          have hc1 := cell_kept hcf.cell (grownBy_putObj' _ D (.deferred none)) (fun r e => by cases e; exact ⟨_, kf, rfl⟩)
          refine ⟨.bool true, ?_, rfl, hBf.trans (belowK_b (w := w) (Nat.le_refl _) _ D _ _ hDw kf rfl rfl)⟩
          simp [results, Tryd.f6, go_sem, hc1]
end Go.Proofs.YtcnbfabogiakcaaDoor.T
