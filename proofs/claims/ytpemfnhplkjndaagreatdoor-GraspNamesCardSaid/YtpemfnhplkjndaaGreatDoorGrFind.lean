/-
  grasp.Find, grasp.Count.
-/
import Derived.Test.YtpemfnhplkjndaaGreatDoorGrIter
set_option linter.unusedVariables false
namespace Go.Proofs.YtpemfnhplkjndaaGreatDoor.T
open Go Go.Lib Go.RowKit Go.Shelf
attribute [local go_sem] run_store_float
attribute [local go_sem] Oper.semAt_some

theorem those_code (v : Value) (a : Option Addr) (n c : Nat) (w : World) : Calls Tryz.prog 42 #[.slice a n c] w fun e w' => e = .returned (.func (.func 62) #[] #[.pointer (some ⟨w.heap.size, 0, none⟩)]) ∧ w' = w.alloc (.cells #[.slice a n c] 33) := by
  go_enter Tryz.func42, Tryz.ntmps42
  go_wp2
  go_ret
  exact ⟨rfl, rfl⟩
theorem those_any (v : Value) (a : Option Addr) (n c : Nat) (w : World) : Calls Tryz.prog 25 #[.slice a n c] w fun e w' => e = .returned (.func (.func 35) #[] #[.pointer (some ⟨w.heap.size, 0, none⟩)]) ∧ w' = w.alloc (.cells #[.slice a n c] 33) := by
  go_enter Tryz.func25, Tryz.ntmps25
  go_wp2
  go_ret
  exact ⟨rfl, rfl⟩
theorem those_error (v : Value) (a : Option Addr) (n c : Nat) (w : World) : Calls Tryz.prog 19 #[.slice a n c] w fun e w' => e = .returned (.func (.func 31) #[] #[.pointer (some ⟨w.heap.size, 0, none⟩)]) ∧ w' = w.alloc (.cells #[.slice a n c] 33) := by
  go_enter Tryz.func19, Tryz.ntmps19
  go_wp2
  go_ret
  exact ⟨rfl, rfl⟩
theorem below3 {w w1 : World} {A B C : Obj} (hb : Below (((w.alloc A).alloc B).alloc C).heap.size (((w.alloc A).alloc B).alloc C) w1) : Below w.heap.size w w1 :=
  ((((Below.refl _ _).alloc (Nat.le_refl _) _).alloc (by simp) _).alloc (by simp; omega) _).trans (hb.mono (by simp; omega))
theorem three_in (w : World) (A B C : Obj) : Below w.heap.size w (((w.alloc A).alloc B).alloc C) := (((Below.refl _ _).alloc (Nat.le_refl _) _).alloc (by simp) _).alloc (by simp; omega) _
theorem blk3 {w w1 : World} {A B C : Obj} (hb : Below (((w.alloc A).alloc B).alloc C).heap.size (((w.alloc A).alloc B).alloc C) w1) : w1.heap[w.heap.size]? = some A ∧ w1.heap[w.heap.size + 1]? = some B ∧ w1.heap[w.heap.size + 1 + 1]? = some C := by
  have h1 := below_a hb
  have h2 := below_r hb
  refine ⟨blk_new h1, blk_new1 h2, ?_⟩
  have := blk_new1 (w := w.alloc A) hb
  simpa using this
/-- a range over a function that may be left; the two slots that the range sets, taken from the goal -/
theorem range_stop2 {F : Fence} {n : Nat} {P : Program} {α : Type} {g : Operand} {ps : Array Tmp} {assign body : Code} {Q : Exit → Act → World → Prop} {a : Act} {w : World}
    (d1 d2 : Tmp) (val1 val2 : α → Value)
    (hro : F.round = none) (h1 : 1 ≤ n) {gf : Nat} {lb : Array Value} (hg : a.eval g = .func (.func gf) #[] lb) (hFg : F.fn gf) (eg : ∀ args w, (callFunc gf args).run P w = .ok (.enter gf args) w)
    {encs : α → Array Value} {Kp : World → World → Prop} {S Sp : List α → Prop} {N : Nat} {w0 : World} (hseq : SeqStopsK F (n - 1) P gf lb encs Kp S Sp N w0)
    (hKt : ∀ {A B C : World}, Kp A B → Kp B C → Kp A C) (hKb : ∀ (W : World) (l : Nat) (o o' : Obj), w.heap.size ≤ l → W.heap[l]? = some o → o.isCells = false → o.isWalk = false → Kp W (W.putObj l o')) (hb0 : Below w0.heap.size w0 w) (hps : ∀ x, (encs x).size = ps.size)
    (I : List α → World → Prop) (Ix : Code → List α → World → Prop) (hI : OwnFrom w.heap.size I) (hIx : ∀ c, OwnFrom w.heap.size (Ix c)) (h0 : I [] w)
    (hassign : ∀ (l : Nat) (x : α) (W : World) (K : Act → World → Prop), K { tmps := (((ps.zip (encs x)).foldl (fun t (p, v) => t.setIfInBounds p v) a.tmps).setIfInBounds d1 (val1 x)).setIfInBounds d2 (val2 x), defers := [] } W →
      assign.wpIn (F.inRound l) (n - 1 - 1) P (Exit.then K (fun _ _ _ => False)) { tmps := (ps.zip (encs x)).foldl (fun t (p, v) => t.setIfInBounds p v) a.tmps, defers := [] } W)
    (hbody : ∀ (l : Nat) (pre : List α) (x : α) (W : World), I pre W → pre.length < N → body.wpIn (F.inRound l) (n - 1 - 1) P (ownPostK Kp I Ix (pre ++ [x]) W) { tmps := (((ps.zip (encs x)).foldl (fun t (p, v) => t.setIfInBounds p v) a.tmps).setIfInBounds d1 (val1 x)).setIfInBounds d2 (val2 x), defers := [] } W)
    (hdone : ∀ (D : Nat) (xs : List α) (W : World), w.heap.size ≤ D → S xs → I xs W → W.heap[D]? = some (.deferred (some [])) → Q .normal { a with defers := { target := .collected D, args := #[] } :: a.defers } W)
    (hstop : ∀ (D : Nat) (c : Code) (pre : List α) (W : World), w.heap.size ≤ D → Sp pre → Ix c pre W → W.heap[D]? = some (.deferred (some [])) → c.wpIn F n P Q { a with defers := { target := .collected D, args := #[] } :: a.defers } W) :
    (Code.rangeFunc g ps assign body).wpIn F n P Q a w :=
  wpIn_rangeFunc_ownF hro h1 hg hFg eg hseq hKt hKb hb0 hps I Ix hI hIx h0 _ hassign hbody hdone hstop
/-- the same, where no slot is set -/
theorem range_stop0 {F : Fence} {n : Nat} {P : Program} {α : Type} {g : Operand} {ps : Array Tmp} {assign body : Code} {Q : Exit → Act → World → Prop} {a : Act} {w : World}
    (hro : F.round = none) (h1 : 1 ≤ n) {gf : Nat} {lb : Array Value} (hg : a.eval g = .func (.func gf) #[] lb) (hFg : F.fn gf) (eg : ∀ args w, (callFunc gf args).run P w = .ok (.enter gf args) w)
    {encs : α → Array Value} {Kp : World → World → Prop} {S Sp : List α → Prop} {N : Nat} {w0 : World} (hseq : SeqStopsK F (n - 1) P gf lb encs Kp S Sp N w0)
    (hKt : ∀ {A B C : World}, Kp A B → Kp B C → Kp A C) (hKb : ∀ (W : World) (l : Nat) (o o' : Obj), w.heap.size ≤ l → W.heap[l]? = some o → o.isCells = false → o.isWalk = false → Kp W (W.putObj l o')) (hb0 : Below w0.heap.size w0 w) (hps : ∀ x, (encs x).size = ps.size)
    (I : List α → World → Prop) (Ix : Code → List α → World → Prop) (hI : OwnFrom w.heap.size I) (hIx : ∀ c, OwnFrom w.heap.size (Ix c)) (h0 : I [] w)
    (hassign : ∀ (l : Nat) (x : α) (W : World) (K : Act → World → Prop), K { tmps := (ps.zip (encs x)).foldl (fun t (p, v) => t.setIfInBounds p v) a.tmps, defers := [] } W →
      assign.wpIn (F.inRound l) (n - 1 - 1) P (Exit.then K (fun _ _ _ => False)) { tmps := (ps.zip (encs x)).foldl (fun t (p, v) => t.setIfInBounds p v) a.tmps, defers := [] } W)
    (hbody : ∀ (l : Nat) (pre : List α) (x : α) (W : World), I pre W → pre.length < N → body.wpIn (F.inRound l) (n - 1 - 1) P (ownPostK Kp I Ix (pre ++ [x]) W) { tmps := (ps.zip (encs x)).foldl (fun t (p, v) => t.setIfInBounds p v) a.tmps, defers := [] } W)
    (hdone : ∀ (D : Nat) (xs : List α) (W : World), w.heap.size ≤ D → S xs → I xs W → W.heap[D]? = some (.deferred (some [])) → Q .normal { a with defers := { target := .collected D, args := #[] } :: a.defers } W)
    (hstop : ∀ (D : Nat) (c : Code) (pre : List α) (W : World), w.heap.size ≤ D → Sp pre → Ix c pre W → W.heap[D]? = some (.deferred (some [])) → c.wpIn F n P Q { a with defers := { target := .collected D, args := #[] } :: a.defers } W) :
    (Code.rangeFunc g ps assign body).wpIn F n P Q a w :=
  wpIn_rangeFunc_ownF hro h1 hg hFg eg hseq hKt hKb hb0 hps I Ix hI hIx h0 _ hassign hbody hdone hstop
set_option maxRecDepth 100000 in
set_option maxHeartbeats 2000000 in
/-- the first Code within a Wrap about one -/
theorem find_wrap (b h : Nat) (u : Value) (c : Int) (w : World) (KW : ∀ W, Below w.heap.size w W → Calls Tryz.prog 18 #[.pointer (some ⟨b, 0, none⟩), .int .i64 (h : Int)] W fun e w' => ∃ g, e = .returned (.tuple #[.slice (some ⟨g, 0, none⟩) 2 2, .int .i64 0]) ∧ w'.heap[g]? = some (.cells #[.iface 137 u, .iface 72 (.int .i16 c)] 23 (0, 0)) ∧ Below W.heap.size W w') :
    CallsIn Fence.wide 5 Tryz.prog 27 #[.pointer (some ⟨b, 0, none⟩), .int .i64 (h : Int)] w fun e w' => e = .returned (.tuple #[.int .i16 c, .int .i64 1, .int .i64 0]) ∧ Below w.heap.size w w' := by
  have hro : Fence.wide.round = none := rfl
  have KW' := Lib.hid KW
  clear KW
  refine callsIn_of_wp_marks Tryz.func27 rfl trivial ?_ hro
  simp only [Tryz.ntmps27, List.size_toArray, List.length_cons, List.length_nil, Nat.reduceAdd, Nat.reduceSub, Array.replicate_succ, Array.replicate_zero, List.push_toArray, List.append_toArray, List.nil_append, List.cons_append]
  gi_wp2_with fail
  refine ⟨trivial, ?_⟩
  refine (callsIn_wide.2 (KW'.out _ (three_in _ _ _ _))).mono ?_
  rintro e w1 ⟨g, rfl, hg, hb1⟩
  obtain ⟨R0, R1, R2⟩ := blk3 hb1
  have hA := below3 hb1
  have hs1 : w.heap.size + 3 ≤ w1.heap.size := by have := hb1.size; simp at this; omega
  have hgl := blk_lt hg
  clear hb1
  have G := Lib.hid hg; have Q0 := Lib.hid R0; have Q1 := Lib.hid R1; have Q2 := Lib.hid R2
  clear hg R0 R1 R2
  have c2 := cells_of Q2.out 0
  have f2 := free_of Q2.out 0
  simp only [List.getElem?_toArray, List.getElem?_cons_zero] at c2
  gi_wp2_with fail
  have V0 := Lib.hid (blk_other Q0.out (a := ⟨w.heap.size + 1 + 1, 0, none⟩) (by show w.heap.size ≠ w.heap.size + 1 + 1; omega) (.int .i64 0))
  have V1 := Lib.hid (blk_other Q1.out (a := ⟨w.heap.size + 1 + 1, 0, none⟩) (by simp) (.int .i64 0))
  have V2 := Lib.hid (blk_set Q2.out 0 (.int .i64 0))
  have hgn : g ≠ w.heap.size + 1 + 1 := by
    intro e; subst e
    have := Q2.out.symm.trans G.out
    simp at this
  have VG := Lib.hid (blk_other G.out (a := ⟨w.heap.size + 1 + 1, 0, none⟩) hgn (.int .i64 0))
  have hAV : Below w.heap.size w (w1.setCell ⟨w.heap.size + 1 + 1, 0, none⟩ (.int .i64 0)) := hA.setCell (p := ⟨w.heap.size + 1 + 1, 0, none⟩) (by show w.heap.size ≤ w.heap.size + 1 + 1; omega) _
  have hsV : w.heap.size + 3 ≤ (w1.setCell ⟨w.heap.size + 1 + 1, 0, none⟩ (.int .i64 0)).heap.size := by simp; omega
  generalize w1.setCell ⟨w.heap.size + 1 + 1, 0, none⟩ (.int .i64 0) = W at *
  refine ⟨trivial, ?_⟩
  refine (callsIn_wide.2 (those_code .nilIface _ _ _ _)).mono ?_
  rintro e w2 ⟨rfl, rfl⟩
  have hbB : Below W.heap.size W (W.alloc (.cells #[.slice (some ⟨g, 0, none⟩) 2 2] 33)) := (Below.refl _ _).alloc (Nat.le_refl _) _
  have B0 : Boxed (W.alloc (.cells #[.slice (some ⟨g, 0, none⟩) 2 2] 33)) w.heap.size 72 (.int .i16 0) := (hbB.block _ (by omega)).trans V0.out
  have B1 : Boxed (W.alloc (.cells #[.slice (some ⟨g, 0, none⟩) 2 2] 33)) (w.heap.size + 1) 3 (.int .i64 0) := (hbB.block _ (by omega)).trans V1.out
  have B2 : Boxed (W.alloc (.cells #[.slice (some ⟨g, 0, none⟩) 2 2] 33)) (w.heap.size + 1 + 1) 24 (.int .i64 0) := (hbB.block _ (by omega)).trans V2.out
  have BG := (hbB.block g (blk_lt VG.out)).trans VG.out
  have hbx : (W.alloc (.cells #[.slice (some ⟨g, 0, none⟩) 2 2] 33)).cell? ⟨W.heap.size, 0, none⟩ = some (.slice (some ⟨g, 0, none⟩) 2 2) := cell_new (Below.refl _ _) 0
  have hAB := more hAV hbB
  have hsB : w.heap.size + 3 ≤ (W.alloc (.cells #[.slice (some ⟨g, 0, none⟩) 2 2] 33)).heap.size := by simp; omega
  clear V0 V1 V2 VG hbB hAV Q0 Q1 Q2 G c2 f2
  have HB0 := Lib.hid B0; have HB1 := Lib.hid B1; have HB2 := Lib.hid B2; have HBG := Lib.hid BG; have HBX := Lib.hid hbx
  clear B0 B1 B2 BG hbx
  gi_wp2_with fail
  generalize W.alloc (.cells #[.slice (some ⟨g, 0, none⟩) 2 2] 33) = V at *
  refine range_stop2 8 9 (fun _ : Unit => .int .i64 1) (fun _ => .int .i16 c) hro (by omega) (gf := 62) (lb := #[.pointer (some ⟨W.heap.size, 0, none⟩)]) rfl trivial (enters_of Tryz.func62 (by kernel_rfl) rfl)
    (iter_wrap 4 (by omega) W.heap.size g u c V HBX.out HBG.out) (fun _ _ => trivial) (fun _ _ _ _ _ _ _ _ => trivial) (Below.refl _ _) (fun _ => rfl)
    (fun xs W' => xs = [] ∧ Boxed W' w.heap.size 72 (.int .i16 0) ∧ Boxed W' (w.heap.size + 1) 3 (.int .i64 0) ∧ Boxed W' (w.heap.size + 1 + 1) 24 (.int .i64 0) ∧ Below w.heap.size w W')
    (fun cd xs W' => cd = .ret ∧ Boxed W' w.heap.size 72 (.int .i16 c) ∧ Boxed W' (w.heap.size + 1) 3 (.int .i64 1) ∧ Boxed W' (w.heap.size + 1 + 1) 24 (.int .i64 0) ∧ Below w.heap.size w W')
    (OwnFrom.and (ownFrom_pure _ _) (OwnFrom.and (Own.from (boxed_own _ _ _) _) (OwnFrom.and (Own.from (boxed_own _ _ _) _) (OwnFrom.and (Own.from (boxed_own _ _ _) _) (ownFrom_below (Nat.le_refl _) (by omega))))))
    (fun cd => OwnFrom.and (ownFrom_pure _ _) (OwnFrom.and (Own.from (boxed_own _ _ _) _) (OwnFrom.and (Own.from (boxed_own _ _ _) _) (OwnFrom.and (Own.from (boxed_own _ _ _) _) (ownFrom_below (Nat.le_refl _) (by omega))))))
    ⟨rfl, HB0.out, HB1.out, HB2.out, hAB⟩ ?assign ?body ?done ?stop
  case assign =>
    intro l x W' K hK
    gi_wp2
    first
      | exact hK
      | (simp at hK; exact hK)
      | (simp [go_sem] at hK; exact hK)
  case body =>
    rintro l pre x W' ⟨rfl, b0, b1, b2, hB⟩ hlt
    have k0 := b0.cell
    have k1 := b1.cell
    have k2 := b2.cell
    have q0 := b0.frozen
    have q1 := b1.frozen
    have q2 := b2.frozen
    have X0 := Lib.hid b0; have X1 := Lib.hid b1; have X2 := Lib.hid b2
    clear b0 b1 b2
    gi_wp2
    refine ⟨((KeepsOthers.setCell _ _ _).trans (KeepsOthers.setCell _ _ _)).trans (KeepsOthers.setCell _ _ _), rfl, ?_, ?_, ?_, ?_⟩
    · exact ((X0.out.set _).other (by omega) _).other (by omega) _
    · exact ((X1.out.other (by omega) _).set _).other (by omega) _
    · exact ((X2.out.other (by omega) _).other (by omega) _).set _
    · exact ((hB.setCell (p := ⟨w.heap.size, 0, none⟩) (Nat.le_refl _) _).setCell (p := ⟨w.heap.size + 1, 0, none⟩) (by show w.heap.size ≤ w.heap.size + 1; omega) _).setCell (p := ⟨w.heap.size + 1 + 1, 0, none⟩) (by show w.heap.size ≤ w.heap.size + 1 + 1; omega) _
  case done =>
    rintro D xs W' hD rfl ⟨h, _⟩ hK
    cases h
  case stop =>
    rintro D cd pre W' hD rfl ⟨rfl, b0, b1, b2, hB⟩ hK
    have hDw : w.heap.size ≤ D := by have := hAB.size; omega
    have HK := Lib.hid hK
    have c0 := cell_kept b0.cell (grownBy_putObj' _ D (.deferred none)) (fun r e => by cases e; exact ⟨_, HK.out, rfl⟩)
    have c1 := cell_kept b1.cell (grownBy_putObj' _ D (.deferred none)) (fun r e => by cases e; exact ⟨_, HK.out, rfl⟩)
    have c2 := cell_kept b2.cell (grownBy_putObj' _ D (.deferred none)) (fun r e => by cases e; exact ⟨_, HK.out, rfl⟩)
    clear hK b0 b1 b2
    gi_wp2
    refine ⟨by simp, .inl ⟨_, _, rfl, run_takeDeferred HK.out, ?_⟩⟩
    refine ⟨.tuple #[.int .i16 c, .int .i64 1, .int .i64 0], ?_, rfl, hB.trans (belowK_b (w := w) (Nat.le_refl _) _ D _ _ hDw HK.out rfl rfl)⟩
    simp [results, Tryz.f27, go_sem, c0, c1, c2]
end Go.Proofs.YtpemfnhplkjndaaGreatDoor.T
