/-
  text.Runes: the iterator, for a loop body that is told that it takes one thing behind the other; a range over it that is never left.
-/
import Derived.Test.YteegnmblbjcfpaaDoorTextTook
set_option linter.unusedVariables false
namespace Go.Proofs.YteegnmblbjcfpaaDoor.T
open Go Go.Lib Go.RowKit Go.Shelf
attribute [local go_sem] Oper.semAt_some

set_option maxRecDepth 100000 in
set_option maxHeartbeats 1000000 in
/-- the iterator of Runes(s), for a loop body that is told that it takes one thing behind the other -/
theorem runes1_pre (n : Nat) (hn : 1 ≤ n) (l Bs n₀ : Nat) (s : ByteArray) (hs : s.size ≤ 9223372036854775807) (J : List (Pc s) → World → Prop)
    (hY : ∀ pre x W, J pre W → vals (pre ++ [x]) <+: pcs s → YieldAt Fence.wide (n - 1) Tryd.prog l (encPc x) W fun e W' =>
      e = .returned (.bool true) ∧ J (pre ++ [x]) W' ∧ KpR n₀ Bs s W W')
    (W : World) (hJ : AbidesFrom W.heap.size J) (hT : Tabs W) (h2 : 2 ≤ n₀) (hn₀ : n₀ ≤ W.heap.size) (hBs : Bs < W.heap.size) (hc : W.cell? ⟨Bs, 0, none⟩ = some (.string s)) (h0 : J [] W) :
    CallsIn Fence.wide n Tryd.prog 33 #[.func (.yield l) #[] #[], .pointer (some ⟨Bs, 0, none⟩)] W fun e W' => (∃ v, e = .returned v) ∧
      ∃ ys, vals ys = pcs s ∧ J ys W' := by
  refine callsIn_of_wp Tryd.func33 rfl trivial ?_ rfl
  simp only [Tryd.ntmps33, List.size_toArray, List.length_cons, List.length_nil, Nat.reduceAdd, Nat.reduceSub, Array.replicate_succ, Array.replicate_zero, List.push_toArray, List.append_toArray, List.nil_append, List.cons_append]
  gi_wp2
  gi_loopw [] (fun wr => ∃ (pos : Nat) (pre : List (Pc s)), pos ≤ s.size ∧ vals pre ++ pcsFrom s pos = pcs s ∧ wr.heap[W.heap.size]? = some (.stringIter s pos) ∧ Below n₀ W wr ∧ J pre wr ∧ wr.cell? ⟨Bs, 0, none⟩ = some (.string s))
    (fun wr => s.size - wr.iterPos W.heap.size)
  case atStart =>
    have hg : W.grownBy (W.iter s 0) none := World.grownBy_alloc W _ none
    exact ⟨0, [], Nat.zero_le _, rfl, World.iter_heap W s 0, (Below.refl n₀ W).grown hg hn₀ (fun k e => by cases e), hJ [] W _ none h0 hg (fun r e => by cases e), (World.cell?_of_block (hg.block Bs hBs (by simp))).trans hc⟩
  case round =>
    obtain ⟨pos, pre, hpos, hpre, hit, hbw, hJs, hcr⟩ := hrel
    have hk : W.heap.size < wr.heap.size := (Array.getElem?_eq_some_iff.1 hit).1
    by_cases hp : pos < s.size
    · have hnx : ∀ ty, (Instr.next (.pointer (some ⟨W.heap.size, 0, none⟩)) true ty).run Tryd.prog wr = _ := fun ty => Lib.run_next_any_at wr W.heap.size s pos ty hit hp
      have hit2 := Lib.iterAt_heap wr W.heap.size s pos (pos + (Utf8.decode s pos).2) hit
      have hbw2 := Lib.below_iterAt hbw (k := W.heap.size) hn₀ s (pos + (Utf8.decode s pos).2)
      have hg2 : wr.grownBy (wr.iterAt W.heap.size s (pos + (Utf8.decode s pos).2)) (some W.heap.size) :=
        ⟨rfl, rfl, rfl, by rw [Lib.iterAt_size]; omega, fun k _ hk => Lib.iterAt_other wr W.heap.size k s _ (fun e => hk (by rw [e]))⟩
      have hJ2 : J pre (wr.iterAt W.heap.size s (pos + (Utf8.decode s pos).2)) := hJ pre wr _ (some W.heap.size) hJs hg2 (fun r e => by cases e; exact ⟨Nat.le_refl _, _, hit, rfl⟩)
      have hsz2 : (wr.iterAt W.heap.size s (pos + (Utf8.decode s pos).2)).heap.size = wr.heap.size := Lib.iterAt_size _ _ _ _
      have hcr1 : (wr.iterAt W.heap.size s (pos + (Utf8.decode s pos).2)).cell? ⟨Bs, 0, none⟩ = some (.string s) := (World.cell?_of_block (Lib.iterAt_other wr W.heap.size Bs s _ (by omega))).trans hcr
      clear hcr
      obtain ⟨w1, hw1⟩ : ∃ w1, wr.iterAt W.heap.size s (pos + (Utf8.decode s pos).2) = w1 := ⟨_, rfl⟩
      rw [hw1] at hit2 hbw2 hg2 hJ2 hsz2 hnx hcr1
      have hwd := pc_pos s pos hp
      have h2e := pc_2 s pos
      have hd1 := decode_le s pos
      have hc1 := hcr1
      clear hcr1
      obtain ⟨x, hx, hnext, hlen⟩ := pc_go s pos hp pre hpre
      have hpfx : vals (pre ++ [x]) <+: pcs s := ⟨_, hnext⟩
      rw [← h2e] at hit2
      have HN := Lib.hid hnext
      have HW1 := Lib.hid hw1
      have HS2 := Lib.hid hsz2
      have HX := Lib.hid hx
      have H2 := Lib.hid h2e
      have HIT := Lib.hid hit2
      have HOLD := Lib.hid hit
      clear hnext hpre hw1 hsz2 hx h2e hit2 hit
      by_cases e1 : (Utf8.decode s pos).1 = 65533
      · have hT1 : Tabs w1 := hT.below hbw2 h2
        by_cases e2 : (Utf8.decode s pos).2 = 1
        · have b2 : brk (s.extract pos s.size) = true := by rw [brk_tail s pos hp]; simp [Prod.ext_iff, e1, e2]
          have B2 := Lib.hid b2
          clear b2
          gi_wp2
          refine ⟨trivial, ?_⟩
          refine (callsIn_wide.2 (isBreak _ _ hT1)).mono ?_
          rintro e w2 ⟨rfl, hb2⟩
          have hb3 := hbw2.trans (hb2.mono (by rw [HS2.out]; omega))
          have hit3 : w2.heap[W.heap.size]? = some (.stringIter s (pos + (pc s pos).2)) := (hb2.block _ (by rw [HS2.out]; exact hk)).trans HIT.out
          have hc2 : w2.cell? ⟨Bs, 0, none⟩ = some (.string s) := (hb2.cell (p := ⟨Bs, 0, none⟩) (by rw [HS2.out]; show Bs < _; omega)).trans hc1
          have HC2 := Lib.hid hc2
          clear hc2
          have HI3 := Lib.hid hit3
          clear hit3
          obtain ⟨fn, tmps, assign, body, hy, hR⟩ := hY pre x w2 (hJ pre w1 w2 none hJ2 (below_grown hb2) (fun r e => by cases e)) hpfx
          dsimp only [encPc] at hy
          rw [HX.out, pc_brk s pos (Prod.ext e1 e2)] at hy
          have b2 := B2.out
          rw [b2]
          clear b2
          gi_wp2
          refine hR.mono ?_
          rintro e W3 ⟨rfl, hJ3, hk3⟩
          · gi_wp2
            have hit4 : W3.heap[W.heap.size]? = some (.stringIter s (pos + (pc s pos).2)) := hk3.2.1.same _ _ HI3.out rfl
            go_roundw
            case rel => exact ⟨pos + (pc s pos).2, pre ++ [x], hwd.2, HN.out, hit4, hb3.trans hk3.1, hJ3, hk3.2.2 HC2.out⟩
            case measure => simp only [World.iterPos, hit4, HOLD.out]; omega
        · have b2 : brk (s.extract pos s.size) = false := by rw [brk_tail s pos hp]; simp [Prod.ext_iff, e1, e2]
          have B2 := Lib.hid b2
          clear b2
          gi_wp2
          refine ⟨trivial, ?_⟩
          refine (callsIn_wide.2 (isBreak _ _ hT1)).mono ?_
          rintro e w2 ⟨rfl, hb2⟩
          have hb3 := hbw2.trans (hb2.mono (by rw [HS2.out]; omega))
          have hit3 : w2.heap[W.heap.size]? = some (.stringIter s (pos + (pc s pos).2)) := (hb2.block _ (by rw [HS2.out]; exact hk)).trans HIT.out
          have hc2 : w2.cell? ⟨Bs, 0, none⟩ = some (.string s) := (hb2.cell (p := ⟨Bs, 0, none⟩) (by rw [HS2.out]; show Bs < _; omega)).trans hc1
          have HC2 := Lib.hid hc2
          clear hc2
          have HI3 := Lib.hid hit3
          clear hit3
          obtain ⟨fn, tmps, assign, body, hy, hR⟩ := hY pre x w2 (hJ pre w1 w2 none hJ2 (below_grown hb2) (fun r e => by cases e)) hpfx
          dsimp only [encPc] at hy
          rw [HX.out, show pc s pos = (65533, (Utf8.decode s pos).2) from by rw [pc_run s pos (fun h => e2 (by rw [h])), e1]; rfl] at hy
          have b2 := B2.out
          rw [b2]
          clear b2
          gi_wp2
          refine hR.mono ?_
          rintro e W3 ⟨rfl, hJ3, hk3⟩
          · gi_wp2
            have hit4 : W3.heap[W.heap.size]? = some (.stringIter s (pos + (pc s pos).2)) := hk3.2.1.same _ _ HI3.out rfl
            go_roundw
            case rel => exact ⟨pos + (pc s pos).2, pre ++ [x], hwd.2, HN.out, hit4, hb3.trans hk3.1, hJ3, hk3.2.2 HC2.out⟩
            case measure => simp only [World.iterPos, hit4, HOLD.out]; omega
      · have b1 : (((Utf8.decode s pos).1 : Int) == 65533) = false := by rw [beq_eq_false_iff_ne]; omega
        obtain ⟨fn, tmps, assign, body, hy, hR⟩ := hY pre x w1 hJ2 hpfx
        dsimp only [encPc] at hy
        rw [HX.out, pc_run s pos (fun h => e1 (by rw [h]))] at hy
        gi_wp2
        refine ⟨trivial, ?_⟩
        gi_wp2
        refine hR.mono ?_
        rintro e W3 ⟨rfl, hJ3, hk3⟩
        · gi_wp2
          have hit3 : W3.heap[W.heap.size]? = some (.stringIter s (pos + (pc s pos).2)) := hk3.2.1.same _ _ HIT.out rfl
          go_roundw
          case rel => exact ⟨pos + (pc s pos).2, pre ++ [x], hwd.2, HN.out, hit3, hbw2.trans hk3.1, hJ3, hk3.2.2 hc1⟩
          case measure => simp only [World.iterPos, hit3, HOLD.out]; omega
    · have hnx : ∀ ty, (Instr.next (.pointer (some ⟨W.heap.size, 0, none⟩)) true ty).run Tryd.prog wr = _ := fun ty => Lib.run_next_end_at wr W.heap.size s pos ty hit hp
      gi_wp2
      go_end0
      refine ⟨⟨_, rfl⟩, pre, ?_, hJs⟩
      rw [pcsFrom_end s pos hp, List.append_nil] at hpre
      exact hpre
/-- a function that hands yield one thing behind the other: the body is told that what it has been handed is right so far, and goes on -/
def SeqPre {α : Type} (F : Fence) (n : Nat) (P : Program) (g : Nat) (lb : Array Value) (encs : α → Array Value) (Kp : World → World → Prop) (G S : List α → Prop) (w : World) : Prop :=
  ∀ (l : Nat) (J : List α → World → Prop) (W : World), Below w.heap.size w W → AbidesFrom W.heap.size J →
    (∀ pre x W1, J pre W1 → G (pre ++ [x]) → YieldAt F (n - 1) P l (encs x) W1 fun e W' => e = .returned (.bool true) ∧ J (pre ++ [x]) W' ∧ Kp W1 W') → J [] W →
    CallsIn F n P g (#[.func (.yield l) #[] #[]] ++ lb) W fun e W' => (∃ v, e = .returned v) ∧ ∃ xs, S xs ∧ J xs W'

theorem runes_pre (n : Nat) (hn : 1 ≤ n) (Bs n₀ : Nat) (s : ByteArray) (hs : s.size ≤ 9223372036854775807) (w : World) (hT : Tabs w) (h2 : 2 ≤ n₀) (hn₀ : n₀ ≤ w.heap.size) (hBs : Bs < w.heap.size) (hc : w.cell? ⟨Bs, 0, none⟩ = some (.string s)) :
    SeqPre Fence.wide n Tryd.prog 33 #[.pointer (some ⟨Bs, 0, none⟩)] (encPc (s := s)) (KpR n₀ Bs s) (fun ys => vals ys <+: pcs s) (fun ys => vals ys = pcs s) w := fun l J W hW hJ hY h0 =>
  runes1_pre n hn l Bs n₀ s hs J hY W hJ (hT.below (hW.mono hn₀) h2) h2 (Nat.le_trans hn₀ hW.size) (Nat.lt_of_lt_of_le hBs hW.size) ((hW.cell (p := ⟨Bs, 0, none⟩) hBs).trans hc) h0
theorem range_pre {F : Fence} {n : Nat} {P : Program} {α : Type} {g : Operand} {ps : Array Tmp} {assign body : Code} {Q : Exit → Act → World → Prop} {a : Act} {w : World}
    (hro : F.round = none) (h1 : 1 ≤ n) {gf : Nat} {lb : Array Value} (hg : a.eval g = .func (.func gf) #[] lb) (hFg : F.fn gf) (eg : ∀ args w, (callFunc gf args).run P w = .ok (.enter gf args) w)
    {encs : α → Array Value} {Kp : World → World → Prop} {G S : List α → Prop} {w0 : World} (hseq : SeqPre F (n - 1) P gf lb encs Kp G S w0)
    (hKt : ∀ {A B C : World}, Kp A B → Kp B C → Kp A C) (hKb : ∀ (W : World) (l : Nat) (o o' : Obj), w.heap.size ≤ l → W.heap[l]? = some o → o.isCells = false → o.isWalk = false → Kp W (W.putObj l o')) (hb0 : Below w0.heap.size w0 w) (hps : ∀ x, (encs x).size = ps.size)
    (I : List α → World → Prop) (hI : OwnFrom w.heap.size I) (h0 : I [] w) (a₁ : α → Act)
    (hassign : ∀ (l : Nat) (x : α) (W : World) (K : Act → World → Prop), K (a₁ x) W →
      assign.wpIn (F.inRound l) (n - 1 - 1) P (Exit.then K (fun _ _ _ => False)) { tmps := (ps.zip (encs x)).foldl (fun t (p, v) => t.setIfInBounds p v) a.tmps, defers := [] } W)
    (hbody : ∀ (l : Nat) (pre : List α) (x : α) (W : World), I pre W → G (pre ++ [x]) → body.wpIn (F.inRound l) (n - 1 - 1) P (ownPostK Kp I (fun _ _ _ => False) (pre ++ [x]) W) (a₁ x) W)
    (hdone : ∀ (D : Nat) (xs : List α) (W : World), w.heap.size ≤ D → S xs → I xs W → W.heap[D]? = some (.deferred (some [])) → Q .normal { a with defers := { target := .collected D, args := #[] } :: a.defers } W) :
    (Code.rangeFunc g ps assign body).wpIn F n P Q a w := by
  refine wpIn_rangeFunc (fun fn hfn => ?_)
  rw [hro]
  generalize hr0 : (fun (st : LoopState) => ({ state := st, pending := none, fn, tmps := a.tmps, params := ps, assign, body, defers := w.heap.size } : Loop)) = rec0
  have hrec : ∀ st, rec0 st = { state := st, pending := none, fn, tmps := a.tmps, params := ps, assign, body, defers := w.heap.size } := fun st => by rw [← hr0]
  clear hr0
  generalize hd : w.heap.size = d at *
  have hl0 : ((w.alloc (.deferred (some []))).alloc (.loop (rec0 .ready))).heap[d + 1]? = some (.loop (rec0 .ready)) := by
    have := World.alloc_heap_new (w.alloc (.deferred (some []))) (.loop (rec0 .ready))
    rwa [World.size_alloc, hd] at this
  have hd0 : ((w.alloc (.deferred (some []))).alloc (.loop (rec0 .ready))).heap[d]? = some (.deferred (some [])) := by
    rw [Below.heap_alloc _ _ _ (by simp; omega), ← hd]
    exact World.alloc_heap_new w _
  have hz0 : ((w.alloc (.deferred (some []))).alloc (.loop (rec0 .ready))).heap.size = d + 2 := by simp; omega
  have hi0 : I [] ((w.alloc (.deferred (some []))).alloc (.loop (rec0 .ready))) := hI.alloc _ (hI.alloc _ h0)
  have hw0 : Below w0.heap.size w0 ((w.alloc (.deferred (some []))).alloc (.loop (rec0 .ready))) := (hb0.alloc hb0.size _).alloc (by have := hb0.size; simp; omega) _
  refine ⟨d + 1, [{ target := .collected d, args := #[] }], (w.alloc (.deferred (some []))).alloc (.loop (rec0 .ready)), { target := .fn (.func gf) lb, args := #[.func (.yield (d + 1)) #[] #[]] }, (w.alloc (.deferred (some []))).alloc (.loop (rec0 .ready)), gf,
    #[.func (.yield (d + 1)) #[] #[]] ++ lb, (w.alloc (.deferred (some []))).alloc (.loop (rec0 .ready)), ?_, ?_, ?_, ?_, fun _ => h1, ?_⟩
  · subst hd
    rw [hrec]
    exact run_enterLoop_outer _ _ _ _ _
  · simp only [resolve, hg]
    simp [go_sem]
  · intro f' hf'
    simp [Target.leads] at hf'
    subst hf'
    exact hFg
  · simp [invoke, go_sem, eg]
  generalize (w.alloc (.deferred (some []))).alloc (.loop (rec0 .ready)) = W1 at *
  have far : ∀ {A : World} {row : Option Nat}, (∀ r, row = some r → W1.heap.size ≤ r ∧ ∃ o : Obj, A.heap[r]? = some o ∧ o.isWalk = true) → (∀ r, row = some r → d ≤ r ∧ ∃ o : Obj, A.heap[r]? = some o ∧ o.isCells = false) := fun h r e => by
    obtain ⟨hB, o, ho, hw⟩ := h r e
    exact ⟨by omega, o, ho, Obj.not_cells_of_walk hw⟩
  have hgo := hseq (d + 1) (fun pre W => I pre W ∧ W.heap[d + 1]? = some (.loop (rec0 .ready)) ∧ W.heap[d]? = some (.deferred (some []))) W1 hw0
    (fun s A B row hs hg' hr => ⟨hI s A B row hs.1 hg' (far hr), (grownBy_keeps hg' (fun r e => (hr r e).2) hs.2.1 rfl).trans hs.2.1, (grownBy_keeps hg' (fun r e => (hr r e).2) hs.2.2 rfl).trans hs.2.2⟩)
    ?round ⟨hi0, hl0, hd0⟩
  · refine hgo.mono ?_
    rintro e W2 ⟨⟨v, rfl⟩, xs, hS, hi, hl, hk⟩
    · have hend := run_endLoop (P := P) hl (by rw [hrec]; simp)
      rw [hrec] at hend
      exact ⟨none, _, hend, hdone d xs _ (Nat.le_refl _) hS (hI.putObj _ hi (by omega) hl rfl) ((World.putObj_heap_other (by omega)).trans hk)⟩
  case round =>
    rintro pre x W ⟨hi, hl, hk⟩ hlen
    have hlt : d + 1 < W.heap.size := (Array.getElem?_eq_some_iff.1 hl).1
    have hy := run_yield (P := P) (args := encs x) hl (by rw [hrec]; exact hps x)
    rw [hrec] at hy
    refine ⟨fn, _, assign, body, hy, roundIn_of_wpIn hfn (hassign _ x W _ ⟨_, run_beginRound hl (by rw [hrec]), ?_⟩)⟩
    clear hassign hy
    have hl2 : (W.putObj (d + 1) (.loop { rec0 .ready with state := .busy })).heap[d + 1]? = some (.loop { rec0 .ready with state := .busy }) := World.putObj_heap_same (by omega)
    have hk2 : (W.putObj (d + 1) (.loop { rec0 .ready with state := .busy })).heap[d]? = some (.deferred (some [])) := (World.putObj_heap_other (by omega)).trans hk
    have hw2 : Kp W (W.putObj (d + 1) (.loop { rec0 .ready with state := .busy })) := hKb _ _ _ _ (by omega) hl rfl rfl
    refine wpIn_mono (hbody _ pre x _ (hI.putObj _ hi (by omega) hl rfl) hlen) ?_
    rintro e a3 W3 hp
    cases e with
    | normal =>
      obtain ⟨hk3, hkp3, hi3⟩ := hp
      have hl3 := hk3.same _ _ hl2 rfl
      have hd3 := hk3.same _ _ hk2 rfl
      have hr := run_endRound (P := P) none hl3
      rw [hrec] at hr
      refine ⟨_, _, hr, ⟨rfl, ⟨hI.putObj _ hi3 (by omega) hl3 rfl, ?_, (World.putObj_heap_other (by omega)).trans hd3⟩, hKt (hKt hw2 hkp3) (hKb _ _ _ _ (by omega) hl3 rfl rfl)⟩⟩
      rw [World.putObj_heap_same (Array.getElem?_eq_some_iff.1 hl3).1, hrec]
      rfl
    | ret => exact hp.2.elim
    | exit id => exact hp.2.elim
    | goto t => exact hp.2.elim
    | panic ch => exact hp.elim
    | outgrown => exact hp.elim
/-- the same, where the two variables are slots of the activation's own -/
theorem range_pre2 {F : Fence} {n : Nat} {P : Program} {α : Type} {g : Operand} {ps : Array Tmp} {assign body : Code} {Q : Exit → Act → World → Prop} {a : Act} {w : World} (d1 d2 : Tmp) (v1 v2 : α → Value)
    (hro : F.round = none) (h1 : 1 ≤ n) {gf : Nat} {lb : Array Value} (hg : a.eval g = .func (.func gf) #[] lb) (hFg : F.fn gf) (eg : ∀ args w, (callFunc gf args).run P w = .ok (.enter gf args) w)
    {encs : α → Array Value} {Kp : World → World → Prop} {G S : List α → Prop} {w0 : World} (hseq : SeqPre F (n - 1) P gf lb encs Kp G S w0)
    (hKt : ∀ {A B C : World}, Kp A B → Kp B C → Kp A C) (hKb : ∀ (W : World) (l : Nat) (o o' : Obj), w.heap.size ≤ l → W.heap[l]? = some o → o.isCells = false → o.isWalk = false → Kp W (W.putObj l o')) (hb0 : Below w0.heap.size w0 w) (hps : ∀ x, (encs x).size = ps.size)
    (I : List α → World → Prop) (hI : OwnFrom w.heap.size I) (h0 : I [] w)
    (hassign : ∀ (l : Nat) (x : α) (W : World) (K : Act → World → Prop), K { tmps := (((ps.zip (encs x)).foldl (fun t (p, v) => t.setIfInBounds p v) a.tmps).setIfInBounds d1 (v1 x)).setIfInBounds d2 (v2 x), defers := [] } W →
      assign.wpIn (F.inRound l) (n - 1 - 1) P (Exit.then K (fun _ _ _ => False)) { tmps := (ps.zip (encs x)).foldl (fun t (p, v) => t.setIfInBounds p v) a.tmps, defers := [] } W)
    (hbody : ∀ (l : Nat) (pre : List α) (x : α) (W : World), I pre W → G (pre ++ [x]) → body.wpIn (F.inRound l) (n - 1 - 1) P (ownPostK Kp I (fun _ _ _ => False) (pre ++ [x]) W) { tmps := (((ps.zip (encs x)).foldl (fun t (p, v) => t.setIfInBounds p v) a.tmps).setIfInBounds d1 (v1 x)).setIfInBounds d2 (v2 x), defers := [] } W)
    (hdone : ∀ (D : Nat) (xs : List α) (W : World), w.heap.size ≤ D → S xs → I xs W → W.heap[D]? = some (.deferred (some [])) → Q .normal { a with defers := { target := .collected D, args := #[] } :: a.defers } W) :
    (Code.rangeFunc g ps assign body).wpIn F n P Q a w :=
  range_pre hro h1 hg hFg eg hseq hKt hKb hb0 hps I hI h0 (fun x => { tmps := (((ps.zip (encs x)).foldl (fun t (p, v) => t.setIfInBounds p v) a.tmps).setIfInBounds d1 (v1 x)).setIfInBounds d2 (v2 x), defers := [] }) hassign hbody hdone
end Go.Proofs.YteegnmblbjcfpaaDoor.T
