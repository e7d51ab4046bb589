/-
  text.Runes: the iterator, at every text and for every loop body.
-/
import Derived.RangeFuncNested
import Derived.RangeFuncBound
import Derived.RangeFuncCalls
import Derived.RangeFuncLeaves
import Derived.Shelf.Abstract
import Derived.Shelf.RegionOpen
import Derived.WalkKit
import Derived.OwnWalkIn
import Derived.TacticsInMore
import Derived.LoopNIn
import Derived.LoopIn
import Derived.BigQuiet
import Derived.Outline
import Derived.Lib.OthersKept
import Derived.Deep.QuietTactic
import Derived.Test.YteegnmblbjcfpaaDoorTextPlain
import Derived.Test.YteegnmblbjcfpaaDoorShelf
set_option linter.unusedVariables false
namespace Go.Proofs.YteegnmblbjcfpaaDoor.T
open Go Go.Lib Go.RowKit Go.Shelf
attribute [local go_sem] Oper.semAt_some

/-- the library's two tables lie as they lay -/
def Tabs (w : World) : Prop := Lib.Utf8Tabs 0 1 w
def brk (s : ByteArray) : Bool := decide ((decodeGo s).1 = 65533) && decide ((decodeGo s).2 = 1)

theorem Tabs.below {n₀ : Nat} {w w' : World} (h : Tabs w) (hb : Below n₀ w w') (hn : 2 ≤ n₀) : Tabs w' := by
  obtain ⟨h1, h2⟩ := h
  refine ⟨fun c hc => ?_, fun i hi => ⟨?_, ?_⟩⟩
  · rw [hb.cell (p := ⟨0, c, none⟩) (show 0 < n₀ by omega)]; exact h1 c hc
  · rw [hb.cell (p := ⟨1, 2 * i, none⟩) (show 1 < n₀ by omega)]; exact (h2 i hi).1
  · rw [hb.cell (p := ⟨1, 2 * i + 1, none⟩) (show 1 < n₀ by omega)]; exact (h2 i hi).2
theorem below_grown {w w' : World} (h : Below w.heap.size w w') : w.grownBy w' none := ⟨h.os, h.tape, h.output, h.size, fun k hk _ => h.block k hk⟩

set_option maxHeartbeats 1000000 in
theorem isBreak (s : ByteArray) (w : World) (hT : Tabs w) :
    Calls Tryd.prog 34 #[.string s] w fun e w' => e = .returned (.bool (brk s)) ∧ Below w.heap.size w w' := by
  by_cases h1 : (decodeGo s).1 = 65533
  · by_cases h2 : (decodeGo s).2 = 1
    · go_enter Tryd.func34, Tryd.ntmps34
      go_wp2_with (go_at_call 49; refine (Tryd.utf8_DecodeRuneInString s _ hT).mono ?_; rintro e w' ⟨rfl, hb⟩)
      go_ret
      exact ⟨by simp [brk, h1, h2], hb⟩
    · have e2 : (((decodeGo s).2 : Int) == 1) = false := by rw [beq_eq_false_iff_ne]; omega
      go_enter Tryd.func34, Tryd.ntmps34
      go_wp2_with (go_at_call 49; refine (Tryd.utf8_DecodeRuneInString s _ hT).mono ?_; rintro e w' ⟨rfl, hb⟩)
      go_ret
      exact ⟨by simp [brk, h1, h2], hb⟩
  · have e1 : (((decodeGo s).1 : Int) == 65533) = false := by rw [beq_eq_false_iff_ne]; omega
    go_enter Tryd.func34, Tryd.ntmps34
    go_wp2_with (go_at_call 49; refine (Tryd.utf8_DecodeRuneInString s _ hT).mono ?_; rintro e w' ⟨rfl, hb⟩)
    go_ret
    exact ⟨by simp [brk, h1], hb⟩

theorem Runes_in (n : Nat) (s : ByteArray) (w : World) :
    CallsIn Fence.wide n Tryd.prog 10 #[.string s] w fun e w' => e = .returned (.func (.func 33) #[] #[.pointer (some ⟨w.heap.size, 0, none⟩)]) ∧ w' = w.alloc (.cells #[.string s] 9) := by
  refine callsIn_of_wp Tryd.func10 rfl trivial ?_ rfl
  simp only [Tryd.ntmps10, List.size_toArray, List.length_cons, List.length_nil, Nat.reduceAdd, Nat.reduceSub, Array.replicate_succ, Array.replicate_zero, List.push_toArray, List.append_toArray, List.nil_append, List.cons_append]
  gi_wp2
  go_ret
  exact ⟨rfl, rfl⟩

/-- one thing that is taken of s: where, and the rune -/
abbrev Pc (s : ByteArray) := { x : Nat × Int // x ∈ pcs s }
/-- the things themselves -/
def vals {s : ByteArray} (l : List (Pc s)) : List (Nat × Int) := l.map (·.1)
theorem vals_nil (s : ByteArray) : vals ([] : List (Pc s)) = [] := rfl
theorem vals_snoc {s : ByteArray} (l : List (Pc s)) (x : Pc s) : vals (l ++ [x]) = vals l ++ [x.1] := by simp [vals]
theorem vals_length {s : ByteArray} (l : List (Pc s)) : (vals l).length = l.length := by simp [vals]
/-- the step of all that is taken -/
theorem pc_go (s : ByteArray) (p : Nat) (hp : p < s.size) (pre : List (Pc s)) (h : vals pre ++ pcsFrom s p = pcs s) :
    ∃ x : Pc s, x.1 = (p, (pc s p).1) ∧ vals (pre ++ [x]) ++ pcsFrom s (p + (pc s p).2) = pcs s ∧ pre.length < (pcs s).length := by
  have hst := pcsFrom_step s p hp
  have hmem : (p, (pc s p).1) ∈ pcs s := by rw [← h, hst]; simp
  refine ⟨⟨(p, (pc s p).1), hmem⟩, rfl, ?_, ?_⟩
  · rw [hst] at h; rw [vals_snoc]; simpa using h
  · rw [← h, hst, ← vals_length pre]; simp
abbrev encPc {s : ByteArray} (x : Pc s) : Array Value := #[.int .i64 x.1.1, .int .i32 x.1.2]
def KpR (n₀ Bs : Nat) (s : ByteArray) (W W' : World) : Prop := Below n₀ W W' ∧ KeepsWalks W W' ∧ (W.cell? ⟨Bs, 0, none⟩ = some (.string s) → W'.cell? ⟨Bs, 0, none⟩ = some (.string s))
theorem KpR.t {n₀ Bs : Nat} {s : ByteArray} {A B C : World} (h : KpR n₀ Bs s A B) (k : KpR n₀ Bs s B C) : KpR n₀ Bs s A C := ⟨h.1.trans k.1, h.2.1.trans k.2.1, fun c => k.2.2 (h.2.2 c)⟩
theorem KpR.b {n₀ Bs : Nat} {s : ByteArray} {w : World} (hn : n₀ ≤ w.heap.size) (W : World) (l : Nat) (o o' : Obj) (hl : w.heap.size ≤ l) (h : W.heap[l]? = some o) (hc : o.isCells = false) (hw : o.isWalk = false) : KpR n₀ Bs s W (W.putObj l o') :=
  ⟨belowK_b hn W l o o' hl h hc hw, walksK_b (w := w) W l o o' hl h hc hw, fun c => cell_kept c (grownBy_putObj' W l o') (fun r e => by cases e; exact ⟨o, h, hc⟩)⟩

theorem brk_tail (s : ByteArray) (p : Nat) (h : p < s.size) : brk (s.extract p s.size) = decide (Utf8.decode s p = (65533, 1)) := by
  have e : decodeGo (s.extract p s.size) = Utf8.decode s p := by
    unfold decodeGo
    rw [if_neg (by simp; omega), tail_decode]; rfl
  unfold brk; rw [e]
  rw [Bool.eq_iff_iff]; simp [Prod.ext_iff]

set_option maxRecDepth 100000 in
set_option maxHeartbeats 1000000 in
/-- the iterator of Runes(s), for every loop body that keeps what lay below n₀ -/
theorem runes1_in (n : Nat) (hn : 1 ≤ n) (l Bs n₀ : Nat) (s : ByteArray) (hs : s.size ≤ 9223372036854775807) (J Jx : List (Pc s) → World → Prop)
    (hY : ∀ pre x W, J pre W → pre.length < (pcs s).length → YieldAt Fence.wide (n - 1) Tryd.prog l (encPc x) W fun e W' =>
      (e = .returned (.bool true) ∧ J (pre ++ [x]) W' ∧ KpR n₀ Bs s W W') ∨ (e = .returned (.bool false) ∧ Jx (pre ++ [x]) W'))
    (W : World) (hJ : AbidesFrom W.heap.size J) (hT : Tabs W) (h2 : 2 ≤ n₀) (hn₀ : n₀ ≤ W.heap.size) (hBs : Bs < W.heap.size) (hc : W.cell? ⟨Bs, 0, none⟩ = some (.string s)) (h0 : J [] W) :
    CallsIn Fence.wide n Tryd.prog 33 #[.func (.yield l) #[] #[], .pointer (some ⟨Bs, 0, none⟩)] W fun e W' => (∃ v, e = .returned v) ∧
      ((∃ ys, vals ys = pcs s ∧ J ys W') ∨ (∃ pre, vals pre <+: pcs s ∧ Jx pre W')) := by
  refine callsIn_of_wp Tryd.func33 rfl trivial ?_ rfl
  simp only [Tryd.ntmps33, List.size_toArray, List.length_cons, List.length_nil, Nat.reduceAdd, Nat.reduceSub, Array.replicate_succ, Array.replicate_zero, List.push_toArray, List.append_toArray, List.nil_append, List.cons_append]
  gi_wp2
  gi_loopw [] (fun wr => ∃ (pos : Nat) (pre : List (Pc s)), pos ≤ s.size ∧ vals pre ++ pcsFrom s pos = pcs s ∧ wr.heap[W.heap.size]? = some (.stringIter s pos) ∧ Below n₀ W wr ∧ J pre wr ∧ wr.cell? ⟨Bs, 0, none⟩ = some (.string s))
    (fun wr => s.size - wr.iterPos W.heap.size)
  case atStart =>
    have hg : W.grownBy (W.iter s 0) none := World.grownBy_alloc W _ none
    exact ⟨0, [], Nat.zero_le _, rfl, World.iter_heap W s 0, (Below.refl n₀ W).grown hg hn₀ (fun k e => by cases e), hJ [] W _ none h0 hg (fun r e => by cases e), (World.cell?_of_block (hg.block Bs hBs (by simp))).trans hc⟩
  case round =>
    obtain ⟨pos, pre, hpos, hpre, hit, hbw, hJs, hcr⟩ := hrel
    have hk : W.heap.size < wr.heap.size := (Array.getElem?_eq_some_iff.1 hit).1
    by_cases hp : pos < s.size
    · have hnx : ∀ ty, (Instr.next (.pointer (some ⟨W.heap.size, 0, none⟩)) true ty).run Tryd.prog wr = _ := fun ty => Lib.run_next_any_at wr W.heap.size s pos ty hit hp
      have hit2 := Lib.iterAt_heap wr W.heap.size s pos (pos + (Utf8.decode s pos).2) hit
      have hbw2 := Lib.below_iterAt hbw (k := W.heap.size) hn₀ s (pos + (Utf8.decode s pos).2)
      have hg2 : wr.grownBy (wr.iterAt W.heap.size s (pos + (Utf8.decode s pos).2)) (some W.heap.size) :=
        ⟨rfl, rfl, rfl, by rw [Lib.iterAt_size]; omega, fun k _ hk => Lib.iterAt_other wr W.heap.size k s _ (fun e => hk (by rw [e]))⟩
      have hJ2 : J pre (wr.iterAt W.heap.size s (pos + (Utf8.decode s pos).2)) := hJ pre wr _ (some W.heap.size) hJs hg2 (fun r e => by cases e; exact ⟨Nat.le_refl _, _, hit, rfl⟩)
      have hsz2 : (wr.iterAt W.heap.size s (pos + (Utf8.decode s pos).2)).heap.size = wr.heap.size := Lib.iterAt_size _ _ _ _
      have hcr1 : (wr.iterAt W.heap.size s (pos + (Utf8.decode s pos).2)).cell? ⟨Bs, 0, none⟩ = some (.string s) := (World.cell?_of_block (Lib.iterAt_other wr W.heap.size Bs s _ (by omega))).trans hcr
      clear hcr
      obtain ⟨w1, hw1⟩ : ∃ w1, wr.iterAt W.heap.size s (pos + (Utf8.decode s pos).2) = w1 := ⟨_, rfl⟩
      rw [hw1] at hit2 hbw2 hg2 hJ2 hsz2 hnx hcr1
      have hwd := pc_pos s pos hp
      have h2e := pc_2 s pos
      have hd1 := decode_le s pos
      have hc1 := hcr1
      clear hcr1
      obtain ⟨x, hx, hnext, hlen⟩ := pc_go s pos hp pre hpre
      have hpfx : vals (pre ++ [x]) <+: pcs s := ⟨_, hnext⟩
      rw [← h2e] at hit2
      have HN := Lib.hid hnext
      have HW1 := Lib.hid hw1
      have HS2 := Lib.hid hsz2
      have HX := Lib.hid hx
      have H2 := Lib.hid h2e
      have HIT := Lib.hid hit2
      have HOLD := Lib.hid hit
      clear hnext hpre hw1 hsz2 hx h2e hit2 hit
      by_cases e1 : (Utf8.decode s pos).1 = 65533
      · have hT1 : Tabs w1 := hT.below hbw2 h2
        by_cases e2 : (Utf8.decode s pos).2 = 1
        · have b2 : brk (s.extract pos s.size) = true := by rw [brk_tail s pos hp]; simp [Prod.ext_iff, e1, e2]
          have B2 := Lib.hid b2
          clear b2
          gi_wp2
          refine ⟨trivial, ?_⟩
          refine (callsIn_wide.2 (isBreak _ _ hT1)).mono ?_
          rintro e w2 ⟨rfl, hb2⟩
          have hb3 := hbw2.trans (hb2.mono (by rw [HS2.out]; omega))
          have hit3 : w2.heap[W.heap.size]? = some (.stringIter s (pos + (pc s pos).2)) := (hb2.block _ (by rw [HS2.out]; exact hk)).trans HIT.out
          have hc2 : w2.cell? ⟨Bs, 0, none⟩ = some (.string s) := (hb2.cell (p := ⟨Bs, 0, none⟩) (by rw [HS2.out]; show Bs < _; omega)).trans hc1
          have HC2 := Lib.hid hc2
          clear hc2
          have HI3 := Lib.hid hit3
          clear hit3
          obtain ⟨fn, tmps, assign, body, hy, hR⟩ := hY pre x w2 (hJ pre w1 w2 none hJ2 (below_grown hb2) (fun r e => by cases e)) hlen
          dsimp only [encPc] at hy
          rw [HX.out, pc_brk s pos (Prod.ext e1 e2)] at hy
          have b2 := B2.out
          rw [b2]
          clear b2
          gi_wp2
          refine hR.mono ?_
          rintro e W3 (⟨rfl, hJ3, hk3⟩ | ⟨rfl, hJx3⟩)
          · gi_wp2
            have hit4 : W3.heap[W.heap.size]? = some (.stringIter s (pos + (pc s pos).2)) := hk3.2.1.same _ _ HI3.out rfl
            go_roundw
            case rel => exact ⟨pos + (pc s pos).2, pre ++ [x], hwd.2, HN.out, hit4, hb3.trans hk3.1, hJ3, hk3.2.2 HC2.out⟩
            case measure => simp only [World.iterPos, hit4, HOLD.out]; omega
          · gi_wp2
            refine bodyPost_ret (results_none rfl _ _ _) rfl ?_
            exact ⟨⟨_, rfl⟩, .inr ⟨pre ++ [x], hpfx, hJx3⟩⟩
        · have b2 : brk (s.extract pos s.size) = false := by rw [brk_tail s pos hp]; simp [Prod.ext_iff, e1, e2]
          have B2 := Lib.hid b2
          clear b2
          gi_wp2
          refine ⟨trivial, ?_⟩
          refine (callsIn_wide.2 (isBreak _ _ hT1)).mono ?_
          rintro e w2 ⟨rfl, hb2⟩
          have hb3 := hbw2.trans (hb2.mono (by rw [HS2.out]; omega))
          have hit3 : w2.heap[W.heap.size]? = some (.stringIter s (pos + (pc s pos).2)) := (hb2.block _ (by rw [HS2.out]; exact hk)).trans HIT.out
          have hc2 : w2.cell? ⟨Bs, 0, none⟩ = some (.string s) := (hb2.cell (p := ⟨Bs, 0, none⟩) (by rw [HS2.out]; show Bs < _; omega)).trans hc1
          have HC2 := Lib.hid hc2
          clear hc2
          have HI3 := Lib.hid hit3
          clear hit3
          obtain ⟨fn, tmps, assign, body, hy, hR⟩ := hY pre x w2 (hJ pre w1 w2 none hJ2 (below_grown hb2) (fun r e => by cases e)) hlen
          dsimp only [encPc] at hy
          rw [HX.out, show pc s pos = (65533, (Utf8.decode s pos).2) from by rw [pc_run s pos (fun h => e2 (by rw [h])), e1]; rfl] at hy
          have b2 := B2.out
          rw [b2]
          clear b2
          gi_wp2
          refine hR.mono ?_
          rintro e W3 (⟨rfl, hJ3, hk3⟩ | ⟨rfl, hJx3⟩)
          · gi_wp2
            have hit4 : W3.heap[W.heap.size]? = some (.stringIter s (pos + (pc s pos).2)) := hk3.2.1.same _ _ HI3.out rfl
            go_roundw
            case rel => exact ⟨pos + (pc s pos).2, pre ++ [x], hwd.2, HN.out, hit4, hb3.trans hk3.1, hJ3, hk3.2.2 HC2.out⟩
            case measure => simp only [World.iterPos, hit4, HOLD.out]; omega
          · gi_wp2
            refine bodyPost_ret (results_none rfl _ _ _) rfl ?_
            exact ⟨⟨_, rfl⟩, .inr ⟨pre ++ [x], hpfx, hJx3⟩⟩
      · have b1 : (((Utf8.decode s pos).1 : Int) == 65533) = false := by rw [beq_eq_false_iff_ne]; omega
        obtain ⟨fn, tmps, assign, body, hy, hR⟩ := hY pre x w1 hJ2 hlen
        dsimp only [encPc] at hy
        rw [HX.out, pc_run s pos (fun h => e1 (by rw [h]))] at hy
        gi_wp2
        refine ⟨trivial, ?_⟩
        gi_wp2
        refine hR.mono ?_
        rintro e W3 (⟨rfl, hJ3, hk3⟩ | ⟨rfl, hJx3⟩)
        · gi_wp2
          have hit3 : W3.heap[W.heap.size]? = some (.stringIter s (pos + (pc s pos).2)) := hk3.2.1.same _ _ HIT.out rfl
          go_roundw
          case rel => exact ⟨pos + (pc s pos).2, pre ++ [x], hwd.2, HN.out, hit3, hbw2.trans hk3.1, hJ3, hk3.2.2 hc1⟩
          case measure => simp only [World.iterPos, hit3, HOLD.out]; omega
        · gi_wp2
          refine bodyPost_ret (results_none rfl _ _ _) rfl ?_
          exact ⟨⟨_, rfl⟩, .inr ⟨pre ++ [x], hpfx, hJx3⟩⟩
    · have hnx : ∀ ty, (Instr.next (.pointer (some ⟨W.heap.size, 0, none⟩)) true ty).run Tryd.prog wr = _ := fun ty => Lib.run_next_end_at wr W.heap.size s pos ty hit hp
      gi_wp2
      go_end0
      refine ⟨⟨_, rfl⟩, .inl ⟨pre, ?_, hJs⟩⟩
      rw [pcsFrom_end s pos hp, List.append_nil] at hpre
      exact hpre
end Go.Proofs.YteegnmblbjcfpaaDoor.T
