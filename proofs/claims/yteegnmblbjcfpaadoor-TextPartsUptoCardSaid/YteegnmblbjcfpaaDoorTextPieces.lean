/-
  errataref01.Pieces: all that is taken of a text.
-/
import Derived.Test.YteegnmblbjcfpaaDoorTextBeg
import Derived.Laws.OwnMore
import Derived.OwnWalk
set_option linter.unusedVariables false
namespace Go.Proofs.YteegnmblbjcfpaaDoor.T
open Go Go.Lib Go.RowKit

theorem begins_at (s : ByteArray) (p q : Nat) (hp : p < s.size) (hq : q = min s.size (p + 4)) (w : World) :
    Calls Tryd.prog 32 #[.string (s.extract p q)] w fun e w' => e = .returned (.tuple #[.int .i32 (begs s p).1, .int .i64 (begs s p).2]) ∧ Below w.heap.size w w' := by
  subst hq
  have h := begins_in (s.extract p (min s.size (p + 4))) (by simp; omega) (by simp; omega) w
  rw [begFrom_begs s p hp] at h
  exact h
theorem begins_brk (s : ByteArray) (p q : Nat) (hp : p < s.size) (hq : q = min s.size (p + 4)) (hd : Utf8.decode s p = (65533, 1)) (w : World) :
    Calls Tryd.prog 32 #[.string (s.extract p q)] w fun e w' => e = .returned (.tuple #[.int .i32 0, .int .i64 0]) ∧ Below w.heap.size w w' := by
  have h := begins_at s p q hp hq w
  rw [show begs s p = (0, 0) from by unfold begs; rw [if_pos hd]] at h
  exact h
theorem begins_run (s : ByteArray) (p q : Nat) (hp : p < s.size) (hq : q = min s.size (p + 4)) (hd : ¬ Utf8.decode s p = (65533, 1)) (w : World) :
    Calls Tryd.prog 32 #[.string (s.extract p q)] w fun e w' => e = .returned (.tuple #[.int .i32 (Utf8.decode s p).1, .int .i64 (Utf8.decode s p).2]) ∧ Below w.heap.size w w' := by
  have h := begins_at s p q hp hq w
  rw [show begs s p = Utf8.decode s p from by unfold begs; rw [if_neg hd]] at h
  exact h

/-- the cells of one piece -/
def pcell (s : ByteArray) (x : Nat × Int) : List Value := [.int .i64 x.1, .string (s.extract x.1 (x.1 + (pc s x.1).2)), .int .i32 x.2]
def pcells (s : ByteArray) (l : List (Nat × Int)) : List Value := l.flatMap (pcell s)
theorem pcells_snoc (s : ByteArray) (l : List (Nat × Int)) (x : Nat × Int) : pcells s (l ++ [x]) = pcells s l ++ pcell s x := by simp [pcells]

theorem infoPiece : (Tryd.prog.info? 28).map (fun i => (i.zero, i.size, i.bytes)) = some (some (.agg #[.int .i64 0, .string ⟨#[]⟩, .int .i32 0]), 3, 32) := by kernel_rfl

theorem slice_str (s : ByteArray) (p n : Nat) (h : p + n ≤ s.size) (W : World) : (Instr.slice 9 (.string s) (some (.int .i64 (p : Int))) (some (.int .i64 ((p : Int) + (n : Int)))) none).run Tryd.prog W = .ok (.string (s.extract p (p + n))) W := by
  have e := run_slice_string (P := Tryd.prog) W 9 s .i64 .i64 (p : Int) ((p : Int) + (n : Int)) Tryd.underlying9 (by omega) (by omega) (by omega)
  rw [e, Int.toNat_natCast, show ((p : Int) + (n : Int)).toNat = p + n from by omega]
theorem row_none {w w' : World} {base : Nat} {e : TypeId} {size : Nat} {v : Value} {n : Nat} {xs : List Value} (h : w.ownsRow base e size v n xs) (hg : w.grownBy w' none) : w'.ownsRow base e size v n xs := by
  refine h.kept hg ?_
  cases v.ownBlock with
  | none => exact .inl rfl
  | some g => exact .inr (by simp)
theorem below_grown {w w' : World} (h : Below w.heap.size w w') : w.grownBy w' none := ⟨h.os, h.tape, h.output, h.size, fun k hk _ => h.block k hk⟩
theorem cell3_new (W : World) (a b c : Value) (t : TypeId) : ∀ j u, [a, b, c][j]? = some u → (W.alloc (.cells #[a, b, c] t)).cell? ((⟨W.heap.size, 0, none⟩ : Addr).add j) = some u := by
  intro j u hj
  have : ((⟨W.heap.size, 0, none⟩ : Addr).add j) = ⟨W.heap.size, j, none⟩ := by unfold Addr.add; split <;> simp_all
  rw [this, World.cell?_alloc_at _ _ _ _ rfl]
  simpa using hj
/-- behind a call that laid new blocks, one laying and an append -/
theorem below_app {B : Nat} {a w w1 w2 : World} {o : Obj} {v : Value} {e : TypeId} {size n : Nat} {xs : List Value} (h : Below B a w) (hb : Below w.heap.size w w1) (hg : (w1.alloc o).grownBy w2 v.ownBlock) (hr : w1.ownsRow B e size v n xs) (hB : B ≤ w.heap.size := by omega) : Below B a w2 :=
  ((h.trans (hb.mono hB)).alloc (Nat.le_trans hB hb.size) o).grown hg (by simp; have := hb.size; omega) (fun k hk => (hr.lt k hk).1)

def IsPieces (s : ByteArray) (w : World) (e : Ending) (w' : World) : Prop := ∃ v, e = .returned v ∧ w'.ownsRow w.heap.size 28 3 v (pcs s).length (pcells s (pcs s)) ∧ Below w.heap.size w w'

set_option maxRecDepth 100000 in
set_option maxHeartbeats 2000000 in
theorem pieces_in (s : ByteArray) (hs : s.size ≤ 16777216) (w : World) :
    Calls Tryd.prog 9 #[.string s] w (IsPieces s w) := by
  obtain ⟨i0, hi, hz0, hz1, hz2⟩ := info_parts infoPiece
  go_enter Tryd.func9, Tryd.ntmps9
  go_wp2
  go_loopw [3, 4] (fun v i wr => ∃ (p : Nat) (pre : List (Nat × Int)), p ≤ s.size ∧ pre.length ≤ p ∧ i = .int .i64 p ∧ pre ++ pcsFrom s p = pcs s ∧ wr.ownsRow w.heap.size 28 3 v pre.length (pcells s pre) ∧ Below w.heap.size w wr)
    (fun _ i _ => s.size - (intOf i).toNat)
  case atStart => exact ⟨0, [], Nat.zero_le _, Nat.zero_le _, rfl, rfl, World.ownsRow_nil _ _ _ _, Below.refl _ _⟩
  case round =>
    obtain ⟨p, pre, hp, hpl, rfl, hpre, hrow, hbw⟩ := hrel
    by_cases hlt : p < s.size
    · have hst := pcsFrom_step s p hlt
      have hwd := pc_pos s p hlt
      rw [hst] at hpre
      have HPRE := Lib.hid hpre
      clear hpre hst
      obtain ⟨q, hq⟩ : ∃ q, q = min s.size (p + 4) := ⟨_, rfl⟩
      have hq1 : q ≤ s.size := by omega
      by_cases hd : Utf8.decode s p = (65533, 1)
      · have h2 : (pc s p) = (-1, 1) := pc_brk s p hd
        have H2 := Lib.hid h2
        have HD := Lib.hid hd
        have HQ := Lib.hid hq
        clear h2 hd hq
        by_cases h4 : s.size ≤ p + 4
        · have hsl : ∀ W : World, (Instr.slice 9 (.string s) (some (.int .i64 (p : Int))) (some (.int .i64 ((p : Int) + 1))) none).run Tryd.prog W = .ok (.string (s.extract p (p + 1))) W := fun W => slice_str s p 1 (by omega) W
          go_wp2_with fail
          refine (begins_brk s p s.size hlt (by omega) HD.out _).mono ?_
          rintro e w1 ⟨rfl, hb1⟩
          have hrow1 := row_none hrow (below_grown hb1)
          have hsz1 := hb1.size
          have hbw1 := hbw.size
          go_wp2_with (at_builtin; refine wpList_append_own _ rfl _ _ 22 rfl w.heap.size 28 i0 (.agg #[.int .i64 0, .string ⟨#[]⟩, .int .i32 0]) 3 32 Tryd.underlying22 hi hz0 hz1 hz2 rfl (by decide) _ pre.length _ rfl (hrow1.alloc _) ⟨w1.heap.size, 0, none⟩ 1 1 [.int .i64 p, .string (s.extract p (p + 1)), .int .i32 (-1)] rfl rfl (cell3_new _ _ _ _ _) (by simp [Value.oneCell']) (by unfold maxLen; omega) (by omega) (by simp; omega) ?_; intro v' w2 hown' hgrow _)
          go_wp2
          go_roundw
          case rel =>
            refine ⟨p + (pc s p).2, pre ++ [(p, (pc s p).1)], ?_, ?_, ?_, ?_, ?_, ?_⟩
            · rw [H2.out]; omega
            · rw [H2.out]; simp; omega
            · rw [H2.out]; first | rfl | go_num
            · rw [← HPRE.out]; simp
            · rw [pcells_snoc]; simp only [pcell, H2.out]; simpa using hown'
            · exact below_app hbw hb1 hgrow hrow1
          case measure => simp [intOf]; omega
        · have hsl : ∀ W : World, (Instr.slice 9 (.string s) (some (.int .i64 (p : Int))) (some (.int .i64 ((p : Int) + 1))) none).run Tryd.prog W = .ok (.string (s.extract p (p + 1))) W := fun W => slice_str s p 1 (by omega) W
          have hs4 : ∀ W : World, (Instr.slice 9 (.string s) (some (.int .i64 (p : Int))) (some (.int .i64 ((p : Int) + 4))) none).run Tryd.prog W = .ok (.string (s.extract p (p + 4))) W := fun W => slice_str s p 4 (by omega) W
          go_wp2_with fail
          refine (begins_brk s p (p + 4) hlt (by omega) HD.out _).mono ?_
          rintro e w1 ⟨rfl, hb1⟩
          have hrow1 := row_none hrow (below_grown hb1)
          have hsz1 := hb1.size
          have hbw1 := hbw.size
          go_wp2_with (at_builtin; refine wpList_append_own _ rfl _ _ 22 rfl w.heap.size 28 i0 (.agg #[.int .i64 0, .string ⟨#[]⟩, .int .i32 0]) 3 32 Tryd.underlying22 hi hz0 hz1 hz2 rfl (by decide) _ pre.length _ rfl (hrow1.alloc _) ⟨w1.heap.size, 0, none⟩ 1 1 [.int .i64 p, .string (s.extract p (p + 1)), .int .i32 (-1)] rfl rfl (cell3_new _ _ _ _ _) (by simp [Value.oneCell']) (by unfold maxLen; omega) (by omega) (by simp; omega) ?_; intro v' w2 hown' hgrow _)
          go_wp2
          go_roundw
          case rel =>
            refine ⟨p + (pc s p).2, pre ++ [(p, (pc s p).1)], ?_, ?_, ?_, ?_, ?_, ?_⟩
            · rw [H2.out]; omega
            · rw [H2.out]; simp; omega
            · rw [H2.out]; first | rfl | go_num
            · rw [← HPRE.out]; simp
            · rw [pcells_snoc]; simp only [pcell, H2.out]; simpa using hown'
            · exact below_app hbw hb1 hgrow hrow1
          case measure => simp [intOf]; omega
      · have h2 : (pc s p) = (((Utf8.decode s p).1 : Int), (Utf8.decode s p).2) := pc_run s p hd
        rw [h2] at hwd
        have hwd1 : 1 ≤ (Utf8.decode s p).2 := hwd.1
        have hwd2 : p + (Utf8.decode s p).2 ≤ s.size := hwd.2
        have hz : (((Utf8.decode s p).2 : Int) == 0) = false := by rw [beq_eq_false_iff_ne]; omega
        have hd1 := decode_le s p
        have H2 := Lib.hid h2
        have HD := Lib.hid hd
        have HQ := Lib.hid hq
        clear h2 hd hq
        by_cases h4 : s.size ≤ p + 4
        · have hsl : ∀ W : World, (Instr.slice 9 (.string s) (some (.int .i64 (p : Int))) (some (.int .i64 ((p : Int) + ((Utf8.decode s p).2 : Int)))) none).run Tryd.prog W = .ok (.string (s.extract p (p + (Utf8.decode s p).2))) W := fun W => slice_str s p (Utf8.decode s p).2 (by omega) W
          go_wp2_with fail
          refine (begins_run s p s.size hlt (by omega) HD.out _).mono ?_
          rintro e w1 ⟨rfl, hb1⟩
          have hrow1 := row_none hrow (below_grown hb1)
          have hsz1 := hb1.size
          have hbw1 := hbw.size
          go_wp2_with (at_builtin; refine wpList_append_own _ rfl _ _ 22 rfl w.heap.size 28 i0 (.agg #[.int .i64 0, .string ⟨#[]⟩, .int .i32 0]) 3 32 Tryd.underlying22 hi hz0 hz1 hz2 rfl (by decide) _ pre.length _ rfl (hrow1.alloc _) ⟨w1.heap.size, 0, none⟩ 1 1 [.int .i64 p, .string (s.extract p (p + (Utf8.decode s p).2)), .int .i32 (((Utf8.decode s p).1 : Int))] rfl rfl (cell3_new _ _ _ _ _) (by simp [Value.oneCell']) (by unfold maxLen; omega) (by omega) (by simp; omega) ?_; intro v' w2 hown' hgrow _)
          go_wp2
          go_roundw
          case rel =>
            refine ⟨p + (pc s p).2, pre ++ [(p, (pc s p).1)], ?_, ?_, ?_, ?_, ?_, ?_⟩
            · rw [H2.out]; exact hwd2
            · rw [H2.out]; simp; omega
            · rw [H2.out]; first | rfl | go_num
            · rw [← HPRE.out]; simp
            · rw [pcells_snoc]; simp only [pcell, H2.out]; simpa using hown'
            · exact below_app hbw hb1 hgrow hrow1
          case measure => simp [intOf]; omega
        · have hsl : ∀ W : World, (Instr.slice 9 (.string s) (some (.int .i64 (p : Int))) (some (.int .i64 ((p : Int) + ((Utf8.decode s p).2 : Int)))) none).run Tryd.prog W = .ok (.string (s.extract p (p + (Utf8.decode s p).2))) W := fun W => slice_str s p (Utf8.decode s p).2 (by omega) W
          have hs4 : ∀ W : World, (Instr.slice 9 (.string s) (some (.int .i64 (p : Int))) (some (.int .i64 ((p : Int) + 4))) none).run Tryd.prog W = .ok (.string (s.extract p (p + 4))) W := fun W => slice_str s p 4 (by omega) W
          go_wp2_with fail
          refine (begins_run s p (p + 4) hlt (by omega) HD.out _).mono ?_
          rintro e w1 ⟨rfl, hb1⟩
          have hrow1 := row_none hrow (below_grown hb1)
          have hsz1 := hb1.size
          have hbw1 := hbw.size
          go_wp2_with (at_builtin; refine wpList_append_own _ rfl _ _ 22 rfl w.heap.size 28 i0 (.agg #[.int .i64 0, .string ⟨#[]⟩, .int .i32 0]) 3 32 Tryd.underlying22 hi hz0 hz1 hz2 rfl (by decide) _ pre.length _ rfl (hrow1.alloc _) ⟨w1.heap.size, 0, none⟩ 1 1 [.int .i64 p, .string (s.extract p (p + (Utf8.decode s p).2)), .int .i32 (((Utf8.decode s p).1 : Int))] rfl rfl (cell3_new _ _ _ _ _) (by simp [Value.oneCell']) (by unfold maxLen; omega) (by omega) (by simp; omega) ?_; intro v' w2 hown' hgrow _)
          go_wp2
          go_roundw
          case rel =>
            refine ⟨p + (pc s p).2, pre ++ [(p, (pc s p).1)], ?_, ?_, ?_, ?_, ?_, ?_⟩
            · rw [H2.out]; exact hwd2
            · rw [H2.out]; simp; omega
            · rw [H2.out]; first | rfl | go_num
            · rw [← HPRE.out]; simp
            · rw [pcells_snoc]; simp only [pcell, H2.out]; simpa using hown'
            · exact below_app hbw hb1 hgrow hrow1
          case measure => simp [intOf]; omega
    · rw [pcsFrom_end s p hlt, List.append_nil] at hpre
      obtain rfl : p = s.size := by omega
      go_wp2
      go_ret
      subst hpre
      exact ⟨_, rfl, hrow, hbw⟩
end Go.Proofs.YteegnmblbjcfpaaDoor.T
