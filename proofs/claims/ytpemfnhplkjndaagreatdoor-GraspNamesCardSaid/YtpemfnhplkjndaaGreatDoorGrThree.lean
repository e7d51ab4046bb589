/-
  A book of a Code, a Wrap of it and a Veil of it, and what is found there.
-/
import Derived.Test.YtpemfnhplkjndaaGreatDoorGrMust
set_option linter.unusedVariables false
namespace Go.Proofs.YtpemfnhplkjndaaGreatDoor.T
open Go Go.Lib Go.RowKit Go.Shelf
attribute [local go_sem] run_store_float

theorem nsl_new {w w1 : World} {x : Nat} (hb : Below (w.alloc (.cells #[.int .i64 (x : Int)] 3)).heap.size (w.alloc (.cells #[.int .i64 (x : Int)] 3)) w1) : NSl w1 (.slice (some ⟨w.heap.size, 0, none⟩) 1 1) [x] :=
  ⟨some ⟨w.heap.size, 0, none⟩, 1, rfl, Nat.le_refl _, fun _ => ⟨w.heap.size, 0, _, _, rfl, blk_new hb, fun j h hj => by
    cases j with
    | zero => simp at hj; subst hj; rfl
    | succ j => simp at hj⟩⟩
/-- the three -/
def e1 (i p : Value) : En := codeE 5 i p
def e2 (u i p i1 p1 : Value) : En := wrapE ⟨#[119]⟩ (e1 i1 p1) 0 u i p
def e3 (i p i1 p1 : Value) : En := veilE (e1 i1 p1) 0 i p
theorem mk1 {B b : Nat} (w : World) (h : BkAt B w b []) (hB : B ≤ w.heap.size) :
    Calls Tryz.prog 26 #[.pointer (some ⟨b, 0, none⟩), .agg #[.int .u8 1, .bool false, .string ⟨#[]⟩, .int .i16 5, .int .i8 0, .float .f64 0, .float .f64 0, .bool false, .int .u32 0, .slice none 0 0, .slice none 0 0]] w fun e w' => e = .returned (.tuple #[.int .i64 1, .int .i64 0]) ∧ (∃ i p, BkAt B w' b [e1 i p]) ∧ Below B w w' := by
  refine (Make_code (es := []) 5 (by decide) none none 0 0 w h hB (by decide)).mono ?_
  rintro e w' ⟨i, p, rfl, h1, _, h2⟩
  exact ⟨rfl, ⟨i, p, h1⟩, h2⟩
theorem mk2 {B b : Nat} (i1 p1 : Value) (w W : World) (hw : W = w.alloc (.cells #[.int .i64 1] 3)) (h : BkAt B w b [e1 i1 p1]) (hB : B ≤ w.heap.size) :
    Calls Tryz.prog 26 #[.pointer (some ⟨b, 0, none⟩), .agg #[.int .u8 14, .bool false, .string ⟨#[119]⟩, .int .i16 0, .int .i8 0, .float .f64 0, .float .f64 0, .bool false, .int .u32 0, .slice none 0 0, .slice (some ⟨w.heap.size, 0, none⟩) 1 1]] W fun e w' => e = .returned (.tuple #[.int .i64 2, .int .i64 0]) ∧ (∃ u i p, BkAt B w' b [e1 i1 p1, e2 u i p i1 p1]) ∧ Below B w w' := by
  subst hw
  have hbA : Below w.heap.size w (w.alloc (.cells #[.int .i64 1] 3)) := (Below.refl _ _).alloc (Nat.le_refl _) _
  have hs := codeB_size 5 (by decide)
  have ht : (⟨#[119]⟩ : ByteArray).size = 1 := rfl
  refine (Make_wrap (es := [e1 i1 p1]) ⟨#[119]⟩ (by decide) 0 (e1 i1 p1) rfl none 0 1 w.heap.size 0 _ (h.below hbA) (Nat.le_trans hB hbA.size) (by simp) (nsl_new (x := 1) (Below.refl _ _)) ?_ ?_ ?_ ?_).mono ?_
  · show 1 < 4096; decide
  · show 1 < 64; decide
  · show (⟨#[119]⟩ : ByteArray).size + (2 + (codeB 5).size) ≤ 65536
    omega
  · show (⟨#[119]⟩ : ByteArray).size + 0 ≤ 1048576
    omega
  rintro e w' ⟨u, i, p, rfl, _, h1, _, h2⟩
  exact ⟨rfl, ⟨u, i, p, h1⟩, ((Below.refl B w).alloc hB _).trans h2⟩
theorem mk3 {B b : Nat} (i1 p1 u i2 p2 : Value) (w W : World) (hw : W = w.alloc (.cells #[.int .i64 1] 3)) (h : BkAt B w b [e1 i1 p1, e2 u i2 p2 i1 p1]) (hB : B ≤ w.heap.size) :
    Calls Tryz.prog 26 #[.pointer (some ⟨b, 0, none⟩), .agg #[.int .u8 20, .bool false, .string ⟨#[]⟩, .int .i16 0, .int .i8 0, .float .f64 0, .float .f64 0, .bool false, .int .u32 0, .slice none 0 0, .slice (some ⟨w.heap.size, 0, none⟩) 1 1]] W fun e w' => e = .returned (.tuple #[.int .i64 3, .int .i64 0]) ∧ (∃ i p, BkAt B w' b [e1 i1 p1, e2 u i2 p2 i1 p1, e3 i p i1 p1]) ∧ Below B w w' := by
  subst hw
  have hbA : Below w.heap.size w (w.alloc (.cells #[.int .i64 1] 3)) := (Below.refl _ _).alloc (Nat.le_refl _) _
  have hs := codeB_size 5 (by decide)
  refine (Make_veil (es := [e1 i1 p1, e2 u i2 p2 i1 p1]) 0 (e1 i1 p1) rfl none 0 1 w.heap.size 0 _ (h.below hbA) (Nat.le_trans hB hbA.size) (by simp) (nsl_new (x := 1) (Below.refl _ _)) ?_ ?_ ?_ ?_).mono ?_
  · show 1 < 4096; decide
  · show 1 < 64; decide
  · show 4 + (2 + (codeB 5).size) ≤ 65536
    omega
  · show 0 ≤ 1048576; decide
  rintro e w' ⟨i, p, rfl, h1, _, h2⟩
  exact ⟨rfl, ⟨i, p, h1⟩, ((Below.refl B w).alloc hB _).trans h2⟩
theorem bare_code (i : Nat) (a b : Value) : Bare (codeE i a b) := by
  refine ⟨?_, ?_, ?_, ?_, ?_, ?_⟩
  · show 0 ≤ 64; decide
  all_goals (show (1 : Int) ≠ _; decide)
theorem bare_veil (x : En) (j : Nat) (a b : Value) : Bare (veilE x j a b) := by
  refine ⟨?_, ?_, ?_, ?_, ?_, ?_⟩
  · show 1 ≤ 64; decide
  all_goals (show (20 : Int) ≠ _; decide)
theorem find_two {B b : Nat} {i1 p1 u i2 p2 i3 p3 : Value} (w : World) (h : BkAt B w b [e1 i1 p1, e2 u i2 p2 i1 p1, e3 i3 p3 i1 p1]) (W : World) (hb : Below w.heap.size w W) :
    CallsIn Fence.wide 5 Tryz.prog 27 #[.pointer (some ⟨b, 0, none⟩), .int .i64 2] W fun e w' => e = .returned (.tuple #[.int .i16 5, .int .i64 1, .int .i64 0]) ∧ Below W.heap.size W w' := by
  have H1 := (has_in 0 _ w h rfl).below hb
  have H2 := (has_in 1 _ w h rfl).below hb
  refine find_wrap b 2 u 5 W ?_
  intro W' hb'
  exact within_two b 2 1 _ _ W' (H2.below hb') (H1.below hb') (within_wrap b 2 1 _ _ W' (H2.below hb') rfl rfl (H1.below hb') (bare_code _ _ _))
theorem find_three {B b : Nat} {i1 p1 u i2 p2 i3 p3 : Value} (w : World) (h : BkAt B w b [e1 i1 p1, e2 u i2 p2 i1 p1, e3 i3 p3 i1 p1]) (W : World) (hb : Below w.heap.size w W) :
    CallsIn Fence.wide 5 Tryz.prog 27 #[.pointer (some ⟨b, 0, none⟩), .int .i64 3] W fun e w' => e = .returned (.tuple #[.int .i16 0, .int .i64 0, .int .i64 100]) ∧ Below W.heap.size W w' := by
  have H3 := (has_in 2 _ w h rfl).below hb
  refine find_veil b 3 (.agg #[.iface 72 (.int .i16 5)]) W ?_
  intro W' hb'
  exact within_one b 3 _ W' (H3.below hb') (within_bare b 3 _ W' (H3.below hb') (bare_veil _ _ _ _))
theorem must_one {B b : Nat} {i1 p1 u i2 p2 i3 p3 : Value} (w : World) (h : BkAt B w b [e1 i1 p1, e2 u i2 p2 i1 p1, e3 i3 p3 i1 p1]) (W : World) (hb : Below w.heap.size w W) :
    Calls Tryz.prog 28 #[.pointer (some ⟨b, 0, none⟩), .int .i64 1] W fun e w' => e = .returned (.tuple #[.iface 72 (.int .i16 5), .agg #[.int .i64 0, .string ⟨#[]⟩, .int .i64 0], .int .i64 0]) ∧ Below W.heap.size W w' :=
  Must_graded b 1 _ W ((has_in 0 _ w h rfl).below hb) rfl
theorem which_one {B b : Nat} {i1 p1 u i2 p2 i3 p3 : Value} (w : World) (h : BkAt B w b [e1 i1 p1, e2 u i2 p2 i1 p1, e3 i3 p3 i1 p1]) (W : World) (hb : Below w.heap.size w W) :
    Calls Tryz.prog 30 #[.pointer (some ⟨b, 0, none⟩), .int .i64 1] W fun e w' => e = .returned (.tuple #[.int .i64 2, .int .i64 0]) ∧ Below W.heap.size W w' :=
  Which_in b 1 (.int .i16 5) _ W ((has_in 0 _ w h rfl).below hb) rfl
theorem code_kind_in (v : Value) (w : World) : Calls Tryz.prog 222 #[v] w fun e w' => e = .returned (.int .u8 1) ∧ w' = w := by
  go_enter Tryz.func222, Tryz.ntmps222
  go_wp2
  go_ret
  exact ⟨rfl, rfl⟩
end Go.Proofs.YtpemfnhplkjndaaGreatDoor.T
