/-
  What a book answers for a handle: Error, Kind, Parts; grasp.walked.
-/
import Derived.Test.YtpemfnhplkjndaaGreatDoorMkMade
set_option linter.unusedVariables false
namespace Go.Proofs.YtpemfnhplkjndaaGreatDoor.T
open Go Go.Lib Go.RowKit
attribute [local go_sem] run_store_float

/-- a book has this under a handle, whatever is made meanwhile -/
structure Has (w : World) (b h : Nat) (x : En) : Prop where
  finds : Finds w b h x
  parts : NSl w x.parts x.hs
  its : ∃ a n c, x.its = .slice a n c
  pos : 1 ≤ h
  top : h ≤ 65536
theorem Has.below {w w' : World} {b h : Nat} {x : En} (H : Has w b h x) (hb : Below w.heap.size w w') : Has w' b h x := ⟨H.finds.below hb, H.parts.below hb, H.its, H.pos, H.top⟩
theorem has_in {B : Nat} {b : Nat} {es : List En} (j : Nat) (x : En) (w : World) (h : BkAt B w b es) (hx : es[j]? = some x) : Has w b (j + 1) x := by
  obtain ⟨a, c, _, h1⟩ := h.open
  obtain ⟨g, q, _, _, h2⟩ := h1 j x hx
  have := (List.getElem?_eq_some_iff.1 hx).1
  have := h.2.1
  exact ⟨finds_in j x w h hx, h2.parts, h2.its, by omega, by omega⟩
set_option maxRecDepth 100000 in
theorem Error_in (b h : Nat) (x : En) (w : World) (H : Has w b h x) : Calls Tryz.prog 20 #[.pointer (some ⟨b, 0, none⟩), .int .i64 (h : Int)] w fun e w' => e = .returned (.tuple #[.iface x.T x.u, .int .i64 0]) ∧ Below w.heap.size w w' := by
  have KF := Lib.hid (H.finds w (Below.refl _ _))
  obtain ⟨ia, in_, ic, hi⟩ := H.its
  obtain ⟨pa, pc, hp, _⟩ := H.parts
  obtain ⟨T, u, k, t, n, its, parts, hs, sz, dp, lg, wd⟩ := x
  simp only at hi hp
  subst hi hp
  clear H
  unfold enV enC at KF
  go_enter Tryz.func20, Tryz.ntmps20
  go_wp2_with fail
  refine KF.out.mono ?_
  rintro e w1 ⟨rfl, hb1⟩
  go_wp2
  go_ret2
  exact ⟨rfl, hb1.alloc hb1.size _⟩
theorem cells16 {w : World} {g : Nat} {c0 c1 c2 c3 c4 c5 c6 c7 c8 c9 c10 c11 c12 c13 c14 c15 : Value} {t : TypeId} {f : Nat × Nat} (h : w.heap[g]? = some (.cells #[c0, c1, c2, c3, c4, c5, c6, c7, c8, c9, c10, c11, c12, c13, c14, c15] t f)) : w.cell? ⟨g, 0, none⟩ = some c0 ∧ w.cell? ⟨g, 1, none⟩ = some c1 ∧ w.cell? ⟨g, 2, none⟩ = some c2 ∧ w.cell? ⟨g, 3, none⟩ = some c3 ∧ w.cell? ⟨g, 4, none⟩ = some c4 ∧ w.cell? ⟨g, 5, none⟩ = some c5 ∧ w.cell? ⟨g, 6, none⟩ = some c6 ∧ w.cell? ⟨g, 7, none⟩ = some c7 ∧ w.cell? ⟨g, 8, none⟩ = some c8 ∧ w.cell? ⟨g, 9, none⟩ = some c9 ∧ w.cell? ⟨g, 10, none⟩ = some c10 ∧ w.cell? ⟨g, 11, none⟩ = some c11 ∧ w.cell? ⟨g, 12, none⟩ = some c12 ∧ w.cell? ⟨g, 13, none⟩ = some c13 ∧ w.cell? ⟨g, 14, none⟩ = some c14 ∧ w.cell? ⟨g, 15, none⟩ = some c15 :=
  ⟨cells_of h 0, cells_of h 1, cells_of h 2, cells_of h 3, cells_of h 4, cells_of h 5, cells_of h 6, cells_of h 7, cells_of h 8, cells_of h 9, cells_of h 10, cells_of h 11, cells_of h 12, cells_of h 13, cells_of h 14, cells_of h 15⟩
set_option maxRecDepth 100000 in
set_option maxHeartbeats 1000000 in
theorem findError_in (b h : Nat) (x : En) (w : World) (H : Has w b h x) : Calls Tryz.prog 65 #[.pointer (some ⟨b, 0, none⟩), .int .i64 (h : Int)] w fun e w' => e = .returned (.tuple #[enV x, .int .i64 0]) ∧ Below w.heap.size w w' := by
  have KF := Lib.hid H.finds
  obtain ⟨ia, in_, ic, hi⟩ := H.its
  obtain ⟨pa, pc, hp, _⟩ := H.parts
  have hpos := H.pos
  obtain ⟨T, u, k, t, n, its, parts, hs, sz, dp, lg, wd⟩ := x
  simp only at hi hp
  subst hi hp
  clear H
  unfold Finds at KF
  unfold enV enC at *
  have hh : ((h : Int) == 0) = false := by simp; omega
  go_enter Tryz.func65, Tryz.ntmps65
  go_wp2_with fail
  refine (KF.out _ ((Below.refl _ _).alloc (Nat.le_refl _) _)).mono ?_
  rintro e w1 ⟨rfl, hb1⟩
  obtain ⟨r0, r1, r2, r3, r4, r5, r6, r7, r8, r9, r10, r11, r12, r13, r14, r15⟩ := cells16 (blk_new hb1)
  have rz := free_of (blk_new hb1)
  have hn : w.heap.size < w1.heap.size := by have := hb1.size; simp at this; omega
  have hn2 : ¬ w.heap.size = w1.heap.size := by omega
  have hn3 : ¬ w1.heap.size = w.heap.size := by omega
  have hA := ((Below.refl w.heap.size w).alloc (Nat.le_refl _) _).trans (hb1.mono (by simp))
  clear hb1
  go_wp2
  refine bodyPost_ret (v := .tuple #[.agg #[.iface T u, .int .u8 k, .bool false, .string t, .int .i16 n, .int .i8 0, .float .f64 0, .float .f64 0, .bool false, .int .u32 0, .slice ia in_ ic, .slice pa hs.length pc, .int .i64 sz, .int .i64 dp, .int .i64 lg, .int .i64 wd], .int .i64 0]) (by simp [results, Tryz.f65, go_sem, hn, r0, r1, r2, r3, r4, r5, r6, r7, r8, r9, r10, r11, r12, r13, r14, r15]) rfl ⟨rfl, ?_⟩
  refine Below.alloc ?_ (by simp; omega) _
  iterate 16 refine Below.setCell ?_ (by simp) _
  exact hA
set_option maxRecDepth 100000 in
theorem Kind_in (b h : Nat) (x : En) (w : World) (H : Has w b h x) : Calls Tryz.prog 46 #[.pointer (some ⟨b, 0, none⟩), .int .i64 (h : Int)] w fun e w' => e = .returned (.tuple #[.int .u8 x.k, .int .i64 0]) ∧ Below w.heap.size w w' := by
  have KF := Lib.hid (findError_in b h x w H)
  obtain ⟨ia, in_, ic, hi⟩ := H.its
  obtain ⟨pa, pc, hp, _⟩ := H.parts
  obtain ⟨T, u, k, t, n, its, parts, hs, sz, dp, lg, wd⟩ := x
  simp only at hi hp
  subst hi hp
  clear H
  unfold enV enC at KF
  go_enter Tryz.func46, Tryz.ntmps46
  go_wp2_with fail
  refine KF.out.mono ?_
  rintro e w1 ⟨rfl, hb1⟩
  go_wp2
  go_ret2
  exact ⟨rfl, hb1.alloc hb1.size _⟩
set_option maxRecDepth 100000 in
theorem Parts_in (b h : Nat) (x : En) (w : World) (H : Has w b h x) (h64 : x.hs.length ≤ 64) : Calls Tryz.prog 47 #[.pointer (some ⟨b, 0, none⟩), .int .i64 (h : Int)] w fun e w' => ∃ v, e = .returned (.tuple #[v, .int .i64 0]) ∧ NSl w' v x.hs ∧ Below w.heap.size w w' := by
  have KF := Lib.hid (H.finds w (Below.refl _ _))
  have KC := Lib.hid (fun W hW => cloneInts_in x.parts x.hs W h64 hW)
  have HP := Lib.hid H.parts
  obtain ⟨ia, in_, ic, hi⟩ := H.its
  obtain ⟨pa, pc, hp, _⟩ := H.parts
  obtain ⟨T, u, k, t, n, its, parts, hs, sz, dp, lg, wd⟩ := x
  simp only at hi hp
  subst hi hp
  clear H
  unfold enV enC at KF
  simp only at KC HP
  generalize hm : hs.length = m at *
  go_enter Tryz.func47, Tryz.ntmps47
  go_wp2_with fail
  refine KF.out.mono ?_
  rintro e w1 ⟨rfl, hb1⟩
  have hB := hb1.alloc hb1.size (.cells #[.iface T u, .int .u8 k, .bool false, .string t, .int .i16 n, .int .i8 0, .float .f64 0, .float .f64 0, .bool false, .int .u32 0, .slice ia in_ ic, .slice pa m pc, .int .i64 sz, .int .i64 dp, .int .i64 lg, .int .i64 wd] 88)
  go_wp2_with fail
  refine (KC.out _ (HP.out.below hB)).mono ?_
  rintro e w2 ⟨v2, rfl, hN, _, hb2⟩
  go_wp2
  go_ret2
  exact ⟨_, rfl, hN, more hB hb2⟩
end Go.Proofs.YtpemfnhplkjndaaGreatDoor.T
