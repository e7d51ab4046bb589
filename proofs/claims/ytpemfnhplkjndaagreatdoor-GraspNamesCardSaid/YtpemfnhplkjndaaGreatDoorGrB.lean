/-
  grasp.walked, grasp.withNodes, grasp.Nodes of an error with nothing within and of a Wrap about such a one.
-/
import Derived.Test.YtpemfnhplkjndaaGreatDoorGrA
set_option linter.unusedVariables false
namespace Go.Proofs.YtpemfnhplkjndaaGreatDoor.T
open Go Go.Lib Go.RowKit
attribute [local go_sem] run_store_float

set_option maxRecDepth 100000 in
theorem walked_none (b h : Nat) (x : En) (w : World) (H : Has w b h x) (h64 : x.hs.length ≤ 64) (k1 : x.k ≠ 14) (k2 : x.k ≠ 15) (k3 : x.k ≠ 16) (k4 : x.k ≠ 26) (k5 : x.k ≠ 25) : Calls Tryz.prog 34 #[.pointer (some ⟨b, 0, none⟩), .int .i64 (h : Int)] w fun e w' => e = .returned (.slice none 0 0) ∧ Below w.heap.size w w' := by
  have KK := Lib.hid (fun W (hW : Below w.heap.size w W) => Kind_in b h x W (H.below hW))
  have KP := Lib.hid (fun W (hW : Below w.heap.size w W) => Parts_in b h x W (H.below hW) h64)
  have e1 : (x.k == 14) = false := by simp [k1]
  have e2 : (x.k == 15) = false := by simp [k2]
  have e3 : (x.k == 16) = false := by simp [k3]
  have e4 : (x.k == 26) = false := by simp [k4]
  have e5 : (x.k == 25) = false := by simp [k5]
  clear H k1 k2 k3 k4 k5
  generalize x.k = k at *
  go_enter Tryz.func34, Tryz.ntmps34
  go_wp2_with fail
  refine (KK.out _ (Below.refl _ _)).mono ?_
  rintro e w1 ⟨rfl, hb1⟩
  go_wp2_with fail
  refine (KP.out _ hb1).mono ?_
  rintro e w2 ⟨v, rfl, hN, hb2⟩
  go_wp2
  go_ret
  exact ⟨rfl, more hb1 hb2⟩
set_option maxRecDepth 100000 in
theorem walked_wrap (b h : Nat) (x : En) (w : World) (H : Has w b h x) (h64 : x.hs.length ≤ 64) (k1 : x.k = 14) : Calls Tryz.prog 34 #[.pointer (some ⟨b, 0, none⟩), .int .i64 (h : Int)] w fun e w' => ∃ v, e = .returned v ∧ NSl w' v x.hs ∧ Below w.heap.size w w' := by
  have KK := Lib.hid (fun W (hW : Below w.heap.size w W) => Kind_in b h x W (H.below hW))
  have KP := Lib.hid (fun W (hW : Below w.heap.size w W) => Parts_in b h x W (H.below hW) h64)
  rw [k1] at KK
  clear H k1
  go_enter Tryz.func34, Tryz.ntmps34
  go_wp2_with fail
  refine (KK.out _ (Below.refl _ _)).mono ?_
  rintro e w1 ⟨rfl, hb1⟩
  go_wp2_with fail
  refine (KP.out _ hb1).mono ?_
  rintro e w2 ⟨v, rfl, hN, hb2⟩
  go_wp2
  go_ret
  exact ⟨v, rfl, hN, more hb1 hb2⟩
/-- a row of numbers of the call's own -/
def IRow (B : Nat) (w : World) (v : Value) (l : List Nat) : Prop := w.ownsRow B 3 1 v l.length (l.map fun x : Nat => Value.int .i64 (x : Int))
theorem IRow.nil (B : Nat) (w : World) : IRow B w (.slice none 0 0) [] := World.ownsRow_nil _ _ _ _
theorem IRow.below {B : Nat} {w w' : World} {v : Value} {l : List Nat} (h : IRow B w v l) (hb : Below w.heap.size w w') : IRow B w' v l := row_none h (below_grown hb)
theorem IRow.own_le {B : Nat} {w : World} {v : Value} {l : List Nat} (h : IRow B w v l) : ∀ k, v.ownBlock = some k → B ≤ k := fun k hk => by
  rcases h.2 with ⟨rfl, _⟩ | ⟨q, c, cur, rfl, hq, _⟩
  · cases hk
  · simp only [Value.ownBlock, Option.some.injEq] at hk; omega
set_option maxRecDepth 100000 in
set_option maxHeartbeats 1000000 in
theorem withNodes_leaf (b h : Nat) (x : En) (w0 : World) (H : Has w0 b h x) (h64 : x.hs.length ≤ 64) (k1 : x.k ≠ 14) (k2 : x.k ≠ 15) (k3 : x.k ≠ 16) (k4 : x.k ≠ 26) (k5 : x.k ≠ 25) (v : Value) (l : List Nat) (hl : l.length < 5000) (w : World) (hW : Below w0.heap.size w0 w) (hr : IRow w0.heap.size w v l) :
    Calls Tryz.prog 24 #[v, .pointer (some ⟨b, 0, none⟩), .int .i64 (h : Int)] w fun e w' => ∃ v', e = .returned v' ∧ IRow w0.heap.size w' v' (l ++ [h]) ∧ Below w0.heap.size w0 w' := by
  obtain ⟨i0, hi, hz0, hz1, hz2⟩ := info_parts infoInt
  have hpos := H.pos
  have hh : ((h : Int) == 0) = false := by simp; omega
  have KK := Lib.hid (fun W (hW : Below w0.heap.size w0 W) => walked_none b h x W (H.below hW) h64 k1 k2 k3 k4 k5)
  have hz := hW.size
  clear H k1 k2 k3 k4 k5
  unfold IRow at hr
  have HR := Lib.hid hr
  have HO := Lib.hid (IRow.own_le hr)
  clear hr
  go_enter Tryz.func24, Tryz.ntmps24
  go_wp2_with (at_builtin; refine wpList_append_own _ rfl (.tmp 12) (.tmp 14) 38 rfl w0.heap.size 3 i0 (.int .i64 0) 1 8 Tryz.underlying38 hi hz0 hz1 hz2 rfl (by decide) v l.length _ rfl (HR.out.alloc _) ⟨w.heap.size, 0, none⟩ 1 1 [.int .i64 h] rfl rfl (cell1_in _ _ _ _ (by simp)) (by simp [Value.oneCell']) (by unfold maxLen; omega) (by omega) (by simp; omega) ?_; intro v' w3 hown' hgrow _)
  have hb3 : Below w0.heap.size w0 w3 := (hW.alloc hz _).trans (grown_below hgrow (by simp; omega) HO.out)
  refine (KK.out _ hb3).mono ?_
  rintro e w4 ⟨rfl, hb4⟩
  go_wp2_with fail
  refine wp_loop_rounds 1 ?_
  rw [rounds_succ]
  go_wp2
  go_ret
  refine ⟨v', rfl, ?_, hb3.trans (hb4.mono hb3.size)⟩
  refine IRow.below (w := w3) ?_ hb4
  unfold IRow
  simpa using hown'
set_option maxRecDepth 100000 in
set_option maxHeartbeats 1000000 in
theorem withNodes_wrap (b h h1 : Nat) (x y : En) (w0 : World) (H : Has w0 b h x) (k1 : x.k = 14) (hhs : x.hs = [h1]) (H1 : Has w0 b h1 y) (h64 : y.hs.length ≤ 64) (y1 : y.k ≠ 14) (y2 : y.k ≠ 15) (y3 : y.k ≠ 16) (y4 : y.k ≠ 26) (y5 : y.k ≠ 25) (v : Value) (l : List Nat) (hl : l.length < 4000) (w : World) (hW : Below w0.heap.size w0 w) (hr : IRow w0.heap.size w v l) :
    Calls Tryz.prog 24 #[v, .pointer (some ⟨b, 0, none⟩), .int .i64 (h : Int)] w fun e w' => ∃ v', e = .returned v' ∧ IRow w0.heap.size w' v' (l ++ [h] ++ [h1]) ∧ Below w0.heap.size w0 w' := by
  obtain ⟨i0, hi, hz0, hz1, hz2⟩ := info_parts infoInt
  have hpos := H.pos
  have hh : ((h : Int) == 0) = false := by simp; omega
  have KK := Lib.hid (fun W (hW : Below w0.heap.size w0 W) => walked_wrap b h x W (H.below hW) (by rw [hhs]; simp) k1)
  have KL := Lib.hid (fun v' W (hW : Below w0.heap.size w0 W) (hr' : IRow w0.heap.size W v' (l ++ [h])) => withNodes_leaf b h1 y w0 H1 h64 y1 y2 y3 y4 y5 v' (l ++ [h]) (by simp; omega) W hW hr')
  have hz := hW.size
  rw [hhs] at KK
  clear H H1 k1 hhs y1 y2 y3 y4 y5
  unfold IRow at hr
  have HR := Lib.hid hr
  have HO := Lib.hid (IRow.own_le hr)
  clear hr
  go_enter Tryz.func24, Tryz.ntmps24
  go_wp2_with (at_builtin; refine wpList_append_own _ rfl (.tmp 12) (.tmp 14) 38 rfl w0.heap.size 3 i0 (.int .i64 0) 1 8 Tryz.underlying38 hi hz0 hz1 hz2 rfl (by decide) v l.length _ rfl (HR.out.alloc _) ⟨w.heap.size, 0, none⟩ 1 1 [.int .i64 h] rfl rfl (cell1_in _ _ _ _ (by simp)) (by simp [Value.oneCell']) (by unfold maxLen; omega) (by omega) (by simp; omega) ?_; intro v' w3 hown' hgrow _)
  have hb3 : Below w0.heap.size w0 w3 := (hW.alloc hz _).trans (grown_below hgrow (by simp; omega) HO.out)
  have hr3 : IRow w0.heap.size w3 v' (l ++ [h]) := by
    unfold IRow
    simpa using hown'
  refine (KK.out _ hb3).mono ?_
  rintro e w4 ⟨u, rfl, hN, hb4⟩
  obtain ⟨a, c, rfl, _, hcell⟩ := hN.at
  obtain ⟨pb, po, rfl, hpb, hcell⟩ := hcell (by simp)
  have hc0 := hcell 0 h1 rfl
  simp only [Nat.add_zero, List.length_cons, List.length_nil, Nat.zero_add] at hc0 ⊢
  have HR4 := Lib.hid (hr3.below hb4)
  have hb4' := hb3.trans (hb4.mono hb3.size)
  clear hcell hown' hr3
  go_wp2_with fail
  refine wp_loop_rounds 2 ?_
  rw [rounds_succ]
  go_wp2_with fail
  refine (KL.out _ _ hb4' HR4.out).mono ?_
  rintro e w5 ⟨v5, rfl, hr5, hb5⟩
  have HR5 := Lib.hid hr5
  clear hr5
  go_wp2_with fail
  rw [rounds_succ]
  go_wp2_with fail
  go_ret
  exact ⟨v5, rfl, HR5.out, hb5⟩
end Go.Proofs.YtpemfnhplkjndaaGreatDoor.T
