/-
  book.New; book.Make of a Code, a Wrap, a Veil.
-/
import Derived.Test.YtpemfnhplkjndaaGreatDoorMkMakeB
set_option linter.unusedVariables false
namespace Go.Proofs.YtpemfnhplkjndaaGreatDoor.T
open Go Go.Lib Go.RowKit
attribute [local go_sem] run_store_float

theorem new_in (w : World) : Calls Tryz.prog 14 #[] w fun e w' => e = .returned (.pointer (some ⟨w.heap.size, 0, none⟩)) ∧ BkAt w.heap.size w' w.heap.size [] ∧ Below w.heap.size w w' := by
  go_enter Tryz.func14, Tryz.ntmps14
  go_wp2
  go_ret
  exact ⟨rfl, ⟨Nat.le_refl _, by simp, .slice none 0 0, [], blk_new (Below.refl _ _), World.ownsRow_nil _ _ _ _, rfl, fun j g x hg => by simp at hg⟩, (Below.refl _ _).alloc (Nat.le_refl _) _⟩
/-- a Code in a book -/
def codeE (i : Nat) (its ps : Value) : En := ⟨72, .int .i16 i, 1, ⟨#[]⟩, i, its, ps, [], 1, 1, (codeB i).size, 0⟩
theorem made_code (i : Nat) (hi : i < 100) (b : Nat) (p q : Option Addr) (c d : Nat) (w : World) :
    Makes w b (spV 1 ⟨#[]⟩ i (.slice p 0 c) (.slice q 0 d)) (.slice q 0 d) (fun _ pv => pv = .slice none 0 0) (fun _ T u => T = 72 ∧ u = .int .i16 i) 1 1 (codeB i).size 0 where
  errs W _ := (errorsOf_nil _ _ _ W).mono (by rintro e w' ⟨rfl, rfl⟩; exact ⟨_, rfl, rfl, Below.refl _ _⟩)
  make W _ pv hpv := by
    subst hpv
    refine (make_code i p q c d none 0 W).mono ?_
    rintro e w' ⟨rfl, hb⟩
    exact ⟨_, _, rfl, ⟨rfl, rfl⟩, hb⟩
  bulk W _ := bulkOf_nil 1 ⟨#[]⟩ i p q _ c d (by decide) _ W (fun V hV => long_code i hi p q c d _ V)
  keep _ _ _ _ h _ := h
  bsz := by decide
  bdp := by decide
  blg := by have := codeB_size i hi; omega
  bwd := by decide
theorem Make_code {B b : Nat} {es : List En} (i : Nat) (hi : i < 100) (p q : Option Addr) (c d : Nat) (w : World) (h : BkAt B w b es) (hB : B ≤ w.heap.size) (hroom : es.length < 65536) :
    Calls Tryz.prog 26 #[.pointer (some ⟨b, 0, none⟩), spV 1 ⟨#[]⟩ i (.slice p 0 c) (.slice q 0 d)] w fun e w' => ∃ its ps, e = .returned (.tuple #[.int .i64 ((es.length + 1 : Nat) : Int), .int .i64 0]) ∧ BkAt B w' b (es ++ [codeE i its ps]) ∧ KeepB w w' ∧ Below B w w' := by
  refine (Make_gen 1 ⟨#[]⟩ i p c (.slice q 0 d) [] _ _ _ _ _ _ w h hB hroom (by decide) (by simp) ⟨q, d, rfl, Nat.zero_le _, fun h => absurd rfl h⟩ (made_code i hi b p q c d w)).mono ?_
  rintro e w' ⟨T, u, its, ps, rfl, ⟨rfl, rfl⟩, h1, h2, h3⟩
  exact ⟨its, ps, rfl, h1, h2, h3⟩
/-- that error stands in that cell -/
def OneErr (x : En) (W : World) (pv : Value) : Prop := ∃ g z, pv = .slice (some ⟨g, 0, none⟩) 1 z ∧ W.cell? ⟨g, 0, none⟩ = some (.iface x.T x.u)
/-- a Wrap in a book -/
def WrapAt (t : ByteArray) (x : En) (W : World) (T : TypeId) (u : Value) : Prop := ∃ g, T = 137 ∧ u = .pointer (some ⟨g, 0, none⟩) ∧ W.heap[g]? = some (.cells #[.string t, .iface x.T x.u] 185 (0, 0))
def wrapE (t : ByteArray) (x : En) (j : Nat) (u its ps : Value) : En := ⟨137, u, 14, t, 0, its, ps, [j + 1], 1 + x.sz, x.dp + 1, t.size + (2 + x.lg), t.size + x.wd⟩
theorem en_slices {w : World} {g : Nat} {x : En} (h : EnAt w g x) : ∃ a n c, x.parts = .slice a n c := by
  obtain ⟨a, c, hv, _⟩ := h.parts
  exact ⟨a, _, c, hv⟩
theorem BkAt.slices {B : Nat} {w : World} {b : Nat} {es : List En} (h : BkAt B w b es) (j : Nat) (x : En) (hx : es[j]? = some x) : (∃ a n c, x.its = .slice a n c) ∧ ∃ a n c, x.parts = .slice a n c := by
  obtain ⟨a, c, _, h1⟩ := h.open
  obtain ⟨g, q, _, _, h2⟩ := h1 j x hx
  exact ⟨h2.its, en_slices h2⟩
theorem made_wrap {B b : Nat} {es : List En} (t : ByteArray) (ht : t.size ≤ 4096) (j : Nat) (x : En) (hx : es[j]? = some x) (p : Option Addr) (c d pb po : Nat) (w : World) (h : BkAt B w b es) (hc : w.cell? ⟨pb, po, none⟩ = some (.int .i64 ((j + 1 : Nat) : Int)))
    (b1 : x.sz < 4096) (b2 : x.dp < 64) (b3 : t.size + (2 + x.lg) ≤ 65536) (b4 : t.size + x.wd ≤ 1048576) :
    Makes w b (spV 14 t 0 (.slice p 0 c) (.slice (some ⟨pb, po, none⟩) 1 d)) (.slice (some ⟨pb, po, none⟩) 1 d) (OneErr x) (WrapAt t x) (1 + x.sz) (x.dp + 1) (t.size + (2 + x.lg)) (t.size + x.wd) where
  errs W hW := by
    have hlt : pb < w.heap.size := World.block_lt_of_cell? _ _ hc
    refine (errorsOf_one b (j + 1) x W (finds_in j x W (h.below hW) hx) (h.slices j x hx).1 (h.slices j x hx).2 pb po d ((hW.cell (p := ⟨pb, po, none⟩) hlt).trans hc)).mono ?_
    rintro e w' ⟨g, z, rfl, hg, hb⟩
    exact ⟨_, rfl, ⟨g, z, rfl, hg⟩, hb⟩
  make W _ pv hpv := by
    obtain ⟨g, z, rfl, hg⟩ := hpv
    refine (make_wrap t ht p _ c d g 0 z x.T x.u W hg).mono ?_
    rintro e w' ⟨g', rfl, _, hg', hb⟩
    exact ⟨_, _, rfl, ⟨g', rfl, rfl, hg'⟩, hb⟩
  bulk W hW := by
    have hlt : pb < w.heap.size := World.block_lt_of_cell? _ _ hc
    have hc' := (hW.cell (p := ⟨pb, po, none⟩) hlt).trans hc
    have hlt' : pb < W.heap.size := Nat.lt_of_lt_of_le hlt hW.size
    exact bulkOf_one 14 t 0 p c d pb po ht b (j + 1) x W (finds_in j x W (h.below hW) hx) (h.slices j x hx).1 (h.slices j x hx).2 hc' (by omega) (by omega) (by omega) (by omega) _
      (fun V hV g z hz => long_wrap t ht p c d pb po (j + 1) (by omega) g 0 z x.lg (by omega) V ((hV.cell (p := ⟨pb, po, none⟩) hlt').trans hc') hz)
  keep W W' T u := by
    rintro ⟨g, rfl, rfl, hg⟩ hk
    refine ⟨g, rfl, rfl, hk.blk g _ hg (fun cs fr e => ?_) (fun cs fr e => ?_)⟩
    · injection e with _ h2 _; exact absurd h2 (by decide)
    · injection e with _ h2 _; exact absurd h2 (by decide)
  bsz := by omega
  bdp := by omega
  blg := b3
  bwd := b4
theorem Make_wrap {B b : Nat} {es : List En} (t : ByteArray) (ht : t.size ≤ 4096) (j : Nat) (x : En) (hx : es[j]? = some x) (p : Option Addr) (c d pb po : Nat) (w : World) (h : BkAt B w b es) (hB : B ≤ w.heap.size) (hroom : es.length < 65536) (hps : NSl w (.slice (some ⟨pb, po, none⟩) 1 d) [j + 1])
    (b1 : x.sz < 4096) (b2 : x.dp < 64) (b3 : t.size + (2 + x.lg) ≤ 65536) (b4 : t.size + x.wd ≤ 1048576) :
    Calls Tryz.prog 26 #[.pointer (some ⟨b, 0, none⟩), spV 14 t 0 (.slice p 0 c) (.slice (some ⟨pb, po, none⟩) 1 d)] w fun e w' => ∃ u its ps, e = .returned (.tuple #[.int .i64 ((es.length + 1 : Nat) : Int), .int .i64 0]) ∧ WrapAt t x w' 137 u ∧ BkAt B w' b (es ++ [wrapE t x j u its ps]) ∧ KeepB w w' ∧ Below B w w' := by
  have hc : w.cell? ⟨pb, po, none⟩ = some (.int .i64 ((j + 1 : Nat) : Int)) := by
    obtain ⟨a, c', e, _, hh⟩ := hps.at
    cases e
    obtain ⟨pb', po', e, _, hcell⟩ := hh (by simp)
    cases e
    have := hcell 0 (j + 1) rfl
    simpa using this
  refine (Make_gen 14 t 0 p c (.slice (some ⟨pb, po, none⟩) 1 d) [j + 1] _ _ _ _ _ _ w h hB hroom ht (by simp) hps (made_wrap t ht j x hx p c d pb po w h hc b1 b2 b3 b4)).mono ?_
  rintro e w' ⟨T, u, its, ps, rfl, hpm, h1, h2, h3⟩
  obtain ⟨g, rfl, rfl, hg⟩ := id hpm
  exact ⟨_, its, ps, rfl, hpm, h1, h2, h3⟩
def veilE (x : En) (j : Nat) (its ps : Value) : En := ⟨190, .agg #[.iface x.T x.u], 20, ⟨#[]⟩, 0, its, ps, [j + 1], 1 + x.sz, x.dp + 1, 4 + (2 + x.lg), 0 + x.wd⟩
theorem made_veil {B b : Nat} {es : List En} (j : Nat) (x : En) (hx : es[j]? = some x) (p : Option Addr) (c d pb po : Nat) (w : World) (h : BkAt B w b es) (hc : w.cell? ⟨pb, po, none⟩ = some (.int .i64 ((j + 1 : Nat) : Int)))
    (b1 : x.sz < 4096) (b2 : x.dp < 64) (b3 : 4 + (2 + x.lg) ≤ 65536) (b4 : x.wd ≤ 1048576) :
    Makes w b (spV 20 ⟨#[]⟩ 0 (.slice p 0 c) (.slice (some ⟨pb, po, none⟩) 1 d)) (.slice (some ⟨pb, po, none⟩) 1 d) (OneErr x) (fun _ T u => T = 190 ∧ u = .agg #[.iface x.T x.u]) (1 + x.sz) (x.dp + 1) (4 + (2 + x.lg)) (0 + x.wd) where
  errs W hW := by
    have hlt : pb < w.heap.size := World.block_lt_of_cell? _ _ hc
    refine (errorsOf_one b (j + 1) x W (finds_in j x W (h.below hW) hx) (h.slices j x hx).1 (h.slices j x hx).2 pb po d ((hW.cell (p := ⟨pb, po, none⟩) hlt).trans hc)).mono ?_
    rintro e w' ⟨g, z, rfl, hg, hb⟩
    exact ⟨_, rfl, ⟨g, z, rfl, hg⟩, hb⟩
  make W _ pv hpv := by
    obtain ⟨g, z, rfl, hg⟩ := hpv
    refine (make_veil p _ c d g 0 z x.T x.u W hg).mono ?_
    rintro e w' ⟨rfl, hb⟩
    exact ⟨_, _, rfl, ⟨rfl, rfl⟩, hb⟩
  bulk W hW := by
    have hlt : pb < w.heap.size := World.block_lt_of_cell? _ _ hc
    have hc' := (hW.cell (p := ⟨pb, po, none⟩) hlt).trans hc
    have hlt' : pb < W.heap.size := Nat.lt_of_lt_of_le hlt hW.size
    exact bulkOf_one 20 ⟨#[]⟩ 0 p c d pb po (by decide) b (j + 1) x W (finds_in j x W (h.below hW) hx) (h.slices j x hx).1 (h.slices j x hx).2 hc' (by omega) (by omega) (by omega) (by omega) _
      (fun V hV g z hz => long_veil p c d pb po (j + 1) (by omega) g 0 z x.lg (by omega) V ((hV.cell (p := ⟨pb, po, none⟩) hlt').trans hc') hz)
  keep _ _ _ _ h _ := h
  bsz := by omega
  bdp := by omega
  blg := b3
  bwd := by omega
theorem Make_veil {B b : Nat} {es : List En} (j : Nat) (x : En) (hx : es[j]? = some x) (p : Option Addr) (c d pb po : Nat) (w : World) (h : BkAt B w b es) (hB : B ≤ w.heap.size) (hroom : es.length < 65536) (hps : NSl w (.slice (some ⟨pb, po, none⟩) 1 d) [j + 1])
    (b1 : x.sz < 4096) (b2 : x.dp < 64) (b3 : 4 + (2 + x.lg) ≤ 65536) (b4 : x.wd ≤ 1048576) :
    Calls Tryz.prog 26 #[.pointer (some ⟨b, 0, none⟩), spV 20 ⟨#[]⟩ 0 (.slice p 0 c) (.slice (some ⟨pb, po, none⟩) 1 d)] w fun e w' => ∃ its ps, e = .returned (.tuple #[.int .i64 ((es.length + 1 : Nat) : Int), .int .i64 0]) ∧ BkAt B w' b (es ++ [veilE x j its ps]) ∧ KeepB w w' ∧ Below B w w' := by
  have hc : w.cell? ⟨pb, po, none⟩ = some (.int .i64 ((j + 1 : Nat) : Int)) := by
    obtain ⟨a, c', e, _, hh⟩ := hps.at
    cases e
    obtain ⟨pb', po', e, _, hcell⟩ := hh (by simp)
    cases e
    have := hcell 0 (j + 1) rfl
    simpa using this
  refine (Make_gen 20 ⟨#[]⟩ 0 p c (.slice (some ⟨pb, po, none⟩) 1 d) [j + 1] _ _ _ _ _ _ w h hB hroom (by decide) (by simp) hps (made_veil j x hx p c d pb po w h hc b1 b2 b3 b4)).mono ?_
  rintro e w' ⟨T, u, its, ps, rfl, ⟨rfl, rfl⟩, h1, h2, h3⟩
  exact ⟨its, ps, rfl, h1, h2, h3⟩
end Go.Proofs.YtpemfnhplkjndaaGreatDoor.T
