/-
  A book as plain data: what is found under a handle.
-/
import Derived.Test.YtpemfnhplkjndaaGreatDoorMkLong
set_option linter.unusedVariables false
namespace Go.Proofs.YtpemfnhplkjndaaGreatDoor.T
open Go Go.Lib Go.RowKit
attribute [local go_sem] run_store_float

/-- what a book keeps of an error -/
structure En where
  T : TypeId
  u : Value
  k : Int
  t : ByteArray
  n : Int
  its : Value
  parts : Value
  hs : List Nat
  sz : Nat
  dp : Nat
  lg : Nat
  wd : Nat
def enC (x : En) : Array Value := #[.iface x.T x.u, .int .u8 x.k, .bool false, .string x.t, .int .i16 x.n, .int .i8 0, .float .f64 0, .float .f64 0, .bool false, .int .u32 0, x.its, x.parts, .int .i64 x.sz, .int .i64 x.dp, .int .i64 x.lg, .int .i64 x.wd]
def enV (x : En) : Value := .agg (enC x)
/-- the one that stands for no error -/
def enZ : Value := .agg #[.nilIface, .int .u8 0, .bool false, .string ⟨#[]⟩, .int .i16 0, .int .i8 0, .float .f64 0, .float .f64 0, .bool false, .int .u32 0, .slice none 0 0, .slice none 0 0, .int .i64 0, .int .i64 0, .int .i64 0, .int .i64 0]
/-- a slice that reads as these numbers -/
def NSl (w : World) (v : Value) (l : List Nat) : Prop :=
  ∃ a c, v = .slice a l.length c ∧ l.length ≤ c ∧ (l ≠ [] → ∃ (pb po : Nat) (cs : Array Value) (fr : Nat × Nat), a = some ⟨pb, po, none⟩ ∧ w.heap[pb]? = some (.cells cs 3 fr) ∧ ∀ (j h : Nat), l[j]? = some h → cs[po + j]? = some (.int .i64 h))
theorem NSl.below {w w' : World} {v : Value} {l : List Nat} (h : NSl w v l) (hb : Below w.heap.size w w') : NSl w' v l := by
  obtain ⟨a, c, rfl, hc, h⟩ := h
  refine ⟨a, c, rfl, hc, fun hne => ?_⟩
  obtain ⟨pb, po, cs, fr, rfl, hblk, hcell⟩ := h hne
  exact ⟨pb, po, cs, fr, rfl, (hb.block pb (Array.getElem?_eq_some_iff.1 hblk).1).trans hblk, hcell⟩
theorem NSl.at {w : World} {v : Value} {l : List Nat} (h : NSl w v l) : ∃ a c, v = .slice a l.length c ∧ l.length ≤ c ∧ (l ≠ [] → ∃ pb po, a = some ⟨pb, po, none⟩ ∧ pb < w.heap.size ∧ ∀ (j h : Nat), l[j]? = some h → w.cell? ⟨pb, po + j, none⟩ = some (.int .i64 h)) := by
  obtain ⟨a, c, rfl, hc, h⟩ := h
  refine ⟨a, c, rfl, hc, fun hne => ?_⟩
  obtain ⟨pb, po, cs, fr, rfl, hblk, hcell⟩ := h hne
  exact ⟨pb, po, rfl, (Array.getElem?_eq_some_iff.1 hblk).1, fun j x hx => by simp [World.cell?, hblk, hcell j x hx]⟩
theorem NSl.nil (w : World) : NSl w (.slice none 0 0) [] := ⟨none, 0, rfl, Nat.le_refl _, fun h => absurd rfl h⟩
/-- an entry of a book -/
structure EnAt (w : World) (g : Nat) (x : En) : Prop where
  blk : w.heap[g]? = some (.cells (enC x) 88 (0, 0))
  its : ∃ a n c, x.its = .slice a n c
  parts : NSl w x.parts x.hs
def ptrV (g : Nat) : Value := .pointer (some ⟨g, 0, none⟩)
/-- a book that keeps these -/
def BkAt (B : Nat) (w : World) (b : Nat) (es : List En) : Prop :=
  B ≤ b ∧ es.length ≤ 65536 ∧ ∃ (v : Value) (gs : List Nat), w.heap[b]? = some (.cells #[v] 60 (0, 0)) ∧ w.ownsRow B 99 1 v es.length (gs.map ptrV) ∧ gs.length = es.length ∧ ∀ (j g : Nat) (x : En), gs[j]? = some g → es[j]? = some x → EnAt w g x
theorem blk_lt {w : World} {g : Nat} {o : Obj} (h : w.heap[g]? = some o) : g < w.heap.size := (Array.getElem?_eq_some_iff.1 h).1
theorem cells_of {w : World} {g : Nat} {cs : Array Value} {t : TypeId} {f : Nat × Nat} (h : w.heap[g]? = some (.cells cs t f)) (j : Nat) : w.cell? ⟨g, j, none⟩ = cs[j]? := by simp [World.cell?, h]
theorem free_of {w : World} {g : Nat} {cs : Array Value} {t : TypeId} (h : w.heap[g]? = some (.cells cs t (0, 0))) (j : Nat) : w.frozen? ⟨g, j, none⟩ = false := by simp [World.frozen?, h]
theorem EnAt.below {w w' : World} {g : Nat} {x : En} (h : EnAt w g x) (hb : Below w.heap.size w w') : EnAt w' g x := ⟨(hb.block g (blk_lt h.blk)).trans h.blk, h.its, h.parts.below hb⟩
theorem below_grown {w w' : World} (h : Below w.heap.size w w') : w.grownBy w' none := ⟨h.os, h.tape, h.output, h.size, fun k hk _ => h.block k hk⟩
theorem row_none {w w' : World} {base : Nat} {e : TypeId} {size : Nat} {v : Value} {n : Nat} {xs : List Value} (h : w.ownsRow base e size v n xs) (hg : w.grownBy w' none) : w'.ownsRow base e size v n xs := by
  refine h.kept hg ?_
  cases v.ownBlock with
  | none => exact .inl rfl
  | some g => exact .inr (by simp)
theorem BkAt.below {B : Nat} {w w' : World} {b : Nat} {es : List En} (h : BkAt B w b es) (hb : Below w.heap.size w w') : BkAt B w' b es := by
  obtain ⟨h1, h2, v, gs, h3, h4, h5, h6⟩ := h
  exact ⟨h1, h2, v, gs, (hb.block b (blk_lt h3)).trans h3, row_none h4 (below_grown hb), h5, fun j g x hg hx => (h6 j g x hg hx).below hb⟩
theorem BkAt.lt {B : Nat} {w : World} {b : Nat} {es : List En} (h : BkAt B w b es) : b < w.heap.size := by
  obtain ⟨_, _, v, gs, h3, _⟩ := h
  exact blk_lt h3
/-- what a walk wants of it -/
theorem BkAt.open {B : Nat} {w : World} {b : Nat} {es : List En} (h : BkAt B w b es) : ∃ a c, w.cell? ⟨b, 0, none⟩ = some (.slice a es.length c) ∧ ∀ (j : Nat) (x : En), es[j]? = some x → ∃ g q, a = some ⟨q, 0, none⟩ ∧ w.cell? ⟨q, j, none⟩ = some (ptrV g) ∧ EnAt w g x := by
  obtain ⟨_, _, v, gs, h3, h4, h5, h6⟩ := h
  have h4' := h4
  rcases h4.2 with ⟨rfl, h0⟩ | ⟨q, cap, cur, rfl, hq, _⟩
  · refine ⟨none, 0, by rw [h0]; exact cells_of h3 0, fun j x hx => ?_⟩
    have := (List.getElem?_eq_some_iff.1 hx).1
    omega
  · refine ⟨_, _, cells_of h3 0, fun j x hx => ?_⟩
    have hj := (List.getElem?_eq_some_iff.1 hx).1
    obtain ⟨g, hg⟩ : ∃ g, gs[j]? = some g := ⟨gs[j], List.getElem?_eq_getElem (by omega)⟩
    refine ⟨g, q, rfl, ?_, h6 j g x hg hx⟩
    have := h4'.cells (g := q) rfl j (ptrV g) (by simp [hg])
    have e : ((⟨q, 0, none⟩ : Addr).add j) = ⟨q, j, none⟩ := by unfold Addr.add; split <;> simp_all
    rw [e] at this
    exact this
set_option maxRecDepth 100000 in
set_option maxHeartbeats 1000000 in
theorem find_in {B : Nat} {b : Nat} {es : List En} (j : Nat) (x : En) (w : World) (h : BkAt B w b es) (hx : es[j]? = some x) :
    Calls Tryz.prog 32 #[.pointer (some ⟨b, 0, none⟩), .int .i64 ((j + 1 : Nat) : Int)] w fun e w' => e = .returned (.tuple #[enV x, .int .i64 0]) ∧ Below w.heap.size w w' := by
  have hjl := (List.getElem?_eq_some_iff.1 hx).1
  have h65 := h.2.1
  have hbW : Below w.heap.size w (w.alloc (.cells #[.nilIface, .int .u8 0, .bool false, .string ⟨#[]⟩, .int .i16 0, .int .i8 0, .float .f64 0, .float .f64 0, .bool false, .int .u32 0, .slice none 0 0, .slice none 0 0, .int .i64 0, .int .i64 0, .int .i64 0, .int .i64 0] 88)) := (Below.refl _ _).alloc (Nat.le_refl _) _
  obtain ⟨a, c, h0, h1⟩ := (h.below hbW).open
  obtain ⟨g, q, rfl, h2, h3⟩ := h1 j x hx
  clear h1
  have hc := cells_of h3.blk
  obtain ⟨ia, in_, ic, hi⟩ := h3.its
  obtain ⟨pa, pc, hp, _⟩ := h3.parts
  obtain ⟨T, u, k, t, n, its, parts, hs, sz, dp, lg, wd⟩ := x
  simp only at hi hp
  subst hi hp
  unfold enC at hc
  have c0 := hc 0; have c1 := hc 1; have c2 := hc 2; have c3 := hc 3; have c4 := hc 4; have c5 := hc 5; have c6 := hc 6; have c7 := hc 7; have c8 := hc 8; have c9 := hc 9; have c10 := hc 10; have c11 := hc 11; have c12 := hc 12; have c13 := hc 13; have c14 := hc 14; have c15 := hc 15
  simp only [List.getElem?_toArray, List.getElem?_cons_zero, List.getElem?_cons_succ] at c0 c1 c2 c3 c4 c5 c6 c7 c8 c9 c10 c11 c12 c13 c14 c15
  unfold ptrV at h2
  generalize es.length = N at *
  have hd : decide (((N : Nat) : Int) < ((j : Nat) : Int) + 1) = false := by simp; omega
  clear hc h3 h hbW
  unfold enV enC
  go_enter Tryz.func32, Tryz.ntmps32
  go_wp2
  exact bodyPost_ret (v := .tuple #[.agg #[.iface T u, .int .u8 k, .bool false, .string t, .int .i16 n, .int .i8 0, .float .f64 0, .float .f64 0, .bool false, .int .u32 0, .slice ia in_ ic, .slice pa hs.length pc, .int .i64 sz, .int .i64 dp, .int .i64 lg, .int .i64 wd], .int .i64 0]) (by simp [results, Tryz.f32, go_sem]) rfl ⟨rfl, by repeat (first | exact (Below.refl _ _).alloc (Nat.le_refl _) _ | (refine Below.setCell ?_ (by simp) _))⟩
end Go.Proofs.YtpemfnhplkjndaaGreatDoor.T
