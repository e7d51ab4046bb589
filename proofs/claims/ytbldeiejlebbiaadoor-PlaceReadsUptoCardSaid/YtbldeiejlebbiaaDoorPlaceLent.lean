/-
  erratalaw03.lent, same, kept.
-/
import Derived.Laws.StructEq
import Derived.Test.YtbldeiejlebbiaaDoorPlaceSpoil
set_option linter.unusedVariables false
namespace Go.Proofs.YtbldeiejlebbiaaDoor.T
open Go Go.Lib Go.RowKit

/-- the place that marks the end -/
def mark : Pl := ⟨⟨#[35]⟩, 7⟩
/-- places that were lent: they lie in a block of their own at least B, the mark behind them -/
def Lent (B : Nat) (w : World) (v : Value) (l : List Pl) : Prop :=
  ∃ g cap, v = .slice (some ⟨g, 0, none⟩) l.length cap ∧ w.ownsRow B 39 2 (.slice (some ⟨g, 0, none⟩) (l.length + 1) cap) (l.length + 1) (plCs (l ++ [mark]))
theorem Lent.grown {B : Nat} {w w' : World} {v : Value} {l : List Pl} {row : Option Nat} (h : Lent B w v l) (hg : w.grownBy w' row) (hne : v.ownBlock ≠ row) : Lent B w' v l := by
  obtain ⟨g, cap, rfl, hr⟩ := h
  exact ⟨g, cap, rfl, World.ownsRow.kept hr hg (.inr hne)⟩
theorem Lent.below {B : Nat} {w w' : World} {v : Value} {l : List Pl} (h : Lent B w v l) (hb : Below w.heap.size w w') : Lent B w' v l := by
  obtain ⟨g, cap, rfl, hr⟩ := h
  exact ⟨g, cap, rfl, row_none hr (below_grown hb)⟩
theorem Lent.sl {B : Nat} {w : World} {v : Value} {l : List Pl} (h : Lent B w v l) : PlSl w.heap.size w v l := by
  obtain ⟨g, cap, rfl, hr⟩ := h
  have hr' : PRow 39 B w (.slice (some ⟨g, 0, none⟩) (l.length + 1) cap) (l ++ [mark]) := by
    unfold PRow
    rw [List.length_append]
    exact hr
  obtain ⟨a, c, e, h1, h2, h3⟩ := PRow.sl hr'
  obtain ⟨bk, o, e2, h4, h5⟩ := h3 (by simp)
  simp only [Value.slice.injEq] at e
  obtain ⟨rfl, _, rfl⟩ := e
  cases e2
  have := h5.take l.length
  rw [List.take_left] at this
  simp at h1
  exact ⟨_, _, rfl, by omega, h2, fun _ => ⟨g, 0, rfl, h4, this⟩⟩
theorem Lent.any {B : Nat} {w : World} {v : Value} {l : List Pl} (h : Lent B w v l) : AnyRow 39 B w v l.length := by
  obtain ⟨g, cap, rfl, hl, h | ⟨g', cap', cur, hv, h1, h2, h3, h4, h5, h6⟩⟩ := h
  · cases h.1
  · cases hv
    exact ⟨_, by rw [List.length_take, show cur.toList.length = cap * 2 from by rw [Array.length_toList]; exact h5]; exact Nat.min_eq_left (Nat.mul_le_mul_right _ (by omega)), .inr ⟨g, cap, cur, rfl, h1, h2, by omega, h4, h5, rfl⟩⟩

theorem own_slice {w : World} {B : Nat} {e : TypeId} {size : Nat} {v : Value} {n : Nat} {xs : List Value} (h : w.ownsRow B e size v (n + 1) xs) : ∃ g cap, v = .slice (some ⟨g, 0, none⟩) (n + 1) cap ∧ n + 1 ≤ cap := by
  rcases h.2 with ⟨_, h0⟩ | ⟨g, cap, cur, hv, _, _, h3, _⟩
  · omega
  · exact ⟨g, cap, hv, h3⟩
theorem slice_front (bk o n c k : Nat) (hk : k ≤ c) (hc : 0 < c) (W : World) : (Instr.slice 23 (.slice (some ⟨bk, o, none⟩) n c) none (some (.int .i64 (k : Int))) none).run Tryd.prog W = .ok (.slice (some ⟨bk, o, none⟩) k c) W := by
  rw [run_slice_h (P := Tryd.prog) W 23 (some ⟨bk, o, none⟩) n c (by kernel_rfl) .i64 (k : Int) (by omega) (by omega)]
  have hz : (sizeOf (Tryd.prog.elem 23)).run Tryd.prog W = .ok 2 W := by kernel_rfl
  rw [hz]
  simp only [Result.andThen, sliced, Int.toNat_natCast]
  rw [if_neg (by omega)]
  simp [Addr.add]

set_option maxRecDepth 100000 in
set_option maxHeartbeats 4000000 in
theorem lent_in (l : List Pl) (hl : l.length ≤ 5864062014700) (v : Value) (w : World) (h : PlSl w.heap.size w v l) :
    Calls Tryd.prog 9 #[v] w fun e w' => ∃ u, e = .returned u ∧ Lent w.heap.size w' u l ∧ Below w.heap.size w w' := by
  have hO := own_in l hl v w h
  obtain ⟨a, c, rfl, hc1, hc2, hcells⟩ := h
  obtain ⟨i0, hi, hz0, hz1, hz2⟩ := info_parts infoOwn
  go_enter Tryd.func9, Tryd.ntmps9
  go_wp2_with (first | (go_at_call 39; refine hO.mono ?_; rintro e w1 ⟨v1, rfl, hrow, hb1⟩; have hsz1 := hb1.size) | (at_builtin; refine wpList_append_own _ rfl _ _ 23 rfl w.heap.size 39 i0 (.agg #[.string ⟨#[]⟩, .int .i64 0]) 2 24 Tryd.underlying23 hi hz0 hz1 hz2 rfl (by decide) _ l.length _ rfl (World.ownsRow.alloc hrow _) ⟨w1.heap.size, 0, none⟩ 1 1 [.string ⟨#[35]⟩, .int .i64 7] rfl rfl (cell2_new _ _ _ _) (by simp [Value.oneCell']) (by unfold maxLen; omega) (by omega) (by simp; omega) ?_; intro v' w2 hown' hgrow _; obtain ⟨g, cap, rfl, hgc⟩ := own_slice hown'; have hsl := fun W => slice_front g 0 (l.length + 1) cap l.length (by omega) (by omega) W))
  go_ret
  refine ⟨_, rfl, ⟨g, cap, rfl, ?_⟩, PRow.grown (l := l) hrow hb1 (grown_of_alloc' hgrow) hsz1⟩
  rw [plCs_snoc]
  exact hown'

set_option maxRecDepth 100000 in
set_option maxHeartbeats 4000000 in
theorem same_yes (l : List Pl) (B : Nat) (a b : Value) (w : World) (ha : PlSl B w a l) (hb : PlSl B w b l) :
    Calls Tryd.prog 19 #[a, b] w fun e w' => e = .returned (.bool true) ∧ Below w.heap.size w w' := by
  obtain ⟨pa, ca, rfl, ha1, ha2, ha3⟩ := ha
  obtain ⟨pb, cb, rfl, hb1, hb2, hb3⟩ := hb
  go_enter Tryd.func19, Tryd.ntmps19
  go_wp2
  go_loopw [5] (fun i wr => ∃ (k : Nat), k ≤ l.length ∧ i = .int .i64 k ∧ Below w.heap.size w wr)
    (fun i _ => l.length - (intOf i).toNat)
  case atStart => exact ⟨0, Nat.zero_le _, rfl, Below.refl _ _⟩
  case round =>
    obtain ⟨k, hk, rfl, hbw⟩ := hrel
    have hszr := hbw.size
    by_cases hlt : k < l.length
    · obtain ⟨bk, o, rfl, _, hA⟩ := ha3 (by intro e; subst e; simp at hlt)
      obtain ⟨bk2, o2, rfl, _, hB⟩ := hb3 (by intro e; subst e; simp at hlt)
      have hx : l[k]? = some l[k] := List.getElem?_eq_getElem hlt
      have kp : ∀ (p : Addr) (u : Value), w.cell? p = some u → wr.cell? p = some u := fun p u hp => (hbw.cell (World.block_lt_of_cell? w p hp)).trans hp
      have c1 := kp _ _ (hA k _ hx).1
      have c2 := kp _ _ (hA k _ hx).2
      have c3 := kp _ _ (hB k _ hx).1
      have c4 := kp _ _ (hB k _ hx).2
      clear hA hB ha3 hb3
      generalize l[k] = x at *
      clear hx
      generalize l.length = n at *
      have hN : decide ((k : Int) < (n : Int)) = true := by simp; omega
      have t1 : (x.n.toList != x.n.toList) = false := by simp
      have t2 : (x.k != x.k) = false := by simp
      go_wp2
      go_quiet (fail)
      go_wp2
      go_roundw
      case rel => exact ⟨k + 1, hlt, by go_num, by first | exact below_drewN hbw _ | exact hbw.drew | exact hbw⟩
      case measure => simp [intOf]; omega
    · have : k = l.length := by omega
      subst this
      go_wp2
      go_ret
      exact ⟨rfl, hbw⟩

theorem slice_more (bk o n c : Nat) (hk : n + 1 ≤ c) (W : World) : (Instr.slice 23 (.slice (some ⟨bk, o, none⟩) n c) none (some (.int .i64 ((n : Int) + 1))) none).run Tryd.prog W = .ok (.slice (some ⟨bk, o, none⟩) (n + 1) c) W := by
  have h := slice_front bk o n c (n + 1) hk (by omega) W
  simpa using h
theorem Lent.last {B : Nat} {w : World} {g n cap : Nat} {l : List Pl} (h : Lent B w (.slice (some ⟨g, 0, none⟩) n cap) l) : n = l.length ∧ n + 1 ≤ cap ∧ g < w.heap.size ∧ w.cell? ⟨g, n * 2, none⟩ = some (.string ⟨#[35]⟩) ∧ w.cell? ⟨g, n * 2 + 1, none⟩ = some (.int .i64 7) := by
  obtain ⟨g', cap', e, hr⟩ := h
  simp only [Value.slice.injEq] at e
  obtain ⟨e1, rfl, rfl⟩ := e
  cases e1
  have hr' : PRow 39 B w (.slice (some ⟨g, 0, none⟩) (l.length + 1) cap) (l ++ [mark]) := by
    unfold PRow
    rw [List.length_append]
    exact hr
  obtain ⟨g2, c2, e2, h2⟩ := own_slice hr
  cases e2
  obtain ⟨a, c, e, h1, _, h3⟩ := PRow.sl hr'
  obtain ⟨bk, o, e2, h4, h5⟩ := h3 (by simp)
  simp only [Value.slice.injEq] at e
  obtain ⟨rfl, _, rfl⟩ := e
  cases e2
  have := h5 l.length mark (by simp)
  simp only [Nat.zero_add] at this
  exact ⟨rfl, h2, h4, this.1, this.2⟩
set_option maxRecDepth 100000 in
set_option maxHeartbeats 4000000 in
theorem kept_in (l : List Pl) (hl : l.length ≤ 5864062014700) (B : Nat) (v s : Value) (w : World) (hv : Lent B w v l) (hs : PlSl w.heap.size w s l) :
    Calls Tryd.prog 14 #[v, s] w fun e w' => e = .returned (.bool true) ∧ Below w.heap.size w w' := by
  have hsl := hv.sl
  have hR := ref_in l hl s w hs
  obtain ⟨g, cap, rfl⟩ : ∃ g cap, v = .slice (some ⟨g, 0, none⟩) l.length cap := by
    obtain ⟨g, cap, e, _⟩ := hv
    exact ⟨g, cap, e⟩
  obtain ⟨_, hcap, hg, m1, m2⟩ := hv.last
  obtain ⟨a, c, rfl, hc1, hc2, hcells⟩ := hs
  have hm := fun W => slice_more g 0 l.length cap hcap W
  go_enter Tryd.func14, Tryd.ntmps14
  go_wp2_with (first | (go_at_call 12; refine hR.mono ?_; rintro e w1 ⟨v1, rfl, hrow, hb1⟩; have hsz1 := hb1.size; have hS := same_yes l w1.heap.size (.slice (some ⟨g, 0, none⟩) l.length cap) v1 w1 (hsl.below hb1 hsz1) (PRow.sl hrow)) | (go_at_call 19; refine hS.mono ?_; rintro e w2 ⟨rfl, hb2⟩; have hb3 := hb1.trans (hb2.mono hsz1); have n1 := (hb3.cell (p := ⟨g, l.length * 2, none⟩) hg).trans m1; have n2 := (hb3.cell (p := ⟨g, l.length * 2 + 1, none⟩) hg).trans m2))
  go_ret
  exact ⟨rfl, hb3⟩
end Go.Proofs.YtbldeiejlebbiaaDoor.T
