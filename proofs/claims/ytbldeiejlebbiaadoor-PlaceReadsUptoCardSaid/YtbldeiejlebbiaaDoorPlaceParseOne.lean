/-
  place.parsePlace: one place of a text.
-/
import Derived.Laws.ResultCell
import Derived.Test.YtbldeiejlebbiaaDoorPlaceEnv
set_option linter.unusedVariables false
namespace Go.Proofs.YtbldeiejlebbiaaDoor.T
open Go Go.Lib Go.RowKit

/-- the place that a text is, if it is one -/
def parseOne (s : ByteArray) : Option Pl :=
  match atV (cutB s ⟨#[58]⟩) with
  | none => none
  | some v => if ((itB v).toList == (cutB s ⟨#[58]⟩).toList) = false then none else if mayB ⟨cutA s ⟨#[58]⟩, v⟩ then some ⟨cutA s ⟨#[58]⟩, v⟩ else none
def oneV (o : Option Pl) : Value := match o with | some p => .agg #[.string p.n, .int .i64 p.k] | none => .agg #[.string ⟨#[]⟩, .int .i64 0]
theorem results_pl2 {fn : Func} {p u : Tmp} (h : fn.results = #[.cell p 39, .tmp u]) (tmps : Array Value) (w : World) (g : Nat) (s : ByteArray) (k : Int) (x : Value)
    (hp : tmps.getD p undef = .pointer (some ⟨g, 0, none⟩)) (hx : tmps.getD u undef = x) (h0 : w.cell? ⟨g, 0, none⟩ = some (.string s)) (h1 : w.cell? ⟨g, 1, none⟩ = some (.int .i64 k)) :
    (results fn tmps).run Tryd.prog w = .ok (.tuple #[.agg #[.string s, .int .i64 k], x]) w := by
  rw [results_cell_tmp h, hp, hx]
  simp [asAddr]
  go_simp
theorem box_pl (w W : World) (a b : Value) (t : TypeId) (hb : Below (w.heap.size + 1) (w.alloc (.cells #[a, b] t)) W) :
    W.cell? ⟨w.heap.size, 0, none⟩ = some a ∧ W.cell? ⟨w.heap.size, 1, none⟩ = some b ∧ W.frozen? ⟨w.heap.size, 0, none⟩ = false ∧ W.frozen? ⟨w.heap.size, 1, none⟩ = false :=
  ⟨(hb.cell (p := ⟨w.heap.size, 0, none⟩) (by simp)).trans (by simp), (hb.cell (p := ⟨w.heap.size, 1, none⟩) (by simp)).trans (by simp),
   (hb.frozen (p := ⟨w.heap.size, 0, none⟩) (by simp)).trans (by simp), (hb.frozen (p := ⟨w.heap.size, 1, none⟩) (by simp)).trans (by simp)⟩
theorem box_at (w W : World) (N : Nat) (a b : Value) (t : TypeId) (hN : N = w.heap.size) {B : Nat} (hb : Below B (w.alloc (.cells #[a, b] t)) W) (hB : N < B) :
    W.cell? ⟨N, 0, none⟩ = some a ∧ W.cell? ⟨N, 1, none⟩ = some b := by
  subst hN
  exact ⟨(hb.cell (p := ⟨w.heap.size, 0, none⟩) hB).trans (by simp), (hb.cell (p := ⟨w.heap.size, 1, none⟩) hB).trans (by simp)⟩

set_option maxRecDepth 100000 in
set_option maxHeartbeats 8000000 in
theorem parseOne_in (s : ByteArray) (hs : s.size ≤ 16777216) (w : World) (hE : Env w) :
    Calls Tryd.prog 67 #[.string s] w fun e w' => e = .returned (.tuple #[oneV (parseOne s), .bool (parseOne s).isSome]) ∧ Below w.heap.size w w' := by
  have h6 := hE.sz
  have hcl := cut_le s ⟨#[58]⟩
  generalize hR : parseOne s = R at *
  have HR := Lib.hid hR
  clear hR
  have hB0 : Below w.heap.size w (w.alloc (.cells #[.string ⟨#[]⟩, .int .i64 0] 39)) := (Below.refl _ w).alloc (Nat.le_refl _) _
  have hCut := Cut_in s ⟨#[58]⟩ hs (w.alloc (.cells #[.string ⟨#[]⟩, .int .i64 0] 39)) (hE.below hB0 h6)
  have hR2 : R = match atV (cutB s ⟨#[58]⟩) with
    | none => none
    | some v => if ((itB v).toList == (cutB s ⟨#[58]⟩).toList) = false then none else if mayB ⟨cutA s ⟨#[58]⟩, v⟩ then some ⟨cutA s ⟨#[58]⟩, v⟩ else none := HR.out.symm
  clear HR
  have hsA : (w.alloc (.cells #[.string ⟨#[]⟩, .int .i64 0] 39)).heap.size = w.heap.size + 1 := by simp
  generalize cutA s ⟨#[58]⟩ = n at *
  generalize cutB s ⟨#[58]⟩ = d at *
  generalize cutC s ⟨#[58]⟩ = c at *
  obtain ⟨hn, hd⟩ := hcl
  go_enter Tryd.func67, Tryd.ntmps67
  cases hat : atV d with
  | none =>
    rw [hat] at hR2
    have hR3 : R = none := hR2
    subst hR3
    clear hR2
    go_wp2_with (first | (go_at_call 66; refine hCut.mono ?_; rintro e w1 ⟨rfl, hb1⟩; rw [hsA] at hb1; have hbw1 := hB0.trans (hb1.mono (Nat.le_succ _)); have hsz1 := hb1.size; rw [hsA] at hsz1; have hAt := Atoi_no d (by omega) hat w1 (hE.below hbw1 h6)) | (go_at_call 80; refine hAt.mono ?_; rintro e w2 ⟨z, t, a, rfl, hb2⟩; have hb12 := hb1.trans (hb2.mono hsz1); have hsz2 := hb12.size; rw [hsA] at hsz2; have hb3 := hb12.alloc (by omega) (.cells #[.string n, .int .i64 z] 39); obtain ⟨k0, k1, k2, k3⟩ := box_pl w _ _ _ _ hb3))
    refine bodyPost_ret (v := .tuple #[.agg #[.string ⟨#[]⟩, .int .i64 0], .bool false]) (results_pl2 rfl _ _ w.heap.size _ _ _ rfl rfl (cell2_set0 k0 k1) (cell2_set1 k1)) rfl ⟨rfl, ?_⟩
    exact ((hB0.trans (hb3.mono (Nat.le_succ _))).setCell (p := ⟨w.heap.size, 0, none⟩) (Nat.le_refl _) _).setCell (p := ⟨w.heap.size, 1, none⟩) (Nat.le_refl _) _
  | some v =>
    rw [hat] at hR2
    have hR3 : R = if ((itB v).toList == d.toList) = false then none else if mayB ⟨n, v⟩ = true then some ⟨n, v⟩ else none := hR2
    clear hR2
    obtain ⟨hv1, hv2⟩ := atV_bd hat
    generalize hb : ((itB v).toList == d.toList) = b at *
    generalize hm : mayB ⟨n, v⟩ = mb at *
    have HM := Lib.hid hm
    have hsn : ∀ (w2 : World), (w2.alloc (.cells #[.string n, .int .i64 v] 39)).heap.size = w2.heap.size + 1 := fun w2 => by simp
    cases b with
    | false =>
      have hR4 : R = none := hR3
      subst hR4
      clear hR3 hm
      go_wp2_with (first | (go_at_call 66; refine hCut.mono ?_; rintro e w1 ⟨rfl, hb1⟩; rw [hsA] at hb1; have hbw1 := hB0.trans (hb1.mono (Nat.le_succ _)); have hsz1 := hb1.size; rw [hsA] at hsz1; have hAt := Atoi_ok d (by omega) v hat w1) | (go_at_call 80; refine hAt.mono ?_; rintro e w2 ⟨rfl, hb2⟩; have hb12 := hb1.trans (hb2.mono hsz1); have hsz2 := hb12.size; rw [hsA] at hsz2; have hb3 := hb12.alloc (by omega) (.cells #[.string n, .int .i64 v] 39); have hIt := Itoa_in v hv1 hv2 (w2.alloc (.cells #[.string n, .int .i64 v] 39)) (hE.below (hB0.trans (hb3.mono (Nat.le_succ _))) h6)) | (go_at_call 64; refine hIt.mono ?_; rintro e w3 ⟨rfl, hb4⟩; have hb5 := hb3.trans (hb4.mono (by rw [hsn]; omega)); obtain ⟨k0, k1, k2, k3⟩ := box_pl w _ _ _ _ hb5))
      refine bodyPost_ret (v := .tuple #[.agg #[.string ⟨#[]⟩, .int .i64 0], .bool false]) (results_pl2 rfl _ _ w.heap.size _ _ _ rfl rfl (cell2_set0 k0 k1) (cell2_set1 k1)) rfl ⟨rfl, ?_⟩
      exact ((hB0.trans (hb5.mono (Nat.le_succ _))).setCell (p := ⟨w.heap.size, 0, none⟩) (Nat.le_refl _) _).setCell (p := ⟨w.heap.size, 1, none⟩) (Nat.le_refl _) _
    | true =>
      cases mb with
      | false =>
        have hR4 : R = none := hR3
        subst hR4
        clear hR3 hm
        have hMy := fun W => (mayBe_in ⟨n, v⟩ (by show n.size ≤ _; omega) W)
        rw [HM.out] at hMy
        simp only at hMy
        go_wp2_with (first | (go_at_call 66; refine hCut.mono ?_; rintro e w1 ⟨rfl, hb1⟩; rw [hsA] at hb1; have hbw1 := hB0.trans (hb1.mono (Nat.le_succ _)); have hsz1 := hb1.size; rw [hsA] at hsz1; have hAt := Atoi_ok d (by omega) v hat w1) | (go_at_call 80; refine hAt.mono ?_; rintro e w2 ⟨rfl, hb2⟩; have hb12 := hb1.trans (hb2.mono hsz1); have hsz2 := hb12.size; rw [hsA] at hsz2; have hb3 := hb12.alloc (by omega) (.cells #[.string n, .int .i64 v] 39); have hIt := Itoa_in v hv1 hv2 (w2.alloc (.cells #[.string n, .int .i64 v] 39)) (hE.below (hB0.trans (hb3.mono (Nat.le_succ _))) h6)) | (go_at_call 64; refine hIt.mono ?_; rintro e w3 ⟨rfl, hb4⟩; have hb5 := hb3.trans (hb4.mono (by rw [hsn]; omega)); have hsz5 := hb4.size; rw [hsn] at hsz5; obtain ⟨j0, j1⟩ := box_at w2 w3 w2.heap.size _ _ _ rfl hb4 (by rw [hsn]; omega)) | (go_at_call 71; refine (hMy _).mono ?_; rintro e w4 ⟨rfl, hb6⟩; have hb7 := hb5.trans (hb6.mono (by omega)); obtain ⟨k0, k1, k2, k3⟩ := box_pl w _ _ _ _ hb7))
        refine bodyPost_ret (v := .tuple #[.agg #[.string ⟨#[]⟩, .int .i64 0], .bool false]) (results_pl2 rfl _ _ w.heap.size _ _ _ rfl rfl (cell2_set0 k0 k1) (cell2_set1 k1)) rfl ⟨rfl, ?_⟩
        exact ((hB0.trans (hb7.mono (Nat.le_succ _))).setCell (p := ⟨w.heap.size, 0, none⟩) (Nat.le_refl _) _).setCell (p := ⟨w.heap.size, 1, none⟩) (Nat.le_refl _) _
      | true =>
        have hR4 : R = some ⟨n, v⟩ := hR3
        subst hR4
        clear hR3 hm
        have hMy := fun W => (mayBe_in ⟨n, v⟩ (by show n.size ≤ _; omega) W)
        rw [HM.out] at hMy
        simp only at hMy
        have hCp := fun W => (copied_in ⟨n, v⟩ (by show n.size ≤ _; omega) W)
        simp only at hCp
        go_wp2_with (first | (go_at_call 66; refine hCut.mono ?_; rintro e w1 ⟨rfl, hb1⟩; rw [hsA] at hb1; have hbw1 := hB0.trans (hb1.mono (Nat.le_succ _)); have hsz1 := hb1.size; rw [hsA] at hsz1; have hAt := Atoi_ok d (by omega) v hat w1) | (go_at_call 80; refine hAt.mono ?_; rintro e w2 ⟨rfl, hb2⟩; have hb12 := hb1.trans (hb2.mono hsz1); have hsz2 := hb12.size; rw [hsA] at hsz2; have hb3 := hb12.alloc (by omega) (.cells #[.string n, .int .i64 v] 39); have hIt := Itoa_in v hv1 hv2 (w2.alloc (.cells #[.string n, .int .i64 v] 39)) (hE.below (hB0.trans (hb3.mono (Nat.le_succ _))) h6)) | (go_at_call 64; refine hIt.mono ?_; rintro e w3 ⟨rfl, hb4⟩; have hb5 := hb3.trans (hb4.mono (by rw [hsn]; omega)); have hsz5 := hb4.size; rw [hsn] at hsz5; obtain ⟨j0, j1⟩ := box_at w2 w3 w2.heap.size _ _ _ rfl hb4 (by rw [hsn]; omega)) | (go_at_call 71; refine (hMy _).mono ?_; rintro e w4 ⟨rfl, hb6⟩; have hb7 := hb5.trans (hb6.mono (by omega)); have hsz7 := hb6.size; obtain ⟨i0, i1⟩ := box_at w2 w4 w2.heap.size _ _ _ rfl (hb4.trans (hb6.mono (by rw [hsn]; omega))) (by rw [hsn]; omega)) | (go_at_call 70; refine (hCp _).mono ?_; rintro e w5 ⟨rfl, hb8⟩; have hb9 := hb7.trans (hb8.mono (by omega)); obtain ⟨k0, k1, k2, k3⟩ := box_pl w _ _ _ _ hb9))
        refine bodyPost_ret (v := .tuple #[.agg #[.string n, .int .i64 v], .bool true]) (results_pl2 rfl _ _ w.heap.size _ _ _ rfl rfl (cell2_set0 k0 k1) (cell2_set1 k1)) rfl ⟨rfl, ?_⟩
        exact ((hB0.trans (hb9.mono (Nat.le_succ _))).setCell (p := ⟨w.heap.size, 0, none⟩) (Nat.le_refl _) _).setCell (p := ⟨w.heap.size, 1, none⟩) (Nat.le_refl _) _
end Go.Proofs.YtbldeiejlebbiaaDoor.T
