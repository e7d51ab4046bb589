/-
  What PlaceBack asks of each call, of places that are a stack.
-/
import Derived.Test.YtbldeiejlebbiaaDoorPlaceBackP
import Derived.Test.YtbldeiejlebbiaaDoorPlaceManyP
import Derived.Test.YtbldeiejlebbiaaDoorPlaceAlike
import Derived.Test.YtbldeiejlebbiaaDoorPlaceAlive
set_option linter.unusedVariables false
namespace Go.Proofs.YtbldeiejlebbiaaDoor.T
open Go Go.Lib Go.RowKit Go.Shelf

/-- what is told of a stack -/
def tB (l : List Pl) : ByteArray := ⟨(textL l).toArray⟩
theorem tB_size {l : List Pl} (h : checkN l = 0) : (tB l).size ≤ 65536 := by
  have h1 := text_short h
  have e : (tB l).size = (textL l).length := by show (textL l).toArray.size = _; simp
  omega
theorem tB_ne {l m : List Pl} (h : checkN l = 0) (h' : checkN m = 0) (hne : l ≠ m) : ((tB l).toList == (tB m).toList) = false := by
  rw [beq_eq_false_iff_ne]
  intro e
  refine hne (text_inj h h' ?_)
  rw [ByteArray.toList_eq, ByteArray.toList_eq] at e
  simpa [tB] using e
theorem textQ {l : List Pl} (hc : checkN l = 0) (v : Value) (w : World) (h : PlSl w.heap.size w v l) (hE : Env w) :
    Calls Tryd.prog 31 #[v] w fun e w' => e = .returned (.tuple #[.string (tB l), .int .i64 0]) ∧ Below w.heap.size w w' := by
  have := callsIn_wide.1 (Text_in l (check_slim hc) (by have := (check_all hc).2; omega) v w h hE)
  rw [hc] at this
  exact this
theorem parseQ {l : List Pl} (hc : checkN l = 0) (w : World) (hE : Env w) :
    Calls Tryd.prog 33 #[.string (tB l)] w fun e w' => ∃ v, e = .returned (.tuple #[v, .int .i64 0]) ∧ PRow 39 w.heap.size w' v l ∧ Below w.heap.size w w' := by
  have := Parse_in (tB l) (by have := tB_size hc; omega) w hE
  have e : parseL (tB l) = some l := back_text hc
  rw [e] at this
  exact this
theorem foldQ {l : List Pl} (hc : checkN l = 0) (v : Value) (w : World) (h : PlSl w.heap.size w v l) :
    Calls Tryd.prog 10 #[v] w fun e w' => ∃ v qs, e = .returned (.tuple #[v, .int .i64 0]) ∧ qs.map (·.2) = foldL l ∧ RunsAt 39 37 w.heap.size w' v qs ∧ Below w.heap.size w w' := by
  have := Fold_in l (by have := (check_all hc).2; omega) (check_slim hc) v w h
  have e : foldA l = foldL l := by unfold foldA; rw [if_pos hc]
  rw [e, hc] at this
  exact this
theorem unfoldQ {l : List Pl} (hc : checkN l = 0) {qs : List (Value × Rn)} (hq : qs.map (·.2) = foldL l) (v : Value) (w : World) (h : RzSl w.heap.size w v (qs.map toZ)) :
    Calls Tryd.prog 17 #[v] w fun e w' => ∃ v, e = .returned (.tuple #[v, .int .i64 0]) ∧ PRow 39 w.heap.size w' v l ∧ Below w.heap.size w w' := by
  obtain ⟨h1, h2, h3⟩ := fold_runs hc qs hq
  have hn : (qs.map toZ).length ≤ 64 := by
    obtain ⟨b, hg⟩ := foldL_good l
    have h4 := hg.qs_le (l := l)
    rw [unf_foldL] at h4
    have h5 := congrArg List.length hq
    rw [List.length_map] at h5 ⊢
    have := (check_all hc).2
    omega
  have := Unfold_in (qs.map toZ) (by omega) h2 (fun z hz => check_slim (h2 z hz).2.2) h1 v w h
  rw [h3] at this
  exact this
theorem alikeYes (l : List Pl) (B : Nat) (u v : Value) (w : World) (hu : PlSl B w u l) (hv : PlSl B w v l) :
    Calls Tryd.prog 32 #[u, v] w fun e w' => e = .returned (.bool true) ∧ Dr w w' := by
  obtain ⟨b, h1, h2⟩ := alike_in l l B u v w hu hv
  obtain rfl : b = true := h1.2 rfl
  exact h2
theorem alikeNo {l m : List Pl} (hne : l ≠ m) (B : Nat) (u v : Value) (w : World) (hu : PlSl B w u l) (hv : PlSl B w v m) :
    Calls Tryd.prog 32 #[u, v] w fun e w' => e = .returned (.bool false) ∧ Dr w w' := by
  obtain ⟨b, h1, h2⟩ := alike_in l m B u v w hu hv
  cases b with
  | false => exact h2
  | true => exact absurd (h1.1 rfl) hne
/-- how many places the first k runs hold -/
theorem many_append (a b : List Rn) : many (a ++ b) = many a + many b := by
  induction a with
  | nil => simp [many]
  | cons r a ih => simp only [List.cons_append, many, ih]; omega
theorem many_take {rs : List Rn} {k : Nat} {r : Rn} (h : rs[k]? = some r) : many (rs.take (k + 1)) = many (rs.take k) + r.ps.length := by
  rw [List.take_add_one, h, many_append]
  simp [many]
theorem many_le (rs : List Rn) (k : Nat) : many (rs.take k) ≤ many rs := by
  conv => rhs; rw [← List.take_append_drop k rs, many_append]
  omega
/-- what PlaceBack's loop reads of the k-th run of a fold -/
structure RunAt (w : World) (bk o : Nat) (rs : List Rn) (k : Nat) (a : Option Addr) (c m t : Nat) : Prop where
  c0 : w.cell? ⟨bk, o + k * 2, none⟩ = some (.slice a m c)
  c1 : w.cell? ⟨bk, o + k * 2 + 1, none⟩ = some (.int .i64 (t : Int))
  t1 : 1 ≤ t
  m8 : 1 < t → m ≤ 8
  sum : many (rs.take (k + 1)) = many (rs.take k) + m
  t64 : t ≤ 64
theorem run_t64 {l : List Pl} (hc : checkN l = 0) {r : Rn} (hr : r ∈ foldL l) : r.t ≤ 64 := by
  obtain ⟨b, hg⟩ := foldL_good l
  obtain ⟨h1, h2, _⟩ := hg.one r hr
  have hu := unf_foldL l
  have hl : (List.replicate r.t r.ps).flatten.length ≤ (unf (foldL l)).length := by
    unfold unf
    generalize foldL l = rs at hr
    induction rs with
    | nil => cases hr
    | cons x rs ih =>
      rw [List.map_cons, List.flatten_cons, List.length_append]
      rcases List.mem_cons.1 hr with rfl | hr
      · omega
      · have := ih hr; omega
  rw [hu, rep_len] at hl
  have := List.length_pos_iff.2 h2
  have h3 : 1 * r.t ≤ r.ps.length * r.t := Nat.mul_le_mul_right _ this
  have := (check_all hc).2
  omega
theorem runs_at {l : List Pl} (hc : checkN l = 0) {qs : List (Value × Rn)} (hq : qs.map (·.2) = foldL l) {B : Nat} {w : World} {bk o : Nat} (hA : RzAt w bk o (qs.map toZ)) (hp : ∀ z ∈ qs.map toZ, PlSl B w z.v z.ps) (k : Nat) (hk : k < qs.length) :
    ∃ a c m t, RunAt w bk o (foldL l) k a c m t ∧ ∀ j, k = j + 1 → ∃ t', w.cell? ⟨bk, o + j * 2 + 1, none⟩ = some (.int .i64 ((t' : Nat) : Int)) ∧ ¬ (t = 1 ∧ t' = 1) ∧ t' ≤ 64 := by
  obtain ⟨b, hg⟩ := foldL_good l
  obtain ⟨q, hqk⟩ : ∃ q, qs[k]? = some q := ⟨_, List.getElem?_eq_getElem hk⟩
  have hzk : (qs.map toZ)[k]? = some (toZ q) := by rw [List.getElem?_map, hqk]; rfl
  have hrk : (foldL l)[k]? = some q.2 := by rw [← hq, List.getElem?_map, hqk]; rfl
  obtain ⟨c0, c1⟩ := hA k _ hzk
  have hmem := List.mem_of_getElem? hrk
  obtain ⟨h1, h2, h3⟩ := hg.one q.2 hmem
  obtain ⟨a, c, hv, _⟩ := hp _ (List.mem_of_getElem? hzk)
  rw [hv] at c0
  refine ⟨a, c, q.2.ps.length, q.2.t, ⟨c0, c1, h1, h3, many_take hrk, run_t64 hc hmem⟩, fun j hj => ?_⟩
  subst hj
  obtain ⟨q', hqk'⟩ : ∃ q', qs[j]? = some q' := ⟨_, List.getElem?_eq_getElem (by omega)⟩
  have hzk' : (qs.map toZ)[j]? = some (toZ q') := by rw [List.getElem?_map, hqk']; rfl
  have hrk' : (foldL l)[j]? = some q'.2 := by rw [← hq, List.getElem?_map, hqk']; rfl
  exact ⟨q'.2.t, (hA j _ hzk').2, fun h => hg.next j _ _ hrk' hrk ⟨h.2, h.1⟩, run_t64 hc (List.mem_of_getElem? hrk')⟩
end Go.Proofs.YtbldeiejlebbiaaDoor.T
