/-
  place.Text: a stack as a text.
-/
import Derived.Lib.ItoaLen
import Derived.Test.YtbldeiejlebbiaaDoorPlaceParse
import Derived.Test.YtbldeiejlebbiaaDoorPlaceRange
set_option linter.unusedVariables false
namespace Go.Proofs.YtbldeiejlebbiaaDoor.T
open Go Go.Lib Go.RowKit Go.Shelf
attribute [local go_sem] Oper.semAt_some
attribute [local go_sem] if_true

/-- one place of a text, and what stands behind it -/
def tx1 (x : Nat × Pl) : List UInt8 := x.2.n.data.toList ++ [58] ++ Lib.itoa x.2.k ++ (if x.1 = 0 then [] else sepB.data.toList)
def txt (ys : List (Nat × Pl)) : List UInt8 := ys.flatMap tx1
theorem txt_snoc (ys : List (Nat × Pl)) (x : Nat × Pl) : txt (ys ++ [x]) = txt ys ++ tx1 x := by simp [txt]
def textL (l : List Pl) : List UInt8 := if checkN l = 0 then txt (dn l l.length) else []
theorem may_bd {p : Pl} (h : mayB p = true) : p.n.size ≤ 120 ∧ 0 ≤ p.k ∧ p.k ≤ 1048576 := by
  unfold mayB edgeB at h
  simp at h
  obtain ⟨⟨h1, h2, h3, h4⟩, _⟩ := h
  exact ⟨by omega, h3, h4⟩
theorem check_all {l : List Pl} (h : checkN l = 0) : l.all mayB = true ∧ l.length ≤ 64 := by
  unfold checkN at h
  split at h
  · rename_i ha
    split at h
    · cases h
    · exact ⟨ha, by omega⟩
  · cases h
theorem tx1_len {x : Nat × Pl} (h : mayB x.2 = true) : (tx1 x).length ≤ 145 := by
  obtain ⟨h1, h2, h3⟩ := may_bd h
  have hi := Lib.itoa_length_le x.2.k (by omega) (by omega)
  have e : x.2.n.data.toList.length = x.2.n.size := rfl
  unfold tx1
  rw [List.length_append, List.length_append, List.length_append, e]
  split
  · simp; omega
  · have : sepB.data.toList.length = 3 := rfl
    simp [this]; omega
theorem txt_len : ∀ (ys : List (Nat × Pl)), (∀ x ∈ ys, mayB x.2 = true) → (txt ys).length ≤ 145 * ys.length
  | [], _ => Nat.le_refl _
  | x :: ys, h => by
    have ih := txt_len ys (fun y hy => h y (List.mem_cons_of_mem _ hy))
    have h1 := tx1_len (h x (List.mem_cons_self))
    have e : txt (x :: ys) = tx1 x ++ txt ys := rfl
    rw [e, List.length_append, List.length_cons]; omega
theorem pk_may {l : List Pl} (h : l.all mayB = true) (x : Pk l) : mayB x.1.2 = true := by
  rw [List.all_eq_true] at h
  exact h _ (List.mem_of_getElem? x.2)
theorem vals_may {l : List Pl} (h : l.all mayB = true) (ys : List (Pk l)) : ∀ x ∈ vals ys, mayB x.2 = true := by
  intro x hx
  unfold vals at hx
  obtain ⟨y, _, rfl⟩ := List.mem_map.1 hx
  exact pk_may h y

theorem builder_own {β : Type} (T e : TypeId) (B b : Nat) (f : β → List Value) : Own (fun s W => Lib.IsBuilderF T e B b (f s) W) := by
  intro s W W' row h hg hr
  have hk : ∀ p, Lib.BuilderAtF T e B b p (f s) W → Lib.BuilderAtF T e B b p (f s) W' := by
    rintro p ⟨hB, v, hb, hown, hne⟩
    refine ⟨hB, v, ?_, hown.kept hg ?_, hne⟩
    · rw [hg.block b (Array.getElem?_eq_some_iff.1 hb).1 (fun e => by
        obtain ⟨o, ho, hc⟩ := hr b e.symm
        rw [hb] at ho
        cases Option.some.inj ho
        cases hc)]
      exact hb
    · cases hv : v.ownBlock with
      | none => exact .inl rfl
      | some g =>
        right
        intro e
        obtain ⟨c, fz, hc0⟩ := Lib.ownsRowF_kind hown g hv
        obtain ⟨o, ho, hc⟩ := hr g e.symm
        rw [hc0] at ho
        cases Option.some.inj ho
        cases hc
  exact h.elim (fun x => .inl (hk _ x)) (fun x => .inr (hk _ x))
theorem builder_none {T e : TypeId} {B b : Nat} {bs : List Value} {W W' : World} (h : Lib.IsBuilderF T e B b bs W) (hg : W.grownBy W' none) : Lib.IsBuilderF T e B b bs W' :=
  builder_own (β := Unit) T e B b (fun _ => bs) () W W' none h hg (fun r e => by cases e)
theorem builder_cell {T e : TypeId} {B b : Nat} {bs : List Value} {W : World} (h : Lib.IsBuilderF T e B b bs W) : ∃ p v, W.heap[b]? = some (.cells #[p, v] T (0, 0)) := by
  rcases h with ⟨_, v, hb, _⟩ | ⟨_, v, hb, _⟩
  · exact ⟨_, v, hb⟩
  · exact ⟨_, v, hb⟩
theorem others_below {e : TypeId} {b : Option Nat} {w w' : World} (h : Below w.heap.size w w') : Lib.OthersKept e b w w' := fun k o hk _ _ => (h.block k (Array.getElem?_eq_some_iff.1 hk).1).trans hk
theorem others_keeps {T e : TypeId} {B b : Nat} {bs : List Value} {w w' : World} (hI : Lib.IsBuilderF T e B b bs w) (h : Lib.OthersKept e (some b) w w') (hs : w.heap.size ≤ w'.heap.size) : KeepsOthers w w' :=
  ⟨hs, fun k o hk hc => h k o hk (fun e => by
    cases e
    obtain ⟨p, v, hb⟩ := builder_cell hI
    rw [hb] at hk
    cases Option.some.inj hk
    cases hc) (fun c fz e => by subst e; cases hc)⟩
theorem others_boxed {e t : TypeId} {b Bs : Nat} {v : Value} {w w' : World} (h : Lib.OthersKept e (some b) w w') (hne : Bs ≠ b) (ht : t ≠ e) (hb : Boxed w Bs t v) : Boxed w' Bs t v :=
  h Bs _ hb (fun e => hne (Option.some.inj e)) (fun c fz e => by cases e; exact ht rfl)

set_option maxRecDepth 1000000 in
set_option maxHeartbeats 8000000 in
theorem Text_in (l : List Pl) (hs : Slim l) (hl : l.length ≤ 5864062014700) (v : Value) (w : World) (h : PlSl w.heap.size w v l) (hE : Env w) :
    CallsIn Fence.wide 5 Tryd.prog 31 #[v] w fun e w' => e = .returned (.tuple #[.string ⟨(textL l).toArray⟩, .int .i64 (checkN l)]) ∧ Below w.heap.size w w' := by
  have hro : Fence.wide.round = none := rfl
  have h6 := hE.sz
  have hC := Check_in l hs w.heap.size v w h
  have h0 := h
  obtain ⟨a, c, rfl, hc1, hc2, hcells⟩ := h
  generalize hR : textL l = R at *
  have HR := Lib.hid hR
  clear hR
  generalize hc : checkN l = C at *
  have HC := Lib.hid hc
  clear hc
  refine callsIn_of_wp_marks Tryd.func31 rfl trivial ?_ hro
  simp only [Tryd.ntmps31, List.size_toArray, List.length_cons, List.length_nil, Nat.reduceAdd, Nat.reduceSub, Array.replicate_succ, Array.replicate_zero, List.push_toArray, List.append_toArray, List.nil_append, List.cons_append]
  by_cases hC0 : C = 0
  · subst hC0
    gi_wp2_with fail
    refine ⟨trivial, ?_⟩
    refine (callsIn_wide.2 hC).mono ?_
    rintro e w1 ⟨rfl, hb1⟩
    have hsz1 := hb1.size
    gi_wp2_with fail
    refine ⟨trivial, ?_⟩
    refine (Backward_in _ _ _ _ _).mono ?_
    rintro e w' ⟨rfl, rfl⟩
    gi_wp2_with fail
    obtain ⟨hall, h64⟩ := check_all HC.out
    have HA := Lib.hid hall
    clear hall
    have hbV : Below w.heap.size w ((w1.alloc (.cells #[.pointer none, .slice none 0 0] 130)).alloc (.cells #[.slice a l.length c] 23)) := (hb1.alloc hsz1 _).alloc (by simp; omega) _
    have bN := Boxed.new (w1.alloc (.cells #[.pointer none, .slice none 0 0] 130)) 23 (.slice a l.length c)
    rw [World.size_alloc] at bN
    have hBu : Lib.IsBuilderF 130 5 w.heap.size w1.heap.size (byteCells (txt (vals ([] : List (Pk l))))) ((w1.alloc (.cells #[.pointer none, .slice none 0 0] 130)).alloc (.cells #[.slice a l.length c] 23)) :=
      Lib.IsBuilderF.alloc (.inl ⟨hsz1, .slice none 0 0, World.alloc_heap_new w1 _, World.ownsRowF_of (World.ownsRow_nil _ _ _ _), by simp [Value.ownBlock]⟩) _
    have hzV : ((w1.alloc (.cells #[.pointer none, .slice none 0 0] 130)).alloc (.cells #[.slice a l.length c] 23)).heap.size = w1.heap.size + 2 := by simp
    generalize (w1.alloc (.cells #[.pointer none, .slice none 0 0] 130)).alloc (.cells #[.slice a l.length c] 23) = V at *
    refine range_box hro (by omega) (gf := 76) (lb := #[.pointer (some ⟨w1.heap.size + 1, 0, none⟩)]) rfl trivial (enters_of Tryd.func76 (by kernel_rfl) rfl)
      (back_stops 4 (by omega) (w1.heap.size + 1) w.heap.size l hl (.slice a l.length c) V (h0.below hbV (Nat.le_refl _)) (by omega) (by omega) bN) KpB.t (KpB.b (by omega)) (Below.refl _ _) (fun _ => rfl)
      (fun pre W => Lib.IsBuilderF 130 5 w.heap.size w1.heap.size (byteCells (txt (vals pre))) W ∧ Boxed W (w1.heap.size + 1) 23 (.slice a l.length c) ∧ Below w.heap.size w W)
      (OwnFrom.and (Own.from (builder_own _ _ _ _ (fun pre => byteCells (txt (vals pre)))) _) (OwnFrom.and (Own.from (boxed_own _ _ _) _) (ownFrom_below (Nat.le_refl _) (by omega))))
      ⟨hBu, bN, hbV⟩
      (fun x => .cells #[.string x.1.2.n, .int .i64 x.1.2.k] 39)
      (fun x bk => { tmps := #[.slice a l.length c, undef, .string ⟨#[]⟩, .int .i64 0, .int .i64 0, .pointer (some ⟨w1.heap.size, 0, none⟩), .int .i64 x.1.1, .pointer (some ⟨bk, 0, none⟩), .slice a l.length c, .int .i64 0, .int .i64 0, .bool false, undef, .slice a l.length c, .func (.func 76) #[] #[.pointer (some ⟨w1.heap.size + 1, 0, none⟩)], .int .i64 x.1.1, .agg #[.string x.1.2.n, .int .i64 x.1.2.k], undef, undef, undef, undef, undef, undef, undef, undef, undef, undef, undef, undef], defers := [] })
      (fun W x hW => ⟨(Below.refl _ W).alloc (by omega) _, KeepsWalks.of_grownBy (World.grownBy_alloc W _ none) (fun j o e => by cases e), fun c => c.alloc _⟩) ?assign ?body ?done
    case assign =>
      intro q x W K hK
      gi_wp2
      first
        | exact hK
        | (simp at hK; exact hK)
        | (simp [go_sem] at hK; exact hK)
    case body =>
      rintro q pre x bk W ⟨hI, hbx, hB⟩ hlt hbk hob
      have hmx := pk_may HA.out x
      obtain ⟨hm1, hm2, hm3⟩ := may_bd hmx
      have hvm := txt_len (vals pre) (vals_may HA.out pre)
      have hvl : (vals pre).length = pre.length := by simp [vals]
      rw [hvl] at hvm
      have hil := Lib.itoa_length_le x.1.2.k (by omega) (by omega)
      have hsn : txt (vals (pre ++ [x])) = txt (vals pre) ++ tx1 x.1 := by rw [vals_snoc, txt_snoc]
      have HSN := Lib.hid hsn
      have hszW := hB.size
      clear hsn hvl hmx
      have htl : (txt (vals pre)).length ≤ 100000 := by omega
      clear hvm
      obtain ⟨hi, hx⟩ : ∃ hi : x.1.1 = x.1.1, True := ⟨rfl, trivial⟩
      generalize hT0 : txt (vals pre) = T0 at *
      have htx : tx1 x.1 = x.1.2.n.data.toList ++ [58] ++ Lib.itoa x.1.2.k ++ (if x.1.1 = 0 then [] else sepB.data.toList) := rfl
      have HTX := Lib.hid htx
      clear htx
      generalize x.1.2.n = nm at *
      generalize x.1.2.k = kk at *
      have c0 : W.cell? ⟨bk, 0, none⟩ = some (.string nm) := cell_heap hob rfl
      have c1 : W.cell? ⟨bk, 1, none⟩ = some (.int .i64 kk) := cell_heap hob rfl
      have hbkb : bk ≠ w1.heap.size := by omega
      gi_wp2_with fail
      refine ⟨trivial, ?_⟩
      refine (CallsIn.inRound q (callsIn_wide.2 (WriteString_k w.heap.size w1.heap.size (byteCells T0) nm W hI (by rw [byteCells_length]; omega) hszW))).mono ?_
      rintro e W1 ⟨rfl, hI1, hB1, hO1⟩
      have hob1 := hO1 bk _ hob (fun e => hbkb (Option.some.inj e)) (fun c fz e => by cases e)
      have hsz1 := hB1.size
      gi_wp2_with fail
      refine ⟨trivial, ?_⟩
      refine (CallsIn.inRound q (callsIn_wide.2 (WriteByte_k w.heap.size w1.heap.size _ 58 W1 (.inr hI1) (by rw [List.length_append, byteCells_length, strCells_length]; omega) (by omega)))).mono ?_
      rintro e W2 ⟨rfl, hI2, hB2, hO2⟩
      have hob2 := hO2 bk _ hob1 (fun e => hbkb (Option.some.inj e)) (fun c fz e => by cases e)
      have hsz2 := hB2.size
      have d1 : W2.cell? ⟨bk, 1, none⟩ = some (.int .i64 kk) := cell_heap hob2 rfl
      have hBw2 := hB.trans (hB1.trans hB2)
      gi_wp2_with fail
      refine ⟨trivial, ?_⟩
      refine (CallsIn.inRound q (callsIn_wide.2 (Itoa_in kk (by omega) (by omega) W2 (hE.below hBw2 h6)))).mono ?_
      rintro e W3 ⟨rfl, hB3⟩
      have hI3 := builder_none (.inr hI2) (below_grown hB3)
      have hO3 : Lib.OthersKept 5 (some w1.heap.size) W2 W3 := others_below hB3
      have hsz3 := hB3.size
      have hitz : (itB kk).size = (Lib.itoa kk).length := by unfold itB; exact List.size_toArray
      have hitd : (itB kk).data.toList = Lib.itoa kk := rfl
      gi_wp2_with fail
      refine ⟨trivial, ?_⟩
      refine (CallsIn.inRound q (callsIn_wide.2 (WriteString_k w.heap.size w1.heap.size _ (itB kk) W3 hI3 (by rw [List.length_append, List.length_append, byteCells_length, strCells_length, hitz]; simp; omega) (by omega)))).mono ?_
      rintro e W4 ⟨rfl, hI4, hB4, hO4⟩
      have hsz4 := hB4.size
      have hB14 : Below w.heap.size W W4 := ((hB1.trans hB2).trans (hB3.mono (by omega))).trans hB4
      have hO14 := ((hO1.trans hO2).trans hO3).trans hO4
      by_cases hx0 : x.1.1 = 0
      · have hN : decide ((x.1.1 : Int) > 0) = false := by simp; omega
        gi_wp2
        have hKo := others_keeps hI hO14 hB14.size
        refine ⟨hKo, ⟨hB14, hKo.walks, fun c => others_boxed hO14 (by omega) (by decide) c⟩, .inr ?_, others_boxed hO14 (by omega) (by decide) hbx, hB.trans hB14⟩
        have e : byteCells (txt (vals (pre ++ [x]))) = byteCells T0 ++ strCells nm ++ [.int .u8 58] ++ strCells (itB kk) := by
          rw [HSN.out, HTX.out, if_pos hx0, List.append_nil, byteCells_append, byteCells_append, byteCells_append]
          simp only [strCells_eq, hitd, List.append_assoc]
          rfl
        rw [e]
        exact hI4
      · have hN : decide ((x.1.1 : Int) > 0) = true := by simp; omega
        gi_wp2_with fail
        refine ⟨trivial, ?_⟩
        refine (CallsIn.inRound q (callsIn_wide.2 (WriteString_k w.heap.size w1.heap.size _ ⟨#[32, 60, 32]⟩ W4 (.inr hI4) (by
          rw [List.length_append, List.length_append, List.length_append, byteCells_length, strCells_length, strCells_length, hitz]
          have : (⟨#[32, 60, 32]⟩ : ByteArray).size = 3 := rfl
          rw [this]; simp; omega) (by omega)))).mono ?_
        rintro e W5 ⟨rfl, hI5, hB5, hO5⟩
        have hB15 := hB14.trans hB5
        have hO15 := hO14.trans hO5
        gi_wp2
        have hKo := others_keeps hI hO15 hB15.size
        refine ⟨hKo, ⟨hB15, hKo.walks, fun c => others_boxed hO15 (by omega) (by decide) c⟩, .inr ?_, others_boxed hO15 (by omega) (by decide) hbx, hB.trans hB15⟩
        have e : byteCells (txt (vals (pre ++ [x]))) = byteCells T0 ++ strCells nm ++ [.int .u8 58] ++ strCells (itB kk) ++ strCells ⟨#[32, 60, 32]⟩ := by
          rw [HSN.out, HTX.out, if_neg hx0, byteCells_append, byteCells_append, byteCells_append, byteCells_append]
          simp only [strCells_eq, hitd, List.append_assoc]
          rfl
        rw [e]
        exact hI5
    case done =>
      rintro D ys W hD hys ⟨hI, hbx, hB⟩ hK
      have hszW := hB.size
      have hRe : R = txt (vals ys) := by rw [← HR.out]; unfold textL; rw [if_pos HC.out, hys]
      have hSt := Tryd.Builder_String_any_k w.heap.size w1.heap.size (txt (vals ys)) W hI hszW
      rw [← hRe] at hSt
      clear hRe hys hI
      gi_wp2_with fail
      refine ⟨trivial, ?_⟩
      refine (callsIn_wide.2 hSt).mono ?_
      rintro e W1 ⟨rfl, hI1, hB1, hO1⟩
      have hK1 : W1.heap[D]? = some (.deferred (some [])) := hO1 D _ hK (fun e => by have := Option.some.inj e; omega) (fun c fz e => by cases e)
      gi_wp2
      refine ⟨by simp, .inl ⟨_, _, rfl, run_takeDeferred hK1, ?_⟩⟩
      exact ⟨_, results_tmp2 rfl _ _ _, rfl, (hB.trans hB1).trans (belowK_b (w := w) (Nat.le_refl _) W1 D _ _ (by omega) hK1 rfl rfl)⟩
  · have hRn : R = [] := by rw [← HR.out]; unfold textL; rw [HC.out, if_neg hC0]
    subst hRn
    have hC1 : ((C : Int) != 0) = true := by simp; omega
    gi_wp2_with fail
    refine ⟨trivial, ?_⟩
    refine (callsIn_wide.2 hC).mono ?_
    rintro e w1 ⟨rfl, hb1⟩
    gi_wp2_with fail
    exact ⟨_, results_tmp2 rfl _ _ _, rfl, hb1⟩
end Go.Proofs.YtbldeiejlebbiaaDoor.T
