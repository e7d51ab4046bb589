/-
  PLAIN: the places of PlaceNone, and its tree's nodes.
-/
import Derived.Test.YtbldeiejlebbiaaPlaceNoneA
set_option linter.unusedVariables false
namespace Go.Proofs.Ytbldeiejlebbiaa.T
open Go Go.Lib Go.RowKit

def pF (i : Nat) : Pl := ⟨⟨#[102]⟩, 1048576 - (i : Int)⟩
def pG (i : Nat) : Pl := ⟨⟨#[103]⟩, (i : Int)⟩
def l65 : List Pl := (List.range 65).map pF
def fOne : Pl := ⟨⟨#[102]⟩, 1⟩
def tl (k : Nat) : ByteArray := ⟨(List.replicate k (126 : UInt8)).toArray⟩
def zl : ByteArray := ⟨(List.replicate 121 (0 : UInt8)).toArray⟩
def gs (i : Nat) : List Nd := (List.range i).map fun k => ⟨0, pG k, 1⟩
theorem gs_succ (i : Nat) : gs (i + 1) = gs i ++ [⟨0, pG i, 1⟩] := by
  unfold gs; rw [List.range_succ, List.map_append]; rfl
theorem gs_len (i : Nat) : (gs i).length = i := by unfold gs; simp
theorem l65_len : l65.length = 65 := by unfold l65; simp
theorem l65_at {i : Nat} (h : i < 65) : l65[i]? = some (pF i) := by
  unfold l65; rw [List.getElem?_map, List.getElem?_range h]; rfl
theorem l64_at {i : Nat} (h : i < 64) : (l65.take 64)[i]? = some (pF i) := by
  rw [List.getElem?_take, if_pos h]; exact l65_at (by omega)
theorem check65 : checkN l65 = 31 := by decide +kernel
theorem check64 : checkN (l65.take 64) = 0 := by decide +kernel
theorem all64 : ∀ p ∈ l65.take 64, mayB p = true := List.all_eq_true.1 (by decide +kernel)
theorem check_zl : checkN [⟨zl, 0⟩] = 30 := by decide +kernel
theorem check_tl : checkN [⟨tl 120, 0⟩] = 0 := by decide +kernel
theorem check_tl1 : checkN [⟨tl 121, 0⟩] = 30 := by decide +kernel
theorem check_far : checkN [⟨⟨#[102]⟩, 1048577⟩] = 30 := by decide +kernel
theorem check_neg : checkN [⟨⟨#[102]⟩, -1⟩] = 30 := by decide +kernel
theorem may_f1 : mayB fOne = true := by decide +kernel
theorem may_g {i : Nat} (hi : i ≤ 1048576) : mayB (pG i) = true := by
  have h : okTo (pG i).n 1 = true := by
    show okTo ⟨#[103]⟩ 1 = true
    decide +kernel
  have hs : (pG i).n.size = 1 := rfl
  have hk : (pG i).k = (i : Int) := rfl
  unfold mayB edgeB
  simp only [h, hs, hk, Bool.and_true, Bool.not_eq_true', Bool.or_eq_false_iff, decide_eq_false_iff_not]
  omega
theorem fg {a b : Int} (h : (⟨⟨#[102]⟩, a⟩ : Pl) = ⟨⟨#[103]⟩, b⟩) : False := by
  have h1 : (⟨#[102]⟩ : ByteArray) = ⟨#[103]⟩ := congrArg Pl.n h
  exact absurd h1 (by decide +kernel)
theorem gf {a b : Int} (h : (⟨⟨#[103]⟩, a⟩ : Pl) = ⟨⟨#[102]⟩, b⟩) : False := fg h.symm
/-- the first 64 nodes are the long list's -/
def Chain (ms : List Nd) : Prop := ms.length = 64 ∧ ∀ i, i < 64 → ms[i]? = some ⟨i, pF i, i + 1⟩
theorem chain_of {ms : List Nd} {n : Nat} {q : Nd} (hw : Wf ms) (hl : ms.length ≤ 64) (hq : nodeAt ms n = some q) (hp : path ms n = l65.take 64) : Chain ms ∧ n = 64 ∧ q.d = 64 := by
  have h64 : (l65.take 64).length = 64 := by rw [List.length_take, l65_len]; rfl
  have h1 := path_le hw n n q (Nat.le_refl _) hq
  have h2 : n < ms.length + 1 := by have := (List.getElem?_eq_some_iff.1 hq).1; simpa using this
  rw [hp, h64] at h1
  have hn : n = 64 := by omega
  subst hn
  have h3 := path_depth hw 64 64 q (Nat.le_refl _) hq
  rw [hp, h64] at h3
  refine ⟨⟨by omega, fun i hi => ?_⟩, rfl, h3.symm⟩
  exact path_chain hw 64 q hq (by rw [hp, h64]) i (pF i) (by rw [hp]; exact l64_at hi)
theorem chain_mem {ms : List Nd} (h : Chain ms) {u : Nd} (hu : u ∈ ms) : ∃ j, j < 64 ∧ u = ⟨j, pF j, j + 1⟩ := by
  obtain ⟨j, hj, rfl⟩ := List.mem_iff_getElem.1 hu
  have hj' : j < 64 := by have := h.1; omega
  have := h.2 j hj'
  rw [List.getElem?_eq_getElem hj] at this
  exact ⟨j, hj', Option.some.inj this⟩
theorem g_new {ms : List Nd} (h : Chain ms) (i : Nat) : (0, pG i) ∉ (ms ++ gs i).map stepOf := fun hm => by
  obtain ⟨u, hu, he⟩ := List.mem_map.1 hm
  rcases List.mem_append.1 hu with hu | hu
  · obtain ⟨j, _, rfl⟩ := chain_mem h hu
    exact fg (congrArg Prod.snd he)
  · obtain ⟨k, hk, rfl⟩ := List.mem_map.1 hu
    have h1 := congrArg Pl.k (congrArg Prod.snd he)
    have h2 := List.mem_range.1 hk
    simp only [stepOf, pG] at h1
    omega
theorem f_new {ms : List Nd} (h : Chain ms) (i : Nat) : (0, fOne) ∉ (ms ++ gs i).map stepOf := fun hm => by
  obtain ⟨u, hu, he⟩ := List.mem_map.1 hm
  rcases List.mem_append.1 hu with hu | hu
  · obtain ⟨j, _, rfl⟩ := chain_mem h hu
    have h0 := congrArg Prod.fst he
    have h1 := congrArg Pl.k (congrArg Prod.snd he)
    simp only [stepOf, pF, fOne] at h0 h1
    omega
  · obtain ⟨k, hk, rfl⟩ := List.mem_map.1 hu
    exact gf (congrArg Prod.snd he)
theorem g_known {ms : List Nd} (h : Chain ms) {i : Nat} (hi : 9 < i) : ((ms ++ gs i).map stepOf)[73]? = some (0, pG 9) := by
  have h1 := h.1
  rw [List.getElem?_map, List.getElem?_append_right (by omega), h1]
  unfold gs
  rw [List.getElem?_map, List.getElem?_range (by omega)]
  rfl
theorem tl_append (k : Nat) : tl k ++ ⟨#[126]⟩ = tl (k + 1) := by
  apply ByteArray.ext
  rw [ByteArray.data_append]
  unfold tl
  rw [List.replicate_succ']
  apply Array.toList_inj.1
  simp
theorem tl_size (k : Nat) : (tl k).size = k := by show (List.replicate k (126 : UInt8)).toArray.size = k; simp
theorem zl_size : zl.size = 121 := by show (List.replicate 121 (0 : UInt8)).toArray.size = 121; simp
theorem mk121 (W : World) : (Instr.makeSlice 38 (.int .i64 121) (.int .i64 121)).run Try.prog W = .ok (.slice (some ⟨W.heap.size, 0, none⟩) 121 121) (W.alloc (.cells (Array.replicate 121 (.int .u8 0)) 5)) := by kernel_rfl
theorem cv121 (W : World) : (convert 38 9 (.slice (some ⟨W.heap.size, 0, none⟩) 121 121)).run Try.prog (W.alloc (.cells (Array.replicate 121 (.int .u8 0)) 5)) = .ok (.string zl) (W.alloc (.cells (Array.replicate 121 (.int .u8 0)) 5)) := by
  refine bytes_string (B := W.heap.size) (l := List.replicate 121 0) ?_
  have hc : (Array.replicate 121 (Value.int .u8 0)).toList.take (121 * 1) = Go.Lib.byteCells (List.replicate 121 (0 : UInt8)) := by
    unfold Go.Lib.byteCells
    simp
  have hl : (List.replicate 121 (0 : UInt8)).length = 121 := by simp
  unfold BytesRow
  rw [hl]
  exact ⟨by rw [← hc]; simp, .inr ⟨W.heap.size, 121, Array.replicate 121 (.int .u8 0), rfl, Nat.le_refl _, heap_alloc_new W _, Nat.le_refl _, by decide, by simp, hc⟩⟩
/-- a list of one place, laid in a block of its own -/
theorem one_pl (W : World) (x : Pl) : PlSl (W.heap.size + 1) (W.alloc (.cells #[.string x.n, .int .i64 x.k] 24)) (.slice (some ⟨W.heap.size, 0, none⟩) 1 1) [x] := by
  refine ⟨_, 1, rfl, by simp, by omega, fun _ => ⟨W.heap.size, 0, rfl, Nat.lt_succ_self _, fun j y hj => ?_⟩⟩
  match j, hj with
  | 0, hj => simp at hj; subst hj; simp
  | j + 1, hj => simp at hj
theorem plCs_take (l : List Pl) (k : Nat) (hk : k ≤ l.length) : (plCs l).take (k * 2) = plCs (l.take k) := by
  have e : plCs l = plCs (l.take k) ++ plCs (l.drop k) := by rw [← plCs_app, List.take_append_drop]
  have h2 : (plCs (l.take k)).length = k * 2 := by rw [plCs_length, List.length_take]; congr 1; omega
  rw [e, List.take_append_of_le_length (by omega), List.take_of_length_le (by omega)]
theorem row_take {B : Nat} {w : World} {g n cap : Nat} {l : List Pl} (h : PRow 24 B w (.slice (some ⟨g, 0, none⟩) n cap) l) (k : Nat) (hk : k ≤ l.length) : PRow 24 B w (.slice (some ⟨g, 0, none⟩) k cap) (l.take k) := by
  have hkl : (l.take k).length = k := by rw [List.length_take]; omega
  unfold PRow at *
  rw [hkl]
  obtain ⟨h1, ⟨h0, _⟩ | ⟨g', cap', cur, hv, hg, hcur, h2, h3, h4, h5⟩⟩ := h
  · cases h0
  · simp only [Value.slice.injEq, Option.some.injEq, Addr.mk.injEq, and_true] at hv
    obtain ⟨rfl, _, rfl⟩ := hv
    refine ⟨by rw [plCs_length, hkl], .inr ⟨g, cap, cur, rfl, hg, hcur, by omega, h3, h4, ?_⟩⟩
    rw [← plCs_take l k hk, ← h5, List.take_take, Nat.min_eq_left (by omega)]
theorem slim65 : Slim l65 := fun p hp => by
  obtain ⟨i, _, rfl⟩ := List.mem_map.1 hp
  show (⟨#[102]⟩ : ByteArray).size ≤ _
  decide
theorem slim_one (x : Pl) (h : x.n.size ≤ 1000) : Slim [x] := fun p hp => by
  obtain rfl := List.mem_singleton.1 hp
  omega
theorem chk {l : List Pl} {c : Nat} (hs : Slim l) (hc : checkN l = c) (v : Value) (W : World) (h : PlSl W.heap.size W v l) : Calls Try.prog 12 #[v] W fun e w' => e = .returned (.int .i64 (c : Int)) ∧ Below W.heap.size W w' := by
  subst hc
  exact Check_in l hs W.heap.size v W h
theorem chk1 {x : Pl} {c : Nat} (hx : x.n.size ≤ 1000) (hc : checkN [x] = c) (W : World) : Calls Try.prog 12 #[.slice (some ⟨W.heap.size, 0, none⟩) 1 1] (W.alloc (.cells #[.string x.n, .int .i64 x.k] 24)) fun e w' => e = .returned (.int .i64 (c : Int)) ∧ Below W.heap.size W w' := by
  have h := one_pl W x
  have hz : (W.alloc (.cells #[.string x.n, .int .i64 x.k] 24)).heap.size = W.heap.size + 1 := by simp
  refine (chk (slim_one x hx) hc _ (W.alloc (.cells #[.string x.n, .int .i64 x.k] 24)) (by rw [hz]; exact h)).mono ?_
  rintro e w' ⟨rfl, hb⟩
  exact ⟨rfl, ((Below.refl _ W).alloc (Nat.le_refl _) _).trans (hb.mono (by omega))⟩
/-- a push of what is new, with its frame -/
theorem Push_more {B : Nat} {T : Nat} {v : Value} {m : Nat} {ns : List Nd} (x : Pl) (w : World) (h : TreeAt B w T v m ns) (hw : Wf ns) (hm : mayB x = true) (hi : (0, x) ∉ ns.map stepOf) (hroom : ns.length < 4095) :
    Calls Try.prog 4 #[.pointer (some ⟨T, 0, none⟩), .int .i64 0, .agg #[.string x.n, .int .i64 x.k]] w fun e w' => e = .returned (.tuple #[.int .i64 ((ns.length : Int) + 1), .int .i64 0]) ∧ (∃ v', TreeAt B w' T v' m (ns ++ [⟨0, x, 1⟩])) ∧ Wf (ns ++ [⟨0, x, 1⟩]) ∧ Below B w w' := by
  have hb := mayB_bd hm
  refine (Push_new 0 zeroNd x (by omega) w h rfl hm (by decide) hi (may_st hm (j := 0) (by omega)) hroom).mono ?_
  rintro e w' ⟨rfl, ⟨v', ht, hv'⟩, ⟨h1, h2, h3⟩, hz, hbk⟩
  obtain ⟨g, cap, hvg, hg1, hg2, _⟩ := h.nodes
  have hown : v.ownBlock = some g := by rw [hvg]; rfl
  exact ⟨rfl, ⟨v', ht⟩, hw.push (q := zeroNd) rfl (by decide) hm hi, ⟨h1, h2, h3, hz, fun b hb => hbk b (by have := h.base; omega) (fun e => by rw [hown] at e; cases e; omega) (by have := h.lo.1; omega) (by have := h.lo.2; omega)⟩⟩
end Go.Proofs.Ytbldeiejlebbiaa.T
