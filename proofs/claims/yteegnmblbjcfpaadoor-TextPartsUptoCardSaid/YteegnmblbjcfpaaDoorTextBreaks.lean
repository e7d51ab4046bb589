/-
  errataref01.Breaks, erratalaw01.sameInts.
-/
import Derived.Test.YteegnmblbjcfpaaDoorTextPieces
set_option linter.unusedVariables false
namespace Go.Proofs.YteegnmblbjcfpaaDoor.T
open Go Go.Lib Go.RowKit

def brksOf (l : List (Nat × Int)) : List Int := (l.filter fun x => x.2 < 0).map fun x => (x.1 : Int)
theorem brksOf_snoc (l : List (Nat × Int)) (x : Nat × Int) : brksOf (l ++ [x]) = if x.2 < 0 then brksOf l ++ [(x.1 : Int)] else brksOf l := by
  unfold brksOf; rw [List.filter_append]; by_cases h : x.2 < 0 <;> simp [h]
theorem brksOf_length (l : List (Nat × Int)) : (brksOf l).length ≤ l.length := by
  unfold brksOf; rw [List.length_map]; exact List.length_filter_le _ _
theorem pcells_get (s : ByteArray) : ∀ (l : List (Nat × Int)) (k : Nat) (x : Nat × Int), l[k]? = some x → (pcells s l)[k * 3]? = some (.int .i64 x.1) ∧ (pcells s l)[k * 3 + 2]? = some (.int .i32 x.2)
  | [], _, _, h => by simp at h
  | y :: l, 0, x, h => by
    simp at h; subst h
    exact ⟨rfl, rfl⟩
  | y :: l, k + 1, x, h => by
    have ih := pcells_get s l k x (by simpa using h)
    have e : pcells s (y :: l) = pcell s y ++ pcells s l := rfl
    have hl : (pcell s y).length = 3 := rfl
    rw [e, List.getElem?_append_right (by omega), List.getElem?_append_right (by omega), hl, show (k + 1) * 3 - 3 = k * 3 from by omega, show (k + 1) * 3 + 2 - 3 = k * 3 + 2 from by omega]
    exact ih

/-- v is a slice of just these whole numbers, in memory from block B on -/
def IntsRow (B : Nat) (w : World) (v : Value) (xs : List Int) : Prop := w.ownsRow B 3 1 v xs.length (xs.map (Value.int .i64))
def IsInts (xs : List Int) (w : World) (e : Ending) (w' : World) : Prop := ∃ v, e = .returned v ∧ IntsRow w.heap.size w' v xs ∧ Below w.heap.size w w'
theorem infoInt : (Tryd.prog.info? 3).map (fun i => (i.zero, i.size, i.bytes)) = some (some (.int .i64 0), 1, 8) := by kernel_rfl
theorem cell1_new (W : World) (a : Value) (t : TypeId) : ∀ j u, [a][j]? = some u → (W.alloc (.cells #[a] t)).cell? ((⟨W.heap.size, 0, none⟩ : Addr).add j) = some u := by
  intro j u hj
  have : ((⟨W.heap.size, 0, none⟩ : Addr).add j) = ⟨W.heap.size, j, none⟩ := by unfold Addr.add; split <;> simp_all
  rw [this, World.cell?_alloc_at _ _ _ _ rfl]
  simpa using hj
theorem IntsRow.base {B B' : Nat} {w : World} {v : Value} {xs : List Int} (h : IntsRow B w v xs) (hB : B' ≤ B) : IntsRow B' w v xs := by
  obtain ⟨hl, h0 | ⟨g, cap, cur, hv, hg, h'⟩⟩ := h
  · exact ⟨hl, .inl h0⟩
  · exact ⟨hl, .inr ⟨g, cap, cur, hv, by omega, h'⟩⟩

set_option maxRecDepth 100000 in
set_option maxHeartbeats 2000000 in
theorem refBreaks_in (s : ByteArray) (hs : s.size ≤ 16777216) (w : World) :
    Calls Tryd.prog 11 #[.string s] w (IsInts (brksOf (pcs s)) w) := by
  obtain ⟨i0, hi, hz0, hz1, hz2⟩ := info_parts infoInt
  have hpl := pcs_length s
  go_enter Tryd.func11, Tryd.ntmps11
  go_wp2_with fail
  refine (pieces_in s hs _).mono ?_
  rintro e w1 ⟨vl, rfl, hrow, hb1⟩
  have hsz1 := hb1.size
  obtain ⟨hl, ⟨rfl, h0⟩ | ⟨g, cap, cur, rfl, hg0, hg1, hcap1, hcap2, hcap3, hcap4⟩⟩ := hrow
  · have hnil : pcs s = [] := List.eq_nil_of_length_eq_zero h0
    have HN := Lib.hid hnil
    clear hnil h0 hl hpl
    go_wp2
    refine wp_loop_rounds 1 ?_
    rw [rounds_succ]
    go_wp2
    go_ret
    refine ⟨_, rfl, ?_, hb1⟩
    rw [HN.out]
    exact World.ownsRow_nil _ _ _ _
  · have hrow : w1.ownsRow w.heap.size 28 3 (.slice (some ⟨g, 0, none⟩) (pcs s).length cap) (pcs s).length (pcells s (pcs s)) := ⟨hl, .inr ⟨g, cap, cur, rfl, hg0, hg1, hcap1, hcap2, hcap3, hcap4⟩⟩
    have hg : g < w1.heap.size := (Array.getElem?_eq_some_iff.1 hg1).1
    clear hg1 hcap3 hcap4
    go_wp2
    go_loopw [3, 5] (fun v i wr => ∃ k : Nat, k ≤ (pcs s).length ∧ i = .int .i64 k ∧ IntsRow w1.heap.size wr v (brksOf ((pcs s).take k)) ∧ Below w1.heap.size w1 wr)
      (fun _ i _ => (pcs s).length - (intOf i).toNat)
    case atStart => exact ⟨0, Nat.zero_le _, rfl, World.ownsRow_nil _ _ _ _, Below.refl _ _⟩
    case round =>
      obtain ⟨k, hk, rfl, hout, hbw⟩ := hrel
      by_cases hlt : k < (pcs s).length
      · obtain ⟨x, hx⟩ : ∃ x, (pcs s)[k]? = some x := ⟨_, List.getElem?_eq_getElem hlt⟩
        obtain ⟨c0, c2⟩ := pcells_get s (pcs s) k x hx
        have hc0 : wr.cell? ⟨g, k * 3, none⟩ = some (.int .i64 x.1) := (hbw.cell (p := ⟨g, k * 3, none⟩) hg).trans ((hrow.cellAt _ (by omega)).trans c0)
        have hc2 : wr.cell? ⟨g, k * 3 + 2, none⟩ = some (.int .i32 x.2) := (hbw.cell (p := ⟨g, k * 3 + 2, none⟩) hg).trans ((hrow.cellAt _ (by omega)).trans c2)
        have htk : (pcs s).take (k + 1) = (pcs s).take k ++ [x] := by rw [List.take_add_one, hx]; rfl
        have hsn := brksOf_snoc ((pcs s).take k) x
        rw [← htk] at hsn
        have hbl := brksOf_length ((pcs s).take k)
        have hbl2 : ((pcs s).take k).length ≤ k := List.length_take_le _ _
        have HSN := Lib.hid hsn
        have HX := Lib.hid hx
        clear hsn htk hx c0 c2
        have hszr := hbw.size
        by_cases hx2 : x.2 < 0
        · have hout' : wr.ownsRow w1.heap.size 3 1 _ (brksOf ((pcs s).take k)).length ((brksOf ((pcs s).take k)).map (Value.int .i64)) := hout
          go_wp2_with (at_builtin; refine wpList_append_own _ rfl _ _ 29 rfl w1.heap.size 3 i0 (.int .i64 0) 1 8 Tryd.underlying29 hi hz0 hz1 hz2 rfl (by decide) _ (brksOf ((pcs s).take k)).length _ rfl (hout'.alloc _) ⟨wr.heap.size, 0, none⟩ 1 1 [.int .i64 x.1] rfl rfl (cell1_new _ _ _) (by simp [Value.oneCell']) (by unfold maxLen; omega) (by omega) (by simp; omega) ?_; intro v' w2 hown' hgrow _)
          go_wp2
          go_roundw
          case rel =>
            refine ⟨k + 1, by omega, by go_num, ?_, ?_⟩
            · rw [HSN.out, if_pos hx2]
              unfold IntsRow
              simpa using hown'
            · exact (hbw.alloc hszr _).grown hgrow (by simp; omega) (fun j hj => (hout'.lt j hj).1)
          case measure => simp [intOf]; omega
        · go_wp2
          go_roundw
          case rel =>
            refine ⟨k + 1, by omega, by go_num, ?_, hbw⟩
            rw [HSN.out, if_neg (by omega)]
            exact hout
          case measure => simp [intOf]; omega
      · obtain rfl : k = (pcs s).length := by omega
        rw [List.take_length] at hout
        go_wp2
        go_ret
        exact ⟨_, rfl, hout.base hsz1, hb1.trans (hbw.mono hsz1)⟩

/-- two rows of the same numbers are the same -/
theorem sameInts_in (B1 B2 : Nat) (va vb : Value) (xs : List Int) (hxs : xs.length ≤ 16777216) (w : World) (ha : IntsRow B1 w va xs) (hb : IntsRow B2 w vb xs) :
    Calls Tryd.prog 13 #[va, vb] w fun e w' => e = .returned (.bool true) ∧ ∃ n, w' = w.drewN n := by
  obtain ⟨hla, ⟨rfl, h0⟩ | ⟨ga, capa, cura, rfl, ha'⟩⟩ := ha
  · obtain ⟨hlb, ⟨rfl, _⟩ | ⟨gb, capb, curb, rfl, hb'⟩⟩ := hb
    · clear h0 hla hlb
      go_enter Tryd.func13, Tryd.ntmps13
      go_wp2
      refine wp_loop_rounds 1 ?_
      rw [rounds_succ]
      go_wp2
      go_ret
      exact ⟨rfl, 0, rfl⟩
    · obtain rfl : xs = [] := List.eq_nil_of_length_eq_zero h0
      clear h0 hla hlb hb'
      go_enter Tryd.func13, Tryd.ntmps13
      go_wp2
      refine wp_loop_rounds 1 ?_
      rw [rounds_succ]
      go_wp2
      go_ret
      exact ⟨rfl, 0, rfl⟩
  · obtain ⟨hlb, ⟨rfl, h0⟩ | ⟨gb, capb, curb, rfl, hb'⟩⟩ := hb
    · obtain rfl : xs = [] := List.eq_nil_of_length_eq_zero h0
      clear h0 hla hlb ha'
      go_enter Tryd.func13, Tryd.ntmps13
      go_wp2
      refine wp_loop_rounds 1 ?_
      rw [rounds_succ]
      go_wp2
      go_ret
      exact ⟨rfl, 0, rfl⟩
    · have ha : w.ownsRow B1 3 1 (.slice (some ⟨ga, 0, none⟩) xs.length capa) xs.length (xs.map (Value.int .i64)) := ⟨hla, .inr ⟨ga, capa, cura, rfl, ha'⟩⟩
      have hb : w.ownsRow B2 3 1 (.slice (some ⟨gb, 0, none⟩) xs.length capb) xs.length (xs.map (Value.int .i64)) := ⟨hlb, .inr ⟨gb, capb, curb, rfl, hb'⟩⟩
      clear ha' hb'
      go_enter Tryd.func13, Tryd.ntmps13
      go_wp2
      go_loopw [5] (fun i wr => ∃ k : Nat, k ≤ xs.length ∧ i = .int .i64 k ∧ ∃ n, wr = w.drewN n) (fun i _ => xs.length - (intOf i).toNat)
      case atStart => exact ⟨0, Nat.zero_le _, rfl, 0, rfl⟩
      case round =>
        obtain ⟨k, hk, rfl, n, rfl⟩ := hrel
        by_cases hlt : k < xs.length
        · have ea : w.cell? ⟨ga, k, none⟩ = some (.int .i64 xs[k]) := by rw [ha.cellAt k (by omega)]; simp [hlt]
          have eb : w.cell? ⟨gb, k, none⟩ = some (.int .i64 xs[k]) := by rw [hb.cellAt k (by omega)]; simp [hlt]
          go_wp2
          go_quiet (fail)
          go_wp2
          go_roundw
          case rel => exact ⟨k + 1, by omega, by go_num, n + nq, rfl⟩
          case measure => simp [intOf]; omega
        · obtain rfl : k = xs.length := by omega
          go_wp2
          go_ret
          exact ⟨rfl, n, rfl⟩
end Go.Proofs.YteegnmblbjcfpaaDoor.T
