/-
  errataref01.Width, all, Show, Quote.
-/
import Derived.Test.YteegnmblbjcfpaaDoorTextShown
set_option linter.unusedVariables false
namespace Go.Proofs.YteegnmblbjcfpaaDoor.T
open Go Go.Lib Go.RowKit Go.Shelf

theorem pcells_get1 (s : ByteArray) : ∀ (l : List (Nat × Int)) (k : Nat) (x : Nat × Int), l[k]? = some x → (pcells s l)[k * 3 + 1]? = some (.string (s.extract x.1 (x.1 + (pc s x.1).2)))
  | [], _, _, h => by simp at h
  | y :: l, 0, x, h => by simp at h; subst h; rfl
  | y :: l, k + 1, x, h => by
    have ih := pcells_get1 s l k x (by simpa using h)
    have e : pcells s (y :: l) = pcell s y ++ pcells s l := rfl
    have hl : (pcell s y).length = 3 := rfl
    rw [e, List.getElem?_append_right (by omega), hl, show (k + 1) * 3 + 1 - 3 = k * 3 + 1 from by omega]
    exact ih
/-- the bytes of one thing -/
def pieceS (s : ByteArray) (x : Nat × Int) : ByteArray := s.extract x.1 (x.1 + (pc s x.1).2)
theorem pieceS_size (s : ByteArray) (x : Nat × Int) (h : x.1 < s.size) : (pieceS s x).size = (pc s x.1).2 := by
  have := pc_pos s x.1 h
  unfold pieceS; simp; omega
theorem pc_le4 (s : ByteArray) (p : Nat) : (pc s p).2 ≤ 4 := by
  rw [pc_2, decode_at]
  unfold decodeN
  (repeat' split) <;> simp

/-- the cells of one piece of a row, in any later world -/
theorem piece_cells {s : ByteArray} {w1 wr : World} {B g cap n0 : Nat} (hrow : w1.ownsRow B 28 3 (.slice (some ⟨g, 0, none⟩) (pcs s).length cap) (pcs s).length (pcells s (pcs s))) (hg : g < n0) (hbw : Below n0 w1 wr)
    (k : Nat) (x : Nat × Int) (hx : (pcs s)[k]? = some x) :
    wr.cell? ⟨g, k * 3, none⟩ = some (.int .i64 x.1) ∧ wr.cell? ⟨g, k * 3 + 1, none⟩ = some (.string (pieceS s x)) ∧ wr.cell? ⟨g, k * 3 + 2, none⟩ = some (.int .i32 x.2) := by
  have hk : k < (pcs s).length := (List.getElem?_eq_some_iff.1 hx).1
  obtain ⟨c0, c2⟩ := pcells_get s (pcs s) k x hx
  have c1 := pcells_get1 s (pcs s) k x hx
  exact ⟨(hbw.cell (p := ⟨g, k * 3, none⟩) hg).trans ((hrow.cellAt _ (by omega)).trans c0), (hbw.cell (p := ⟨g, k * 3 + 1, none⟩) hg).trans ((hrow.cellAt _ (by omega)).trans c1), (hbw.cell (p := ⟨g, k * 3 + 2, none⟩) hg).trans ((hrow.cellAt _ (by omega)).trans c2)⟩

set_option maxRecDepth 100000 in
set_option maxHeartbeats 2000000 in
theorem refWidth_in (s : ByteArray) (hs : s.size ≤ 16777216) (w : World) :
    Calls Tryd.prog 17 #[.string s] w fun e w' => e = .returned (.int .i64 (widthL (pcs s))) ∧ Below w.heap.size w w' := by
  have hpl := pcs_length s
  go_enter Tryd.func17, Tryd.ntmps17
  go_wp2_with fail
  refine (pieces_in s hs _).mono ?_
  rintro e w1 ⟨vl, rfl, hrow, hb1⟩
  have hsz1 := hb1.size
  obtain ⟨hl, ⟨rfl, h0⟩ | ⟨g, cap, cur, rfl, hg0, hg1, hcap1, hcap2, hcap3, hcap4⟩⟩ := hrow
  · have hnil : pcs s = [] := List.eq_nil_of_length_eq_zero h0
    have HN := Lib.hid hnil
    clear hnil h0 hl hpl
    go_wp2
    refine wp_loop_rounds 1 ?_
    rw [rounds_succ]
    go_wp2
    go_ret
    rw [HN.out]
    exact ⟨rfl, hb1⟩
  · have hrow : w1.ownsRow w.heap.size 28 3 (.slice (some ⟨g, 0, none⟩) (pcs s).length cap) (pcs s).length (pcells s (pcs s)) := ⟨hl, .inr ⟨g, cap, cur, rfl, hg0, hg1, hcap1, hcap2, hcap3, hcap4⟩⟩
    have hg : g < w1.heap.size := (Array.getElem?_eq_some_iff.1 hg1).1
    clear hg1 hcap3 hcap4
    go_wp2
    go_loopw [3, 5] (fun v i wr => ∃ k : Nat, k ≤ (pcs s).length ∧ i = .int .i64 k ∧ v = .int .i64 (widthL ((pcs s).take k)) ∧ Below w1.heap.size w1 wr)
      (fun _ i _ => (pcs s).length - (RowKit.intOf i).toNat)
    case atStart => exact ⟨0, Nat.zero_le _, rfl, rfl, Below.refl _ _⟩
    case round =>
      obtain ⟨k, hk, rfl, rfl, hbw⟩ := hrel
      by_cases hlt : k < (pcs s).length
      · obtain ⟨x, hx⟩ : ∃ x, (pcs s)[k]? = some x := ⟨_, List.getElem?_eq_getElem hlt⟩
        have hxm := pcs_mem s x (List.mem_of_getElem? hx)
        obtain ⟨c0, c1, c2⟩ := piece_cells hrow hg hbw k x hx
        have hS := pieceS_size s x hxm.1
        have hp := pc_pos s x.1 hxm.1
        have hp4 := pc_le4 s x.1
        have htk : (pcs s).take (k + 1) = (pcs s).take k ++ [x] := by rw [List.take_add_one, hx]; rfl
        have hsn := widthL_snoc ((pcs s).take k) x
        rw [← htk] at hsn
        have hwl := widthL_bd ((pcs s).take k)
        have hbl2 : ((pcs s).take k).length ≤ k := List.length_take_le _ _
        have hwo := wOf_bd x.2
        have HS := Lib.hid hS
        have HSN := Lib.hid hsn
        have HX := Lib.hid hx
        clear hsn htk hx hS hxm
        go_wp2_with fail
        refine (shown_in x.1 (pieceS s x) x.2 false (by rw [HS.out]; omega) (by rw [HS.out]; omega) _).mono ?_
        rintro e w2 ⟨rfl, hb2⟩
        rw [shW_f]
        go_wp2
        go_roundw
        case rel => exact ⟨k + 1, by omega, by go_num, by rw [HSN.out], hbw.trans (hb2.mono hbw.size)⟩
        case measure => simp [RowKit.intOf]; omega
      · obtain rfl : k = (pcs s).length := by omega
        rw [List.take_length]
        go_wp2
        go_ret
        exact ⟨rfl, hb1.trans (hbw.mono hsz1)⟩
end Go.Proofs.YteegnmblbjcfpaaDoor.T
