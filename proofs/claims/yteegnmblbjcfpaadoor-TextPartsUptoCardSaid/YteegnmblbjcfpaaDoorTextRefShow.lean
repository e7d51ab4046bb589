/-
  errataref01.all, Show, Quote.
-/
import Derived.Lib.AppendStr
import Derived.Lib.UnsafeStr
import Derived.Laws.IdiomStrings
import Derived.Test.YteegnmblbjcfpaaDoorTextRefAll
set_option linter.unusedVariables false
namespace Go.Proofs.YteegnmblbjcfpaaDoor.T
open Go Go.Lib Go.RowKit Go.Shelf

theorem infoByte : (Tryd.prog.info? 5).map (fun i => (i.zero, i.size, i.bytes)) = some (some (.int .u8 0), 1, 1) := by kernel_rfl
/-- v is a slice of just these bytes, in memory from block B on -/
def BytesRow (B : Nat) (w : World) (v : Value) (l : List UInt8) : Prop := w.ownsRow B 5 1 v l.length (byteCells l)
theorem row_string {B : Nat} {w : World} {v : Value} {l : List UInt8} (h : BytesRow B w v l) : (convert 54 9 v).run Tryd.prog w = .ok (.string ⟨l.toArray⟩) w := by
  have h' := h
  obtain ⟨hl, ⟨rfl, h0⟩ | ⟨g, cap, cur, rfl, _⟩⟩ := h
  · obtain rfl : l = [] := List.eq_nil_of_length_eq_zero h0
    have := run_convert_bytes_nil (P := Tryd.prog) w 54 5 Tryd.underlying54 Tryd.underlying5 0 0 9 Tryd.underlying9
    exact this
  · refine run_convert_bytes_back w 54 9 5 ⟨g, 0, none⟩ cap l Tryd.underlying54 Tryd.underlying5 Tryd.underlying9 (fun j hj => ?_)
    have ha : ((⟨g, 0, none⟩ : Addr).add j) = ⟨g, j, none⟩ := by unfold Addr.add; split <;> simp_all
    rw [ha, World.ownsRow.cellAt h' j (by omega)]
    simp [byteCells, hj]

/-- how what is taken is shown -/
def shL (s : ByteArray) (q : Bool) (l : List (Nat × Int)) : List UInt8 := l.flatMap fun x => (shB (pieceS s x) x.2 q).data.toList
theorem shL_snoc (s : ByteArray) (q : Bool) (l : List (Nat × Int)) (x : Nat × Int) : shL s q (l ++ [x]) = shL s q l ++ (shB (pieceS s x) x.2 q).data.toList := by simp [shL]
theorem shB_size (S : ByteArray) (r : Int) (q : Bool) (h : S.size ≤ 4) : (shB S r q).size ≤ 5 := by
  unfold shB hexS
  split
  · rw [strOfNums_size]; simp
  · split
    · rw [ByteArray.size_append']; show 1 + S.size ≤ 5; omega
    · omega
theorem shL_length (s : ByteArray) (q : Bool) : ∀ l : List (Nat × Int), (∀ x ∈ l, x ∈ pcs s) → (shL s q l).length ≤ 5 * l.length
  | [], _ => Nat.le_refl _
  | x :: l, h => by
    have ih := shL_length s q l (fun y hy => h y (by simp [hy]))
    have hx := (pcs_mem s x (h x (by simp))).1
    have h5 := shB_size (pieceS s x) x.2 q (by rw [pieceS_size s x hx]; exact pc_le4 s x.1)
    have e : shL s q (x :: l) = (shB (pieceS s x) x.2 q).data.toList ++ shL s q l := rfl
    rw [e, List.length_append]
    have e2 : (shB (pieceS s x) x.2 q).data.toList.length = (shB (pieceS s x) x.2 q).size := rfl
    rw [e2, List.length_cons]; omega

set_option maxRecDepth 100000 in
set_option maxHeartbeats 2000000 in
theorem refAll_in (s : ByteArray) (q : Bool) (hs : s.size ≤ 16777216) (w : World) :
    Calls Tryd.prog 36 #[.string s, .bool q] w fun e w' => e = .returned (.string ⟨(shL s q (pcs s)).toArray⟩) ∧ Below w.heap.size w w' := by
  obtain ⟨i0, hi, hz0, hz1, hz2⟩ := info_parts infoByte
  have hpl := pcs_length s
  go_enter Tryd.func36, Tryd.ntmps36
  go_wp2_with fail
  refine (pieces_in s hs _).mono ?_
  rintro e w1 ⟨vl, rfl, hrow, hb1⟩
  have hsz1 := hb1.size
  obtain ⟨hl, ⟨rfl, h0⟩ | ⟨g, cap, cur, rfl, hg0, hg1, hcap1, hcap2, hcap3, hcap4⟩⟩ := hrow
  · have hnil : pcs s = [] := List.eq_nil_of_length_eq_zero h0
    have HN := Lib.hid hnil
    clear hnil h0 hl hpl
    have hcv := fun (W : World) => run_convert_bytes_nil (P := Tryd.prog) W 54 5 Tryd.underlying54 Tryd.underlying5 0 0 9 Tryd.underlying9
    go_wp2
    refine wp_loop_rounds 1 ?_
    rw [rounds_succ]
    go_wp2
    go_ret
    rw [HN.out]
    exact ⟨rfl, hb1⟩
  · have hrow : w1.ownsRow w.heap.size 28 3 (.slice (some ⟨g, 0, none⟩) (pcs s).length cap) (pcs s).length (pcells s (pcs s)) := ⟨hl, .inr ⟨g, cap, cur, rfl, hg0, hg1, hcap1, hcap2, hcap3, hcap4⟩⟩
    have hg : g < w1.heap.size := (Array.getElem?_eq_some_iff.1 hg1).1
    clear hg1 hcap3 hcap4
    go_wp2
    go_loopw [5, 7] (fun v i wr => ∃ k : Nat, k ≤ (pcs s).length ∧ i = .int .i64 k ∧ BytesRow w1.heap.size wr v (shL s q ((pcs s).take k)) ∧ Below w1.heap.size w1 wr)
      (fun _ i _ => (pcs s).length - (RowKit.intOf i).toNat)
    case atStart => exact ⟨0, Nat.zero_le _, rfl, World.ownsRow_nil _ _ _ _, Below.refl _ _⟩
    case round =>
      obtain ⟨k, hk, rfl, hout, hbw⟩ := hrel
      by_cases hlt : k < (pcs s).length
      · obtain ⟨x, hx⟩ : ∃ x, (pcs s)[k]? = some x := ⟨_, List.getElem?_eq_getElem hlt⟩
        have hxm := pcs_mem s x (List.mem_of_getElem? hx)
        obtain ⟨c0, c1, c2⟩ := piece_cells hrow hg hbw k x hx
        have hS := pieceS_size s x hxm.1
        have hp := pc_pos s x.1 hxm.1
        have hp4 := pc_le4 s x.1
        have htk : (pcs s).take (k + 1) = (pcs s).take k ++ [x] := by rw [List.take_add_one, hx]; rfl
        have hsn := shL_snoc s q ((pcs s).take k) x
        rw [← htk] at hsn
        have hwl := shL_length s q ((pcs s).take k) (fun y hy => List.mem_of_mem_take hy)
        have hbl2 : ((pcs s).take k).length ≤ k := List.length_take_le _ _
        have h5 := shB_size (pieceS s x) x.2 q (by rw [hS]; exact hp4)
        have HS := Lib.hid hS
        have HSN := Lib.hid hsn
        have HX := Lib.hid hx
        clear hsn htk hx hS hxm
        go_wp2_with fail
        refine (shown_in x.1 (pieceS s x) x.2 q (by rw [HS.out]; omega) (by rw [HS.out]; omega) _).mono ?_
        rintro e w2 ⟨rfl, hb2⟩
        have hout2 : w2.ownsRow w1.heap.size 5 1 _ (shL s q ((pcs s).take k)).length (byteCells (shL s q ((pcs s).take k))) := row_none hout (below_grown hb2)
        have hszr := hbw.size
        have hsz2 := hb2.size
        go_wp2_with (at_builtin; refine wpList_append_own_string _ rfl _ _ 54 9 rfl w1.heap.size 5 i0 Tryd.underlying54 Tryd.underlying9 hi hz0 hz1 hz2 _ _ _ rfl hout2 (shB (pieceS s x) x.2 q) rfl (by unfold maxLen; omega) (by omega) (by omega) ?_; intro v' w3 hown' hgrow _)
        go_wp2
        go_roundw
        case rel =>
          refine ⟨k + 1, by omega, by go_num, ?_, (hbw.trans (hb2.mono hszr)).grown hgrow (by omega) (fun j hj => (hout2.lt j hj).1)⟩
          rw [HSN.out]
          unfold BytesRow
          rw [List.length_append, byteCells_append]
          exact hown'
        case measure => simp [RowKit.intOf]; omega
      · obtain rfl : k = (pcs s).length := by omega
        rw [List.take_length] at hout
        have hcv := row_string hout
        go_wp2
        go_ret
        exact ⟨rfl, hb1.trans (hbw.mono hsz1)⟩
end Go.Proofs.YteegnmblbjcfpaaDoor.T
