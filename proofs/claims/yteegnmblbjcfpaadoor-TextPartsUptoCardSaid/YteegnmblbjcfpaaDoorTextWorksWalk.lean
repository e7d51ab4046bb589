/-
  erratalaw01.works, walked.
-/
import Derived.Test.YteegnmblbjcfpaaDoorTextWorks
set_option linter.unusedVariables false
namespace Go.Proofs.YteegnmblbjcfpaaDoor.T
open Go Go.Lib Go.RowKit Go.Shelf

theorem ws_below {w w' : World} {B : Nat} {v : Value} {xs : List ByteArray} (h : WsAt B w v xs) (hb : Below B w w') : WsAt B w' v xs := by
  obtain ⟨a, c, e, h1, h2, h3⟩ := h
  refine ⟨a, c, e, h1, h2, fun hne => ?_⟩
  obtain ⟨bk, o, e2, hbk, hc⟩ := h3 hne
  exact ⟨bk, o, e2, hbk, hc.below hb hbk⟩
set_option maxRecDepth 100000 in
set_option maxHeartbeats 4000000 in
theorem works_in (w : World) (hT : Tabs w) (h2 : 2 ≤ w.heap.size) :
    Calls Tryd.prog 29 #[] w fun e w' => e = .returned (.bool true) ∧ Below w.heap.size w w' := by
  have two : ∀ W, Below w.heap.size w W → 2 ≤ W.heap.size := fun W hb => by have := hb.size; omega
  have cR := fun (W : World) => callsIn_wide.1 (Runes_in 8 ⟨#[97]⟩ W)
  have cQ := fun (W : World) (hb : Below w.heap.size w W) => after hb (callsIn_wide.1 (Quote_in ⟨#[97, 10, 255, 92, 34]⟩ (by decide) W (hT.below hb h2) (two W hb)))
  have cU := fun (W : World) (hb : Below w.heap.size w W) => after hb (Unquote_in ⟨#[34, 97, 92, 120, 48, 97, 92, 120, 102, 102, 92, 92, 92, 34, 34]⟩ (by decide) W (hT.below hb h2) (two W hb))
  have cL := fun (W : World) (hb : Below w.heap.size w W) => wrap_in ⟨#[116, 111, 32, 98, 101, 32, 32, 111, 114, 32, 110, 111, 116]⟩ 5 (by omega) (by omega) (by decide) W (hT.below hb h2) (two W hb)
  simp only [k_quote] at cQ
  simp only [k_unq, unV] at cU
  simp only [k_wrap] at cL
  have CR := Lib.hid cR; have CQ := Lib.hid cQ; have CU := Lib.hid cU; have CL := Lib.hid cL
  clear cR cQ cU cL two
  have hnf := fun W => eql_func_nil W (.func 33) #[] #[.pointer (some ⟨w.heap.size, 0, none⟩)]
  have hb0 := Below.refl w.heap.size w
  go_enter Tryd.func29, Tryd.ntmps29
  go_wp2_with fail
  refine (CR.out _).mono ?_
  rintro e w1 ⟨rfl, rfl⟩
  have hb1 := hb0.alloc (Nat.le_refl _) (.cells #[.string ⟨#[97]⟩] 9)
  go_wp2_with fail
  refine (CQ.out _ hb1).mono ?_
  rintro e w2 ⟨rfl, hb2⟩
  go_wp2_with fail
  refine (CU.out _ hb2).mono ?_
  rintro e w3 ⟨rfl, hb3⟩
  go_wp2_with fail
  refine (CL.out _ hb3).mono ?_
  rintro e w4 ⟨vl, rfl, rl4, hb4'⟩
  have hz3 := hb3.size
  have hb4 := hb3.trans (hb4'.mono hz3)
  have hz4 := hb4.size
  have hwl := rl4.ws
  have hT4 := hT.below hb4 h2
  have h24 : 2 ≤ w4.heap.size := by omega
  have two : ∀ W, Below w4.heap.size w4 W → 2 ≤ W.heap.size := fun W hb => by have := hb.size; omega
  have cW := fun (W : World) (hb : Below w4.heap.size w4 W) => after hb (callsIn_wide.1 (Width_in ⟨#[97, 10, 255, 92, 34]⟩ (by decide) W (hT4.below hb h24) (two W hb)))
  have cS := fun (W : World) (hb : Below w4.heap.size w4 W) => after hb (callsIn_wide.1 (Show_in ⟨#[255]⟩ (by decide) W (hT4.below hb h24) (two W hb)))
  have cC := fun (W : World) (hb : Below w4.heap.size w4 W) => after hb (Cut_in ⟨#[97, 98, 255]⟩ 5 (by decide) W (hT4.below hb h24) (two W hb))
  have cB := fun (W : World) (hb : Below w4.heap.size w4 W) => callsIn_wide.1 (Breaks_in ⟨#[255]⟩ (by decide) W (hT4.below hb h24) (two W hb))
  simp only [k_width] at cW
  simp only [k_show] at cS
  simp only [k_cut] at cC
  simp only [k_brk] at cB
  have CW := Lib.hid cW; have CS := Lib.hid cS; have CC := Lib.hid cC; have CB := Lib.hid cB
  clear cW cS cC cB two rl4 hb4' hb3 hb2 hb1 hb0
  have hq4 := Below.refl w4.heap.size w4
  go_wp2_with fail
  refine (CW.out _ hq4).mono ?_
  rintro e w5 ⟨rfl, hq5⟩
  go_wp2_with fail
  refine (CS.out _ hq5).mono ?_
  rintro e w6 ⟨rfl, hq6⟩
  have hz6 := hq6.size
  have hq7 := hq6.alloc hz6 (.cells #[.string ⟨#[116, 111, 32, 98, 101]⟩, .string ⟨#[111, 114]⟩, .string ⟨#[110, 111, 116]⟩] 9)
  go_wp2_with fail
  refine (sameTexts_ws _ _ _ _ _ (by decide) _ (ws_below hwl hq7) (ws_new w6 _ _ _)).mono ?_
  rintro e w7 ⟨rfl, n7, rfl⟩
  have hq8 := below_drewN hq7 n7
  go_wp2_with fail
  refine (CC.out _ hq8).mono ?_
  rintro e w9 ⟨rfl, hq9⟩
  go_wp2_with fail
  refine (CB.out _ hq9).mono ?_
  rintro e w10 ⟨vb, rfl, rb, hb10⟩
  obtain ⟨_, ⟨h, h0⟩ | ⟨g, cap, cur, rfl, _⟩⟩ := rb
  · simp at h0
  · have hf := hb4.trans ((hq9.trans (hb10.mono hq9.size)).mono hz4)
    go_wp2
    go_ret
    exact ⟨rfl, hf⟩
end Go.Proofs.YteegnmblbjcfpaaDoor.T
