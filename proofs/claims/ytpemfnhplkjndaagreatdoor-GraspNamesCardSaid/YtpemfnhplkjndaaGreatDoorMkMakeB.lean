/-
  book.Make, whatever kinds.Make makes of the spec.
-/
import Derived.Test.YtpemfnhplkjndaaGreatDoorMkPush
import Derived.Deep.AppendLies
import Derived.Deep.RegionHeld3
set_option linter.unusedVariables false
namespace Go.Proofs.YtpemfnhplkjndaaGreatDoor.T
open Go Go.Lib Go.RowKit
attribute [local go_sem] run_store_float

theorem len_push {B b : Nat} {es : List En} (x : En) (w : World) (h : BkAt B w b (es ++ [x])) : Calls Tryz.prog 40 #[.pointer (some ⟨b, 0, none⟩)] w fun e w' => e = .returned (.int .i64 ((es.length + 1 : Nat) : Int)) ∧ w' = w := by
  have := len_in w h
  simpa using this
/-- what an error of a book is made of: what the calls of Make come to, whatever is made meanwhile -/
structure Makes (w : World) (b : Nat) (s parts : Value) (PE : World → Value → Prop) (PM : World → TypeId → Value → Prop) (sz dp lg wd : Nat) : Prop where
  errs : ∀ W, Below w.heap.size w W → Calls Tryz.prog 36 #[.pointer (some ⟨b, 0, none⟩), parts] W fun e w' => ∃ pv, e = .returned (.tuple #[pv, .int .i64 0]) ∧ PE w' pv ∧ Below W.heap.size W w'
  make : ∀ W, Below w.heap.size w W → ∀ pv, PE W pv → Calls Tryz.prog 37 #[s, pv] W fun e w' => ∃ T u, e = .returned (.tuple #[.iface T u, .int .i64 0]) ∧ PM w' T u ∧ Below W.heap.size W w'
  bulk : ∀ W, Below w.heap.size w W → Calls Tryz.prog 38 #[.pointer (some ⟨b, 0, none⟩), s] W fun e w' => e = .returned (.agg #[.int .i64 sz, .int .i64 dp, .int .i64 lg, .int .i64 wd]) ∧ Below W.heap.size W w'
  keep : ∀ W W' T u, PM W T u → KeepB W W' → PM W' T u
  bsz : sz ≤ 4096
  bdp : dp ≤ 64
  blg : lg ≤ 65536
  bwd : wd ≤ 1048576
set_option maxRecDepth 100000 in
set_option maxHeartbeats 4000000 in
theorem Make_gen {B b : Nat} {es : List En} (k : Int) (t : ByteArray) (n : Int) (p : Option Addr) (c : Nat) (parts : Value) (hs : List Nat) (PE : World → Value → Prop) (PM : World → TypeId → Value → Prop) (sz dp lg wd : Nat) (w : World)
    (h : BkAt B w b es) (hB : B ≤ w.heap.size) (hroom : es.length < 65536) (ht : t.size ≤ 4096) (hl : hs.length ≤ 64) (hp : NSl w parts hs) (M : Makes w b (spV k t n (.slice p 0 c) parts) parts PE PM sz dp lg wd) :
    Calls Tryz.prog 26 #[.pointer (some ⟨b, 0, none⟩), spV k t n (.slice p 0 c) parts] w fun e w' => ∃ T u its ps, e = .returned (.tuple #[.int .i64 ((es.length + 1 : Nat) : Int), .int .i64 0]) ∧ PM w' T u ∧ BkAt B w' b (es ++ [⟨T, u, k, t, n, its, ps, hs, sz, dp, lg, wd⟩]) ∧ KeepB w w' ∧ Below B w w' := by
  have hp0 := hp
  obtain ⟨pa, pc, rfl, hpc, _⟩ := hp0
  have KE := Lib.hid M.errs
  have KM := Lib.hid M.make
  have KB := Lib.hid M.bulk
  have KP := Lib.hid M.keep
  have KK := Lib.hid (fun W => check_in sz dp lg wd M.bsz M.bdp M.blg M.bwd W)
  have KL := Lib.hid (fun W (hW : BkAt B W b es) => len_in W hW)
  have KL2 := Lib.hid (fun (x : En) (W : World) (hW : BkAt B W b (es ++ [x])) => len_push x W hW)
  have KC := Lib.hid (fun W hW => copied_in k t n p c (.slice pa hs.length pc) hs ht hl W hW)
  have HN := Lib.hid hp
  have HB := Lib.hid h
  clear M hp h
  generalize hs.length = m at *
  have hneq : ((es.length : Int) == 65536) = false := by simp; omega
  generalize hNe : es.length = N at *
  have HNE := Lib.hid hNe
  clear hNe
  unfold spV at *
  go_enter Tryz.func26, Tryz.ntmps26
  go_wp2_with fail
  refine (KE.out _ ((Below.refl _ _).alloc (Nat.le_refl _) _)).mono ?_
  rintro e w1 ⟨pv, rfl, hpe, hb1⟩
  have hA := ((Below.refl w.heap.size w).alloc (Nat.le_refl _) _).trans (hb1.mono (by simp))
  have G := Lib.hid (blk_new hb1)
  clear hb1
  obtain ⟨g0, g1, g2, g3, g4, g5, g6, g7, g8, g9, g10⟩ := cells11 G.out
  go_wp2_with fail
  refine (KM.out _ hA pv hpe).mono ?_
  rintro e w2 ⟨T, u, rfl, hpm, hb2⟩
  have hA2 := more hA hb2
  have G2 := Lib.hid ((hb2.block _ (blk_lt G.out)).trans G.out)
  clear g0 g1 g2 g3 g4 g5 g6 g7 g8 g9 g10 G hA hpe hb2
  obtain ⟨g0, g1, g2, g3, g4, g5, g6, g7, g8, g9, g10⟩ := cells11 G2.out
  go_wp2_with fail
  refine (KB.out _ hA2).mono ?_
  rintro e w3 ⟨rfl, hb3⟩
  have hA3 := more hA2 hb3
  have G3 := Lib.hid ((hb3.block _ (blk_lt G2.out)).trans G2.out)
  have hpm3 := Lib.hid (KP.out _ _ _ _ hpm (KeepB.of_below hb3))
  clear g0 g1 g2 g3 g4 g5 g6 g7 g8 g9 g10 G2 hA2 hpm hb3
  go_wp2_with fail
  refine (KK.out _).mono ?_
  rintro e w4 ⟨rfl, hb4⟩
  have Z4 := Lib.hid (blk_new hb4)
  have hb34 : Below w3.heap.size w3 w4 := ((Below.refl _ _).alloc (Nat.le_refl _) _).trans (hb4.mono (by simp))
  have hn : w3.heap.size < w4.heap.size := by have := hb4.size; simp at this; omega
  have hA4 := more hA3 hb34
  have G4 := Lib.hid ((hb34.block _ (blk_lt G3.out)).trans G3.out)
  have hpm4 := Lib.hid (KP.out _ _ _ _ hpm3.out (KeepB.of_below hb34))
  have hws : w.heap.size < w3.heap.size := by have := blk_lt G3.out; omega
  clear G3 hpm3 hb4 hb34
  go_wp2_with fail
  refine (KL.out _ (HB.out.below hA4)).mono ?_
  rintro e w5 ⟨rfl, rfl⟩
  go_wp2_with fail
  have HB5 := HB.out.below hA4
  obtain ⟨hBb, h65, v, gs, hbk, hrow, hlen, hent⟩ := id HB5
  have cb := cells_of hbk 0
  have fb := free_of hbk 0
  simp only [List.getElem?_toArray, List.getElem?_cons_zero] at cb
  have hbl := blk_lt hbk
  have hNl : es.length = N := HNE.out
  have hrow5 : w5.ownsRow B 99 1 v N (gs.map ptrV) := hNl ▸ hrow
  have HR := Lib.hid hrow5
  have hbv : v.ownBlock ≠ some b := by
    intro e
    rcases hrow5.2 with ⟨rfl, _⟩ | ⟨g, cap, cur, rfl, _, hg, _⟩
    · cases e
    · simp only [Value.ownBlock, Option.some.injEq] at e
      subst e
      rw [hbk] at hg
      simp at hg
  have HV := Lib.hid hbv
  obtain ⟨g0, g1, g2, g3, g4, g5, g6, g7, g8, g9, g10⟩ := cells11 G4.out
  have z0 := cells_of Z4.out 0; have z1 := cells_of Z4.out 1; have z2 := cells_of Z4.out 2; have z3 := cells_of Z4.out 3
  simp only [List.getElem?_toArray, List.getElem?_cons_zero, List.getElem?_cons_succ] at z0 z1 z2 z3
  have HN5 := Lib.hid (HN.out.below hA4)
  have HO := Lib.hid hlen
  have HE := Lib.hid hent
  have HBK := Lib.hid hbk
  clear hrow hrow5 hbv hlen hent HB5 hbk hNl h65
  obtain ⟨i0, hi, hz0, hz1, hz2⟩ := info_parts infoEntP
  go_region_law (first
    | (go_simp; go_at_call 41; refine (KC.out w5.drew HN5.out).mono ?_; rintro e w6 ⟨q6, d6, ps6, rfl, hN6, hb6⟩; obtain ⟨pa6, pc6, rfl, _⟩ := id hN6; have hbw6 := Below.trans ((Below.refl w5.heap.size w5).drew) hb6; have hz6 := hbw6.size; obtain ⟨hbl6, hbn6, hbn7, hbn8, hbn9, hbl7⟩ := nums6 hbl hz6; have hk6 := (hbw6.block b hbl).trans HBK.out; have hr6 := row_none HR.out (below_grown hbw6); have cb6 := (hbw6.cell (p := ⟨b, 0, none⟩) hbl).trans cb; have y0 := (hbw6.cell (p := ⟨w3.heap.size, 0, none⟩) hn).trans z0; have y1 := (hbw6.cell (p := ⟨w3.heap.size, 1, none⟩) hn).trans z1; have y2 := (hbw6.cell (p := ⟨w3.heap.size, 2, none⟩) hn).trans z2; have y3 := (hbw6.cell (p := ⟨w3.heap.size, 3, none⟩) hn).trans z3)
    | (refine step_append_lies _ (by rfl) _ _ _ (by rfl) B 99 i0 _ 1 8 Tryz.underlying58 hi hz0 hz1 hz2 rfl (by omega) v N (gs.map ptrV) (by rfl) ((hr6.alloc _).alloc _) ⟨w6.heap.size + 1, 0, none⟩ 1 1 [.pointer (some ⟨w6.heap.size, 0, none⟩)] (by rfl) (by rfl) (cell1_in _ _ _ _ (by simp)) (by simp [Value.oneCell']) (by omega) (by unfold maxLen; omega) (by omega) (by simp; omega) (w6.heap.size + 2) (by simp) ?_; intro gg cap w7 hown7 hgrow7 hat7 hlt7; have hk7 := keep7 hgrow7 HV.out hk6; have cb7 := cells_of hk7 0; have fb7 := free_of hk7 0))
  all_goals
    have hBw : B ≤ w6.heap.size := by have := hA4.size; omega
    have hfin := push_en (x := ⟨T, u, k, t, n, .slice q6 0 d6, .slice pa6 hs.length pc6, hs, sz, dp, lg, wd⟩) hBb HO.out HNE.out hroom hk6 (fun j g y hg hy => (HE.out j g y hg hy).below hbw6) hN6 ⟨_, _, _, rfl⟩ hr6 hgrow7 hown7 hat7 hBw
    have HF := Lib.hid hfin
    clear hfin
    clear cb7 fb7 y0 y1 y2 y3 cb6 hk7
    go_wp2_with fail
    refine (KL2.out _ _ HF.out.1).mono ?_
    rintro e w8 ⟨rfl, rfl⟩
    go_wp2
    go_ret2
    exact ⟨T, u, _, _, rfl, KP.out _ _ _ _ hpm4.out ((KeepB.of_below hbw6).trans HF.out.2.1), HF.out.1, (KeepB.of_below hA4).trans ((KeepB.of_below hbw6).trans HF.out.2.1), (hA4.mono hB).trans ((hbw6.mono (by have := hA4.size; omega)).trans HF.out.2.2)⟩
end Go.Proofs.YtpemfnhplkjndaaGreatDoor.T
