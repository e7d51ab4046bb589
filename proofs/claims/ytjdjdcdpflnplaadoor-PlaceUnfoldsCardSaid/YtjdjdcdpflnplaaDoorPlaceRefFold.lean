/-
  errataref03.Fold.
-/
import Derived.Test.YtjdjdcdpflnplaaDoorPlaceRefFoldP
import Derived.Test.YtjdjdcdpflnplaaDoorPlaceFold
set_option linter.unusedVariables false
namespace Go.Proofs.YtjdjdcdpflnplaaDoor.T
open Go Go.Lib Go.RowKit

theorem refRunTy : Tryd.prog.underlying 29 = some (.slice 47) := by kernel_rfl
theorem refPlaceTy : Tryd.prog.underlying 32 = some (.slice 96) := by kernel_rfl
theorem one_pl (W : World) (x : Pl) (e : TypeId) : PlSl (W.heap.size + 1) (W.alloc (.cells #[.string x.n, .int .i64 x.k] e)).drew (.slice (some ⟨W.heap.size, 0, none⟩) 1 1) [x] := by
  refine ⟨_, 1, rfl, by simp, by omega, fun _ => ⟨W.heap.size, 0, rfl, Nat.lt_succ_self _, fun j p hj => ?_⟩⟩
  match j, hj with
  | 0, hj => simp at hj; subst hj; simp
  | j + 1, hj => simp at hj
set_option maxRecDepth 1000000 in
set_option maxHeartbeats 16000000 in
theorem refFold_in (l : List Pl) (hl : l.length ≤ 5864062014700) (hs : Slim l) (v : Value) (w : World) (h : PlSl w.heap.size w v l) :
    Calls Tryd.prog 11 #[v] w (IsRuns 96 47 (foldA l) (checkN l) w) := by
  have hC := refCheck_in l hs w.heap.size v w h
  have hck : checkN l = 0 → l.length ≤ 64 := fun h => (check_all h).2
  have hfa : foldA l = if checkN l = 0 then foldL l else [] := rfl
  generalize checkN l = C at *
  generalize hR : foldA l = R at *
  clear hR
  have HH := Lib.hid h
  obtain ⟨la, lc0, rfl, _⟩ := h
  go_enter Tryd.func11, Tryd.ntmps11
  by_cases hC0 : C = 0
  · subst hC0
    have hl64 := hck rfl
    rw [if_pos rfl] at hfa
    have HFA := Lib.hid hfa
    have HSL := Lib.hid hs
    clear hfa hs hck
    go_wp2_with (go_at_call 43; refine hC.mono ?_; rintro e w1 ⟨rfl, hb1⟩; have hsz1 := hb1.size)
    go_loopg [5, 6, 7] l.length (fun g y z x wr => ∃ (at_ : Nat) (qs : List (Value × Rn)) (alone : Bool), at_ ≤ l.length ∧ l.length - at_ ≤ g ∧ x = .int .i64 at_ ∧ z = .bool alone ∧ RunsAt 96 47 w.heap.size wr y qs ∧ Good alone (qs.map (·.2)) ∧ (unf (qs.map (·.2))).length + (l.drop at_).length ≤ 64 ∧ foldGo g (l.drop at_) alone (qs.map (·.2)) = R ∧ Below w.heap.size w wr)
    case atStart => exact ⟨0, [], false, Nat.zero_le _, by omega, rfl, rfl, RunsAt.nil _ _ _ _, Good.nil, by simpa [unf] using hl64, HFA.out.symm, hb1⟩
    case round =>
      obtain ⟨a, qs, alone, hal, hag, rfl, rfl, hR, hgood, hqn, hfg, hbw⟩ := hrel
      obtain ⟨gw, rfl⟩ : ∃ gw : Nat, gw = gk := ⟨_, rfl⟩
      have hszr := hbw.size
      have HG := Lib.hid hgood
      have HQN := Lib.hid hqn
      have HFG := Lib.hid hfg
      have HR := Lib.hid hR
      clear hgood hqn hfg hR
      by_cases h0 : a < l.length
      · have hN : decide ((a : Int) < (l.length : Int)) = true := by simp; omega
        obtain ⟨s, hsl, hsP⟩ := slice_from _ refTy refTwo _ w _ l HH.out a (by omega)
        have hdl : (l.drop a).length = l.length - a := List.length_drop ..
        have cT : Hid (∀ W p, Below w.heap.size w W → 1 ≤ p → p ≤ (l.drop a).length → Calls Tryd.prog 44 #[s, .int .i64 (p : Nat)] W fun e w' => e = .returned (.int .i64 (rep (l.drop a) p : Nat)) ∧ Below W.heap.size W w') := fun W p hb h1 hp =>
          times_in (l.drop a) (by omega) p (rep (l.drop a) p) h1 hp (rep_is _ p h1) s W (hsP.below hb hb.size)
        clear hsP
        have hfa' : foldGo (gw - 1) ((l.drop a).drop ((blk (l.drop a)).1 * (blk (l.drop a)).2)) (decide ((blk (l.drop a)).2 = 1)) (foldStep (l.drop a) alone (qs.map (·.2))) = R := by
          obtain ⟨g, rfl⟩ : ∃ g, gw = g + 1 := ⟨gw - 1, by omega⟩
          rw [← HFG.out]; show _ = (if (l.drop a).length = 0 then _ else _); rw [if_neg (by omega)]; rfl
        have hgood' := HG.out.step (l := l.drop a) (by omega)
        have hun' := unf_step (l := l.drop a) (by omega) HG.out
        have hst : foldStep (l.drop a) alone (qs.map (·.2)) = if alone = true ∧ (blk (l.drop a)).2 = 1 then joinLast (qs.map (·.2)) ((l.drop a).take (blk (l.drop a)).1) else qs.map (·.2) ++ [⟨(l.drop a).take (blk (l.drop a)).1, (blk (l.drop a)).2⟩] := rfl
        generalize hbb : blk (l.drop a) = bb at *
        have HB : Hid (blkGo (l.drop a) (9 - 1) 1 (1, 1) = bb) := Lib.hid hbb
        clear hbb
        have HDL := Lib.hid hdl
        obtain ⟨lc, hlc⟩ : ∃ lc, lc = l.drop a := ⟨_, rfl⟩
        rw [← hlc] at cT HB HDL hdl hfa' hgood' hun' hst
        generalize foldStep lc alone (qs.map (·.2)) = st at *
        have HFA' := Lib.hid hfa'
        have HGOOD' := Lib.hid hgood'
        have HUN' := Lib.hid hun'
        have HST0 := Lib.hid hst
        clear hfa' hgood' hun' hst
        have HLC := Lib.hid hlc
        clear hlc
        have hsub : ((l.length : Int) - (a : Int)) = (lc.length : Int) := by omega
        have hwb : IntKind.i64.wrap ((l.length : Int) - (a : Int)) = (lc.length : Int) := by rw [IntWalk.i64_in _ (by omega)]; exact hsub
        have hlc64 : lc.length ≤ 64 := by omega
        clear hdl
        obtain ⟨wo, rfl⟩ : ∃ wo : World, wo = wr := ⟨_, rfl⟩
        go_wp2
        go_loopg [8, 9, 10] 9 (fun g x y z wq => ∃ (p : Nat) (b : Nat × Nat) (best most : Nat), p + g = 10 ∧ 1 ≤ p ∧ x = .int .i64 best ∧ y = .int .i64 most ∧ z = .int .i64 p ∧ Corr b best most ∧ OkB lc b ∧ blkGo lc (9 - p) p b = bb ∧ most ≤ 64 ∧ best ≤ 64 ∧ Below wo.heap.size wo wq)
        case atStart => exact ⟨1, (1, 1), 0, 0, by omega, Nat.le_refl _, rfl, rfl, rfl, Corr.start, .inl rfl, HB.out, by omega, by omega, Below.refl _ _⟩
        case round =>
          obtain ⟨p, b, best, most, hpg, hp1, rfl, rfl, rfl, hco, hok, hgo, hm64, hb64, hbq⟩ := hrel
          have HCO := Lib.hid hco
          have HOK := Lib.hid hok
          have HGO := Lib.hid hgo
          clear hco hok hgo
          by_cases hin : p ≤ 8 ∧ p ≤ lc.length
          · obtain ⟨hp8, hpl⟩ := hin
            have e1 : decide ((p : Int) ≤ 8) = true := by simp; omega
            have e2 : decide ((p : Int) ≤ (lc.length : Int)) = true := by simp; omega
            have e2' : decide (p ≤ lc.length) = true := decide_eq_true hpl
            have cT1 := cT.out wr p (hbw.trans (hbq.mono hszr)) hp1 hpl
            have hst := blkGo_step lc p hp1 hp8 hpl b
            rw [HGO.out] at hst
            have hKl := (rep_is lc p hp1).len hpl
            have hone := (rep_is lc p hp1).one
            have hy := fun (x : 2 ≤ rep lc p) (y : most < p * rep lc p) => HCO.out.yes (l := lc) hp1 x y
            have hn := fun x => HCO.out.no (l := lc) (p := p) hp1 x
            have hok2 : OkB lc (better lc b p) := by
              by_cases h2 : 2 * p ≤ lc.length
              · exact HOK.out.better hp1 hp8 h2
              · rw [better_far hp1 hpl h2]; exact HOK.out
            generalize rep lc p = K at *
            obtain ⟨q, hq⟩ : ∃ q, q = p * K := ⟨_, rfl⟩
            have hqi : (p : Int) * (K : Int) = (q : Int) := by rw [hq]; simp
            have hq64 : q ≤ 64 := by rw [hq, Nat.mul_comm]; omega
            have hK64 : K ≤ 64 := by
              have : K * 1 ≤ K * p := Nat.mul_le_mul_left _ hp1
              omega
            rw [← hq] at hy hn
            have HST := Lib.hid hst
            have HY := Lib.hid hy
            have HNO := Lib.hid hn
            have HO2 := Lib.hid hok2
            clear hst hy hn hok2 hq hKl
            by_cases hk2 : 2 ≤ K
            · have e3 : decide ((2 : Int) ≤ (K : Int)) = true := by simp; omega
              by_cases hmq : most < q
              · have e4 : decide ((most : Int) < (q : Int)) = true := by simp; omega
                have e4' : decide (most < q) = true := decide_eq_true hmq
                go_wp2_with (first | (go_at_call 44; refine cT1.mono ?_; rintro e w2 ⟨rfl, hb2⟩; have hbx := hbq.trans (hb2.mono hbq.size)))
                go_roundg (gk - 1)
                case measure => omega
                case rel => exact ⟨p + 1, better lc b p, p, q, by omega, by omega, rfl, by go_num, by go_num, HY.out hk2 hmq, HO2.out, by rw [show 9 - (p + 1) = 9 - (p + 1) from rfl]; exact HST.out.symm, by omega, by omega, by first | exact Go.below_drewN hbx _ | exact hbx.drew | exact hbx⟩
              · have e4 : decide ((most : Int) < (q : Int)) = false := by simp; omega
                have e4' : decide (most < q) = false := decide_eq_false hmq
                go_wp2_with (first | (go_at_call 44; refine cT1.mono ?_; rintro e w2 ⟨rfl, hb2⟩; have hbx := hbq.trans (hb2.mono hbq.size)))
                go_roundg (gk - 1)
                case measure => omega
                case rel => exact ⟨p + 1, better lc b p, best, most, by omega, by omega, rfl, rfl, by go_num, HNO.out (fun h => hmq h.2), HO2.out, HST.out.symm, hm64, hb64, by first | exact Go.below_drewN hbx _ | exact hbx.drew | exact hbx⟩
            · have e3 : decide ((2 : Int) ≤ (K : Int)) = false := by simp; omega
              go_wp2_with (first | (go_at_call 44; refine cT1.mono ?_; rintro e w2 ⟨rfl, hb2⟩; have hbx := hbq.trans (hb2.mono hbq.size)))
              go_roundg (gk - 1)
              case measure => omega
              case rel => exact ⟨p + 1, better lc b p, best, most, by omega, by omega, rfl, rfl, by go_num, HNO.out (fun h => hk2 h.1), HO2.out, HST.out.symm, hm64, hb64, by first | exact Go.below_drewN hbx _ | exact hbx.drew | exact hbx⟩
          · have hend := blkGo_end lc p b (by omega) hin
            rw [HGO.out] at hend
            subst hend
            have hnum := HOK.out.num (by omega)
            obtain ⟨b1, b2⟩ := bb
            obtain ⟨n1, n2, n3, n4⟩ := hnum
            simp only at n1 n2 n3 n4
            have n5 : b1 * 1 ≤ b1 * b2 := Nat.mul_le_mul_left _ n3
            have hbwq := hbw.trans (hbq.mono hszr)
            have hsq := hbwq.size
            have hRq := HR.out.below hbq
            have hqn64 : qs.length ≤ 64 := by
              have h1 := HG.out.qs_le (l := l)
              have h2 := HQN.out
              rw [List.length_map] at h1
              omega
            by_cases hb0 : 0 < best
            · have hco : best = b1 ∧ most = b1 * b2 ∧ 2 ≤ b2 := by
                rcases HCO.out with ⟨_, h, _⟩ | ⟨h1, h2, h3, _⟩
                · omega
                · exact ⟨h1, h2, h3⟩
              obtain ⟨rfl, hmo, hb2⟩ := hco
              obtain ⟨s2, hsl2, hs2⟩ := slice_two _ refTy refTwo _ w _ l HH.out a (a + best) (by omega) (by omega)
              have hsl3 : ∀ W : World, (Instr.slice 32 (.slice la l.length lc0) (some (.int .i64 (a : Int))) (some (.int .i64 ((a : Int) + (best : Int)))) none).run Tryd.prog W = .ok s2 W := fun W => by have := hsl2 W; simpa using this
              have hlt : ((l.take (a + best)).drop a) = lc.take best := by rw [HLC.out, List.drop_take]; congr 1; omega
              rw [hlt] at hs2
              have hltl : (lc.take best).length = best := by rw [List.length_take]; omega
              have hwa : IntKind.i64.wrap ((a : Int) + (best : Int)) = (a : Int) + (best : Int) := IntWalk.i64_in _ (by omega)
              have hq1 : Int.tdiv (most : Int) (best : Int) = (b2 : Int) := by rw [hmo, Int.tdiv_eq_ediv_of_nonneg (by omega)]; push_cast; exact Int.mul_ediv_cancel_left _ (by omega)
              have hq2 : (most : Int) / (best : Int) = (b2 : Int) := by rw [hmo]; push_cast; exact Int.mul_ediv_cancel_left _ (by omega)
              have hq0 : ((best : Int) == 0) = false := by simp; omega
              have hq00 : ¬ best = 0 := by omega
              have n6 : 1 * b2 ≤ best * b2 := Nat.mul_le_mul_right _ n1
              have hwb2 : IntKind.i64.wrap (b2 : Int) = (b2 : Int) := IntWalk.i64_in _ (by omega)
              have e9 : decide ((0 : Int) < (best : Int)) = true := by simp; omega
              have HMO := Lib.hid hmo
              clear hmo
              have HS2 := Lib.hid hs2
              have HLT := Lib.hid hlt
              have HLTL := Lib.hid hltl
              have hbA : Below wr.heap.size wr (wr.alloc (.cells #[] 96)).drew := ((Below.refl _ wr).alloc (Nat.le_refl _) _).drew
              obtain ⟨v2, w2, hrun1, hrow2, hgr2⟩ := app_all (sl := 32) refPlaceTy infoRef wr.heap.size w.heap.size (wr.alloc (.cells #[] 96)).drew (.slice (some ⟨wr.heap.size, 0, none⟩) 0 0) s2 [] (lc.take best) (World.ownsRow.drew (PRow.empty _ wr _ (Nat.le_refl _))) (hs2.below (hbwq.trans (hbA.mono hsq)) (Nat.le_refl _)) (by rw [hltl]; simp; omega) (by simp)
              rw [List.nil_append] at hrow2
              have hb2w := hbA.grown hgr2 (by simp) (fun j hj => by simp [Value.ownBlock] at hj; omega)
              have hR2 := hRq.below hb2w
              have hsz2 := hb2w.size
              obtain ⟨a3, c3, hv2⟩ := hrow2.isSl
              obtain ⟨v4, w4, hrun2, hR4, hgr4⟩ := push_run (by decide) refRunTy infoRunRef w.heap.size wr.heap.size w2 u5 qs hR2 v2 ⟨lc.take best, b2⟩ (hrow2.base hsq) (fun q hq k hk => (World.ownsRow.lt (hRq.each q hq) k hk).2) (fun k hk => (World.ownsRow.lt hrow2 k hk).1) (by omega) (by omega) _ (.inl rfl)
              have hbf : Below w.heap.size w w4 := (hbwq.trans (hb2w.mono hsq)).trans ((Below.refl _ w2).grown hgr4 (by omega) (fun k hk => (World.ownsRow.lt hR2.row k hk).1))
              rw [hltl] at hv2
              subst hv2
              simp only at hrun2
              have HR4 := Lib.hid hR4
              have hmo := HMO.out
              have hmost : a + most ≤ l.length := by omega
              have hmost1 : 1 ≤ most := by omega
              have hmap : (qs ++ [((.slice a3 best c3, ⟨lc.take best, b2⟩) : Value × Rn)]).map (·.2) = st := by
                rw [HST0.out, if_neg (by simp only; omega), List.map_append]; rfl
              have HMAP := Lib.hid hmap
              have hb2n : decide (b2 = 1) = false := decide_eq_false (by omega)
              have hfin : foldGo (gw - 1) (l.drop (a + most)) false st = R := by
                have h1 := HFA'.out
                simp only at h1
                rw [hb2n, ← hmo, HLC.out, List.drop_drop] at h1
                exact h1
              have hgfin : Good false st := by have h1 := HGOOD'.out; simp only at h1; rwa [hb2n] at h1
              have hufin : (unf st).length + (l.drop (a + most)).length ≤ 64 := by
                have h1 := HUN'.out
                simp only at h1
                have h2 := HQN.out
                rw [h1, List.length_append, List.length_take, List.length_drop, ← hmo]
                rw [List.length_drop] at h2
                omega
              have HFIN := Lib.hid hfin
              have HGF := Lib.hid hgfin
              have HUF := Lib.hid hufin
              clear hmap hfin hgfin hufin hb2n hmo
              clear hs2 hlt hltl hsl2 hsl hR2 hRq hgr2 hrow2 hgr4 hR4 hb2w hbA
              by_cases hp8 : p ≤ 8
              · have e1 : decide ((p : Int) ≤ 8) = true := by simp; omega
                have e2 : decide ((p : Int) ≤ (lc.length : Int)) = false := by simp; omega
                have e2' : decide (p ≤ lc.length) = false := decide_eq_false (by omega)
                go_wp2
                go_region_law (first | (refine step_append_run rfl (.tmp 55) (.tmp 61) 32 rfl _ s2 (.slice a3 best c3) w2 (by simp [Act.eval]) (by simp [Act.eval]) hrun1 ?_) | (refine step_append_run rfl (.tmp 54) (.tmp 67) 29 rfl u5 (.slice (some ⟨w2.heap.size, 0, none⟩) 1 1) v4 w4 (by simp [Act.eval]) (by simp [Act.eval]) hrun2 ?_))
                all_goals
                  go_wp2
                  go_roundg (gw - 1)
                  case measure => omega
                  case rel => exact ⟨a + most, qs ++ [(.slice a3 best c3, ⟨lc.take best, b2⟩)], false, hmost, by omega, by go_num, rfl, HR4.out, by rw [HMAP.out]; exact HGF.out, by rw [HMAP.out]; exact HUF.out, by rw [HMAP.out]; exact HFIN.out, hbf⟩
              · have e1 : decide ((p : Int) ≤ 8) = false := by simp; omega
                go_wp2
                go_region_law (first | (refine step_append_run rfl (.tmp 55) (.tmp 61) 32 rfl _ s2 (.slice a3 best c3) w2 (by simp [Act.eval]) (by simp [Act.eval]) hrun1 ?_) | (refine step_append_run rfl (.tmp 54) (.tmp 67) 29 rfl u5 (.slice (some ⟨w2.heap.size, 0, none⟩) 1 1) v4 w4 (by simp [Act.eval]) (by simp [Act.eval]) hrun2 ?_))
                all_goals
                  go_wp2
                  go_roundg (gw - 1)
                  case measure => omega
                  case rel => exact ⟨a + most, qs ++ [(.slice a3 best c3, ⟨lc.take best, b2⟩)], false, hmost, by omega, by go_num, rfl, HR4.out, by rw [HMAP.out]; exact HGF.out, by rw [HMAP.out]; exact HUF.out, by rw [HMAP.out]; exact HFIN.out, hbf⟩
            · obtain ⟨hbb, rfl, rfl⟩ : (b1, b2) = (1, 1) ∧ best = 0 ∧ most = 0 := by
                rcases HCO.out with h | ⟨h1, h2, h3, h4⟩
                · exact h
                · simp only at h4; omega
              simp only [Prod.mk.injEq] at hbb
              obtain ⟨rfl, rfl⟩ := hbb
              obtain ⟨x, hx⟩ : ∃ x, lc[0]? = some x := ⟨_, List.getElem?_eq_getElem (by omega)⟩
              have htk : lc.take 1 = [x] := by
                cases lc with
                | nil => simp at hx
                | cons y ys => simp at hx; simp [hx]
              have hfin : foldGo (gw - 1) (l.drop (a + 1)) true st = R := by
                have h1 := HFA'.out
                simp only [Nat.mul_one, decide_true] at h1
                rw [HLC.out, List.drop_drop] at h1
                exact h1
              have hgfin : Good true st := by have h1 := HGOOD'.out; simpa using h1
              have hufin : (unf st).length + (l.drop (a + 1)).length ≤ 64 := by
                have h1 := HUN'.out
                simp only at h1
                have h2 := HQN.out
                rw [h1, List.length_append, List.length_take, List.length_drop]
                rw [List.length_drop] at h2
                omega
              have hst : st = if alone = true then joinLast (qs.map (·.2)) [x] else qs.map (·.2) ++ [⟨[x], 1⟩] := by
                rw [HST0.out]; simp only [htk]; cases alone <;> simp
              have hxc : ∀ W, Below w.heap.size w W → ∃ bk o, la = some ⟨bk, o, none⟩ ∧ W.cell? ⟨bk, o + a * 2, none⟩ = some (.string x.n) ∧ W.cell? ⟨bk, o + a * 2 + 1, none⟩ = some (.int .i64 x.k) := fun W hb => by
                obtain ⟨la', lc', e, _, _, h3⟩ := HH.out
                simp only [Value.slice.injEq] at e
                obtain ⟨rfl, _, rfl⟩ := e
                obtain ⟨bk, o, hla, hbk, hat⟩ := h3 (by intro e; rw [e] at h0; simp at h0)
                have hxa : l[a]? = some x := by rw [HLC.out, List.getElem?_drop] at hx; simpa using hx
                have hh := hat.below hb hbk a x hxa
                exact ⟨bk, o, hla, hh.1, hh.2⟩
              have HFIN := Lib.hid hfin
              have HGF := Lib.hid hgfin
              have HUF := Lib.hid hufin
              have HST1 := Lib.hid hst
              have HXC := Lib.hid hxc
              clear hfin hgfin hufin hst hxc htk hx hsl
              have e9 : decide ((0 : Int) < 0) = false := by simp
              cases alone with
              | true =>
                obtain ⟨qs0, u, pp, rfl⟩ := HG.out.split rfl
                obtain ⟨au, cu, hus⟩ := (hRq.each (u, ⟨pp, 1⟩) (by simp)).isSl
                simp only at hus
                obtain ⟨npp, hnpp⟩ : ∃ n, n = pp.length := ⟨_, rfl⟩
                rw [← hnpp] at hus
                have HNPP := Lib.hid hnpp
                subst hus
                clear hnpp
                have hq0l : qs0.length ≤ 64 := by have := hqn64; simp at this; omega
                have hpl : pp.length ≤ 64 := by
                  have e : unf ((qs0 ++ [(((.slice au npp cu), ⟨pp, 1⟩) : Value × Rn)]).map (·.2)) = unf (qs0.map (·.2)) ++ pp := by rw [List.map_append, unf_append]; simp [unf]
                  have h1 := HQN.out
                  rw [e, List.length_append] at h1
                  omega
                obtain ⟨g0, cap, hv5, hg0B, hg0⟩ := hRq.slice (by simp)
                have hlq : (qs0 ++ [(((.slice au npp cu), ⟨pp, 1⟩) : Value × Rn)]).length = qs0.length + 1 := by simp
                rw [hlq] at hv5
                subst hv5
                have hb1W : Below wr.heap.size wr (wr.alloc (.cells #[.string x.n, .int .i64 x.k] 96)).drew := ((Below.refl _ wr).alloc (Nat.le_refl _) _).drew
                have hRW := hRq.below hb1W
                have hsx : PlSl (wr.heap.size + 1) (wr.alloc (.cells #[.string x.n, .int .i64 x.k] 96)).drew (.slice (some ⟨wr.heap.size, 0, none⟩) 1 1) [x] := one_pl wr x 96
                obtain ⟨c1, v4, w4, hrun, c2, f2, hR4, hb4⟩ := join_run (e := 96) (ts := 47) (sl := 32) (by decide) refPlaceTy infoRef w.heap.size (wr.heap.size + 1) (wr.alloc (.cells #[.string x.n, .int .i64 x.k] 96)).drew g0 cap qs0 (.slice au npp cu) ⟨pp, 1⟩ hRW (.slice (some ⟨wr.heap.size, 0, none⟩) 1 1) [x] hsx (by simp <;> omega) (by simp; omega)
                have c0 : wr.cell? ⟨g0, 2 * qs0.length, none⟩ = some (.slice au npp cu) := by
                  have hh := hRq.row
                  rw [hlq] at hh
                  rw [hh.cellAt (2 * qs0.length) (by omega), qcs_snoc, List.getElem?_append_right (by rw [qcs_length]; exact Nat.le_refl _), qcs_length, Nat.sub_self]
                  rfl
                rw [Nat.mul_comm 2] at c0 c1 c2 f2 hR4 hb4
                obtain ⟨a4, c4, hv4⟩ := (hR4.each (v4, ⟨pp ++ [x], 1⟩) (by simp)).isSl
                simp only at hv4
                generalize (pp ++ [x]).length = n4 at hv4
                subst hv4
                have hmap : (qs0 ++ [((.slice a4 n4 c4, ⟨pp ++ [x], 1⟩) : Value × Rn)]).map (·.2) = st := by
                  rw [HST1.out]
                  rw [if_pos rfl, List.map_append, List.map_append]
                  exact (joinLast_snoc (qs0.map (·.2)) ⟨pp, 1⟩ [x]).symm
                have hbf : Below w.heap.size w (w4.setCell ⟨g0, qs0.length * 2, none⟩ (.slice a4 n4 c4)) := (hbwq.trans (hb1W.mono (by omega))).trans hb4
                obtain ⟨bk, o, hla, hx0, hx1⟩ := HXC.out wr hbwq
                subst hla
                have hbkl : bk < wr.heap.size := World.block_lt_of_cell? wr _ hx0
                have HMAP := Lib.hid hmap
                have HR4 := Lib.hid hR4
                clear hmap hR4 hRW hsx hb4 c1 hb1W hlq
                clear hRq
                by_cases hp8 : p ≤ 8
                · have e1 : decide ((p : Int) ≤ 8) = true := by simp; omega
                  have e2 : decide ((p : Int) ≤ (lc.length : Int)) = false := by simp; omega
                  have e2' : decide (p ≤ lc.length) = false := decide_eq_false (by omega)
                  go_wp2
                  go_region_law (refine step_append_run rfl (.tmp 87) (.tmp 92) 32 rfl (.slice au npp cu) (.slice (some ⟨wr.heap.size, 0, none⟩) 1 1) (.slice a4 n4 c4) w4 (by simp [Act.eval]) (by simp [Act.eval]) hrun ?_)
                  all_goals
                    go_wp2
                    go_roundg (gw - 1)
                    case measure => omega
                    case rel => exact ⟨a + 1, qs0 ++ [(.slice a4 n4 c4, ⟨pp ++ [x], 1⟩)], true, by omega, by omega, by go_num, rfl, HR4.out, by rw [HMAP.out]; exact HGF.out, by rw [HMAP.out]; exact HUF.out, by rw [HMAP.out]; exact HFIN.out, hbf⟩
                · have e1 : decide ((p : Int) ≤ 8) = false := by simp; omega
                  go_wp2
                  go_region_law (refine step_append_run rfl (.tmp 87) (.tmp 92) 32 rfl (.slice au npp cu) (.slice (some ⟨wr.heap.size, 0, none⟩) 1 1) (.slice a4 n4 c4) w4 (by simp [Act.eval]) (by simp [Act.eval]) hrun ?_)
                  all_goals
                    go_wp2
                    go_roundg (gw - 1)
                    case measure => omega
                    case rel => exact ⟨a + 1, qs0 ++ [(.slice a4 n4 c4, ⟨pp ++ [x], 1⟩)], true, by omega, by omega, by go_num, rfl, HR4.out, by rw [HMAP.out]; exact HGF.out, by rw [HMAP.out]; exact HUF.out, by rw [HMAP.out]; exact HFIN.out, hbf⟩
              | false =>
                obtain ⟨v3, w3, hrunA, hR3, hgr3⟩ := push_run (by decide) refRunTy infoRunRef w.heap.size wr.heap.size wr u5 qs hRq (.slice none 0 0) ⟨[], 1⟩ (PRow.nil _ _ _) (fun q hq k hk => (World.ownsRow.lt (hRq.each q hq) k hk).2) (fun k hk => by cases hk) (by omega) hsq _ (.inl rfl)
                have hbw3 : Below w.heap.size w w3 := hbwq.trans ((Below.refl _ wr).grown hgr3 hsq (fun k hk => (World.ownsRow.lt hRq.row k hk).1))
                have hsz3 := hbw3.size
                simp only at hrunA
                obtain ⟨g0, cap, hv5, hg0B, hg0⟩ := hR3.slice (by simp)
                have hlq : (qs ++ [(((.slice none 0 0), ⟨[], 1⟩) : Value × Rn)]).length = qs.length + 1 := by simp
                rw [hlq] at hv5
                subst hv5
                have hb1W : Below w3.heap.size w3 (w3.alloc (.cells #[.string x.n, .int .i64 x.k] 96)).drew := ((Below.refl _ w3).alloc (Nat.le_refl _) _).drew
                have hRW := hR3.below hb1W
                have hsx : PlSl (w3.heap.size + 1) (w3.alloc (.cells #[.string x.n, .int .i64 x.k] 96)).drew (.slice (some ⟨w3.heap.size, 0, none⟩) 1 1) [x] := one_pl w3 x 96
                obtain ⟨c1, v4, w4, hrun, c2, f2, hR4, hb4⟩ := join_run (e := 96) (ts := 47) (sl := 32) (by decide) refPlaceTy infoRef w.heap.size (w3.heap.size + 1) (w3.alloc (.cells #[.string x.n, .int .i64 x.k] 96)).drew g0 cap qs (.slice none 0 0) ⟨([] : List Pl), 1⟩ hRW (.slice (some ⟨w3.heap.size, 0, none⟩) 1 1) [x] hsx (by simp <;> omega) (by simp; omega)
                have c0 : w3.cell? ⟨g0, 2 * qs.length, none⟩ = some (.slice none 0 0) := by
                  have hh := hR3.row
                  rw [hlq] at hh
                  rw [hh.cellAt (2 * qs.length) (by omega), qcs_snoc, List.getElem?_append_right (by rw [qcs_length]; exact Nat.le_refl _), qcs_length, Nat.sub_self]
                  rfl
                rw [Nat.mul_comm 2] at c0 c1 c2 f2 hR4 hb4
                obtain ⟨a4, c4, hv4⟩ := (hR4.each (v4, ⟨([] : List Pl) ++ [x], 1⟩) (by simp)).isSl
                simp only at hv4
                generalize (([] : List Pl) ++ [x]).length = n4 at hv4
                subst hv4
                have hmap : (qs ++ [((.slice a4 n4 c4, ⟨([] : List Pl) ++ [x], 1⟩) : Value × Rn)]).map (·.2) = st := by
                  rw [HST1.out]
                  rw [if_neg (by simp), List.map_append]
                  rfl
                have hbf : Below w.heap.size w (w4.setCell ⟨g0, qs.length * 2, none⟩ (.slice a4 n4 c4)) := (hbw3.trans (hb1W.mono (by omega))).trans hb4
                obtain ⟨bk, o, hla, hx0, hx1⟩ := HXC.out w3 hbw3
                subst hla
                have hbkl : bk < w3.heap.size := World.block_lt_of_cell? w3 _ hx0
                have HMAP := Lib.hid hmap
                have HR4 := Lib.hid hR4
                clear hmap hR4 hRW hsx hb4 c1 hb1W hlq
                clear hRq hR3 hgr3
                by_cases hp8 : p ≤ 8
                · have e1 : decide ((p : Int) ≤ 8) = true := by simp; omega
                  have e2 : decide ((p : Int) ≤ (lc.length : Int)) = false := by simp; omega
                  have e2' : decide (p ≤ lc.length) = false := decide_eq_false (by omega)
                  go_wp2_with (at_builtin; refine wpList_append_run rfl _ _ 29 rfl _ _ _ _ rfl rfl hrunA ?_)
                  go_region_law (refine step_append_run rfl (.tmp 87) (.tmp 92) 32 rfl (.slice none 0 0) (.slice (some ⟨w3.heap.size, 0, none⟩) 1 1) (.slice a4 n4 c4) w4 (by simp [Act.eval]) (by simp [Act.eval]) hrun ?_)
                  all_goals
                    go_wp2
                    go_roundg (gw - 1)
                    case measure => omega
                    case rel => exact ⟨a + 1, qs ++ [(.slice a4 n4 c4, ⟨([] : List Pl) ++ [x], 1⟩)], true, by omega, by omega, by go_num, rfl, HR4.out, by rw [HMAP.out]; exact HGF.out, by rw [HMAP.out]; exact HUF.out, by rw [HMAP.out]; exact HFIN.out, hbf⟩
                · have e1 : decide ((p : Int) ≤ 8) = false := by simp; omega
                  go_wp2_with (at_builtin; refine wpList_append_run rfl _ _ 29 rfl _ _ _ _ rfl rfl hrunA ?_)
                  go_region_law (refine step_append_run rfl (.tmp 87) (.tmp 92) 32 rfl (.slice none 0 0) (.slice (some ⟨w3.heap.size, 0, none⟩) 1 1) (.slice a4 n4 c4) w4 (by simp [Act.eval]) (by simp [Act.eval]) hrun ?_)
                  all_goals
                    go_wp2
                    go_roundg (gw - 1)
                    case measure => omega
                    case rel => exact ⟨a + 1, qs ++ [(.slice a4 n4 c4, ⟨([] : List Pl) ++ [x], 1⟩)], true, by omega, by omega, by go_num, rfl, HR4.out, by rw [HMAP.out]; exact HGF.out, by rw [HMAP.out]; exact HUF.out, by rw [HMAP.out]; exact HFIN.out, hbf⟩
      · have hN : decide ((a : Int) < (l.length : Int)) = false := by simp; omega
        have hfin : qs.map (·.2) = R := by
          have h1 := HFG.out
          rw [List.drop_of_length_le (by omega)] at h1
          cases gw with
          | zero => exact h1
          | succ g => unfold foldGo at h1; simpa using h1
        have HF := Lib.hid hfin
        clear hfin
        go_wp2
        go_ret2
        exact ⟨_, qs, rfl, HF.out, HR.out, hbw⟩
  · rw [if_neg hC0] at hfa
    subst hfa
    have hC1 : ((C : Int) != 0) = true := by simp; omega
    go_wp2_with (go_at_call 43; refine hC.mono ?_; rintro e w1 ⟨rfl, hb1⟩; have hsz1 := hb1.size)
    go_ret2
    exact ⟨_, [], rfl, rfl, RunsAt.nil _ _ _ _, hb1⟩
end Go.Proofs.YtjdjdcdpflnplaaDoor.T
