/-
  place.Fold.
-/
import Derived.Test.YtbldeiejlebbiaaDoorPlaceJoin
set_option linter.unusedVariables false
namespace Go.Proofs.YtbldeiejlebbiaaDoor.T
open Go Go.Lib Go.RowKit

/-- what both Folds answer -/
def IsRuns (e ts : TypeId) (rs : List Rn) (c : Nat) (w : World) (en : Ending) (w' : World) : Prop :=
  ∃ v qs, en = .returned (.tuple #[v, .int .i64 c]) ∧ qs.map (·.2) = rs ∧ RunsAt e ts w.heap.size w' v qs ∧ Below w.heap.size w w'
def foldA (l : List Pl) : List Rn := if checkN l = 0 then foldL l else []
theorem Good.split {rs : List Rn} (h : Good true rs) {qs : List (Value × Rn)} (hq : qs.map (·.2) = rs) : ∃ qs0 u p, qs = qs0 ++ [(u, ⟨p, 1⟩)] := by
  obtain ⟨rs', p, e⟩ := h.last rfl
  rw [e] at hq
  obtain ⟨qs0, l2, rfl, _, h2⟩ := List.map_eq_append_iff.1 hq
  obtain ⟨⟨u, r⟩, rfl, h3⟩ : ∃ q, l2 = [q] ∧ q.2 = ⟨p, 1⟩ := by
    cases l2 with
    | nil => simp at h2
    | cons q l2 =>
      cases l2 with
      | nil => exact ⟨q, rfl, by simpa using h2⟩
      | cons _ _ => simp at h2
  exact ⟨qs0, u, p, by rw [show r = ⟨p, 1⟩ from h3]⟩
theorem runTy : Tryd.prog.underlying 25 = some (.slice 37) := by kernel_rfl
theorem placeTy : Tryd.prog.underlying 23 = some (.slice 39) := by kernel_rfl
theorem Good.qs_le {l : List Pl} {b : Bool} {rs : List Rn} (h : Good b rs) : rs.length ≤ (unf rs).length := by
  have : ∀ rs : List Rn, (∀ r ∈ rs, 1 ≤ r.t ∧ r.ps ≠ []) → rs.length ≤ (unf rs).length := by
    intro rs
    induction rs with
    | nil => intro _; simp [unf]
    | cons r rs ih =>
      intro h
      have h1 := ih (fun r hr => h r (List.mem_cons_of_mem _ hr))
      obtain ⟨h2, h3⟩ := h r (by simp)
      have e : unf (r :: rs) = (List.replicate r.t r.ps).flatten ++ unf rs := by simp [unf]
      have e2 : (List.replicate r.t r.ps).flatten.length = r.t * r.ps.length := by simp
      have h4 : 1 * 1 ≤ r.t * r.ps.length := Nat.mul_le_mul h2 (List.length_pos_iff.2 h3)
      rw [e, List.length_append, e2, List.length_cons]
      omega
  exact this rs (fun r hr => ⟨(h.one r hr).1, (h.one r hr).2.1⟩)

theorem unf_step {l : List Pl} (hl : 1 ≤ l.length) {alone : Bool} {rs : List Rn} (h : Good alone rs) : unf (foldStep l alone rs) = unf rs ++ l.take ((blk l).1 * (blk l).2) := by
  unfold foldStep
  split
  · rename_i hc
    obtain ⟨rs', p, rfl⟩ := h.last hc.1
    rw [joinLast_snoc, unf_append, unf_append, unf_one, unf_one, hc.2]
    simp
  · rw [unf_append, unf_one, blk_flat hl]

set_option maxRecDepth 1000000 in
set_option maxHeartbeats 8000000 in
theorem Fold_in (l : List Pl) (hl : l.length ≤ 5864062014700) (hs : Slim l) (v : Value) (w : World) (h : PlSl w.heap.size w v l) :
    Calls Tryd.prog 10 #[v] w (IsRuns 39 37 (foldA l) (checkN l) w) := by
  have hC := Check_in l hs w.heap.size v w h
  have hck : checkN l = 0 → l.length ≤ 64 := fun h => (check_all h).2
  have hfa : foldA l = if checkN l = 0 then foldL l else [] := rfl
  generalize checkN l = C at *
  generalize hR : foldA l = R at *
  clear hR
  go_enter Tryd.func10, Tryd.ntmps10
  by_cases hC0 : C = 0
  · subst hC0
    have hl64 := hck rfl
    rw [if_pos rfl] at hfa
    have HFA := Lib.hid hfa
    have HH := Lib.hid h
    clear hfa h
    go_wp2_with (go_at_call 40; refine hC.mono ?_; rintro e w1 ⟨rfl, hb1⟩; have hsz1 := hb1.size)
    go_loopg [0, 5, 6] l.length (fun g x y z wr => ∃ (lc : List Pl) (qs : List (Value × Rn)) (alone : Bool), lc.length ≤ g ∧ lc.length ≤ 64 ∧ Slim lc ∧ PlSl w.heap.size wr x lc ∧ z = .bool alone ∧ RunsAt 39 37 w.heap.size wr y qs ∧ Good alone (qs.map (·.2)) ∧ (unf (qs.map (·.2))).length + lc.length ≤ 64 ∧ foldGo g lc alone (qs.map (·.2)) = R ∧ Below w.heap.size w wr)
    case atStart => exact ⟨l, [], false, Nat.le_refl _, hl64, hs, HH.out.below hb1 (Nat.le_refl _), rfl, RunsAt.nil _ _ _ _, Good.nil, by simpa [unf] using hl64, HFA.out.symm, hb1⟩
    case round =>
      obtain ⟨lc, qs, alone, hg, h64, hsl, hx, rfl, hR, hgood, hqn, hfg, hbw⟩ := hrel
      have hszr := hbw.size
      rcases Nat.eq_zero_or_pos lc.length with h0 | h0
      · have hlc : lc = [] := List.eq_nil_of_length_eq_zero h0
        have hfin : qs.map (·.2) = R := by
          rw [← hfg]
          cases gk with
          | zero => rfl
          | succ g => unfold foldGo; rw [if_pos h0]
        obtain ⟨a, c, rfl, _⟩ := hx
        rw [h0]
        clear hfg
        go_wp2
        go_ret2
        exact ⟨_, qs, rfl, hfin, hR, hbw⟩
      · obtain ⟨g, rfl⟩ : ∃ g, gk = g + 1 := ⟨gk - 1, by omega⟩
        have hfg' : foldGo g (lc.drop ((blk lc).1 * (blk lc).2)) (decide ((blk lc).2 = 1)) (foldStep lc alone (qs.map (·.2))) = R := by
          rw [← hfg]; show _ = (if lc.length = 0 then _ else _); rw [if_neg (by omega)]
        have hnum := (blk_ok lc).num h0
        have hgood' := hgood.step h0
        have hun' := unf_step h0 hgood
        have hst : foldStep lc alone (qs.map (·.2)) = if alone = true ∧ (blk lc).2 = 1 then joinLast (qs.map (·.2)) (lc.take (blk lc).1) else qs.map (·.2) ++ [⟨lc.take (blk lc).1, (blk lc).2⟩] := rfl
        have cB := block_in lc h64 h0 u0 wr (hx.below (Below.refl _ _) hszr)
        have hqln := hgood.qs_le (l := lc)
        generalize blk lc = bb at *
        obtain ⟨b1, b2⟩ := bb
        obtain ⟨n1, n2, n3, n4⟩ := hnum
        simp only at n1 n2 n3 n4 hfg' hgood' hun' hst cB
        obtain ⟨q, hq⟩ : ∃ q, q = b1 * b2 := ⟨_, rfl⟩
        have hqi : (b1 : Int) * (b2 : Int) = (q : Int) := by rw [hq]; simp
        have n5 : b1 * 1 ≤ b1 * b2 := Nat.mul_le_mul_left _ n3
        have n6 : 1 * b2 ≤ b1 * b2 := Nat.mul_le_mul_right _ n1
        rw [← hq] at n4 n5 n6 hfg' hun'
        generalize foldStep lc alone (qs.map (·.2)) = st at *
        have hlen' : (unf st).length + (lc.drop q).length ≤ 64 := by rw [hun', List.length_append, List.length_take, List.length_drop]; omega
        have hslt : Slim (lc.take b1) := fun p hp => hsl p (List.mem_of_mem_take hp)
        have hsld : Slim (lc.drop q) := fun p hp => hsl p (List.mem_of_mem_drop hp)
        have hlt1 : (lc.take b1).length = b1 := by rw [List.length_take]; omega
        obtain ⟨s, hsS, hsP⟩ := slice_pl _ wr u0 lc hx b1 (by omega)
        obtain ⟨s3, hsS3, hsP3⟩ := slice_from _ ownTy ownTwo _ wr u0 lc hx q (by omega)
        have cC := fun W (hb : Below wr.heap.size wr W) => copies_in (lc.take b1) (by omega) hslt s W ((hsP.below (Below.refl _ _) hszr).below hb hb.size)
        have HX := Lib.hid hx
        obtain ⟨xa, xc, rfl, _⟩ := hx
        have HFG := Lib.hid hfg'
        have HST := Lib.hid hst
        have HUN := Lib.hid hlen'
        have HGO := Lib.hid hgood'
        have HQ := Lib.hid hq
        clear hfg' hst hlen' hgood' hun' hfg hq
        by_cases hb2 : b2 = 1
        · subst hb2
          obtain rfl : b1 = q := by have := HQ.out; omega
          clear hqi HQ
          cases alone with
          | true =>
            obtain ⟨qs0, u, p, rfl⟩ := hgood.split rfl
            have hpl : p.length ≤ 64 := by
              have e : unf ((qs0 ++ [((u, ⟨p, 1⟩) : Value × Rn)]).map (·.2)) = unf (qs0.map (·.2)) ++ p := by rw [List.map_append, unf_append]; simp [unf]
              have h1 := hqn
              rw [e, List.length_append] at h1
              omega
            have hq0 : qs0.length ≤ 63 := by
              have h1 := hqln
              have h2 := hqn
              rw [List.length_map, List.length_append, List.length_singleton] at h1
              omega
            have hmap : ∀ v4 : Value, (qs0 ++ [((v4, ⟨p ++ lc.take b1, 1⟩) : Value × Rn)]).map (·.2) = st := fun v4 => by
              rw [HST.out, if_pos ⟨rfl, rfl⟩, List.map_append, List.map_append]
              exact (joinLast_snoc (qs0.map (·.2)) ⟨p, 1⟩ (lc.take b1)).symm
            have HMAP := Lib.hid hmap
            clear hmap
            obtain ⟨g0, cap, rfl, hg0B, hg0⟩ := hR.slice (by simp)
            rw [show (qs0 ++ [((u, ⟨p, 1⟩) : Value × Rn)]).length = qs0.length + 1 by simp] at *
            go_wp2_with fail
            refine cB.mono ?_
            rintro e w2 ⟨rfl, hb2⟩
            have cC2 := cC w2 hb2
            have hR2 := hR.below hb2
            go_wp2_with fail
            refine cC2.mono ?_
            rintro e w3 ⟨v3, rfl, hrow3, hb3⟩
            have hR3 := hR2.below hb3
            have hsz23 := hb2.size
            have hsz3 := hb3.size
            obtain ⟨c1, v4, w4, hrun, c2, f2, hR4, hb4⟩ := join_run (by decide) placeTy infoOwn w.heap.size w3.heap.size w3 g0 cap qs0 u ⟨p, 1⟩ hR3 v3 (lc.take b1) hrow3.sl (by simp only; omega) (by omega)
            rw [Nat.mul_comm 2] at c1 c2 f2 hR4 hb4
            obtain ⟨a4, c4, hv4⟩ := (hR4.each (v4, ⟨p ++ lc.take b1, 1⟩) (by simp)).isSl
            simp only at hv4
            generalize (p ++ lc.take b1).length = n4 at hv4
            subst hv4
            go_wp2_with (at_builtin; refine wpList_append_run rfl _ _ 23 rfl _ _ _ _ rfl rfl hrun ?_)
            have hbf : Below w.heap.size wr (w4.setCell ⟨g0, qs0.length * 2, none⟩ (.slice a4 n4 c4)) := ((hb2.mono hszr).trans (hb3.mono (by omega))).trans hb4
            go_roundg g
            case measure => omega
            case rel => exact ⟨lc.drop b1, qs0 ++ [(_, ⟨p ++ lc.take b1, 1⟩)], true, by rw [List.length_drop]; omega, by rw [List.length_drop]; omega, hsld, hsP3.below hbf (Nat.le_refl _), rfl, hR4, by rw [HMAP.out]; exact HGO.out, by rw [HMAP.out]; exact HUN.out, by rw [HMAP.out]; exact HFG.out, hbw.trans hbf⟩
          | false =>
            have hmap : ∀ u4 : Value, (qs ++ [((u4, ⟨lc.take b1, 1⟩) : Value × Rn)]).map (·.2) = st := fun u4 => by
              rw [HST.out, if_neg (by simp), List.map_append]; rfl
            have HMAP := Lib.hid hmap
            clear hmap
            have hqn64 : qs.length ≤ 64 := by have h1 := hqln; rw [List.length_map] at h1; omega
            go_wp2_with fail
            refine cB.mono ?_
            rintro e w2 ⟨rfl, hb2'⟩
            have cC2 := cC w2 hb2'
            have hR2 := hR.below hb2'
            go_wp2_with fail
            refine cC2.mono ?_
            rintro e w3 ⟨v3, rfl, hrow3, hb3⟩
            have hR3 := hR2.below hb3
            have hsz23 := hb2'.size
            have hsz3 := hb3.size
            obtain ⟨a3, c3, hv3⟩ := hrow3.isSl
            obtain ⟨v4, w4, hrun, hR4, hgr⟩ := push_run (by decide) runTy infoRunOwn w.heap.size w2.heap.size w3 u5 qs hR3 v3 ⟨lc.take b1, 1⟩ (hrow3.base (by omega)) (fun q hq k hk => by have := (World.ownsRow.lt (hR2.each q hq) k hk).2; exact this) (fun k hk => (World.ownsRow.lt hrow3 k hk).1) (by omega) (by omega) _ (.inl rfl)
            have hbf : Below w.heap.size wr w4 := ((hb2'.mono hszr).trans (hb3.mono (by omega))).trans ((Below.refl _ w3).grown hgr (by omega) (fun k hk => (World.ownsRow.lt hR3.row k hk).1))
            clear hrow3 hR3 hR2
            rw [hlt1] at hv3
            subst hv3
            simp only at hrun
            go_wp2_with (at_builtin; refine wpList_append_run rfl _ _ 25 rfl _ _ _ _ rfl rfl hrun ?_)
            go_roundg g
            case measure => omega
            case rel => exact ⟨lc.drop b1, qs ++ [(_, ⟨lc.take b1, 1⟩)], true, by rw [List.length_drop]; omega, by rw [List.length_drop]; omega, hsld, hsP3.below hbf (Nat.le_refl _), rfl, hR4, by rw [HMAP.out]; exact HGO.out, by rw [HMAP.out]; exact HUN.out, by rw [HMAP.out]; exact HFG.out, hbw.trans hbf⟩
        · have hd2 : decide ((b2 : Int) = 1) = false := by simp; omega
          have hd2' : ((b2 : Int) == 1) = false := by simp; omega
          have hdn : decide (b2 = 1) = false := by simp; exact hb2
          rw [hdn] at HGO HFG
          cases alone with
          | false =>
            have hmap : ∀ u4 : Value, (qs ++ [((u4, ⟨lc.take b1, b2⟩) : Value × Rn)]).map (·.2) = st := fun u4 => by
              rw [HST.out, if_neg (by simp [hb2]), List.map_append]; rfl
            have HMAP := Lib.hid hmap
            clear hmap
            have hqn64 : qs.length ≤ 64 := by have h1 := hqln; rw [List.length_map] at h1; omega
            go_wp2_with fail
            refine cB.mono ?_
            rintro e w2 ⟨rfl, hb2'⟩
            have cC2 := cC w2 hb2'
            have hR2 := hR.below hb2'
            go_wp2_with fail
            refine cC2.mono ?_
            rintro e w3 ⟨v3, rfl, hrow3, hb3⟩
            have hR3 := hR2.below hb3
            have hsz23 := hb2'.size
            have hsz3 := hb3.size
            obtain ⟨a3, c3, hv3⟩ := hrow3.isSl
            obtain ⟨v4, w4, hrun, hR4, hgr⟩ := push_run (by decide) runTy infoRunOwn w.heap.size w2.heap.size w3 u5 qs hR3 v3 ⟨lc.take b1, b2⟩ (hrow3.base (by omega)) (fun q hq k hk => by have := (World.ownsRow.lt (hR2.each q hq) k hk).2; exact this) (fun k hk => (World.ownsRow.lt hrow3 k hk).1) (by omega) (by omega) _ (.inl rfl)
            have hbf : Below w.heap.size wr w4 := ((hb2'.mono hszr).trans (hb3.mono (by omega))).trans ((Below.refl _ w3).grown hgr (by omega) (fun k hk => (World.ownsRow.lt hR3.row k hk).1))
            clear hrow3 hR3 hR2
            rw [hlt1] at hv3
            subst hv3
            simp only at hrun
            go_wp2_with (at_builtin; refine wpList_append_run rfl _ _ 25 rfl _ _ _ _ rfl rfl hrun ?_)
            go_roundg g
            case measure => omega
            case rel => exact ⟨lc.drop q, qs ++ [(_, ⟨lc.take b1, b2⟩)], false, by rw [List.length_drop]; omega, by rw [List.length_drop]; omega, hsld, hsP3.below hbf (Nat.le_refl _), rfl, hR4, by rw [HMAP.out]; exact HGO.out, by rw [HMAP.out]; exact HUN.out, by rw [HMAP.out]; exact HFG.out, hbw.trans hbf⟩
          | true =>
            have hmap : ∀ u4 : Value, (qs ++ [((u4, ⟨lc.take b1, b2⟩) : Value × Rn)]).map (·.2) = st := fun u4 => by
              rw [HST.out, if_neg (by simp [hb2]), List.map_append]; rfl
            have HMAP := Lib.hid hmap
            clear hmap
            have hqn64 : qs.length ≤ 64 := by have h1 := hqln; rw [List.length_map] at h1; omega
            go_wp2_with fail
            refine cB.mono ?_
            rintro e w2 ⟨rfl, hb2'⟩
            have cC2 := cC w2 hb2'
            have hR2 := hR.below hb2'
            go_wp2_with fail
            refine cC2.mono ?_
            rintro e w3 ⟨v3, rfl, hrow3, hb3⟩
            have hR3 := hR2.below hb3
            have hsz23 := hb2'.size
            have hsz3 := hb3.size
            obtain ⟨a3, c3, hv3⟩ := hrow3.isSl
            obtain ⟨v4, w4, hrun, hR4, hgr⟩ := push_run (by decide) runTy infoRunOwn w.heap.size w2.heap.size w3 u5 qs hR3 v3 ⟨lc.take b1, b2⟩ (hrow3.base (by omega)) (fun q hq k hk => by have := (World.ownsRow.lt (hR2.each q hq) k hk).2; exact this) (fun k hk => (World.ownsRow.lt hrow3 k hk).1) (by omega) (by omega) _ (.inl rfl)
            have hbf : Below w.heap.size wr w4 := ((hb2'.mono hszr).trans (hb3.mono (by omega))).trans ((Below.refl _ w3).grown hgr (by omega) (fun k hk => (World.ownsRow.lt hR3.row k hk).1))
            clear hrow3 hR3 hR2
            rw [hlt1] at hv3
            subst hv3
            simp only at hrun
            go_wp2_with (at_builtin; refine wpList_append_run rfl _ _ 25 rfl _ _ _ _ rfl rfl hrun ?_)
            go_roundg g
            case measure => omega
            case rel => exact ⟨lc.drop q, qs ++ [(_, ⟨lc.take b1, b2⟩)], false, by rw [List.length_drop]; omega, by rw [List.length_drop]; omega, hsld, hsP3.below hbf (Nat.le_refl _), rfl, hR4, by rw [HMAP.out]; exact HGO.out, by rw [HMAP.out]; exact HUN.out, by rw [HMAP.out]; exact HFG.out, hbw.trans hbf⟩
  · rw [if_neg hC0] at hfa
    subst hfa
    have hC1 : ((C : Int) != 0) = true := by simp; omega
    go_wp2_with (go_at_call 40; refine hC.mono ?_; rintro e w1 ⟨rfl, hb1⟩; have hsz1 := hb1.size)
    go_ret2
    exact ⟨_, [], rfl, rfl, RunsAt.nil _ _ _ _, hb1⟩
end Go.Proofs.YtbldeiejlebbiaaDoor.T
