/-
  erratalaw03.plays: one step on both trees.
-/
import Derived.Test.YtbldeiejlebbiaaDoorPlaceTrF
set_option linter.unusedVariables false
namespace Go.Proofs.YtbldeiejlebbiaaDoor.T
open Go Go.Lib Go.RowKit

/-- a step, as it reads -/
structure St where
  kind : Int
  a : Int
  b : Int
  raw : Bool
  x : Pl
  lv : Value
  l : List Pl
def stCs (s : St) : List Value := [.int .i64 s.kind, .int .i64 s.a, .int .i64 s.b, .bool s.raw, .string s.x.n, .int .i64 s.x.k, s.lv]
def i64B (z : Int) : Prop := -9223372036854775808 ≤ z ∧ z ≤ 9223372036854775807
theorem node_in (n many : Int) (raw : Bool) (hn : i64B n) (h0 : 0 < many) (h1 : many ≤ 5000) (W : World) :
    Calls Tryd.prog 47 #[.int .i64 n, .int .i64 many, .bool raw] W fun e w' => e = .returned (.int .i64 (if raw then n else (n.tmod many + many).tmod many)) ∧ w' = W := by
  unfold i64B at hn
  have hm1 : -many < n.tmod many ∧ n.tmod many < many := ⟨Int.lt_tmod_of_pos n h0, Int.tmod_lt_of_pos n h0⟩
  generalize hq : n.tmod many = q at *
  have hw1 : IntKind.i64.wrap (q + many) = q + many := IntWalk.i64_in _ (by omega)
  have hm2 : 0 ≤ (q + many).tmod many ∧ (q + many).tmod many < many := ⟨Int.tmod_nonneg _ (by omega), Int.tmod_lt_of_pos _ h0⟩
  have hne : (many == 0) = false := by simp; omega
  go_enter Tryd.func47, Tryd.ntmps47
  cases raw with
  | true =>
    go_wp2
    go_ret
    exact ⟨rfl, rfl⟩
  | false =>
    go_wp2
    go_ret
    exact ⟨by simp; rw [Int.tmod_eq_emod_of_nonneg (by omega), Int.add_emod_right], rfl⟩
def nodeF (n many : Int) (raw : Bool) : Int := if raw then n else (n.tmod many + many).tmod many
def PlaysPost (B : Nat) (ns : List Nd) (w : World) (R : Nat) (e : Ending) (w' : World) : Prop :=
  ∃ T' v' m' ms u', e = .returned (.tuple #[.pointer (some ⟨T', 0, none⟩), .bool true]) ∧ TreeAt B w' T' v' m' ms ∧ RefAt B w' R u' ms ∧ Wf ms ∧ ms.length ≤ ns.length + 64 ∧ Below B w w'
theorem TreeAt.lower {B B' : Nat} {w : World} {T : Nat} {v : Value} {m : Nat} {ns : List Nd} (h : TreeAt B w T v m ns) (hB : B' ≤ B) : TreeAt B' w T v m ns :=
  ⟨h.blk, row_base h.row hB, h.map, ⟨Nat.le_trans hB h.lo.1, Nat.le_trans hB h.lo.2⟩, h.ok, h.few⟩
/-- the step's own block -/
def boxAt (g : Nat) (w : World) (cs : List Value) : Prop := w.heap[g]? = some (.cells cs.toArray 63 (0, 0))
theorem boxAt.lt {g : Nat} {w : World} {cs : List Value} (h : boxAt g w cs) : g < w.heap.size := (Array.getElem?_eq_some_iff.1 h).1
theorem boxAt.below {g : Nat} {w w' : World} {cs : List Value} (h : boxAt g w cs) (hb : Below w.heap.size w w') : boxAt g w' cs := (hb.block g h.lt).trans h
theorem boxAt.keepT {B T m g : Nat} {w w' : World} {v : Value} {ns : List Nd} {cs : List Value} (h : boxAt g w cs) (hT : TreeAt B w T v m ns) (k : KeepT T m w w') : boxAt g w' cs := by
  refine k.blk g _ h (fun e => ?_) (fun e => ?_) (fun c fr e => by simp at e)
  · subst e
    have h1 := hT.blk
    rw [show w.heap[g]? = _ from h] at h1
    simp at h1
  · subst e
    obtain ⟨es, n, h1⟩ := hT.map.obj
    rw [show w.heap[g]? = _ from h] at h1
    simp at h1
theorem boxAt.keepR {B R g : Nat} {w w' : World} {v : Value} {ns : List Nd} {cs : List Value} (h : boxAt g w cs) (hR : RefAt B w R v ns) (k : KeepR R w w') : boxAt g w' cs := by
  refine k.blk g _ h (fun e => ?_) (fun c fr e => by simp at e)
  subst e
  have h1 := hR.blk
  rw [show w.heap[g]? = _ from h] at h1
  simp at h1
theorem boxAt.cell {g : Nat} {w : World} {cs : List Value} (h : boxAt g w cs) (i : Nat) : w.cell? ⟨g, i, none⟩ = cs[i]? := by
  unfold boxAt at h
  simp [World.cell?, h]
theorem Lent.row {B : Nat} {w : World} {v : Value} {l : List Pl} (h : Lent B w v l) : PRow 39 B w v l := by
  obtain ⟨g, cap, rfl, hl, h | ⟨g', cap', cur, hv, h1, h2, h3, h4, h5, h6⟩⟩ := h
  · cases h.1
  · cases hv
    refine ⟨by simp [plCs_length] <;> omega, .inr ⟨g, cap, cur, rfl, h1, h2, by omega, h4, h5, ?_⟩⟩
    have e : cur.toList.take (l.length * 2) = (cur.toList.take ((l.length + 1) * 2)).take (l.length * 2) := by rw [List.take_take]; congr 1; omega
    rw [e, h6, plCs_app]
    exact List.take_left' (by rw [plCs_length])
theorem Lent.low {B B' : Nat} {w : World} {v : Value} {l : List Pl} (h : Lent B w v l) (hB : B' ≤ B) : Lent B' w v l := by
  obtain ⟨g, cap, e, hr⟩ := h
  exact ⟨g, cap, e, row_base hr hB⟩
theorem Lent.keepT {B B' T m : Nat} {w w' : World} {u v : Value} {l : List Pl} {ns : List Nd} (h : Lent B w u l) (ht : TreeAt B' w T v m ns) (k : KeepT T m w w') : Lent B w' u l := by
  obtain ⟨g, cap, rfl, hr⟩ := h
  exact ⟨g, cap, rfl, row_keepT (by decide) (by decide) hr ht k⟩
theorem Lent.keepR {B B' R : Nat} {w w' : World} {u v : Value} {l : List Pl} {ns : List Nd} (h : Lent B w u l) (ht : RefAt B' w R v ns) (k : KeepR R w w') : Lent B w' u l := by
  obtain ⟨g, cap, rfl, hr⟩ := h
  exact ⟨g, cap, rfl, row_keepR (by decide) (by decide) hr ht k⟩
set_option maxRecDepth 1000000 in
set_option maxHeartbeats 16000000 in
theorem plays_in {B T m R : Nat} {v u : Value} {ns : List Nd} (s : St) (w : World) (hT : TreeAt B w T v m ns) (hR : RefAt B w R u ns) (hw : Wf ns) (hn : ns.length ≤ 4031) (ha : i64B s.a) (hb : i64B s.b) (hx : s.x.n.size ≤ 140737488351232) (hl : PlSl B w s.lv s.l) (hll : s.l.length ≤ 5864062014690) (hls : Slim s.l) :
    Calls Tryd.prog 22 #[.pointer (some ⟨T, 0, none⟩), .pointer (some ⟨R, 0, none⟩), .agg (stCs s).toArray] w (PlaysPost B ns w R) := by
  obtain ⟨kind, a, b, raw, x, lv, l⟩ := s
  simp only at ha hb hx hl hll hls
  unfold stCs
  simp only
  have HHL := Lib.hid hl
  have HLS := Lib.hid hls
  obtain ⟨la, lc, rfl, _⟩ := hl
  have hbA : Below w.heap.size w (w.alloc (.cells #[.int .i64 kind, .int .i64 a, .int .i64 b, .bool raw, .string x.n, .int .i64 x.k, .slice la l.length lc] 63)) := (Below.refl _ _).alloc (Nat.le_refl _) _
  have hbx : boxAt w.heap.size (w.alloc (.cells #[.int .i64 kind, .int .i64 a, .int .i64 b, .bool raw, .string x.n, .int .i64 x.k, .slice la l.length lc] 63)) [.int .i64 kind, .int .i64 a, .int .i64 b, .bool raw, .string x.n, .int .i64 x.k, .slice la l.length lc] := by unfold boxAt World.alloc; simp
  have KB := Lib.hid hbx
  have hlt : w.heap.size < (w.alloc (.cells #[.int .i64 kind, .int .i64 a, .int .i64 b, .bool raw, .string x.n, .int .i64 x.k, .slice la l.length lc] 63)).heap.size := by simp
  have hBw := hT.base
  have HT := Lib.hid (hT.below hbA)
  have HR := Lib.hid (hR.below hbA)
  have HW := Lib.hid hw
  have HBA := Lib.hid (hbA.mono hBw)
  clear hT hR hw hls hbA hbx
  go_enter Tryd.func22, Tryd.ntmps22
  go_wp2_with fail
  generalize w.alloc (.cells #[.int .i64 kind, .int .i64 a, .int .i64 b, .bool raw, .string x.n, .int .i64 x.k, .slice la l.length lc] 63) = wA at *
  have dL : ∀ V : World, RefAt B V R u ns → ∀ W : World, (∃ n, W = V.drewN n) → Calls Tryd.prog 24 #[.pointer (some ⟨R, 0, none⟩)] W fun e w' => e = .returned (.int .i64 ((ns.length : Int) + 1)) ∧ ∃ m, w' = W.drewN m := fun V hV W hd =>
    (RLen_in W (hV.below (Dr.below hd _))).mono (by rintro e w' ⟨rfl, rfl⟩; exact ⟨rfl, 0, rfl⟩)
  have dN : ∀ z : Int, i64B z → ∀ W : World, Calls Tryd.prog 47 #[.int .i64 z, .int .i64 ((ns.length : Int) + 1), .bool raw] W fun e w' => e = .returned (.int .i64 (nodeF z ((ns.length : Int) + 1) raw)) ∧ ∃ m, w' = W.drewN m := fun z hz W =>
    (node_in z _ raw hz (by omega) (by omega) W).mono (by rintro e w' ⟨rfl, rfl⟩; exact ⟨rfl, 0, rfl⟩)
  have DLA := Lib.hid (dL wA HR.out)
  have DL := Lib.hid dL
  have DNa := Lib.hid (dN a ha)
  have DNb := Lib.hid (dN b hb)
  clear dL dN ha hb
  generalize nodeF a ((ns.length : Int) + 1) raw = ka at *
  generalize nodeF b ((ns.length : Int) + 1) raw = kb at *
  have k1 := KB.out.cell 1
  have k3 := KB.out.cell 3
  simp only [List.getElem?_cons_zero, List.getElem?_cons_succ] at k1 k3
  go_quiet (first | (go_at_call 24; with_reducible refine Calls.quiet_of (DLA.out _ ?_); exact ⟨_, rfl⟩) | (go_at_call 47; with_reducible refine Calls.quiet_of (DNa.out _)))
  have hq : Below wA.heap.size wA (wA.drewN nq) := Go.below_drewN (Below.refl _ _) _
  have HT1 := Lib.hid (HT.out.below hq)
  have HR1 := Lib.hid (HR.out.below hq)
  have HB1 := Lib.hid (moreB HBA.out (Nat.le_trans hBw HBA.out.size) hq)
  have KB1 : Hid (boxAt w.heap.size (wA.drewN nq) _) := Lib.hid (KB.out.below hq)
  have hlt1 : w.heap.size < (wA.drewN nq).heap.size := hlt
  clear hq HT HR HBA k1 k3 KB hlt DLA DNa
  generalize wA.drewN nq = w1 at *
  clear wA
  have DLA := Lib.hid (DL.out w1 HR1.out)
  clear DL
  have l2 := KB1.out.cell 2
  have l3 := KB1.out.cell 3
  simp only [List.getElem?_cons_zero, List.getElem?_cons_succ] at l2 l3
  go_wp2_with fail
  go_quiet (first | (go_at_call 24; with_reducible refine Calls.quiet_of (DLA.out _ ?_); exact ⟨_, rfl⟩) | (go_at_call 47; with_reducible refine Calls.quiet_of (DNb.out _)))
  have hq : Below w1.heap.size w1 (w1.drewN nq) := Go.below_drewN (Below.refl _ _) _
  have HT2 := Lib.hid (HT1.out.below hq)
  have HR2 := Lib.hid (HR1.out.below hq)
  have HB2 := Lib.hid (moreB HB1.out (Nat.le_trans hBw HB1.out.size) hq)
  have KB2 : Hid (boxAt w.heap.size (w1.drewN nq) _) := Lib.hid (KB1.out.below hq)
  have hlt2 : w.heap.size < (w1.drewN nq).heap.size := hlt1
  clear hq HT1 HR1 HB1 KB1 l2 l3 hlt1 DLA DNb
  generalize w1.drewN nq = w2 at *
  clear w1
  have k0 := KB2.out.cell 0
  simp only [List.getElem?_cons_zero] at k0
  have HL2 := Lib.hid (HHL.out.below HB2.out (Nat.le_trans hBw HB2.out.size))
  cases e1 : kind == 1 with
  | true =>
    have C := Lib.hid (Push_any ka x hx w2 HT2.out HW.out (by omega))
    have k4 := KB2.out.cell 4
    have k5 := KB2.out.cell 5
    simp only [List.getElem?_cons_zero, List.getElem?_cons_succ] at k4 k5
    clear HL2 HHL HLS
    go_wp2_with fail
    refine C.out.mono ?_
    unfold PushAPost
    rintro e w3 ⟨rfl, v3, hT3, hk3, hb3⟩
    have HT3 := Lib.hid hT3
    have HR3 := Lib.hid (HR2.out.keepT HT2.out hk3)
    have KB3 := Lib.hid (KB2.out.keepT HT2.out hk3)
    have HB3 := Lib.hid (HB2.out.trans hb3)
    have C5 := Lib.hid (RPush_in ka x hx w3 HR3.out HW.out (by omega))
    have j4 := KB3.out.cell 4
    have j5 := KB3.out.cell 5
    have hlt3 := KB3.out.lt
    simp only [List.getElem?_cons_zero, List.getElem?_cons_succ] at j4 j5
    clear hT3 hk3 hb3 C k0 k4 k5 HT2 HR2 KB2 HB2 hlt2
    generalize hF : pushF ns ka x = F at *
    have HF := Lib.hid hF
    clear hF
    go_wp2_with fail
    refine C5.out.mono ?_
    unfold RPushPost
    rw [HF.out]
    rintro e w4 ⟨rfl, u4, hR4, hk4, hb4⟩
    have HT4 := Lib.hid (HT3.out.keepR HR3.out hk4)
    have HR4 := Lib.hid hR4
    have HB4 := Lib.hid (HB3.out.trans hb4)
    have n1 : ((F.2.1 : Int) == (F.2.1 : Int)) = true := by simp
    have n2 : ((F.1 : Int) == (F.1 : Int)) = true := by simp
    clear hR4 hk4 hb4 C5 j4 j5 HT3 HR3 KB3 HB3 hlt3
    go_wp2
    go_ret2
    have hwf := pushF_wf HW.out ka x
    rw [HF.out] at hwf
    exact ⟨T, v3, m, F.2.2, u4, rfl, HT4.out, HR4.out, hwf.1, by omega, HB4.out⟩
  | false =>
  cases e2 : kind == 2 with
  | true =>
    have C := Lib.hid (lent_in l (by omega) _ w2 HL2.out)
    have k6 := KB2.out.cell 6
    simp only [List.getElem?_cons_zero, List.getElem?_cons_succ] at k6
    clear hx
    go_wp2_with fail
    refine C.out.mono ?_
    rintro e w3 ⟨lv3, rfl, hl3, hb3⟩
    have HE3 := Lib.hid (hl3.low (Nat.le_trans hBw HB2.out.size))
    have HT3 := Lib.hid (HT2.out.below hb3)
    have HR3 := Lib.hid (HR2.out.below hb3)
    have KB3 := Lib.hid (KB2.out.below hb3)
    have HB3 := Lib.hid (moreB HB2.out (Nat.le_trans hBw HB2.out.size) hb3)
    have C4 := Lib.hid (Add_any l HLS.out _ _ w3 HT3.out HW.out HE3.out.row (by omega))
    clear C hl3 hb3 k6 k0 HT2 HR2 KB2 HB2 HL2 hlt2
    generalize hF : addF ns l = F at *
    have HF := Lib.hid hF
    clear hF
    go_wp2_with fail
    refine C4.out.mono ?_
    unfold AddAPost
    rw [HF.out]
    rintro e w4 ⟨rfl, v4, hT4, hk4, hb4⟩
    have HT4 := Lib.hid hT4
    have HR4 := Lib.hid (HR3.out.keepT HT3.out hk4)
    have KB4 := Lib.hid (KB3.out.keepT HT3.out hk4)
    have HB4 := Lib.hid (HB3.out.trans hb4)
    have HE4 := Lib.hid (HE3.out.keepT HT3.out hk4)
    have HL4 := Lib.hid (HHL.out.below HB4.out (Nat.le_trans hBw HB4.out.size))
    have C5 := Lib.hid (ref_in l (by omega) _ w4 HL4.out)
    have k6 := KB4.out.cell 6
    simp only [List.getElem?_cons_zero, List.getElem?_cons_succ] at k6
    have hlt4 := KB4.out.lt
    clear C4 hT4 hk4 hb4 HT3 HR3 KB3 HB3 HE3
    go_wp2_with fail
    refine C5.out.mono ?_
    unfold IsRow
    rintro e w5 ⟨u5, rfl, hr5, hb5⟩
    have HT5 := Lib.hid (HT4.out.below hb5)
    have HR5 := Lib.hid (HR4.out.below hb5)
    have KB5 := Lib.hid (KB4.out.below hb5)
    have HB5 := Lib.hid (moreB HB4.out (Nat.le_trans hBw HB4.out.size) hb5)
    have HE5 := Lib.hid (HE4.out.below hb5)
    have C6 := Lib.hid (RAdd_any l HLS.out _ u5 w5 HR5.out HW.out hr5 (by omega))
    clear C5 hr5 hb5 HT4 HR4 KB4 HB4 HE4 HL4 k6 hlt4
    go_wp2_with fail
    refine C6.out.mono ?_
    unfold RAddPost
    rw [HF.out]
    rintro e w6 ⟨rfl, u6, hR6, hk6, hb6⟩
    have HT6 := Lib.hid (HT5.out.keepR HR5.out hk6)
    have HR6 := Lib.hid hR6
    have KB6 := Lib.hid (KB5.out.keepR HR5.out hk6)
    have HB6 := Lib.hid (HB5.out.trans hb6)
    have HE6 := Lib.hid (HE5.out.keepR HR5.out hk6)
    have HL6 := Lib.hid (HHL.out.below HB6.out (Nat.le_trans hBw HB6.out.size))
    have C7 := Lib.hid (kept_in l (by omega) B lv3 _ w6 HE6.out HL6.out)
    have k6 := KB6.out.cell 6
    simp only [List.getElem?_cons_zero, List.getElem?_cons_succ] at k6
    have hlt6 := KB6.out.lt
    clear C6 hR6 hk6 hb6 HT5 HR5 KB5 HB5 HE5
    go_wp2_with fail
    refine C7.out.mono ?_
    rintro e w7 ⟨rfl, hb7⟩
    have HT7 := Lib.hid (HT6.out.below hb7)
    have HR7 := Lib.hid (HR6.out.below hb7)
    have HB7 := Lib.hid (moreB HB6.out (Nat.le_trans hBw HB6.out.size) hb7)
    have HE7 := Lib.hid (HE6.out.below hb7)
    have C8 := Lib.hid (spoil_in B l.length (by omega) lv3 w7 HE7.out.any (Nat.le_trans hBw HB7.out.size))
    clear C7 hb7 HT6 HR6 KB6 HB6 HE6 HL6 k6 hlt6
    go_wp2_with fail
    refine C8.out.mono ?_
    rintro e w8 ⟨rfl, hg8⟩
    have HB8 := Lib.hid (HE7.out.row.grown HB7.out hg8 (Nat.le_trans hBw HB7.out.size))
    have HT8 := Lib.hid (HT7.out.kept (by decide) (by decide) HE7.out.row hg8)
    have HR8 := Lib.hid (HR7.out.kept (by decide) (by decide) HE7.out.row hg8)
    have n1 : ((F.2.1 : Int) == (F.2.1 : Int)) = true := by simp
    have n2 : ((F.1 : Int) == (F.1 : Int)) = true := by simp
    clear C8 hg8 HT7 HR7 HB7 HE7
    go_wp2
    go_ret2
    have hwf := addF_wf HW.out l
    have hfew := addF_few HW.out l
    rw [HF.out] at hwf hfew
    exact ⟨T, v4, m, F.2.2, u6, rfl, HT8.out, HR8.out, hwf.1, hfew, HB8.out⟩
  | false =>
  clear HHL HLS HL2 hx hll
  cases e3 : kind == 3 with
  | true =>
    have C := Lib.hid (Meet_any ka kb w2 HT2.out HW.out)
    go_wp2_with fail
    refine C.out.mono ?_
    unfold MeetAPost
    rintro e w3 ⟨rfl, hb3⟩
    have HT3 := Lib.hid (HT2.out.below hb3)
    have HR3 := Lib.hid (HR2.out.below hb3)
    have HB3 := Lib.hid (moreB HB2.out (Nat.le_trans hBw HB2.out.size) hb3)
    have c4 := RMeet_any ka kb w3 HR3.out HW.out
    unfold MeetAPost at c4
    have C4 := Lib.hid c4
    clear C c4 hb3 HT2 HR2 HB2 KB2 k0 hlt2
    generalize meetFF ns ka kb = q1 at *
    generalize askC (hasB ns.length ka && hasB ns.length kb) = q2 at *
    go_wp2_with fail
    refine C4.out.mono ?_
    rintro e w4 ⟨rfl, hb4⟩
    have HT4 := Lib.hid (HT3.out.below hb4)
    have HR4 := Lib.hid (HR3.out.below hb4)
    have HB4 := Lib.hid (moreB HB3.out (Nat.le_trans hBw HB3.out.size) hb4)
    have n1 : ((q1 : Int) == (q1 : Int)) = true := by simp
    have n2 : ((q2 : Int) == (q2 : Int)) = true := by simp
    clear C4 hb4 HT3 HR3 HB3
    go_wp2
    go_ret2
    exact ⟨T, v, m, ns, u, rfl, HT4.out, HR4.out, HW.out, by omega, HB4.out⟩
  | false =>
  cases e4 : kind == 4 with
  | true =>
    have C := Lib.hid (Told_in w2 HT2.out HW.out)
    go_wp2_with fail
    refine C.out.mono ?_
    unfold TreeB
    rintro e w3 ⟨rfl, hb3⟩
    have HR3 := Lib.hid (HR2.out.below hb3)
    have HB3 := Lib.hid (moreB HB2.out (Nat.le_trans hBw HB2.out.size) hb3)
    have C4 := Lib.hid (From_in HW.out (by omega) w3)
    clear C hb3 HT2 HR2 HB2 KB2 k0 hlt2
    go_wp2_with fail
    refine C4.out.mono ?_
    unfold FromPost
    rintro e w4 ⟨T4, v4, m4, rfl, hT4, hb4⟩
    have HT4 := Lib.hid (hT4.lower (Nat.le_trans hBw HB3.out.size))
    have HR4 := Lib.hid (HR3.out.below hb4)
    have HB4 := Lib.hid (moreB HB3.out (Nat.le_trans hBw HB3.out.size) hb4)
    have c5 := RTold_in w4 HR4.out HW.out
    unfold sB at c5
    have C5 := Lib.hid c5
    clear C4 c5 hT4 hb4 HR3 HB3
    generalize (⟨(toldB ns).toArray⟩ : ByteArray) = S at *
    go_wp2_with fail
    refine C5.out.mono ?_
    rintro e w5 ⟨rfl, hb5⟩
    have HT5 := Lib.hid (HT4.out.below hb5)
    have HR5 := Lib.hid (HR4.out.below hb5)
    have HB5 := Lib.hid (moreB HB4.out (Nat.le_trans hBw HB4.out.size) hb5)
    clear C5 hb5 HT4 HR4 HB4
    go_wp2
    go_ret2
    exact ⟨T4, v4, m4, ns, u, rfl, HT5.out, HR5.out, HW.out, by omega, HB5.out⟩
  | false =>
    have C := Lib.hid (looks_in ka w2 HT2.out HR2.out HW.out)
    go_wp2_with fail
    refine C.out.mono ?_
    rintro e w3 ⟨rfl, hb3⟩
    have HT3 := Lib.hid (HT2.out.below hb3)
    have HR3 := Lib.hid (HR2.out.below hb3)
    have HB3 := Lib.hid (moreB HB2.out (Nat.le_trans hBw HB2.out.size) hb3)
    have C4 := Lib.hid (looks_in kb w3 HT3.out HR3.out HW.out)
    clear C hb3 HT2 HR2 HB2 KB2 k0 hlt2
    go_wp2_with fail
    refine C4.out.mono ?_
    rintro e w4 ⟨rfl, hb4⟩
    have HT4 := Lib.hid (HT3.out.below hb4)
    have HR4 := Lib.hid (HR3.out.below hb4)
    have HB4 := Lib.hid (moreB HB3.out (Nat.le_trans hBw HB3.out.size) hb4)
    clear C4 hb4 HT3 HR3 HB3
    go_wp2
    go_ret2
    exact ⟨T, v, m, ns, u, rfl, HT4.out, HR4.out, HW.out, by omega, HB4.out⟩
end Go.Proofs.YtbldeiejlebbiaaDoor.T
