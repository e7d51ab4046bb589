/-
  erratalaw01.TextParts, walked.
-/
import Derived.Laws.Cover4
import Derived.Deep.RegionHeld3
import Derived.Test.YteegnmblbjcfpaaDoorTextIterPre
import Derived.Test.YteegnmblbjcfpaaDoorTextPartsP
import Derived.Test.YteegnmblbjcfpaaDoorTextWorksWalk
set_option linter.unusedVariables false
namespace Go.Proofs.YteegnmblbjcfpaaDoor.T
open Go Go.Lib Go.RowKit Go.Shelf
attribute [local go_sem] Oper.semAt_some

/-- a text of one rune -/
theorem rune_text (a : Addr) (r : Int) (W : World) (h : W.cell? a = some (.int .i32 r)) : (convert 47 9 (.slice (some a) 1 1)).run Tryd.prog W = .ok (.string (runesBytes [r])) W :=
  run_convert_runes W 47 9 21 a 1 1 [r] (Nat.le_refl _) Tryd.underlying47 Tryd.underlying21 Tryd.underlying9 (fun j hj => by
    obtain rfl : j = 0 := by simp at hj; omega
    have e : a.add 0 = a := by unfold Addr.add; split <;> simp_all
    rw [e]; exact h)
theorem encode_coded (r : Nat) (h : mayN r = true) : (Utf8.encode (r : Int)).data.toList = (codedN r).map UInt8.ofNat := by
  have hv : Utf8.valid (r : Int) = true := by
    unfold mayN at h
    unfold Utf8.valid
    simp at h ⊢
    omega
  unfold Utf8.encode codedN
  simp only [hv, if_true, Int.toNat_natCast]
  (repeat' split) <;> first | rfl | (exfalso; omega)
theorem rune_piece (s : ByteArray) (y : Nat × Int) (hy : y ∈ pcs s) (hr : 0 ≤ y.2) : runesBytes [y.2] = pieceS s y := by
  have h := piece_enc s y hy (by omega)
  obtain ⟨hlt, h2⟩ := pcs_mem s y hy
  obtain ⟨hm, hn0⟩ := pc_may s y.1 (by rw [← h2]; omega)
  rw [← h2] at hm
  have he := enc_coded y.2.toNat hm
  have hc := encode_coded y.2.toNat hm
  rw [Int.toNat_of_nonneg hr] at he hc
  apply ba_ext
  rw [h, he, ← hc]
  simp [runesBytes]

theorem slice_pq (s : ByteArray) (p q : Nat) (h1 : p ≤ q) (h2 : q ≤ s.size) (W : World) : (Instr.slice 9 (.string s) (some (.int .i64 (p : Int))) (some (.int .i64 (q : Int))) none).run Tryd.prog W = .ok (.string (s.extract p q)) W := by
  have e := run_slice_string (P := Tryd.prog) W 9 s .i64 .i64 (p : Int) (q : Int) Tryd.underlying9 (by omega) (by omega) (by omega)
  rw [e, Int.toNat_natCast, Int.toNat_natCast]
theorem keepsOthers_below {W W' : World} (h : Below W.heap.size W W') : KeepsOthers W W' := ⟨h.size, fun k o hk _ => (h.block k (Array.getElem?_eq_some_iff.1 hk).1).trans hk⟩
/-- what a round of the first loop keeps -/
def Ok (n₀ Bs : Nat) (s : ByteArray) (W W' : World) : Prop := KeepsOthers W W' ∧ KpR n₀ Bs s W W'
theorem Ok.refl (n₀ Bs : Nat) (s : ByteArray) (W : World) : Ok n₀ Bs s W W := ⟨KeepsOthers.refl _, Below.refl _ _, KeepsWalks.refl _, fun c => c⟩
theorem Ok.drew (n₀ Bs : Nat) (s : ByteArray) (W : World) : Ok n₀ Bs s W W.drew := ⟨KeepsOthers.drew _, (Below.refl _ _).drew, ⟨Nat.le_refl _, fun _ _ h _ => h⟩, fun c => c⟩
theorem Ok.trans {n₀ Bs : Nat} {s : ByteArray} {A B C : World} (h : Ok n₀ Bs s A B) (k : Ok n₀ Bs s B C) : Ok n₀ Bs s A C := ⟨h.1.trans k.1, h.2.t k.2⟩
theorem Ok.set (n₀ Bs : Nat) (s : ByteArray) (W : World) (b : Nat) (v : Value) (h : n₀ ≤ b) (hne : Bs ≠ b) : Ok n₀ Bs s W (W.setCell ⟨b, 0, none⟩ v) :=
  ⟨KeepsOthers.setCell _ _ _, (Below.refl _ W).setCell (p := ⟨b, 0, none⟩) h _, KeepsWalks.setCell _ _ _, fun c => (World.cell?_setCell_other _ _ _ _ (by simp <;> omega)).trans c⟩
theorem Ok.below {n₀ Bs : Nat} {s : ByteArray} {W W' : World} (h : n₀ ≤ W.heap.size) (hB : Bs < W.heap.size) (hb : Below W.heap.size W W') : Ok n₀ Bs s W W' :=
  ⟨keepsOthers_below hb, hb.mono h, (keepsOthers_below hb).walks, fun c => (hb.cell (p := ⟨Bs, 0, none⟩) hB).trans c⟩

theorem range_stop {F : Fence} {n : Nat} {P : Program} {α : Type} {g : Operand} {ps : Array Tmp} {assign body : Code} {Q : Exit → Act → World → Prop} {a : Act} {w : World}
    (dst : Tmp) (val : α → Value)
    (hro : F.round = none) (h1 : 1 ≤ n) {gf : Nat} {lb : Array Value} (hg : a.eval g = .func (.func gf) #[] lb) (hFg : F.fn gf) (eg : ∀ args w, (callFunc gf args).run P w = .ok (.enter gf args) w)
    {encs : α → Array Value} {Kp : World → World → Prop} {S Sp : List α → Prop} {N : Nat} {w0 : World} (hseq : SeqStopsK F (n - 1) P gf lb encs Kp S Sp N w0)
    (hKt : ∀ {A B C : World}, Kp A B → Kp B C → Kp A C) (hKb : ∀ (W : World) (l : Nat) (o o' : Obj), w.heap.size ≤ l → W.heap[l]? = some o → o.isCells = false → o.isWalk = false → Kp W (W.putObj l o')) (hb0 : Below w0.heap.size w0 w) (hps : ∀ x, (encs x).size = ps.size)
    (I : List α → World → Prop) (Ix : Code → List α → World → Prop) (hI : OwnFrom w.heap.size I) (hIx : ∀ c, OwnFrom w.heap.size (Ix c)) (h0 : I [] w)
    (hassign : ∀ (l : Nat) (x : α) (W : World) (K : Act → World → Prop), K { tmps := ((ps.zip (encs x)).foldl (fun t (p, v) => t.setIfInBounds p v) a.tmps).setIfInBounds dst (val x), defers := [] } W →
      assign.wpIn (F.inRound l) (n - 1 - 1) P (Exit.then K (fun _ _ _ => False)) { tmps := (ps.zip (encs x)).foldl (fun t (p, v) => t.setIfInBounds p v) a.tmps, defers := [] } W)
    (hbody : ∀ (l : Nat) (pre : List α) (x : α) (W : World), I pre W → pre.length < N → body.wpIn (F.inRound l) (n - 1 - 1) P (ownPostK Kp I Ix (pre ++ [x]) W) { tmps := ((ps.zip (encs x)).foldl (fun t (p, v) => t.setIfInBounds p v) a.tmps).setIfInBounds dst (val x), defers := [] } W)
    (hdone : ∀ (D : Nat) (xs : List α) (W : World), w.heap.size ≤ D → S xs → I xs W → W.heap[D]? = some (.deferred (some [])) → Q .normal { a with defers := { target := .collected D, args := #[] } :: a.defers } W)
    (hstop : ∀ (D : Nat) (c : Code) (pre : List α) (W : World), w.heap.size ≤ D → Sp pre → Ix c pre W → W.heap[D]? = some (.deferred (some [])) → c.wpIn F n P Q { a with defers := { target := .collected D, args := #[] } :: a.defers } W) :
    (Code.rangeFunc g ps assign body).wpIn F n P Q a w :=
  wpIn_rangeFunc_ownF hro h1 hg hFg eg hseq hKt hKb hb0 hps I Ix hI hIx h0 _ hassign hbody hdone hstop

set_option maxRecDepth 1000000 in
set_option maxHeartbeats 64000000 in
theorem textParts_in (s : ByteArray) (one two : Int) (ho1 : -9223372036854775808 ≤ one) (ho2 : one ≤ 9223372036854775807) (ht1 : -9223372036854775808 ≤ two) (ht2 : two ≤ 9223372036854775807) (hs : s.size ≤ 1048576) (w : World) (hT : Tabs w) (h2 : 2 ≤ w.heap.size) :
    CallsIn Fence.wide 5 Tryd.prog 7 #[.string s, .int .i64 one, .int .i64 two] w fun e w' => e = .returned (.bool true) ∧ Below w.heap.size w w' := by
  have hro : Fence.wide.round = none := rfl
  have hw : ∀ f, Fence.wide.fn f := fun _ => trivial
  have hpl := pcs_length s
  refine callsIn_of_wp_marks Tryd.func7 rfl trivial ?_ hro
  simp only [Tryd.ntmps7, List.size_toArray, List.length_cons, List.length_nil, Nat.reduceAdd, Nat.reduceSub, Array.replicate_succ, Array.replicate_zero, List.push_toArray, List.append_toArray, List.nil_append, List.cons_append]
  gi_wp2_with fail
  have bS := (((Boxed.new w 9 (.string s)).alloc (.cells #[.int .i64 one] 3)).alloc (.cells #[.int .i64 two] 3)).alloc (.cells #[.bool false] 4)
  have bO := ((Boxed.new (w.alloc (.cells #[.string s] 9)) 3 (.int .i64 one)).alloc (.cells #[.int .i64 two] 3)).alloc (.cells #[.bool false] 4)
  have bT := (Boxed.new ((w.alloc (.cells #[.string s] 9)).alloc (.cells #[.int .i64 one] 3)) 3 (.int .i64 two)).alloc (.cells #[.bool false] 4)
  have bR := Boxed.new (((w.alloc (.cells #[.string s] 9)).alloc (.cells #[.int .i64 one] 3)).alloc (.cells #[.int .i64 two] 3)) 4 (.bool false)
  simp only [World.size_alloc] at bO bT bR
  have hbA : Below w.heap.size w ((((w.alloc (.cells #[.string s] 9)).alloc (.cells #[.int .i64 one] 3)).alloc (.cells #[.int .i64 two] 3)).alloc (.cells #[.bool false] 4)) := ((((Below.refl _ w).alloc (Nat.le_refl _) _).alloc (by simp) _).alloc (by simp; omega) _).alloc (by simp; omega) _
  have hzA : ((((w.alloc (.cells #[.string s] 9)).alloc (.cells #[.int .i64 one] 3)).alloc (.cells #[.int .i64 two] 3)).alloc (.cells #[.bool false] 4)).heap.size = w.heap.size + 4 := by simp
  generalize ((((w.alloc (.cells #[.string s] 9)).alloc (.cells #[.int .i64 one] 3)).alloc (.cells #[.int .i64 two] 3)).alloc (.cells #[.bool false] 4)) = wA at *
  have hTA := hT.below hbA h2
  refine (callsIn_wide.2 (works_in wA hTA (by omega))).mono ?_
  rintro e w1 ⟨rfl, hb1⟩
  have hz1 := hb1.size
  have bS1 : Boxed w1 w.heap.size 9 (.string s) := (hb1.block _ (by omega)).trans bS
  have cS1 := bS1.cell
  have hbV : Below w1.heap.size w1 ((((w1.alloc (.cells #[.int .i64 0] 3)).alloc (.cells #[.int .i64 0] 3)).alloc (.cells #[.int .i32 0] 21)).alloc (.cells #[.int .i64 0] 3)) := ((((Below.refl _ w1).alloc (Nat.le_refl _) _).alloc (by simp) _).alloc (by simp; omega) _).alloc (by simp; omega) _
  have cS2 := (hbV.cell (p := ⟨w.heap.size, 0, none⟩) (by show w.heap.size < _; omega)).trans cS1
  gi_wp2_with (gi_at_call 10; refine (Runes_in _ _ _).mono ?_; rintro e w' ⟨rfl, rfl⟩)
  have bL := (((((Boxed.new w1 3 (.int .i64 0)).alloc (.cells #[.int .i64 0] 3)).alloc (.cells #[.int .i32 0] 21)).alloc (.cells #[.int .i64 0] 3))).alloc (.cells #[.string s] 9)
  have bU := (((Boxed.new (w1.alloc (.cells #[.int .i64 0] 3)) 3 (.int .i64 0)).alloc (.cells #[.int .i32 0] 21)).alloc (.cells #[.int .i64 0] 3)).alloc (.cells #[.string s] 9)
  have bW := ((Boxed.new ((w1.alloc (.cells #[.int .i64 0] 3)).alloc (.cells #[.int .i64 0] 3)) 21 (.int .i32 0)).alloc (.cells #[.int .i64 0] 3)).alloc (.cells #[.string s] 9)
  have bN := (Boxed.new (((w1.alloc (.cells #[.int .i64 0] 3)).alloc (.cells #[.int .i64 0] 3)).alloc (.cells #[.int .i32 0] 21)) 3 (.int .i64 0)).alloc (.cells #[.string s] 9)
  have bX := Boxed.new ((((w1.alloc (.cells #[.int .i64 0] 3)).alloc (.cells #[.int .i64 0] 3)).alloc (.cells #[.int .i32 0] 21)).alloc (.cells #[.int .i64 0] 3)) 9 (.string s)
  simp only [World.size_alloc] at bU bW bN bX
  have hbW : Below w1.heap.size w1 (((((w1.alloc (.cells #[.int .i64 0] 3)).alloc (.cells #[.int .i64 0] 3)).alloc (.cells #[.int .i32 0] 21)).alloc (.cells #[.int .i64 0] 3)).alloc (.cells #[.string s] 9)) := hbV.alloc (by simp; omega) _
  have hzW : (((((w1.alloc (.cells #[.int .i64 0] 3)).alloc (.cells #[.int .i64 0] 3)).alloc (.cells #[.int .i32 0] 21)).alloc (.cells #[.int .i64 0] 3)).alloc (.cells #[.string s] 9)).heap.size = w1.heap.size + 5 := by simp
  clear cS2 hbV
  generalize (((((w1.alloc (.cells #[.int .i64 0] 3)).alloc (.cells #[.int .i64 0] 3)).alloc (.cells #[.int .i32 0] 21)).alloc (.cells #[.int .i64 0] 3)).alloc (.cells #[.string s] 9)) = W0 at *
  have hT1 := hTA.below hb1 (by omega)
  have HT0 := hT1.below hbW (by omega)
  have HZ := Lib.hid hzW
  clear hzW
  refine range_pre2 11 12 (fun x => .int .i64 x.1.1) (fun x => .int .i32 x.1.2) hro (by omega) (gf := 33) (lb := #[.pointer (some ⟨w1.heap.size + 1 + 1 + 1 + 1, 0, none⟩)]) rfl trivial (enters_of Tryd.func33 (by kernel_rfl) rfl)
    (runes_pre 4 (by omega) (w1.heap.size + 1 + 1 + 1 + 1) w1.heap.size s (by omega) _ HT0 (by omega) (by rw [HZ.out]; omega) (by rw [HZ.out]; omega) bX.cell) KpR.t (KpR.b (by rw [HZ.out]; omega)) (Below.refl _ _) (fun _ => rfl)
    (fun pre W => ((((Boxed W w1.heap.size 3 (.int .i64 (lastI (vals pre))) ∧ Boxed W (w1.heap.size + 1) 3 (.int .i64 (sumI (vals pre)))) ∧ Boxed W (w1.heap.size + 1 + 1) 21 (.int .i32 (wasI (vals pre)))) ∧ Boxed W (w1.heap.size + 1 + 1 + 1) 3 (.int .i64 pre.length))) ∧ Below w1.heap.size W0 W)
    (OwnFrom.and (OwnFrom.and (OwnFrom.and (OwnFrom.and (Own.from (boxed_own _ _ _) _) (Own.from (boxed_own _ _ _) _)) (Own.from (boxed_own _ _ _) _)) (Own.from (boxed_own _ _ _) _)) (ownFrom_below (by rw [HZ.out]; omega) (by rw [HZ.out]; omega)))
    ⟨⟨⟨⟨bL, bU⟩, bW⟩, bN⟩, Below.refl _ _⟩ ?assign ?body ?done
  case assign =>
    intro l x W K hK
    gi_wp2
    first
      | exact hK
      | (simp at hK; exact hK)
      | (simp [go_sem] at hK; exact hK)
  case body =>
    rintro l pre x W ⟨⟨⟨⟨hL, hU⟩, hW⟩, hN⟩, hB0⟩ hpre
    have hszW0 := hB0.size
    have hB := hbW.trans hB0
    have hszW := hB.size
    have hbS : Boxed W w.heap.size 9 (.string s) := (hB.block _ (by omega)).trans bS1
    have cS := hbS.cell
    have hpn : pre.length < 1048577 := by
      have h1 := hpre.length_le
      rw [vals_snoc, List.length_append, vals_length] at h1
      omega
    have hlenW := HZ.out
    rcases List.eq_nil_or_concat pre with rfl | ⟨p', y, hp0⟩
    · have hx0 : x.1.1 = 0 := by
        have h1 := pcsFrom_head s 0 x.1 [] hpre
        rw [h1.2.1]
      have hxb : ((x.1.1 : Int) != 0) = false := by rw [hx0]; rfl
      have cN := hN.cell
      have fL := hL.frozen
      have fW := hW.frozen
      have fN := hN.frozen
      have cL := hL.cell
      have cW := hW.cell
      clear hpre hx0
      gi_wp2
      have hok : Ok w1.heap.size (w1.heap.size + 1 + 1 + 1 + 1) s W (((W.setCell ⟨w1.heap.size, 0, none⟩ (.int .i64 x.1.1)).setCell ⟨w1.heap.size + 1 + 1, 0, none⟩ (.int .i32 x.1.2)).setCell ⟨w1.heap.size + 1 + 1 + 1, 0, none⟩ (.int .i64 1)) :=
        ((Ok.set _ _ _ _ _ _ (by omega) (by omega)).trans (Ok.set _ _ _ _ _ _ (by omega) (by omega))).trans (Ok.set _ _ _ _ _ _ (by omega) (by omega))
      refine ⟨hok.1, hok.2, ⟨⟨⟨?_, ?_⟩, ?_⟩, ?_⟩, hB0.trans hok.2.1⟩
      · rw [vals_snoc, lastI_snoc]; exact ((hL.set _).other (by omega) _).other (by omega) _
      · rw [vals_snoc, sumI_snoc]; exact ((hU.other (by omega) _).other (by omega) _).other (by omega) _
      · rw [vals_snoc, wasI_snoc]; exact ((hW.other (by omega) _).set _).other (by omega) _
      · exact ((hN.other (by omega) _).other (by omega) _).set _
    · rw [List.concat_eq_append] at hp0
      subst hp0
      have hlenp : (p' ++ [y]).length = p'.length + 1 := by simp
      have hpre2 : vals p' ++ [y.1, x.1] <+: pcsFrom s 0 := by
        rw [vals_snoc, vals_snoc, List.append_assoc] at hpre
        exact hpre
      simp only [vals_snoc, lastI_snoc, sumI_snoc, wasI_snoc] at hL hU hW
      have hnx := pcs_next s (vals p') 0 y.1 x.1 hpre2
      have hyl := pcs_mem s y.1 y.2
      have hyp := pc_pos s y.1.1 hyl.1
      have hxl := pcs_mem s x.1 x.2
      have hsl := fun W => slice_pq s y.1.1 x.1.1 (by omega) (by omega) W
      have hpc : s.extract y.1.1 x.1.1 = pieceS s y.1 := by unfold pieceS; rw [hnx]
      rw [hpc] at hsl
      have hpw : wd (pieceS s y.1) = wOf y.1.2 := by unfold pieceS; rw [piece_wd s y.1.1 hyl.1, hyl.2]
      have hpz := pieceS_size s y.1 hyl.1
      have hp4 := pc_le4 s y.1.1
      have hle : decide ((x.1.1 : Int) ≤ (y.1.1 : Int)) = false := by simp; omega
      have hleN : decide (x.1.1 ≤ y.1.1) = false := by simp; omega
      have hwb := wOf_bd y.1.2
      have hlb := widthL_bd (vals p')
      have hsn := widthL_snoc (vals p') y.1
      rw [vals_length] at hlb
      have hwr : IntKind.i64.wrap (widthL (vals p') + wOf y.1.2) = widthL (vals p') + wOf y.1.2 := IntWalk.i64_in _ (by omega)
      have cX := fun (V : World) (hV : Below w1.heap.size w1 V) => callsIn_wide.1 (Width_in (pieceS s y.1) (by omega) V (hT1.below hV (by omega)) (by have := hV.size; omega))
      have cY : ∀ (V : World), Below w1.heap.size w1 V → Calls Tryd.prog 16 #[.string (pieceS s y.1)] V fun e V' => e = .returned (.int .i64 (wOf y.1.2)) ∧ Below V.heap.size V V' := fun V hV => by rw [← hpw]; exact cX V hV
      have hrune : 0 ≤ y.1.2 → runesBytes [y.1.2] = pieceS s y.1 := rune_piece s y.1 y.2
      have hbrk : y.1.2 < 0 → (pieceS s y.1).size = 1 := fun h => by
        rw [hpz, pc_2]
        by_cases hd : Utf8.decode s y.1.1 = (65533, 1)
        · rw [hd]
        · have := hyl.2; rw [pc_run s _ hd] at this; simp only at this; omega
      rw [hlenp] at hN hpn
      generalize pieceS s y.1 = part at *
      have CY := Lib.hid cY; have HSN := Lib.hid hsn; have HWR := Lib.hid hwr; have HLP := Lib.hid hlenp
      have hyx : y.1.1 < x.1.1 := by omega
      have hxs : x.1.1 ≤ s.size := by omega
      clear cX cY hpw hpc hsn hwr hlenp hpre hpre2 hyl hyp hxl hpz hp4 hnx
      generalize p'.length = k at *
      have hkp : 0 < k + 1 := by omega
      have cN := hN.cell
      have cL := hL.cell
      have cW := hW.cell
      have fL := hL.frozen
      have fW := hW.frozen
      have fN := hN.frozen
      have fU := hU.frozen
      have cU := hU.cell
      by_cases hneg : y.1.2 < 0
      · have h1 := hbrk hneg
        have hd0 : decide (y.1.2 < 0) = true := decide_eq_true hneg
        have hd1 : decide (y.1.2 ≥ 0) = false := by simp; omega
        have hd2 : ((part.size : Int) != 1) = false := by rw [h1]; rfl
        clear hrune hbrk h1
        gi_wp2
        have hok2 := Ok.refl w1.heap.size (w1.heap.size + 1 + 1 + 1 + 1) s W
        have hL2 := hL; have hU2 := hU; have hW2 := hW; have hN2 := hN; have hB2 := hB; have hzX := hszW0
        clear cN cL cW fL fW fN fU cU
        have cU2 := hU2.cell
        have fU2 := hU2.frozen
        have hUl := hU2.lt
        have hmx : Tryd.prog.follows .mixedOrders = true := by kernel_rfl
        have hd : 1 ≤ 5 - 1 - 1 := by omega
        gi_region_with_o (gi_at_call 16; refine (CallsIn.inRound l (callsIn_wide.2 (CY.out _ (by first | exact hB2 | exact hB2.drew)))).mono ?_; rintro e w' ⟨rfl, hb⟩; have cU3 := (hb.cell (p := ⟨w1.heap.size + 1, 0, none⟩) (by simpa using hUl)).trans cU2; have fU3 := (hb.frozen (p := ⟨w1.heap.size + 1, 0, none⟩) (by simpa using hUl)).trans fU2)
        all_goals
          rw [HWR.out]
          have hbw := (show Below _ _ w' from hb)
          obtain ⟨hokw, hLw, hWw, hNw, hUw⟩ : Ok w1.heap.size (w1.heap.size + 1 + 1 + 1 + 1) s W w' ∧ Boxed w' w1.heap.size 3 (.int .i64 y.1.1) ∧ Boxed w' (w1.heap.size + 1 + 1) 21 (.int .i32 y.1.2) ∧ Boxed w' (w1.heap.size + 1 + 1 + 1) 3 (.int .i64 ((k + 1 : Nat) : Int)) ∧ Boxed w' (w1.heap.size + 1) 3 (.int .i64 (widthL (vals p'))) :=
            ⟨hok2.trans ((Ok.drew _ _ _ _).trans (Ok.below (by simp; omega) (by simp; omega) hb)), (hb.block _ (by simpa using hL2.lt)).trans hL2, (hb.block _ (by simpa using hW2.lt)).trans hW2, (hb.block _ (by simpa using hN2.lt)).trans hN2, (hb.block _ (by simpa using hU2.lt)).trans hU2⟩
          have cL4 := hLw.cell
          have cW4 := hWw.cell
          have cN4 := hNw.cell
          have fL4 := hLw.frozen
          have fW4 := hWw.frozen
          have fN4 := hNw.frozen
          clear cU2 fU2 cU3 fU3
          gi_wp2
          have hfin := (((hokw.trans (Ok.set _ _ s w' (w1.heap.size + 1) (.int .i64 (widthL (vals p') + wOf y.1.2)) (by omega) (by omega))).trans (Ok.set _ _ s _ w1.heap.size (.int .i64 x.1.1) (by omega) (by omega))).trans (Ok.set _ _ s _ (w1.heap.size + 1 + 1) (.int .i32 x.1.2) (by omega) (by omega))).trans (Ok.set _ _ s _ (w1.heap.size + 1 + 1 + 1) (.int .i64 ((k : Int) + 1 + 1)) (by omega) (by omega))
          refine ⟨hfin.1, hfin.2, ⟨⟨⟨?_, ?_⟩, ?_⟩, ?_⟩, hB0.trans hfin.2.1⟩
          · rw [vals_snoc, lastI_snoc]; exact (((hLw.other (by omega) _).set _).other (by omega) _).other (by omega) _
          · rw [vals_snoc, sumI_snoc, vals_snoc, HSN.out]; exact (((hUw.set _).other (by omega) _).other (by omega) _).other (by omega) _
          · rw [vals_snoc, wasI_snoc]; exact (((hWw.other (by omega) _).other (by omega) _).set _).other (by omega) _
          · have e : ((p' ++ [y] ++ [x]).length : Int) = (k : Int) + 1 + 1 := by rw [List.length_append, HLP.out]; simp
            rw [e]; exact (((hNw.other (by omega) _).other (by omega) _).other (by omega) _).set _
      · have h1 := hrune (by omega)
        have hd0 : decide (y.1.2 < 0) = false := decide_eq_false hneg
        have hd1 : decide (y.1.2 ≥ 0) = true := by simp; omega
        have hrt := rune_text ⟨W.heap.size, 0, none⟩ y.1.2 (W.alloc (.cells #[.int .i32 y.1.2] 21)) (by simp)
        rw [h1] at hrt
        clear hrune hbrk h1
        gi_wp2
        have hBa : Below W.heap.size W (W.alloc (.cells #[.int .i32 y.1.2] 21)) := (Below.refl _ W).alloc (Nat.le_refl _) _
        have hok2 : Ok w1.heap.size (w1.heap.size + 1 + 1 + 1 + 1) s W (W.alloc (.cells #[.int .i32 y.1.2] 21)) := Ok.below hszW (by omega) hBa
        have hL2 := hL.alloc (.cells #[.int .i32 y.1.2] 21); have hU2 := hU.alloc (.cells #[.int .i32 y.1.2] 21); have hW2 := hW.alloc (.cells #[.int .i32 y.1.2] 21); have hN2 := hN.alloc (.cells #[.int .i32 y.1.2] 21)
        have hB2 := hB.trans hok2.2.1
        have hzX : W0.heap.size ≤ (W.alloc (.cells #[.int .i32 y.1.2] 21)).heap.size := by simp; omega
        clear hBa hrt
        generalize W.alloc (.cells #[.int .i32 y.1.2] 21) = Wa at *
        clear cN cL cW fL fW fN fU cU
        have cU2 := hU2.cell
        have fU2 := hU2.frozen
        have hUl := hU2.lt
        have hmx : Tryd.prog.follows .mixedOrders = true := by kernel_rfl
        have hd : 1 ≤ 5 - 1 - 1 := by omega
        gi_region_with_o (gi_at_call 16; refine (CallsIn.inRound l (callsIn_wide.2 (CY.out _ (by first | exact hB2 | exact hB2.drew)))).mono ?_; rintro e w' ⟨rfl, hb⟩; have cU3 := (hb.cell (p := ⟨w1.heap.size + 1, 0, none⟩) (by simpa using hUl)).trans cU2; have fU3 := (hb.frozen (p := ⟨w1.heap.size + 1, 0, none⟩) (by simpa using hUl)).trans fU2)
        all_goals
          rw [HWR.out]
          have hbw := (show Below _ _ w' from hb)
          obtain ⟨hokw, hLw, hWw, hNw, hUw⟩ : Ok w1.heap.size (w1.heap.size + 1 + 1 + 1 + 1) s W w' ∧ Boxed w' w1.heap.size 3 (.int .i64 y.1.1) ∧ Boxed w' (w1.heap.size + 1 + 1) 21 (.int .i32 y.1.2) ∧ Boxed w' (w1.heap.size + 1 + 1 + 1) 3 (.int .i64 ((k + 1 : Nat) : Int)) ∧ Boxed w' (w1.heap.size + 1) 3 (.int .i64 (widthL (vals p'))) :=
            ⟨hok2.trans ((Ok.drew _ _ _ _).trans (Ok.below (by simp; omega) (by simp; omega) hb)), (hb.block _ (by simpa using hL2.lt)).trans hL2, (hb.block _ (by simpa using hW2.lt)).trans hW2, (hb.block _ (by simpa using hN2.lt)).trans hN2, (hb.block _ (by simpa using hU2.lt)).trans hU2⟩
          have cL4 := hLw.cell
          have cW4 := hWw.cell
          have cN4 := hNw.cell
          have fL4 := hLw.frozen
          have fW4 := hWw.frozen
          have fN4 := hNw.frozen
          clear cU2 fU2 cU3 fU3
          gi_wp2
          have hfin := (((hokw.trans (Ok.set _ _ s w' (w1.heap.size + 1) (.int .i64 (widthL (vals p') + wOf y.1.2)) (by omega) (by omega))).trans (Ok.set _ _ s _ w1.heap.size (.int .i64 x.1.1) (by omega) (by omega))).trans (Ok.set _ _ s _ (w1.heap.size + 1 + 1) (.int .i32 x.1.2) (by omega) (by omega))).trans (Ok.set _ _ s _ (w1.heap.size + 1 + 1 + 1) (.int .i64 ((k : Int) + 1 + 1)) (by omega) (by omega))
          refine ⟨hfin.1, hfin.2, ⟨⟨⟨?_, ?_⟩, ?_⟩, ?_⟩, hB0.trans hfin.2.1⟩
          · rw [vals_snoc, lastI_snoc]; exact (((hLw.other (by omega) _).set _).other (by omega) _).other (by omega) _
          · rw [vals_snoc, sumI_snoc, vals_snoc, HSN.out]; exact (((hUw.set _).other (by omega) _).other (by omega) _).other (by omega) _
          · rw [vals_snoc, wasI_snoc]; exact (((hWw.other (by omega) _).other (by omega) _).set _).other (by omega) _
          · have e : ((p' ++ [y] ++ [x]).length : Int) = (k : Int) + 1 + 1 := by rw [List.length_append, HLP.out]; simp
            rw [e]; exact (((hNw.other (by omega) _).other (by omega) _).other (by omega) _).set _
  case done =>
    rintro D ys W hD hys ⟨⟨⟨⟨hL, hU⟩, hW⟩, hN⟩, hB0⟩ hK
    have hszW0 := hB0.size
    have hB := hbW.trans hB0
    have hszW := hB.size
    have hylen : ys.length = (pcs s).length := by rw [← vals_length, hys]
    rw [hys] at hL hU hW
    rw [hylen] at hN
    have hbS : Boxed W w.heap.size 9 (.string s) := (hB.block _ (by omega)).trans bS1
    have hbO : Boxed W (w.heap.size + 1) 3 (.int .i64 one) := (hB.block _ (by omega)).trans ((hb1.block _ (by omega)).trans bO)
    have hbT : Boxed W (w.heap.size + 1 + 1) 3 (.int .i64 two) := (hB.block _ (by omega)).trans ((hb1.block _ (by omega)).trans bT)
    have hbR : Boxed W (w.heap.size + 1 + 1 + 1) 4 (.bool false) := (hB.block _ (by omega)).trans ((hb1.block _ (by omega)).trans bR)
    have cS := hbS.cell
    have cO := hbO.cell
    have cT := hbT.cell
    have cN := hN.cell
    have cL := hL.cell
    have cW := hW.cell
    have cU := hU.cell
    have fU := hU.frozen
    have HK := Lib.hid hK
    clear hK
    by_cases hz : s.size = 0
    · have hp0 := pcs_none s hz
      rw [hp0] at cN cU
      have hse : s.toList = [] := by rw [toList_data']; exact List.eq_nil_of_length_eq_zero (by rw [data_len]; exact hz)
      have hse2 : s.toList.isEmpty = true := by rw [hse]; rfl
      have hwz : wd s = 0 := by unfold wd; rw [hp0]; rfl
      gi_wp2
      obtain ⟨V, rfl⟩ : ∃ V, V = W := ⟨_, rfl⟩
      have hUx : Boxed V (w1.heap.size + 1) 3 (.int .i64 (wd s)) := by rw [hwz]; rw [hp0] at hU; exact hU
      have hBx := hB
      have hzx := hszW0
      have HKx := HK
      clear hp0 hse hse2 hwz cS cO cT cN cL cW cU fU hz

      have hbSx : Boxed V w.heap.size 9 (.string s) := (hBx.block _ (by omega)).trans bS1
      have hbOx : Boxed V (w.heap.size + 1) 3 (.int .i64 one) := (hBx.block _ (by omega)).trans ((hb1.block _ (by omega)).trans bO)
      have hbTx : Boxed V (w.heap.size + 1 + 1) 3 (.int .i64 two) := (hBx.block _ (by omega)).trans ((hb1.block _ (by omega)).trans bT)
      have hbRx : Boxed V (w.heap.size + 1 + 1 + 1) 4 (.bool false) := (hBx.block _ (by omega)).trans ((hb1.block _ (by omega)).trans bR)
      have hzV := hBx.size
      have hTV := hT1.below hBx (by omega)
      have hUl := hUx.lt
      have cc := fun (r : Int) (U : World) (hU : Below V.heap.size V U) => after hU (Cut_in s r (by omega) U (hTV.below hU (by omega)) (by have := hU.size; omega))
      have cw := fun (y : ByteArray) (hy : y.size ≤ 67108864) (U : World) (hU : Below V.heap.size V U) => after hU (callsIn_wide.1 (Width_in y hy U (hTV.below hU (by omega)) (by have := hU.size; omega)))
      have cw2 : ∀ (y : ByteArray), y.size ≤ 67108864 → ∀ (U : World), Below V.heap.size V U → Calls Tryd.prog 16 #[.string y] U fun e U' => e = .returned (.int .i64 (wd y)) ∧ Below V.heap.size V U' := cw
      have kc : ∀ U, Below V.heap.size V U → U.cell? ⟨w.heap.size, 0, none⟩ = some (.string s) ∧ U.cell? ⟨w.heap.size + 1, 0, none⟩ = some (.int .i64 one) ∧ U.cell? ⟨w.heap.size + 1 + 1, 0, none⟩ = some (.int .i64 two) ∧ U.cell? ⟨w1.heap.size + 1, 0, none⟩ = some (.int .i64 (wd s)) := fun U hU =>
        ⟨(hU.cell (p := ⟨w.heap.size, 0, none⟩) hbSx.lt).trans hbSx.cell, (hU.cell (p := ⟨w.heap.size + 1, 0, none⟩) hbOx.lt).trans hbOx.cell, (hU.cell (p := ⟨w.heap.size + 1 + 1, 0, none⟩) hbTx.lt).trans hbTx.cell, (hU.cell (p := ⟨w1.heap.size + 1, 0, none⟩) hUl).trans hUx.cell⟩
      obtain ⟨w11, w12, w13⟩ := wide_spec s (max one two)
      have hmn := fit_mono s (min one two) (max one two) (by omega)
      have hfs := fit_all s (wd s) (Int.le_refl _)
      have hwd := wd_bd s
      have e0 := cc (wd s)
      rw [hfs, ext_all] at e0
      have CC := Lib.hid cc; have CW := Lib.hid cw2; have KC := Lib.hid kc; have CE := Lib.hid e0; have HUX := Lib.hid hUx; have HBX := Lib.hid hBx
      clear cc cw cw2 kc e0 hfs hbSx hbOx hbTx hTV
      have hV0 := Below.refl V.heap.size V
      refine (callsIn_wide.2 (CC.out (min one two) _ hV0)).mono ?_
      rintro e v1 ⟨rfl, hv1⟩
      obtain ⟨c1, c2, c3, c4⟩ := KC.out _ hv1
      gi_wp2_with fail
      refine (callsIn_wide.2 (CC.out (max one two) _ hv1)).mono ?_
      rintro e v2 ⟨rfl, hv2⟩
      clear c1 c2 c3 c4
      obtain ⟨c1, c2, c3, c4⟩ := KC.out _ hv2
      have hez : (s.extract 0 (fit s (max one two))).size = fit s (max one two) := by simp; omega
      have hen : (s.extract 0 (fit s (min one two))).size = fit s (min one two) := by simp; omega
      have hee := ext_ext0 s (fit s (min one two)) (fit s (max one two)) hmn
      have hrest : (s.extract (fit s (max one two)) s.size).size = s.size - fit s (max one two) := by simp
      have hpr := pc_rest s (fit s (max one two))
      have hs1 : ∀ U : World, (Instr.slice 9 (.string s) none (some (.int .i64 ((s.extract 0 (fit s (max one two))).size : Int))) none).run Tryd.prog U = .ok (.string (s.extract 0 (fit s (max one two)))) U := fun U => by
        rw [run_slice_string_to_if (P := Tryd.prog) U 9 s .i64 _ Tryd.underlying9, if_pos (by omega), Int.toNat_natCast, hez]
      have hs2 : ∀ U : World, (Instr.slice 9 (.string (s.extract 0 (fit s (max one two)))) none (some (.int .i64 ((s.extract 0 (fit s (min one two))).size : Int))) none).run Tryd.prog U = .ok (.string (s.extract 0 (fit s (min one two)))) U := fun U => by
        rw [run_slice_string_to_if (P := Tryd.prog) U 9 _ .i64 _ Tryd.underlying9, if_pos (by omega), Int.toNat_natCast, hen, hee]
      have hs3 : ∀ U : World, (Instr.slice 9 (.string s) (some (.int .i64 ((s.extract 0 (fit s (max one two))).size : Int))) none none).run Tryd.prog U = .ok (.string (s.extract (fit s (max one two)) s.size)) U := fun U => by
        rw [run_slice_string_from_if (P := Tryd.prog) U 9 s .i64 _ Tryd.underlying9, if_pos (by omega), Int.toNat_natCast, hez]
      have hgt1 : decide (((s.extract 0 (fit s (min one two))).size : Int) > ((s.extract 0 (fit s (max one two))).size : Int)) = false := by simp; omega
      have hgt1N : decide ((s.extract 0 (fit s (max one two))).size < (s.extract 0 (fit s (min one two))).size) = false := by simp; omega
      have hgt2 : decide (((s.extract 0 (fit s (max one two))).size : Int) > (s.size : Int)) = false := by simp; omega
      have hgt2N : decide (s.size < (s.extract 0 (fit s (max one two))).size) = false := by simp; omega
      have hfull : fit s (max one two) = s.size → s.extract 0 (fit s (max one two)) = s := fun h => by rw [h, ext_all]
      have HFULL := Lib.hid hfull
      clear hfull
      generalize fit s (max one two) = m at *
      generalize fit s (min one two) = n at *
      generalize s.extract m s.size = rest at *
      generalize s.extract 0 m = wide at *
      generalize s.extract 0 n = narrow at *
      have HEZ := Lib.hid hez; have HRE := Lib.hid hrest; have HPR := Lib.hid hpr; have HS3 := Lib.hid hs3; have W12 := Lib.hid w12; have W13 := Lib.hid w13
      clear hez hen hee hrest hpr hs3 w12 w13 hmn
      have hUl2 : w1.heap.size + 1 < V.heap.size := hUl
      gi_wp2
      refine wpIn_wide.2 ?_
      go_region_held3 (fun w' => Below V.heap.size V w' ∧ w'.cell? ⟨w.heap.size, 0, none⟩ = some (.string s) ∧ w'.cell? ⟨w1.heap.size + 1, 0, none⟩ = some (.int .i64 (wd s)))
        (first | exact ⟨hv2.drew, c1, c4⟩ | exact ⟨hv3, d1, d4⟩ | exact ⟨hv4, f1, f4⟩ | go_keep)
        (first
          | (go_at_call 16; refine (CW.out s (by omega) _ (by first | assumption | exact (‹Below V.heap.size V _ ∧ _›).1)).mono ?_; rintro e v3 ⟨rfl, hv3⟩; obtain ⟨d1, d2, d3, d4⟩ := KC.out _ hv3)
          | (go_at_call 24; refine (CE.out _ (by first | assumption | exact (‹Below V.heap.size V _ ∧ _›).1)).mono ?_; rintro e v4 ⟨rfl, hv4⟩; obtain ⟨f1, f2, f3, f4⟩ := KC.out _ hv4))
      clear c1 c2 c3 c4 d1 d2 d3 d4 f1 f2 f3 f4 hs1 hs2 hgt1 hgt1N hgt2 hgt2N
      have hwz : wide.size ≤ 67108864 := by rw [HEZ.out]; omega
      gi_wp2_with fail
      refine (callsIn_wide.2 (CW.out wide hwz _ hv4)).mono ?_
      rintro e v5 ⟨rfl, hv5⟩
      have hz5 := hv5.size
      have hv6 := hv5.alloc hz5 (.cells #[.int .i64 (wd wide)] 3)
      have b6 := Boxed.new v5 3 (.int .i64 (wd wide))
      obtain ⟨c1, c2, c3, c4⟩ := KC.out _ hv6
      have cb6 := b6.cell
      have hmx3 : (if (if one < two then two else one) < 0 then 0 else if one < two then two else one) = max (max one two) 0 := by
        (repeat' split) <;> omega
      have hgt3 : decide ((if (if one < two then two else one) < 0 then 0 else if one < two then two else one) < wd wide) = false := by rw [hmx3]; have := W12.out; simp; omega
      clear hmx3
      have hs3 := HS3.out
      have hww := wd_bd wide
      gi_wp2_with (gi_at_call 10; refine (Runes_in _ _ _).mono ?_; rintro e w' ⟨rfl, rfl⟩)
      all_goals
        have b7 := b6.alloc (.cells #[.string rest] 9)
        have bX7 := Boxed.new (v5.alloc (.cells #[.int .i64 (wd wide)] 3)) 9 (.string rest)
        rw [World.size_alloc] at bX7
        have hv7 := hv6.alloc hv6.size (.cells #[.string rest] 9)
        have hz7 : ((v5.alloc (.cells #[.int .i64 (wd wide)] 3)).alloc (.cells #[.string rest] 9)).heap.size = v5.heap.size + 2 := by simp
        clear c1 c2 c3 c4 cb6 hgt3 hs3 hv6 b6
        generalize (v5.alloc (.cells #[.int .i64 (wd wide)] 3)).alloc (.cells #[.string rest] 9) = Z at *
        have hrs := HRE.out
        have hBV := HBX.out
        have hBVZ := hBV.trans (hv7.mono hBV.size)
        have hTZ := hT1.below hBVZ (by omega)
        obtain ⟨c1, c2, c3, c4⟩ := KC.out _ hv7
        have bRZ : Boxed Z (w.heap.size + 1 + 1 + 1) 4 (.bool false) := (hv7.block _ (by omega)).trans hbRx
        have cRZ := bRZ.cell
        have fRZ := bRZ.frozen
        have cb7 := b7.cell
        have hbwZ : Below w.heap.size w Z := (hbA.trans (hb1.mono (by omega))).trans (hBVZ.mono (by omega))
        have HKZ : Z.heap[D]? = some (.deferred (some [])) := (hv7.block _ (Array.getElem?_eq_some_iff.1 HKx.out).1).trans HKx.out
        have hDz := (Array.getElem?_eq_some_iff.1 HKx.out).1
        have HKH := Lib.hid HKZ
        clear HKZ
        refine range_stop 19 (fun x => .int .i32 x.1.2) hro (by omega) (gf := 33) (lb := #[.pointer (some ⟨v5.heap.size + 1, 0, none⟩)]) rfl trivial (enters_of Tryd.func33 (by kernel_rfl) rfl)
          (runes_stops 4 (by omega) (v5.heap.size + 1) Z.heap.size rest (by omega) _ hTZ (by omega) (Nat.le_refl _) (by omega) bX7.cell) KpR.t (KpR.b (Nat.le_refl _)) (Below.refl _ _) (fun _ => rfl)
          (fun pre W => (pre.length = 0 ∧ True) ∧ Below Z.heap.size Z W)
          (fun c pre W => ((c = .ret ∧ pre.length = 1) ∧ Boxed W (w.heap.size + 1 + 1 + 1) 4 (.bool (decide (wOf (wasI (vals pre)) > max one two - wd wide)))) ∧ (Below w.heap.size w W ∧ W.heap[D]? = some (.deferred (some []))))
          (OwnFrom.and (ownFrom_pure _ _) (ownFrom_below (Nat.le_refl _) (Nat.le_refl _)))
          (fun c => OwnFrom.and (OwnFrom.and (ownFrom_pure _ _) (Own.from (boxed_own _ _ _) _)) (OwnFrom.and (ownFrom_below (Nat.le_refl _) (by have := hbwZ.size; omega)) ?own))
          ⟨⟨rfl, trivial⟩, Below.refl _ _⟩ ?assign ?body ?done ?stop
        case own =>
          intro q W W' row hq hg hr
          exact (hg.block D (Array.getElem?_eq_some_iff.1 hq).1 (fun e => by have := (hr D e.symm).1; have := hv7.size; omega)).trans hq
        case assign =>
          intro l x W K hK
          gi_wp2
          first
            | exact hK
            | (simp at hK; exact hK)
            | (simp [go_sem] at hK; exact hK)
        case body =>
          rintro l pre x W ⟨⟨hpl, _⟩, hBB⟩ hlt
          have hzZ := hbwZ.size
          have e2 := (hBB.cell (p := ⟨w.heap.size + 1, 0, none⟩) (by show w.heap.size + 1 < _; omega)).trans c2
          have e3 := (hBB.cell (p := ⟨w.heap.size + 1 + 1, 0, none⟩) (by show w.heap.size + 1 + 1 < _; omega)).trans c3
          have e7 := (hBB.cell (p := ⟨v5.heap.size, 0, none⟩) (by show v5.heap.size < _; omega)).trans cb7
          have bRW : Boxed W (w.heap.size + 1 + 1 + 1) 4 (.bool false) := (hBB.block _ bRZ.lt).trans bRZ
          have cRW := bRW.cell
          have fRW := bRW.frozen
          have hDW : W.heap[D]? = some (.deferred (some [])) := (hBB.block _ (by have := hv7.size; omega)).trans HKH.out
          have hxb : -1 ≤ x.1.2 := by rw [(pcs_mem rest x.1 x.2).2]; exact (pc_bd rest _).1
          have hw12 := W12.out
          have hsub : IntKind.i64.wrap (max one two - wd wide) = max one two - wd wide := IntWalk.i64_in _ (by omega)
          have hsubI : IntKind.i64.wrap ((if one < two then two else one) - wd wide) = max one two - wd wide := by
            have : (if one < two then two else one) = max one two := by split <;> omega
            rw [this]; exact hsub
          have fin : ∀ (b : Bool), b = decide (wOf (wasI (vals (pre ++ [x]))) > max one two - wd wide) →
              KeepsOthers W (W.setCell ⟨w.heap.size + 1 + 1 + 1, 0, none⟩ (.bool b)) ∧ ((Code.ret = .ret ∧ (pre ++ [x]).length = 1) ∧ Boxed (W.setCell ⟨w.heap.size + 1 + 1 + 1, 0, none⟩ (.bool b)) (w.heap.size + 1 + 1 + 1) 4 (.bool (decide (wOf (wasI (vals (pre ++ [x]))) > max one two - wd wide)))) ∧ (Below w.heap.size w (W.setCell ⟨w.heap.size + 1 + 1 + 1, 0, none⟩ (.bool b)) ∧ (W.setCell ⟨w.heap.size + 1 + 1 + 1, 0, none⟩ (.bool b)).heap[D]? = some (.deferred (some []))) := fun b hb =>
            ⟨KeepsOthers.setCell _ _ _, ⟨⟨rfl, by rw [List.length_append, hpl]; rfl⟩, by rw [← hb]; exact bRW.set _⟩, (hbwZ.trans (hBB.mono hzZ)).setCell (p := ⟨w.heap.size + 1 + 1 + 1, 0, none⟩) (by show w.heap.size ≤ w.heap.size + 1 + 1 + 1; omega) _, (KeepsOthers.setCell W ⟨w.heap.size + 1 + 1 + 1, 0, none⟩ (.bool b)).same D _ hDW rfl⟩
          have hwas : wasI (vals (pre ++ [x])) = x.1.2 := by rw [vals_snoc, wasI_snoc]
          rw [hwas] at fin
          have FIN := Lib.hid fin
          have HWAS := Lib.hid hwas
          clear fin hwas hpl hlt hDW hw12
          generalize x.1.2 = xr at *
          by_cases h32 : xr < 32
          · have d1 : decide (xr < 32) = true := decide_eq_true h32
            have d2 : (xr == 92) = false := by rw [beq_eq_false_iff_ne]; omega
            have hwo : wOf xr = 4 := by unfold wOf hexR; simp [h32]
            gi_wp2
            have h := FIN.out (decide (max one two - wd wide < 4)) (by rw [hwo])
            refine ⟨h.1, ⟨⟨rfl, h.2.1.1.2⟩, ?_⟩, h.2.2⟩
            rw [HWAS.out]
            exact h.2.1.2
          · by_cases h127 : xr = 127
            · subst h127
              gi_wp2
              have h := FIN.out (decide (max one two - wd wide < 4)) (by rw [show wOf 127 = 4 from rfl])
              refine ⟨h.1, ⟨⟨rfl, h.2.1.1.2⟩, ?_⟩, h.2.2⟩
              rw [HWAS.out]
              exact h.2.1.2
            · by_cases h92 : xr = 92
              · subst h92
                gi_wp2
                have h := FIN.out (decide (max one two - wd wide < 2)) (by rw [show wOf 92 = 2 from rfl])
                refine ⟨h.1, ⟨⟨rfl, h.2.1.1.2⟩, ?_⟩, h.2.2⟩
                rw [HWAS.out]
                exact h.2.1.2
              · have d1 : decide (xr < 32) = false := decide_eq_false h32
                have d2 : (xr == 92) = false := by rw [beq_eq_false_iff_ne]; exact h92
                have d3 : (xr == 127) = false := by rw [beq_eq_false_iff_ne]; exact h127
                have hwo : wOf xr = 1 := by unfold wOf hexR; simp [h32, h127, h92]
                gi_wp2
                have h := FIN.out (decide (max one two - wd wide < 1)) (by rw [hwo])
                refine ⟨h.1, ⟨⟨rfl, h.2.1.1.2⟩, ?_⟩, h.2.2⟩
                rw [HWAS.out]
                exact h.2.1.2
        case done =>
          rintro D2 xs W hD2 hxs ⟨⟨hxl, _⟩, hBB⟩ hK2
          have hr0 : rest.size = 0 := by
            have hx0 : xs = [] := List.eq_nil_of_length_eq_zero hxl
            subst hx0
            rcases Nat.eq_zero_or_pos rest.size with h | h
            · exact h
            · rw [pcs_step rest h] at hxs; cases hxs
          have hws := HFULL.out (by omega)
          have hwe : (wide.toList == s.toList) = true := by rw [hws]; simp
          have e1 := (hBB.cell (p := ⟨w.heap.size, 0, none⟩) (by show w.heap.size < _; have := hbwZ.size; have := bRZ.lt; omega)).trans c1
          have bRW : Boxed W (w.heap.size + 1 + 1 + 1) 4 (.bool false) := (hBB.block _ bRZ.lt).trans bRZ
          have cRW := bRW.cell
          have fRW := bRW.frozen
          have hDW : W.heap[D]? = some (.deferred (some [])) := (hBB.block _ (by have := hv7.size; omega)).trans HKH.out
          have HDW := Lib.hid hDW
          have HK2 := Lib.hid hK2
          clear hDW hK2 hws hr0
          gi_wp2
          have hBf : Below w.heap.size w (W.setCell ⟨w.heap.size + 1 + 1 + 1, 0, none⟩ (.bool true)) := (hbwZ.trans (hBB.mono hbwZ.size)).setCell (p := ⟨w.heap.size + 1 + 1 + 1, 0, none⟩) (by show w.heap.size ≤ w.heap.size + 1 + 1 + 1; omega) _
          have hcf : Boxed (W.setCell ⟨w.heap.size + 1 + 1 + 1, 0, none⟩ (.bool true)) (w.heap.size + 1 + 1 + 1) 4 (.bool true) := Boxed.set (W := W) _ bRW
          have kf1 := (KeepsOthers.setCell W ⟨w.heap.size + 1 + 1 + 1, 0, none⟩ (.bool true)).same D _ HDW.out rfl
          have kf2 := (KeepsOthers.setCell W ⟨w.heap.size + 1 + 1 + 1, 0, none⟩ (.bool true)).same D2 _ HK2.out rfl
          obtain ⟨U, hU⟩ : ∃ U, W.setCell ⟨w.heap.size + 1 + 1 + 1, 0, none⟩ (.bool true) = U := ⟨_, rfl⟩
          rw [hU] at hBf hcf kf1 kf2 ⊢
          clear hU
          · have hD12 : D2 ≠ D := by have := hv7.size; omega
            have kg2 : (U.putObj D2 (.deferred none)).heap[D]? = some (.deferred (some [])) := (World.putObj_heap_other (Ne.symm hD12)).trans kf1
            refine ⟨by simp, .inl ⟨_, _, rfl, run_takeDeferred kf2, ?_⟩⟩
            refine ⟨by simp, .inl ⟨_, _, rfl, run_takeDeferred kg2, ?_⟩⟩
            have hc1 := cell_kept hcf.cell (grownBy_putObj' _ D2 (.deferred none)) (fun r e => by cases e; exact ⟨_, kf2, rfl⟩)
            have hc2 := cell_kept hc1 (grownBy_putObj' _ D (.deferred none)) (fun r e => by cases e; exact ⟨_, kg2, rfl⟩)
            have hbd : w.heap.size ≤ D2 ∧ w.heap.size ≤ D := by
              have h1 := hbwZ.size
              have h2 := HZ.out
              exact ⟨by omega, by omega⟩
            refine ⟨.bool true, ?_, rfl, (hBf.trans (belowK_b (w := w) (Nat.le_refl _) _ D2 _ _ hbd.1 kf2 rfl rfl)).trans (belowK_b (w := w) (Nat.le_refl _) _ D _ _ hbd.2 kg2 rfl rfl)⟩
            simp [results, Tryd.f7, go_sem, hc2]
        case stop =>
          rintro D2 c pre U hD2 hpre ⟨⟨⟨rfl, hp1⟩, bR'⟩, hBf, kf1⟩ kf2
          have hcf : Boxed U (w.heap.size + 1 + 1 + 1) 4 (.bool true) := by
            obtain ⟨x, rfl⟩ : ∃ x, pre = [x] := by
              match pre, hp1 with
              | [x], _ => exact ⟨x, rfl⟩
            have h1 := pcsFrom_head rest 0 x.1 [] hpre
            have h3 := HPR.out (by have := HRE.out; omega)
            have h4 := W13.out (by have := HRE.out; omega)
            have h5 : wasI (vals [x]) = x.1.2 := rfl
            have h6 : x.1.2 = (pc s m).1 := by rw [h1.2.1, h3]
            have h7 : decide (wOf (wasI (vals [x])) > max one two - wd wide) = true := by rw [h5, h6]; simp; omega
            rw [h7] at bR'
            exact bR'
          have HF1 := Lib.hid kf1
          have HF2 := Lib.hid kf2
          clear kf1 kf2
          gi_wp2
          have kf1 := HF1.out
          have kf2 := HF2.out
          · have hD12 : D2 ≠ D := by have := hv7.size; omega
            have kg2 : (U.putObj D2 (.deferred none)).heap[D]? = some (.deferred (some [])) := (World.putObj_heap_other (Ne.symm hD12)).trans kf1
            refine ⟨by simp, .inl ⟨_, _, rfl, run_takeDeferred kf2, ?_⟩⟩
            refine ⟨by simp, .inl ⟨_, _, rfl, run_takeDeferred kg2, ?_⟩⟩
            have hc1 := cell_kept hcf.cell (grownBy_putObj' _ D2 (.deferred none)) (fun r e => by cases e; exact ⟨_, kf2, rfl⟩)
            have hc2 := cell_kept hc1 (grownBy_putObj' _ D (.deferred none)) (fun r e => by cases e; exact ⟨_, kg2, rfl⟩)
            have hbd : w.heap.size ≤ D2 ∧ w.heap.size ≤ D := by
              have h1 := hbwZ.size
              have h2 := HZ.out
              exact ⟨by omega, by omega⟩
            refine ⟨.bool true, ?_, rfl, (hBf.trans (belowK_b (w := w) (Nat.le_refl _) _ D2 _ _ hbd.1 kf2 rfl rfl)).trans (belowK_b (w := w) (Nat.le_refl _) _ D _ _ hbd.2 kg2 rfl rfl)⟩
            simp [results, Tryd.f7, go_sem, hc2]
    · have hps := pcs_step s (by omega)
      have hse : ¬ s.toList = [] := by
        rw [toList_data']
        intro h
        have := congrArg List.length h
        rw [data_len, List.length_nil] at this; omega
      have hse2 : s.toList.isEmpty = false := by cases h : s.toList with
        | nil => exact absurd h hse
        | cons a b => rfl
      have hcU := hU
      rcases List.eq_nil_or_concat (pcs s) with h0 | ⟨l, y, hly⟩
      · rw [h0] at hps; cases hps
      rw [List.concat_eq_append] at hly
      have hyl := pcs_mem s y (by rw [hly]; simp)
      have hye := pcs_last s l 0 y (by omega) hly
      have hyp := pc_pos s y.1 hyl.1
      have hp4 := pc_le4 s y.1
      rw [hly, lastI_snoc] at cL
      rw [hly, wasI_snoc] at cW
      rw [hly, sumI_snoc] at cU hU
      have hln : (pcs s).length = l.length + 1 := by rw [hly]; simp
      rw [hln] at cN
      have hpc : s.extract y.1 s.size = pieceS s y := by unfold pieceS; rw [hye]
      have hsl : ∀ U : World, (Instr.slice 9 (.string s) (some (.int .i64 (y.1 : Int))) none none).run Tryd.prog U = .ok (.string (pieceS s y)) U := fun U => by
        rw [run_slice_string_from_if (P := Tryd.prog) U 9 s .i64 _ Tryd.underlying9, if_pos (by omega), Int.toNat_natCast, hpc]
      have hpw : wd (pieceS s y) = wOf y.2 := by unfold pieceS; rw [piece_wd s y.1 hyl.1, hyl.2]
      have hpz := pieceS_size s y hyl.1
      have hwb := wOf_bd y.2
      have hlb := widthL_bd l
      have hsum : widthL l + wOf y.2 = wd s := by unfold wd; rw [hly, widthL_snoc]
      have hwds := wd_bd s
      have hwr : IntKind.i64.wrap (widthL l + wOf y.2) = wd s := by rw [hsum]; exact IntWalk.i64_in _ (by omega)
      have cX := fun (U : World) (hU : Below w1.heap.size w1 U) => callsIn_wide.1 (Width_in (pieceS s y) (by omega) U (hT1.below hU (by omega)) (by have := hU.size; omega))
      have cY : ∀ (U : World), Below w1.heap.size w1 U → Calls Tryd.prog 16 #[.string (pieceS s y)] U fun e U' => e = .returned (.int .i64 (wOf y.2)) ∧ Below U.heap.size U U' := fun U hU => by rw [← hpw]; exact cX U hU
      have hrune : 0 ≤ y.2 → runesBytes [y.2] = pieceS s y := rune_piece s y (by rw [hly]; simp)
      have hbrk : y.2 < 0 → (pieceS s y).size = 1 := fun h => by
        rw [hpz, pc_2]
        by_cases hd : Utf8.decode s y.1 = (65533, 1)
        · rw [hd]
        · have := hyl.2; rw [pc_run s _ hd] at this; simp only at this; omega
      generalize pieceS s y = part at *
      have CY := Lib.hid cY; have HWR := Lib.hid hwr; have HLN := Lib.hid hln
      clear cX cY hpw hpc hwr hpz hp4 hyp hye hyl hps hsum hly hln hylen hcU hpl
      generalize l.length = kk at *
      have hkp : 0 < kk + 1 := by omega
      have hmx : Tryd.prog.follows .mixedOrders = true := by kernel_rfl
      have hd5 : 1 ≤ 5 - 1 - 1 := by omega
      have hUl0 := hU.lt
      by_cases hneg : y.2 < 0
      · have h1 := hbrk hneg
        have hd0 : decide (y.2 < 0) = true := decide_eq_true hneg
        have hd1 : decide (y.2 ≥ 0) = false := by simp; omega
        have hd2 : ((part.size : Int) != 1) = false := by rw [h1]; rfl
        clear hrune hbrk h1
        gi_wp2
        have hB2 := hB; have hU2 := hU; have HK2 := HK; have hzX := hszW0
        clear cS cO cT cN cL cW cU fU
        have cU2 := hU2.cell
        have fU2 := hU2.frozen
        refine wpIn_wide.2 ?_
        refine wp_region_noPanic ?_
        go_region_with (go_at_call 16; refine (CY.out _ (by first | exact hB2 | exact hB2.drew)).mono ?_; rintro e w' ⟨rfl, hb⟩; have cU3 := (hb.cell (p := ⟨w1.heap.size + 1, 0, none⟩) (by simpa using hUl0)).trans cU2; have fU3 := (hb.frozen (p := ⟨w1.heap.size + 1, 0, none⟩) (by simpa using hUl0)).trans fU2)
        all_goals
          simp only [NoPanic]
          rw [HWR.out]
          have hzw : W0.heap.size ≤ w'.heap.size := by have := hb.size; simp at this; omega
          have hUw : Boxed w' (w1.heap.size + 1) 3 (.int .i64 (widthL l)) := (hb.block _ (by simpa using hUl0)).trans hU2
          have hKw : w'.heap[D]? = some (.deferred (some [])) := (hb.block _ (by simpa using (Array.getElem?_eq_some_iff.1 HK2.out).1)).trans HK2.out
          have hBw : Below w1.heap.size w1 w' := hB2.drew.trans (hb.mono (by have := hB2.size; simp; omega))
          have hUx := hUw.set (.int .i64 (wd s))
          have hBx := hBw.setCell (p := ⟨w1.heap.size + 1, 0, none⟩) (by show w1.heap.size ≤ w1.heap.size + 1; omega) (.int .i64 (wd s))
          have hzx : W0.heap.size ≤ (w'.setCell ⟨w1.heap.size + 1, 0, none⟩ (.int .i64 (wd s))).heap.size := by simp; omega
          have HKx := Lib.hid ((KeepsOthers.setCell w' ⟨w1.heap.size + 1, 0, none⟩ (.int .i64 (wd s))).same D _ hKw rfl)
          clear cU2 fU2 cU3 fU3 hb hUw hKw hBw hzw
          generalize w'.setCell ⟨w1.heap.size + 1, 0, none⟩ (.int .i64 (wd s)) = V at *
          clear hB2 hU2 HK2 hzX hU hB hse hse2 hz hsl hd0 hd1
          have qS : Boxed V w.heap.size 9 (.string s) := (hBx.block _ (by omega)).trans bS1
          have qO : Boxed V (w.heap.size + 1) 3 (.int .i64 one) := (hBx.block _ (by omega)).trans ((hb1.block _ (by omega)).trans bO)
          have qT : Boxed V (w.heap.size + 1 + 1) 3 (.int .i64 two) := (hBx.block _ (by omega)).trans ((hb1.block _ (by omega)).trans bT)
          have cS := qS.cell
          have cO := qO.cell
          have cT := qT.cell
          gi_wp2
          clear qS qO qT cS cO cT
          have hbSx : Boxed V w.heap.size 9 (.string s) := (hBx.block _ (by omega)).trans bS1
          have hbOx : Boxed V (w.heap.size + 1) 3 (.int .i64 one) := (hBx.block _ (by omega)).trans ((hb1.block _ (by omega)).trans bO)
          have hbTx : Boxed V (w.heap.size + 1 + 1) 3 (.int .i64 two) := (hBx.block _ (by omega)).trans ((hb1.block _ (by omega)).trans bT)
          have hbRx : Boxed V (w.heap.size + 1 + 1 + 1) 4 (.bool false) := (hBx.block _ (by omega)).trans ((hb1.block _ (by omega)).trans bR)
          have hzV := hBx.size
          have hTV := hT1.below hBx (by omega)
          have hUl := hUx.lt
          have cc := fun (r : Int) (U : World) (hU : Below V.heap.size V U) => after hU (Cut_in s r (by omega) U (hTV.below hU (by omega)) (by have := hU.size; omega))
          have cw := fun (y : ByteArray) (hy : y.size ≤ 67108864) (U : World) (hU : Below V.heap.size V U) => after hU (callsIn_wide.1 (Width_in y hy U (hTV.below hU (by omega)) (by have := hU.size; omega)))
          have cw2 : ∀ (y : ByteArray), y.size ≤ 67108864 → ∀ (U : World), Below V.heap.size V U → Calls Tryd.prog 16 #[.string y] U fun e U' => e = .returned (.int .i64 (wd y)) ∧ Below V.heap.size V U' := cw
          have kc : ∀ U, Below V.heap.size V U → U.cell? ⟨w.heap.size, 0, none⟩ = some (.string s) ∧ U.cell? ⟨w.heap.size + 1, 0, none⟩ = some (.int .i64 one) ∧ U.cell? ⟨w.heap.size + 1 + 1, 0, none⟩ = some (.int .i64 two) ∧ U.cell? ⟨w1.heap.size + 1, 0, none⟩ = some (.int .i64 (wd s)) := fun U hU =>
            ⟨(hU.cell (p := ⟨w.heap.size, 0, none⟩) hbSx.lt).trans hbSx.cell, (hU.cell (p := ⟨w.heap.size + 1, 0, none⟩) hbOx.lt).trans hbOx.cell, (hU.cell (p := ⟨w.heap.size + 1 + 1, 0, none⟩) hbTx.lt).trans hbTx.cell, (hU.cell (p := ⟨w1.heap.size + 1, 0, none⟩) hUl).trans hUx.cell⟩
          obtain ⟨w11, w12, w13⟩ := wide_spec s (max one two)
          have hmn := fit_mono s (min one two) (max one two) (by omega)
          have hfs := fit_all s (wd s) (Int.le_refl _)
          have hwd := wd_bd s
          have e0 := cc (wd s)
          rw [hfs, ext_all] at e0
          have CC := Lib.hid cc; have CW := Lib.hid cw2; have KC := Lib.hid kc; have CE := Lib.hid e0; have HUX := Lib.hid hUx; have HBX := Lib.hid hBx
          clear cc cw cw2 kc e0 hfs hbSx hbOx hbTx hTV
          have hV0 := Below.refl V.heap.size V
          refine (callsIn_wide.2 (CC.out (min one two) _ hV0)).mono ?_
          rintro e v1 ⟨rfl, hv1⟩
          obtain ⟨c1, c2, c3, c4⟩ := KC.out _ hv1
          gi_wp2_with fail
          refine (callsIn_wide.2 (CC.out (max one two) _ hv1)).mono ?_
          rintro e v2 ⟨rfl, hv2⟩
          clear c1 c2 c3 c4
          obtain ⟨c1, c2, c3, c4⟩ := KC.out _ hv2
          have hez : (s.extract 0 (fit s (max one two))).size = fit s (max one two) := by simp; omega
          have hen : (s.extract 0 (fit s (min one two))).size = fit s (min one two) := by simp; omega
          have hee := ext_ext0 s (fit s (min one two)) (fit s (max one two)) hmn
          have hrest : (s.extract (fit s (max one two)) s.size).size = s.size - fit s (max one two) := by simp
          have hpr := pc_rest s (fit s (max one two))
          have hs1 : ∀ U : World, (Instr.slice 9 (.string s) none (some (.int .i64 ((s.extract 0 (fit s (max one two))).size : Int))) none).run Tryd.prog U = .ok (.string (s.extract 0 (fit s (max one two)))) U := fun U => by
            rw [run_slice_string_to_if (P := Tryd.prog) U 9 s .i64 _ Tryd.underlying9, if_pos (by omega), Int.toNat_natCast, hez]
          have hs2 : ∀ U : World, (Instr.slice 9 (.string (s.extract 0 (fit s (max one two)))) none (some (.int .i64 ((s.extract 0 (fit s (min one two))).size : Int))) none).run Tryd.prog U = .ok (.string (s.extract 0 (fit s (min one two)))) U := fun U => by
            rw [run_slice_string_to_if (P := Tryd.prog) U 9 _ .i64 _ Tryd.underlying9, if_pos (by omega), Int.toNat_natCast, hen, hee]
          have hs3 : ∀ U : World, (Instr.slice 9 (.string s) (some (.int .i64 ((s.extract 0 (fit s (max one two))).size : Int))) none none).run Tryd.prog U = .ok (.string (s.extract (fit s (max one two)) s.size)) U := fun U => by
            rw [run_slice_string_from_if (P := Tryd.prog) U 9 s .i64 _ Tryd.underlying9, if_pos (by omega), Int.toNat_natCast, hez]
          have hgt1 : decide (((s.extract 0 (fit s (min one two))).size : Int) > ((s.extract 0 (fit s (max one two))).size : Int)) = false := by simp; omega
          have hgt1N : decide ((s.extract 0 (fit s (max one two))).size < (s.extract 0 (fit s (min one two))).size) = false := by simp; omega
          have hgt2 : decide (((s.extract 0 (fit s (max one two))).size : Int) > (s.size : Int)) = false := by simp; omega
          have hgt2N : decide (s.size < (s.extract 0 (fit s (max one two))).size) = false := by simp; omega
          have hfull : fit s (max one two) = s.size → s.extract 0 (fit s (max one two)) = s := fun h => by rw [h, ext_all]
          have HFULL := Lib.hid hfull
          clear hfull
          generalize fit s (max one two) = m at *
          generalize fit s (min one two) = n at *
          generalize s.extract m s.size = rest at *
          generalize s.extract 0 m = wide at *
          generalize s.extract 0 n = narrow at *
          have HEZ := Lib.hid hez; have HRE := Lib.hid hrest; have HPR := Lib.hid hpr; have HS3 := Lib.hid hs3; have W12 := Lib.hid w12; have W13 := Lib.hid w13
          clear hez hen hee hrest hpr hs3 w12 w13 hmn
          have hUl2 : w1.heap.size + 1 < V.heap.size := hUl
          gi_wp2
          refine wpIn_wide.2 ?_
          go_region_held3 (fun w' => Below V.heap.size V w' ∧ w'.cell? ⟨w.heap.size, 0, none⟩ = some (.string s) ∧ w'.cell? ⟨w1.heap.size + 1, 0, none⟩ = some (.int .i64 (wd s)))
            (first | exact ⟨hv2.drew, c1, c4⟩ | exact ⟨hv3, d1, d4⟩ | exact ⟨hv4, f1, f4⟩ | go_keep)
            (first
              | (go_at_call 16; refine (CW.out s (by omega) _ (by first | assumption | exact (‹Below V.heap.size V _ ∧ _›).1)).mono ?_; rintro e v3 ⟨rfl, hv3⟩; obtain ⟨d1, d2, d3, d4⟩ := KC.out _ hv3)
              | (go_at_call 24; refine (CE.out _ (by first | assumption | exact (‹Below V.heap.size V _ ∧ _›).1)).mono ?_; rintro e v4 ⟨rfl, hv4⟩; obtain ⟨f1, f2, f3, f4⟩ := KC.out _ hv4))
          clear c1 c2 c3 c4 d1 d2 d3 d4 f1 f2 f3 f4 hs1 hs2 hgt1 hgt1N hgt2 hgt2N
          have hwz : wide.size ≤ 67108864 := by rw [HEZ.out]; omega
          gi_wp2_with fail
          refine (callsIn_wide.2 (CW.out wide hwz _ hv4)).mono ?_
          rintro e v5 ⟨rfl, hv5⟩
          have hz5 := hv5.size
          have hv6 := hv5.alloc hz5 (.cells #[.int .i64 (wd wide)] 3)
          have b6 := Boxed.new v5 3 (.int .i64 (wd wide))
          obtain ⟨c1, c2, c3, c4⟩ := KC.out _ hv6
          have cb6 := b6.cell
          have hmx3 : (if (if one < two then two else one) < 0 then 0 else if one < two then two else one) = max (max one two) 0 := by
            (repeat' split) <;> omega
          have hgt3 : decide ((if (if one < two then two else one) < 0 then 0 else if one < two then two else one) < wd wide) = false := by rw [hmx3]; have := W12.out; simp; omega
          clear hmx3
          have hs3 := HS3.out
          have hww := wd_bd wide
          gi_wp2_with (gi_at_call 10; refine (Runes_in _ _ _).mono ?_; rintro e w' ⟨rfl, rfl⟩)
          all_goals
            have b7 := b6.alloc (.cells #[.string rest] 9)
            have bX7 := Boxed.new (v5.alloc (.cells #[.int .i64 (wd wide)] 3)) 9 (.string rest)
            rw [World.size_alloc] at bX7
            have hv7 := hv6.alloc hv6.size (.cells #[.string rest] 9)
            have hz7 : ((v5.alloc (.cells #[.int .i64 (wd wide)] 3)).alloc (.cells #[.string rest] 9)).heap.size = v5.heap.size + 2 := by simp
            clear c1 c2 c3 c4 cb6 hgt3 hs3 hv6 b6
            generalize (v5.alloc (.cells #[.int .i64 (wd wide)] 3)).alloc (.cells #[.string rest] 9) = Z at *
            have hrs := HRE.out
            have hBV := HBX.out
            have hBVZ := hBV.trans (hv7.mono hBV.size)
            have hTZ := hT1.below hBVZ (by omega)
            obtain ⟨c1, c2, c3, c4⟩ := KC.out _ hv7
            have bRZ : Boxed Z (w.heap.size + 1 + 1 + 1) 4 (.bool false) := (hv7.block _ (by omega)).trans hbRx
            have cRZ := bRZ.cell
            have fRZ := bRZ.frozen
            have cb7 := b7.cell
            have hbwZ : Below w.heap.size w Z := (hbA.trans (hb1.mono (by omega))).trans (hBVZ.mono (by omega))
            have HKZ : Z.heap[D]? = some (.deferred (some [])) := (hv7.block _ (Array.getElem?_eq_some_iff.1 HKx.out).1).trans HKx.out
            have hDz := (Array.getElem?_eq_some_iff.1 HKx.out).1
            have HKH := Lib.hid HKZ
            clear HKZ
            refine range_stop 19 (fun x => .int .i32 x.1.2) hro (by omega) (gf := 33) (lb := #[.pointer (some ⟨v5.heap.size + 1, 0, none⟩)]) rfl trivial (enters_of Tryd.func33 (by kernel_rfl) rfl)
              (runes_stops 4 (by omega) (v5.heap.size + 1) Z.heap.size rest (by omega) _ hTZ (by omega) (Nat.le_refl _) (by omega) bX7.cell) KpR.t (KpR.b (Nat.le_refl _)) (Below.refl _ _) (fun _ => rfl)
              (fun pre W => (pre.length = 0 ∧ True) ∧ Below Z.heap.size Z W)
              (fun c pre W => ((c = .ret ∧ pre.length = 1) ∧ Boxed W (w.heap.size + 1 + 1 + 1) 4 (.bool (decide (wOf (wasI (vals pre)) > max one two - wd wide)))) ∧ (Below w.heap.size w W ∧ W.heap[D]? = some (.deferred (some []))))
              (OwnFrom.and (ownFrom_pure _ _) (ownFrom_below (Nat.le_refl _) (Nat.le_refl _)))
              (fun c => OwnFrom.and (OwnFrom.and (ownFrom_pure _ _) (Own.from (boxed_own _ _ _) _)) (OwnFrom.and (ownFrom_below (Nat.le_refl _) (by have := hbwZ.size; omega)) ?own))
              ⟨⟨rfl, trivial⟩, Below.refl _ _⟩ ?assign ?body ?done ?stop
            case own =>
              intro q W W' row hq hg hr
              exact (hg.block D (Array.getElem?_eq_some_iff.1 hq).1 (fun e => by have := (hr D e.symm).1; have := hv7.size; omega)).trans hq
            case assign =>
              intro l x W K hK
              gi_wp2
              first
                | exact hK
                | (simp at hK; exact hK)
                | (simp [go_sem] at hK; exact hK)
            case body =>
              rintro l pre x W ⟨⟨hpl, _⟩, hBB⟩ hlt
              have hzZ := hbwZ.size
              have e2 := (hBB.cell (p := ⟨w.heap.size + 1, 0, none⟩) (by show w.heap.size + 1 < _; omega)).trans c2
              have e3 := (hBB.cell (p := ⟨w.heap.size + 1 + 1, 0, none⟩) (by show w.heap.size + 1 + 1 < _; omega)).trans c3
              have e7 := (hBB.cell (p := ⟨v5.heap.size, 0, none⟩) (by show v5.heap.size < _; omega)).trans cb7
              have bRW : Boxed W (w.heap.size + 1 + 1 + 1) 4 (.bool false) := (hBB.block _ bRZ.lt).trans bRZ
              have cRW := bRW.cell
              have fRW := bRW.frozen
              have hDW : W.heap[D]? = some (.deferred (some [])) := (hBB.block _ (by have := hv7.size; omega)).trans HKH.out
              have hxb : -1 ≤ x.1.2 := by rw [(pcs_mem rest x.1 x.2).2]; exact (pc_bd rest _).1
              have hw12 := W12.out
              have hsub : IntKind.i64.wrap (max one two - wd wide) = max one two - wd wide := IntWalk.i64_in _ (by omega)
              have hsubI : IntKind.i64.wrap ((if one < two then two else one) - wd wide) = max one two - wd wide := by
                have : (if one < two then two else one) = max one two := by split <;> omega
                rw [this]; exact hsub
              have fin : ∀ (b : Bool), b = decide (wOf (wasI (vals (pre ++ [x]))) > max one two - wd wide) →
                  KeepsOthers W (W.setCell ⟨w.heap.size + 1 + 1 + 1, 0, none⟩ (.bool b)) ∧ ((Code.ret = .ret ∧ (pre ++ [x]).length = 1) ∧ Boxed (W.setCell ⟨w.heap.size + 1 + 1 + 1, 0, none⟩ (.bool b)) (w.heap.size + 1 + 1 + 1) 4 (.bool (decide (wOf (wasI (vals (pre ++ [x]))) > max one two - wd wide)))) ∧ (Below w.heap.size w (W.setCell ⟨w.heap.size + 1 + 1 + 1, 0, none⟩ (.bool b)) ∧ (W.setCell ⟨w.heap.size + 1 + 1 + 1, 0, none⟩ (.bool b)).heap[D]? = some (.deferred (some []))) := fun b hb =>
                ⟨KeepsOthers.setCell _ _ _, ⟨⟨rfl, by rw [List.length_append, hpl]; rfl⟩, by rw [← hb]; exact bRW.set _⟩, (hbwZ.trans (hBB.mono hzZ)).setCell (p := ⟨w.heap.size + 1 + 1 + 1, 0, none⟩) (by show w.heap.size ≤ w.heap.size + 1 + 1 + 1; omega) _, (KeepsOthers.setCell W ⟨w.heap.size + 1 + 1 + 1, 0, none⟩ (.bool b)).same D _ hDW rfl⟩
              have hwas : wasI (vals (pre ++ [x])) = x.1.2 := by rw [vals_snoc, wasI_snoc]
              rw [hwas] at fin
              have FIN := Lib.hid fin
              have HWAS := Lib.hid hwas
              clear fin hwas hpl hlt hDW hw12
              generalize x.1.2 = xr at *
              by_cases h32 : xr < 32
              · have d1 : decide (xr < 32) = true := decide_eq_true h32
                have d2 : (xr == 92) = false := by rw [beq_eq_false_iff_ne]; omega
                have hwo : wOf xr = 4 := by unfold wOf hexR; simp [h32]
                gi_wp2
                have h := FIN.out (decide (max one two - wd wide < 4)) (by rw [hwo])
                refine ⟨h.1, ⟨⟨rfl, h.2.1.1.2⟩, ?_⟩, h.2.2⟩
                rw [HWAS.out]
                exact h.2.1.2
              · by_cases h127 : xr = 127
                · subst h127
                  gi_wp2
                  have h := FIN.out (decide (max one two - wd wide < 4)) (by rw [show wOf 127 = 4 from rfl])
                  refine ⟨h.1, ⟨⟨rfl, h.2.1.1.2⟩, ?_⟩, h.2.2⟩
                  rw [HWAS.out]
                  exact h.2.1.2
                · by_cases h92 : xr = 92
                  · subst h92
                    gi_wp2
                    have h := FIN.out (decide (max one two - wd wide < 2)) (by rw [show wOf 92 = 2 from rfl])
                    refine ⟨h.1, ⟨⟨rfl, h.2.1.1.2⟩, ?_⟩, h.2.2⟩
                    rw [HWAS.out]
                    exact h.2.1.2
                  · have d1 : decide (xr < 32) = false := decide_eq_false h32
                    have d2 : (xr == 92) = false := by rw [beq_eq_false_iff_ne]; exact h92
                    have d3 : (xr == 127) = false := by rw [beq_eq_false_iff_ne]; exact h127
                    have hwo : wOf xr = 1 := by unfold wOf hexR; simp [h32, h127, h92]
                    gi_wp2
                    have h := FIN.out (decide (max one two - wd wide < 1)) (by rw [hwo])
                    refine ⟨h.1, ⟨⟨rfl, h.2.1.1.2⟩, ?_⟩, h.2.2⟩
                    rw [HWAS.out]
                    exact h.2.1.2
            case done =>
              rintro D2 xs W hD2 hxs ⟨⟨hxl, _⟩, hBB⟩ hK2
              have hr0 : rest.size = 0 := by
                have hx0 : xs = [] := List.eq_nil_of_length_eq_zero hxl
                subst hx0
                rcases Nat.eq_zero_or_pos rest.size with h | h
                · exact h
                · rw [pcs_step rest h] at hxs; cases hxs
              have hws := HFULL.out (by omega)
              have hwe : (wide.toList == s.toList) = true := by rw [hws]; simp
              have e1 := (hBB.cell (p := ⟨w.heap.size, 0, none⟩) (by show w.heap.size < _; have := hbwZ.size; have := bRZ.lt; omega)).trans c1
              have bRW : Boxed W (w.heap.size + 1 + 1 + 1) 4 (.bool false) := (hBB.block _ bRZ.lt).trans bRZ
              have cRW := bRW.cell
              have fRW := bRW.frozen
              have hDW : W.heap[D]? = some (.deferred (some [])) := (hBB.block _ (by have := hv7.size; omega)).trans HKH.out
              have HDW := Lib.hid hDW
              have HK2 := Lib.hid hK2
              clear hDW hK2 hws hr0
              gi_wp2
              have hBf : Below w.heap.size w (W.setCell ⟨w.heap.size + 1 + 1 + 1, 0, none⟩ (.bool true)) := (hbwZ.trans (hBB.mono hbwZ.size)).setCell (p := ⟨w.heap.size + 1 + 1 + 1, 0, none⟩) (by show w.heap.size ≤ w.heap.size + 1 + 1 + 1; omega) _
              have hcf : Boxed (W.setCell ⟨w.heap.size + 1 + 1 + 1, 0, none⟩ (.bool true)) (w.heap.size + 1 + 1 + 1) 4 (.bool true) := Boxed.set (W := W) _ bRW
              have kf1 := (KeepsOthers.setCell W ⟨w.heap.size + 1 + 1 + 1, 0, none⟩ (.bool true)).same D _ HDW.out rfl
              have kf2 := (KeepsOthers.setCell W ⟨w.heap.size + 1 + 1 + 1, 0, none⟩ (.bool true)).same D2 _ HK2.out rfl
              obtain ⟨U, hU⟩ : ∃ U, W.setCell ⟨w.heap.size + 1 + 1 + 1, 0, none⟩ (.bool true) = U := ⟨_, rfl⟩
              rw [hU] at hBf hcf kf1 kf2 ⊢
              clear hU
              · have hD12 : D2 ≠ D := by have := hv7.size; omega
                have kg2 : (U.putObj D2 (.deferred none)).heap[D]? = some (.deferred (some [])) := (World.putObj_heap_other (Ne.symm hD12)).trans kf1
                refine ⟨by simp, .inl ⟨_, _, rfl, run_takeDeferred kf2, ?_⟩⟩
                refine ⟨by simp, .inl ⟨_, _, rfl, run_takeDeferred kg2, ?_⟩⟩
                have hc1 := cell_kept hcf.cell (grownBy_putObj' _ D2 (.deferred none)) (fun r e => by cases e; exact ⟨_, kf2, rfl⟩)
                have hc2 := cell_kept hc1 (grownBy_putObj' _ D (.deferred none)) (fun r e => by cases e; exact ⟨_, kg2, rfl⟩)
                have hbd : w.heap.size ≤ D2 ∧ w.heap.size ≤ D := by
                  have h1 := hbwZ.size
                  have h2 := HZ.out
                  exact ⟨by omega, by omega⟩
                refine ⟨.bool true, ?_, rfl, (hBf.trans (belowK_b (w := w) (Nat.le_refl _) _ D2 _ _ hbd.1 kf2 rfl rfl)).trans (belowK_b (w := w) (Nat.le_refl _) _ D _ _ hbd.2 kg2 rfl rfl)⟩
                simp [results, Tryd.f7, go_sem, hc2]
            case stop =>
              rintro D2 c pre U hD2 hpre ⟨⟨⟨rfl, hp1⟩, bR'⟩, hBf, kf1⟩ kf2
              have hcf : Boxed U (w.heap.size + 1 + 1 + 1) 4 (.bool true) := by
                obtain ⟨x, rfl⟩ : ∃ x, pre = [x] := by
                  match pre, hp1 with
                  | [x], _ => exact ⟨x, rfl⟩
                have h1 := pcsFrom_head rest 0 x.1 [] hpre
                have h3 := HPR.out (by have := HRE.out; omega)
                have h4 := W13.out (by have := HRE.out; omega)
                have h5 : wasI (vals [x]) = x.1.2 := rfl
                have h6 : x.1.2 = (pc s m).1 := by rw [h1.2.1, h3]
                have h7 : decide (wOf (wasI (vals [x])) > max one two - wd wide) = true := by rw [h5, h6]; simp; omega
                rw [h7] at bR'
                exact bR'
              have HF1 := Lib.hid kf1
              have HF2 := Lib.hid kf2
              clear kf1 kf2
              gi_wp2
              have kf1 := HF1.out
              have kf2 := HF2.out
              · have hD12 : D2 ≠ D := by have := hv7.size; omega
                have kg2 : (U.putObj D2 (.deferred none)).heap[D]? = some (.deferred (some [])) := (World.putObj_heap_other (Ne.symm hD12)).trans kf1
                refine ⟨by simp, .inl ⟨_, _, rfl, run_takeDeferred kf2, ?_⟩⟩
                refine ⟨by simp, .inl ⟨_, _, rfl, run_takeDeferred kg2, ?_⟩⟩
                have hc1 := cell_kept hcf.cell (grownBy_putObj' _ D2 (.deferred none)) (fun r e => by cases e; exact ⟨_, kf2, rfl⟩)
                have hc2 := cell_kept hc1 (grownBy_putObj' _ D (.deferred none)) (fun r e => by cases e; exact ⟨_, kg2, rfl⟩)
                have hbd : w.heap.size ≤ D2 ∧ w.heap.size ≤ D := by
                  have h1 := hbwZ.size
                  have h2 := HZ.out
                  exact ⟨by omega, by omega⟩
                refine ⟨.bool true, ?_, rfl, (hBf.trans (belowK_b (w := w) (Nat.le_refl _) _ D2 _ _ hbd.1 kf2 rfl rfl)).trans (belowK_b (w := w) (Nat.le_refl _) _ D _ _ hbd.2 kg2 rfl rfl)⟩
                simp [results, Tryd.f7, go_sem, hc2]
      · have h1 := hrune (by omega)
        have hd0 : decide (y.2 < 0) = false := decide_eq_false hneg
        have hd1 : decide (y.2 ≥ 0) = true := by simp; omega
        have hrt := rune_text ⟨W.heap.size, 0, none⟩ y.2 (W.alloc (.cells #[.int .i32 y.2] 21)) (by simp)
        rw [h1] at hrt
        clear hrune hbrk h1
        gi_wp2
        have hB2 := hB.alloc hszW (.cells #[.int .i32 y.2] 21); have hU2 := hU.alloc (.cells #[.int .i32 y.2] 21)
        have HK2 := Lib.hid ((Below.heap_alloc W (.cells #[.int .i32 y.2] 21) D (Array.getElem?_eq_some_iff.1 HK.out).1).trans HK.out)
        have hzX : W0.heap.size ≤ (W.alloc (.cells #[.int .i32 y.2] 21)).heap.size := by simp; omega
        have hUl0 := hU2.lt
        clear hrt
        generalize W.alloc (.cells #[.int .i32 y.2] 21) = Wa at *
        clear cS cO cT cN cL cW cU fU
        have cU2 := hU2.cell
        have fU2 := hU2.frozen
        refine wpIn_wide.2 ?_
        refine wp_region_noPanic ?_
        go_region_with (go_at_call 16; refine (CY.out _ (by first | exact hB2 | exact hB2.drew)).mono ?_; rintro e w' ⟨rfl, hb⟩; have cU3 := (hb.cell (p := ⟨w1.heap.size + 1, 0, none⟩) (by simpa using hUl0)).trans cU2; have fU3 := (hb.frozen (p := ⟨w1.heap.size + 1, 0, none⟩) (by simpa using hUl0)).trans fU2)
        all_goals
          simp only [NoPanic]
          rw [HWR.out]
          have hzw : W0.heap.size ≤ w'.heap.size := by have := hb.size; simp at this; omega
          have hUw : Boxed w' (w1.heap.size + 1) 3 (.int .i64 (widthL l)) := (hb.block _ (by simpa using hUl0)).trans hU2
          have hKw : w'.heap[D]? = some (.deferred (some [])) := (hb.block _ (by simpa using (Array.getElem?_eq_some_iff.1 HK2.out).1)).trans HK2.out
          have hBw : Below w1.heap.size w1 w' := hB2.drew.trans (hb.mono (by have := hB2.size; simp; omega))
          have hUx := hUw.set (.int .i64 (wd s))
          have hBx := hBw.setCell (p := ⟨w1.heap.size + 1, 0, none⟩) (by show w1.heap.size ≤ w1.heap.size + 1; omega) (.int .i64 (wd s))
          have hzx : W0.heap.size ≤ (w'.setCell ⟨w1.heap.size + 1, 0, none⟩ (.int .i64 (wd s))).heap.size := by simp; omega
          have HKx := Lib.hid ((KeepsOthers.setCell w' ⟨w1.heap.size + 1, 0, none⟩ (.int .i64 (wd s))).same D _ hKw rfl)
          clear cU2 fU2 cU3 fU3 hb hUw hKw hBw hzw
          generalize w'.setCell ⟨w1.heap.size + 1, 0, none⟩ (.int .i64 (wd s)) = V at *
          clear hB2 hU2 HK2 hzX hU hB hse hse2 hz hsl hd0 hd1
          have qS : Boxed V w.heap.size 9 (.string s) := (hBx.block _ (by omega)).trans bS1
          have qO : Boxed V (w.heap.size + 1) 3 (.int .i64 one) := (hBx.block _ (by omega)).trans ((hb1.block _ (by omega)).trans bO)
          have qT : Boxed V (w.heap.size + 1 + 1) 3 (.int .i64 two) := (hBx.block _ (by omega)).trans ((hb1.block _ (by omega)).trans bT)
          have cS := qS.cell
          have cO := qO.cell
          have cT := qT.cell
          gi_wp2
          clear qS qO qT cS cO cT
          have hbSx : Boxed V w.heap.size 9 (.string s) := (hBx.block _ (by omega)).trans bS1
          have hbOx : Boxed V (w.heap.size + 1) 3 (.int .i64 one) := (hBx.block _ (by omega)).trans ((hb1.block _ (by omega)).trans bO)
          have hbTx : Boxed V (w.heap.size + 1 + 1) 3 (.int .i64 two) := (hBx.block _ (by omega)).trans ((hb1.block _ (by omega)).trans bT)
          have hbRx : Boxed V (w.heap.size + 1 + 1 + 1) 4 (.bool false) := (hBx.block _ (by omega)).trans ((hb1.block _ (by omega)).trans bR)
          have hzV := hBx.size
          have hTV := hT1.below hBx (by omega)
          have hUl := hUx.lt
          have cc := fun (r : Int) (U : World) (hU : Below V.heap.size V U) => after hU (Cut_in s r (by omega) U (hTV.below hU (by omega)) (by have := hU.size; omega))
          have cw := fun (y : ByteArray) (hy : y.size ≤ 67108864) (U : World) (hU : Below V.heap.size V U) => after hU (callsIn_wide.1 (Width_in y hy U (hTV.below hU (by omega)) (by have := hU.size; omega)))
          have cw2 : ∀ (y : ByteArray), y.size ≤ 67108864 → ∀ (U : World), Below V.heap.size V U → Calls Tryd.prog 16 #[.string y] U fun e U' => e = .returned (.int .i64 (wd y)) ∧ Below V.heap.size V U' := cw
          have kc : ∀ U, Below V.heap.size V U → U.cell? ⟨w.heap.size, 0, none⟩ = some (.string s) ∧ U.cell? ⟨w.heap.size + 1, 0, none⟩ = some (.int .i64 one) ∧ U.cell? ⟨w.heap.size + 1 + 1, 0, none⟩ = some (.int .i64 two) ∧ U.cell? ⟨w1.heap.size + 1, 0, none⟩ = some (.int .i64 (wd s)) := fun U hU =>
            ⟨(hU.cell (p := ⟨w.heap.size, 0, none⟩) hbSx.lt).trans hbSx.cell, (hU.cell (p := ⟨w.heap.size + 1, 0, none⟩) hbOx.lt).trans hbOx.cell, (hU.cell (p := ⟨w.heap.size + 1 + 1, 0, none⟩) hbTx.lt).trans hbTx.cell, (hU.cell (p := ⟨w1.heap.size + 1, 0, none⟩) hUl).trans hUx.cell⟩
          obtain ⟨w11, w12, w13⟩ := wide_spec s (max one two)
          have hmn := fit_mono s (min one two) (max one two) (by omega)
          have hfs := fit_all s (wd s) (Int.le_refl _)
          have hwd := wd_bd s
          have e0 := cc (wd s)
          rw [hfs, ext_all] at e0
          have CC := Lib.hid cc; have CW := Lib.hid cw2; have KC := Lib.hid kc; have CE := Lib.hid e0; have HUX := Lib.hid hUx; have HBX := Lib.hid hBx
          clear cc cw cw2 kc e0 hfs hbSx hbOx hbTx hTV
          have hV0 := Below.refl V.heap.size V
          refine (callsIn_wide.2 (CC.out (min one two) _ hV0)).mono ?_
          rintro e v1 ⟨rfl, hv1⟩
          obtain ⟨c1, c2, c3, c4⟩ := KC.out _ hv1
          gi_wp2_with fail
          refine (callsIn_wide.2 (CC.out (max one two) _ hv1)).mono ?_
          rintro e v2 ⟨rfl, hv2⟩
          clear c1 c2 c3 c4
          obtain ⟨c1, c2, c3, c4⟩ := KC.out _ hv2
          have hez : (s.extract 0 (fit s (max one two))).size = fit s (max one two) := by simp; omega
          have hen : (s.extract 0 (fit s (min one two))).size = fit s (min one two) := by simp; omega
          have hee := ext_ext0 s (fit s (min one two)) (fit s (max one two)) hmn
          have hrest : (s.extract (fit s (max one two)) s.size).size = s.size - fit s (max one two) := by simp
          have hpr := pc_rest s (fit s (max one two))
          have hs1 : ∀ U : World, (Instr.slice 9 (.string s) none (some (.int .i64 ((s.extract 0 (fit s (max one two))).size : Int))) none).run Tryd.prog U = .ok (.string (s.extract 0 (fit s (max one two)))) U := fun U => by
            rw [run_slice_string_to_if (P := Tryd.prog) U 9 s .i64 _ Tryd.underlying9, if_pos (by omega), Int.toNat_natCast, hez]
          have hs2 : ∀ U : World, (Instr.slice 9 (.string (s.extract 0 (fit s (max one two)))) none (some (.int .i64 ((s.extract 0 (fit s (min one two))).size : Int))) none).run Tryd.prog U = .ok (.string (s.extract 0 (fit s (min one two)))) U := fun U => by
            rw [run_slice_string_to_if (P := Tryd.prog) U 9 _ .i64 _ Tryd.underlying9, if_pos (by omega), Int.toNat_natCast, hen, hee]
          have hs3 : ∀ U : World, (Instr.slice 9 (.string s) (some (.int .i64 ((s.extract 0 (fit s (max one two))).size : Int))) none none).run Tryd.prog U = .ok (.string (s.extract (fit s (max one two)) s.size)) U := fun U => by
            rw [run_slice_string_from_if (P := Tryd.prog) U 9 s .i64 _ Tryd.underlying9, if_pos (by omega), Int.toNat_natCast, hez]
          have hgt1 : decide (((s.extract 0 (fit s (min one two))).size : Int) > ((s.extract 0 (fit s (max one two))).size : Int)) = false := by simp; omega
          have hgt1N : decide ((s.extract 0 (fit s (max one two))).size < (s.extract 0 (fit s (min one two))).size) = false := by simp; omega
          have hgt2 : decide (((s.extract 0 (fit s (max one two))).size : Int) > (s.size : Int)) = false := by simp; omega
          have hgt2N : decide (s.size < (s.extract 0 (fit s (max one two))).size) = false := by simp; omega
          have hfull : fit s (max one two) = s.size → s.extract 0 (fit s (max one two)) = s := fun h => by rw [h, ext_all]
          have HFULL := Lib.hid hfull
          clear hfull
          generalize fit s (max one two) = m at *
          generalize fit s (min one two) = n at *
          generalize s.extract m s.size = rest at *
          generalize s.extract 0 m = wide at *
          generalize s.extract 0 n = narrow at *
          have HEZ := Lib.hid hez; have HRE := Lib.hid hrest; have HPR := Lib.hid hpr; have HS3 := Lib.hid hs3; have W12 := Lib.hid w12; have W13 := Lib.hid w13
          clear hez hen hee hrest hpr hs3 w12 w13 hmn
          have hUl2 : w1.heap.size + 1 < V.heap.size := hUl
          gi_wp2
          refine wpIn_wide.2 ?_
          go_region_held3 (fun w' => Below V.heap.size V w' ∧ w'.cell? ⟨w.heap.size, 0, none⟩ = some (.string s) ∧ w'.cell? ⟨w1.heap.size + 1, 0, none⟩ = some (.int .i64 (wd s)))
            (first | exact ⟨hv2.drew, c1, c4⟩ | exact ⟨hv3, d1, d4⟩ | exact ⟨hv4, f1, f4⟩ | go_keep)
            (first
              | (go_at_call 16; refine (CW.out s (by omega) _ (by first | assumption | exact (‹Below V.heap.size V _ ∧ _›).1)).mono ?_; rintro e v3 ⟨rfl, hv3⟩; obtain ⟨d1, d2, d3, d4⟩ := KC.out _ hv3)
              | (go_at_call 24; refine (CE.out _ (by first | assumption | exact (‹Below V.heap.size V _ ∧ _›).1)).mono ?_; rintro e v4 ⟨rfl, hv4⟩; obtain ⟨f1, f2, f3, f4⟩ := KC.out _ hv4))
          clear c1 c2 c3 c4 d1 d2 d3 d4 f1 f2 f3 f4 hs1 hs2 hgt1 hgt1N hgt2 hgt2N
          have hwz : wide.size ≤ 67108864 := by rw [HEZ.out]; omega
          gi_wp2_with fail
          refine (callsIn_wide.2 (CW.out wide hwz _ hv4)).mono ?_
          rintro e v5 ⟨rfl, hv5⟩
          have hz5 := hv5.size
          have hv6 := hv5.alloc hz5 (.cells #[.int .i64 (wd wide)] 3)
          have b6 := Boxed.new v5 3 (.int .i64 (wd wide))
          obtain ⟨c1, c2, c3, c4⟩ := KC.out _ hv6
          have cb6 := b6.cell
          have hmx3 : (if (if one < two then two else one) < 0 then 0 else if one < two then two else one) = max (max one two) 0 := by
            (repeat' split) <;> omega
          have hgt3 : decide ((if (if one < two then two else one) < 0 then 0 else if one < two then two else one) < wd wide) = false := by rw [hmx3]; have := W12.out; simp; omega
          clear hmx3
          have hs3 := HS3.out
          have hww := wd_bd wide
          gi_wp2_with (gi_at_call 10; refine (Runes_in _ _ _).mono ?_; rintro e w' ⟨rfl, rfl⟩)
          all_goals
            have b7 := b6.alloc (.cells #[.string rest] 9)
            have bX7 := Boxed.new (v5.alloc (.cells #[.int .i64 (wd wide)] 3)) 9 (.string rest)
            rw [World.size_alloc] at bX7
            have hv7 := hv6.alloc hv6.size (.cells #[.string rest] 9)
            have hz7 : ((v5.alloc (.cells #[.int .i64 (wd wide)] 3)).alloc (.cells #[.string rest] 9)).heap.size = v5.heap.size + 2 := by simp
            clear c1 c2 c3 c4 cb6 hgt3 hs3 hv6 b6
            generalize (v5.alloc (.cells #[.int .i64 (wd wide)] 3)).alloc (.cells #[.string rest] 9) = Z at *
            have hrs := HRE.out
            have hBV := HBX.out
            have hBVZ := hBV.trans (hv7.mono hBV.size)
            have hTZ := hT1.below hBVZ (by omega)
            obtain ⟨c1, c2, c3, c4⟩ := KC.out _ hv7
            have bRZ : Boxed Z (w.heap.size + 1 + 1 + 1) 4 (.bool false) := (hv7.block _ (by omega)).trans hbRx
            have cRZ := bRZ.cell
            have fRZ := bRZ.frozen
            have cb7 := b7.cell
            have hbwZ : Below w.heap.size w Z := (hbA.trans (hb1.mono (by omega))).trans (hBVZ.mono (by omega))
            have HKZ : Z.heap[D]? = some (.deferred (some [])) := (hv7.block _ (Array.getElem?_eq_some_iff.1 HKx.out).1).trans HKx.out
            have hDz := (Array.getElem?_eq_some_iff.1 HKx.out).1
            have HKH := Lib.hid HKZ
            clear HKZ
            refine range_stop 19 (fun x => .int .i32 x.1.2) hro (by omega) (gf := 33) (lb := #[.pointer (some ⟨v5.heap.size + 1, 0, none⟩)]) rfl trivial (enters_of Tryd.func33 (by kernel_rfl) rfl)
              (runes_stops 4 (by omega) (v5.heap.size + 1) Z.heap.size rest (by omega) _ hTZ (by omega) (Nat.le_refl _) (by omega) bX7.cell) KpR.t (KpR.b (Nat.le_refl _)) (Below.refl _ _) (fun _ => rfl)
              (fun pre W => (pre.length = 0 ∧ True) ∧ Below Z.heap.size Z W)
              (fun c pre W => ((c = .ret ∧ pre.length = 1) ∧ Boxed W (w.heap.size + 1 + 1 + 1) 4 (.bool (decide (wOf (wasI (vals pre)) > max one two - wd wide)))) ∧ (Below w.heap.size w W ∧ W.heap[D]? = some (.deferred (some []))))
              (OwnFrom.and (ownFrom_pure _ _) (ownFrom_below (Nat.le_refl _) (Nat.le_refl _)))
              (fun c => OwnFrom.and (OwnFrom.and (ownFrom_pure _ _) (Own.from (boxed_own _ _ _) _)) (OwnFrom.and (ownFrom_below (Nat.le_refl _) (by have := hbwZ.size; omega)) ?own))
              ⟨⟨rfl, trivial⟩, Below.refl _ _⟩ ?assign ?body ?done ?stop
            case own =>
              intro q W W' row hq hg hr
              exact (hg.block D (Array.getElem?_eq_some_iff.1 hq).1 (fun e => by have := (hr D e.symm).1; have := hv7.size; omega)).trans hq
            case assign =>
              intro l x W K hK
              gi_wp2
              first
                | exact hK
                | (simp at hK; exact hK)
                | (simp [go_sem] at hK; exact hK)
            case body =>
              rintro l pre x W ⟨⟨hpl, _⟩, hBB⟩ hlt
              have hzZ := hbwZ.size
              have e2 := (hBB.cell (p := ⟨w.heap.size + 1, 0, none⟩) (by show w.heap.size + 1 < _; omega)).trans c2
              have e3 := (hBB.cell (p := ⟨w.heap.size + 1 + 1, 0, none⟩) (by show w.heap.size + 1 + 1 < _; omega)).trans c3
              have e7 := (hBB.cell (p := ⟨v5.heap.size, 0, none⟩) (by show v5.heap.size < _; omega)).trans cb7
              have bRW : Boxed W (w.heap.size + 1 + 1 + 1) 4 (.bool false) := (hBB.block _ bRZ.lt).trans bRZ
              have cRW := bRW.cell
              have fRW := bRW.frozen
              have hDW : W.heap[D]? = some (.deferred (some [])) := (hBB.block _ (by have := hv7.size; omega)).trans HKH.out
              have hxb : -1 ≤ x.1.2 := by rw [(pcs_mem rest x.1 x.2).2]; exact (pc_bd rest _).1
              have hw12 := W12.out
              have hsub : IntKind.i64.wrap (max one two - wd wide) = max one two - wd wide := IntWalk.i64_in _ (by omega)
              have hsubI : IntKind.i64.wrap ((if one < two then two else one) - wd wide) = max one two - wd wide := by
                have : (if one < two then two else one) = max one two := by split <;> omega
                rw [this]; exact hsub
              have fin : ∀ (b : Bool), b = decide (wOf (wasI (vals (pre ++ [x]))) > max one two - wd wide) →
                  KeepsOthers W (W.setCell ⟨w.heap.size + 1 + 1 + 1, 0, none⟩ (.bool b)) ∧ ((Code.ret = .ret ∧ (pre ++ [x]).length = 1) ∧ Boxed (W.setCell ⟨w.heap.size + 1 + 1 + 1, 0, none⟩ (.bool b)) (w.heap.size + 1 + 1 + 1) 4 (.bool (decide (wOf (wasI (vals (pre ++ [x]))) > max one two - wd wide)))) ∧ (Below w.heap.size w (W.setCell ⟨w.heap.size + 1 + 1 + 1, 0, none⟩ (.bool b)) ∧ (W.setCell ⟨w.heap.size + 1 + 1 + 1, 0, none⟩ (.bool b)).heap[D]? = some (.deferred (some []))) := fun b hb =>
                ⟨KeepsOthers.setCell _ _ _, ⟨⟨rfl, by rw [List.length_append, hpl]; rfl⟩, by rw [← hb]; exact bRW.set _⟩, (hbwZ.trans (hBB.mono hzZ)).setCell (p := ⟨w.heap.size + 1 + 1 + 1, 0, none⟩) (by show w.heap.size ≤ w.heap.size + 1 + 1 + 1; omega) _, (KeepsOthers.setCell W ⟨w.heap.size + 1 + 1 + 1, 0, none⟩ (.bool b)).same D _ hDW rfl⟩
              have hwas : wasI (vals (pre ++ [x])) = x.1.2 := by rw [vals_snoc, wasI_snoc]
              rw [hwas] at fin
              have FIN := Lib.hid fin
              have HWAS := Lib.hid hwas
              clear fin hwas hpl hlt hDW hw12
              generalize x.1.2 = xr at *
              by_cases h32 : xr < 32
              · have d1 : decide (xr < 32) = true := decide_eq_true h32
                have d2 : (xr == 92) = false := by rw [beq_eq_false_iff_ne]; omega
                have hwo : wOf xr = 4 := by unfold wOf hexR; simp [h32]
                gi_wp2
                have h := FIN.out (decide (max one two - wd wide < 4)) (by rw [hwo])
                refine ⟨h.1, ⟨⟨rfl, h.2.1.1.2⟩, ?_⟩, h.2.2⟩
                rw [HWAS.out]
                exact h.2.1.2
              · by_cases h127 : xr = 127
                · subst h127
                  gi_wp2
                  have h := FIN.out (decide (max one two - wd wide < 4)) (by rw [show wOf 127 = 4 from rfl])
                  refine ⟨h.1, ⟨⟨rfl, h.2.1.1.2⟩, ?_⟩, h.2.2⟩
                  rw [HWAS.out]
                  exact h.2.1.2
                · by_cases h92 : xr = 92
                  · subst h92
                    gi_wp2
                    have h := FIN.out (decide (max one two - wd wide < 2)) (by rw [show wOf 92 = 2 from rfl])
                    refine ⟨h.1, ⟨⟨rfl, h.2.1.1.2⟩, ?_⟩, h.2.2⟩
                    rw [HWAS.out]
                    exact h.2.1.2
                  · have d1 : decide (xr < 32) = false := decide_eq_false h32
                    have d2 : (xr == 92) = false := by rw [beq_eq_false_iff_ne]; exact h92
                    have d3 : (xr == 127) = false := by rw [beq_eq_false_iff_ne]; exact h127
                    have hwo : wOf xr = 1 := by unfold wOf hexR; simp [h32, h127, h92]
                    gi_wp2
                    have h := FIN.out (decide (max one two - wd wide < 1)) (by rw [hwo])
                    refine ⟨h.1, ⟨⟨rfl, h.2.1.1.2⟩, ?_⟩, h.2.2⟩
                    rw [HWAS.out]
                    exact h.2.1.2
            case done =>
              rintro D2 xs W hD2 hxs ⟨⟨hxl, _⟩, hBB⟩ hK2
              have hr0 : rest.size = 0 := by
                have hx0 : xs = [] := List.eq_nil_of_length_eq_zero hxl
                subst hx0
                rcases Nat.eq_zero_or_pos rest.size with h | h
                · exact h
                · rw [pcs_step rest h] at hxs; cases hxs
              have hws := HFULL.out (by omega)
              have hwe : (wide.toList == s.toList) = true := by rw [hws]; simp
              have e1 := (hBB.cell (p := ⟨w.heap.size, 0, none⟩) (by show w.heap.size < _; have := hbwZ.size; have := bRZ.lt; omega)).trans c1
              have bRW : Boxed W (w.heap.size + 1 + 1 + 1) 4 (.bool false) := (hBB.block _ bRZ.lt).trans bRZ
              have cRW := bRW.cell
              have fRW := bRW.frozen
              have hDW : W.heap[D]? = some (.deferred (some [])) := (hBB.block _ (by have := hv7.size; omega)).trans HKH.out
              have HDW := Lib.hid hDW
              have HK2 := Lib.hid hK2
              clear hDW hK2 hws hr0
              gi_wp2
              have hBf : Below w.heap.size w (W.setCell ⟨w.heap.size + 1 + 1 + 1, 0, none⟩ (.bool true)) := (hbwZ.trans (hBB.mono hbwZ.size)).setCell (p := ⟨w.heap.size + 1 + 1 + 1, 0, none⟩) (by show w.heap.size ≤ w.heap.size + 1 + 1 + 1; omega) _
              have hcf : Boxed (W.setCell ⟨w.heap.size + 1 + 1 + 1, 0, none⟩ (.bool true)) (w.heap.size + 1 + 1 + 1) 4 (.bool true) := Boxed.set (W := W) _ bRW
              have kf1 := (KeepsOthers.setCell W ⟨w.heap.size + 1 + 1 + 1, 0, none⟩ (.bool true)).same D _ HDW.out rfl
              have kf2 := (KeepsOthers.setCell W ⟨w.heap.size + 1 + 1 + 1, 0, none⟩ (.bool true)).same D2 _ HK2.out rfl
              obtain ⟨U, hU⟩ : ∃ U, W.setCell ⟨w.heap.size + 1 + 1 + 1, 0, none⟩ (.bool true) = U := ⟨_, rfl⟩
              rw [hU] at hBf hcf kf1 kf2 ⊢
              clear hU
              · have hD12 : D2 ≠ D := by have := hv7.size; omega
                have kg2 : (U.putObj D2 (.deferred none)).heap[D]? = some (.deferred (some [])) := (World.putObj_heap_other (Ne.symm hD12)).trans kf1
                refine ⟨by simp, .inl ⟨_, _, rfl, run_takeDeferred kf2, ?_⟩⟩
                refine ⟨by simp, .inl ⟨_, _, rfl, run_takeDeferred kg2, ?_⟩⟩
                have hc1 := cell_kept hcf.cell (grownBy_putObj' _ D2 (.deferred none)) (fun r e => by cases e; exact ⟨_, kf2, rfl⟩)
                have hc2 := cell_kept hc1 (grownBy_putObj' _ D (.deferred none)) (fun r e => by cases e; exact ⟨_, kg2, rfl⟩)
                have hbd : w.heap.size ≤ D2 ∧ w.heap.size ≤ D := by
                  have h1 := hbwZ.size
                  have h2 := HZ.out
                  exact ⟨by omega, by omega⟩
                refine ⟨.bool true, ?_, rfl, (hBf.trans (belowK_b (w := w) (Nat.le_refl _) _ D2 _ _ hbd.1 kf2 rfl rfl)).trans (belowK_b (w := w) (Nat.le_refl _) _ D _ _ hbd.2 kg2 rfl rfl)⟩
                simp [results, Tryd.f7, go_sem, hc2]
            case stop =>
              rintro D2 c pre U hD2 hpre ⟨⟨⟨rfl, hp1⟩, bR'⟩, hBf, kf1⟩ kf2
              have hcf : Boxed U (w.heap.size + 1 + 1 + 1) 4 (.bool true) := by
                obtain ⟨x, rfl⟩ : ∃ x, pre = [x] := by
                  match pre, hp1 with
                  | [x], _ => exact ⟨x, rfl⟩
                have h1 := pcsFrom_head rest 0 x.1 [] hpre
                have h3 := HPR.out (by have := HRE.out; omega)
                have h4 := W13.out (by have := HRE.out; omega)
                have h5 : wasI (vals [x]) = x.1.2 := rfl
                have h6 : x.1.2 = (pc s m).1 := by rw [h1.2.1, h3]
                have h7 : decide (wOf (wasI (vals [x])) > max one two - wd wide) = true := by rw [h5, h6]; simp; omega
                rw [h7] at bR'
                exact bR'
              have HF1 := Lib.hid kf1
              have HF2 := Lib.hid kf2
              clear kf1 kf2
              gi_wp2
              have kf1 := HF1.out
              have kf2 := HF2.out
              · have hD12 : D2 ≠ D := by have := hv7.size; omega
                have kg2 : (U.putObj D2 (.deferred none)).heap[D]? = some (.deferred (some [])) := (World.putObj_heap_other (Ne.symm hD12)).trans kf1
                refine ⟨by simp, .inl ⟨_, _, rfl, run_takeDeferred kf2, ?_⟩⟩
                refine ⟨by simp, .inl ⟨_, _, rfl, run_takeDeferred kg2, ?_⟩⟩
                have hc1 := cell_kept hcf.cell (grownBy_putObj' _ D2 (.deferred none)) (fun r e => by cases e; exact ⟨_, kf2, rfl⟩)
                have hc2 := cell_kept hc1 (grownBy_putObj' _ D (.deferred none)) (fun r e => by cases e; exact ⟨_, kg2, rfl⟩)
                have hbd : w.heap.size ≤ D2 ∧ w.heap.size ≤ D := by
                  have h1 := hbwZ.size
                  have h2 := HZ.out
                  exact ⟨by omega, by omega⟩
                refine ⟨.bool true, ?_, rfl, (hBf.trans (belowK_b (w := w) (Nat.le_refl _) _ D2 _ _ hbd.1 kf2 rfl rfl)).trans (belowK_b (w := w) (Nat.le_refl _) _ D _ _ hbd.2 kg2 rfl rfl)⟩
                simp [results, Tryd.f7, go_sem, hc2]
end Go.Proofs.YteegnmblbjcfpaaDoor.T
