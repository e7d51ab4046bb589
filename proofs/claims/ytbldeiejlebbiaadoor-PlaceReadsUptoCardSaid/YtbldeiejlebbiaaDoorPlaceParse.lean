/-
  place.Parse: the stack whose text it is.
-/
import Derived.Test.YtbldeiejlebbiaaDoorPlaceReverse
set_option linter.unusedVariables false
namespace Go.Proofs.YtbldeiejlebbiaaDoor.T
open Go Go.Lib Go.RowKit

def sepB : ByteArray := ⟨#[32, 60, 32]⟩
theorem cut_less (s : ByteArray) (h : cutC s sepB = true) : (cutB s sepB).size < s.size := by
  have e : s.data.toList.length = s.size := rfl
  unfold cutC Lib.cut at h
  unfold cutB Lib.cut
  split at h
  · rename_i hi
    rw [if_pos hi]
    show ((s.data.toList.drop _).toArray).size < _
    rw [List.size_toArray, List.length_drop, e]
    have h3 : sepB.data.toList.length = 3 := rfl
    rw [h3]
    have : s.size ≠ 0 := by
      intro h0
      have h1 : s.data.toList = [] := List.eq_nil_of_length_eq_zero (by rw [e]; exact h0)
      rw [h1] at hi
      exact absurd hi (by decide)
    omega
  · cases h
/-- what the pieces come to, the innermost place first -/
def parseF : Nat → ByteArray → List Pl → Option (List Pl)
  | 0, _, _ => none
  | f + 1, s, acc => match parseOne (cutA s sepB) with
    | none => none
    | some p => if acc.length = 64 then none else if cutC s sepB = true then parseF f (cutB s sepB) (acc ++ [p]) else some (acc ++ [p])
def parseR (s : ByteArray) : Option (List Pl) := if s.size = 0 then some [] else parseF (s.size + 1) s []
def parseL (s : ByteArray) : Option (List Pl) := (parseR s).map List.reverse
def IsRead (e : TypeId) (o : Option (List Pl)) (w : World) (en : Ending) (w' : World) : Prop := ∃ v, en = .returned (.tuple #[v, .int .i64 (match o with | some _ => 0 | none => 4)]) ∧ PRow e w.heap.size w' v (o.getD []) ∧ Below w.heap.size w w'
theorem below_row {B : Nat} {a w w' : World} {row : Option Nat} (h : Below B a w) (hg : w.grownBy w' row) (hB : B ≤ w.heap.size) (hr : ∀ k, row = some k → B ≤ k) : Below B a w' := h.grown hg hB hr

set_option maxRecDepth 100000 in
set_option maxHeartbeats 8000000 in
theorem Parse_in (s : ByteArray) (hs : s.size ≤ 16777216) (w : World) (hE : Env w) :
    Calls Tryd.prog 33 #[.string s] w (IsRead 39 (parseL s) w) := by
  have h6 := hE.sz
  obtain ⟨i0, hi, hz0, hz1, hz2⟩ := info_parts infoOwn
  generalize hL : parseL s = L at *
  have HL : Hid ((parseR s).map List.reverse = L) := Lib.hid hL
  clear hL
  generalize hR : parseR s = R at *
  have hs0 : (!s.toList.isEmpty) = decide (s.size ≠ 0) := by
    rw [ByteArray.toList_eq]
    have e : s.data.toList.length = s.size := rfl
    by_cases h0 : s.size = 0
    · have : s.data.toList = [] := List.eq_nil_of_length_eq_zero (by rw [e]; exact h0)
      rw [this, h0]; rfl
    · rw [decide_eq_true h0]
      cases h : s.data.toList with
      | nil => rw [h] at e; exact absurd e.symm h0
      | cons a l => rfl
  have hst : ((!s.toList.isEmpty) = true → parseF (s.size + 1) s [] = R) ∧ ((!s.toList.isEmpty) = false → some [] = R) := by
    rw [hs0]
    refine ⟨fun h => ?_, fun h => ?_⟩
    · rw [← hR]; unfold parseR; rw [if_neg (of_decide_eq_true h)]
    · rw [← hR]; unfold parseR; rw [if_pos (by simpa using h)]
  clear hs0
  have HR := Lib.hid hR
  clear hR
  go_enter Tryd.func33, Tryd.ntmps33
  go_wp2
  go_loopw [0, 4, 5] (fun u v b wr => ∃ (f : Nat) (t : ByteArray) (acc : List Pl) (more : Bool), u = .string t ∧ b = .bool more ∧ t.size ≤ 16777216 ∧ acc.length ≤ 64 ∧ (more = true → t.size < f) ∧ (more = true → parseF f t acc = R) ∧ (more = false → some acc = R) ∧ PRow 39 w.heap.size wr v acc ∧ Below w.heap.size w wr)
    (fun u _ b _ => match b with | .bool true => (match u with | .string t => t.size + 1 | _ => 0) | _ => 0)
  case atStart => exact ⟨s.size + 1, s, [], _, rfl, rfl, hs, by simp, fun _ => by omega, hst.1, hst.2, PRow.nil _ _ _, Below.refl _ _⟩
  case round =>
    obtain ⟨f, t, acc, more, rfl, rfl, ht, hac, hf, hm1, hm2, hrow, hbw⟩ := hrel
    have hszr := hbw.size
    cases more with
    | false =>
      have hR1 := hm2 rfl
      clear hm1 hm2
      have hRv := Reverse_in acc (by omega) w.heap.size _ wr hrow
      have hown := fun k hk => (World.ownsRow.lt hrow k hk).1
      go_wp2_with (go_at_call 68; refine hRv.mono ?_; rintro e w1 ⟨rfl, hrow1, hg1⟩)
      go_ret2
      have hL2 : L = some acc.reverse := by rw [← HL.out, ← hR1]; rfl
      subst hL2
      exact ⟨_, rfl, hrow1, hbw.grown hg1 hszr hown⟩
    | true =>
      have hR1 := hm1 rfl
      have hf1 := hf rfl
      clear hf
      clear hm1 hm2
      obtain ⟨f, rfl⟩ : ∃ f', f = f' + 1 := ⟨f - 1, by omega⟩
      have hcl := cut_le t sepB
      have hless := cut_less t
      unfold parseF at hR1
      have hCut := Cut_in t sepB ht wr (hE.below hbw h6)
      have hPo := parseOne_in (cutA t sepB) (by omega)
      have hsep : sepB = ⟨#[32, 60, 32]⟩ := rfl
      rw [hsep] at hCut hPo hless hcl hR1
      generalize cutA t ⟨#[32, 60, 32]⟩ = one at *
      generalize cutB t ⟨#[32, 60, 32]⟩ = rest at *
      generalize cutC t ⟨#[32, 60, 32]⟩ = more at *
      generalize hpo : parseOne one = po at *
      clear hsep hpo
      cases po with
      | none =>
        have hRn : R = none := hR1.symm
        subst hRn
        clear hR1
        have hL2 : L = none := by rw [← HL.out]; rfl
        subst hL2
        have HLs := Lib.hid hless
        clear hless
        go_wp2_with (first | (go_at_call 66; refine hCut.mono ?_; rintro e w1 ⟨rfl, hb1⟩; have hbw1 := hbw.trans (hb1.mono hszr); have hP1 := hPo w1 (hE.below hbw1 h6); have hsz1 := hbw1.size) | (go_at_call 67; refine hP1.mono ?_; rintro e w2 ⟨rfl, hb2⟩; simp only [oneV, Option.isSome]; have hbw2 := hbw1.trans (hb2.mono hsz1); have hsz2 := hbw2.size))
        go_ret2
        exact ⟨_, rfl, PRow.nil _ _ _, hbw2.alloc hsz2 _⟩
      | some p =>
        have hR2 : (if acc.length = 64 then none else if more = true then parseF f rest (acc ++ [p]) else some (acc ++ [p])) = R := hR1
        clear hR1
        by_cases h64 : acc.length = 64
        · rw [if_pos h64] at hR2
          have hRn : R = none := hR2.symm
          subst hRn
          clear hR2
          have hL2 : L = none := by rw [← HL.out]; rfl
          subst hL2
          have HLs := Lib.hid hless
          clear hless
          have h64' : ((acc.length : Int) == 64) = true := by rw [h64]; rfl
          obtain ⟨qa, qc, rfl⟩ : ∃ qa qc, u4 = .slice qa acc.length qc := by
            obtain ⟨qa, qc, e, _⟩ := PRow.sl hrow
            exact ⟨qa, qc, e⟩
          go_wp2_with (first | (go_at_call 66; refine hCut.mono ?_; rintro e w1 ⟨rfl, hb1⟩; have hbw1 := hbw.trans (hb1.mono hszr); have hP1 := hPo w1 (hE.below hbw1 h6); have hsz1 := hbw1.size) | (go_at_call 67; refine hP1.mono ?_; rintro e w2 ⟨rfl, hb2⟩; simp only [oneV, Option.isSome]; have hbw2 := hbw1.trans (hb2.mono hsz1); have hsz2 := hbw2.size))
          go_ret2
          exact ⟨_, rfl, PRow.nil _ _ _, hbw2.alloc hsz2 _⟩
        · rw [if_neg h64] at hR2
          have H2 := Lib.hid hR2
          have HLs := Lib.hid hless
          clear hR2 hless
          have h64' : ((acc.length : Int) == 64) = false := by rw [beq_eq_false_iff_ne]; omega
          obtain ⟨qa, qc, rfl⟩ : ∃ qa qc, u4 = .slice qa acc.length qc := by
            obtain ⟨qa, qc, e, _⟩ := PRow.sl hrow
            exact ⟨qa, qc, e⟩
          generalize hal : acc.length = n at *
          go_wp2_with (first | (go_at_call 66; refine hCut.mono ?_; rintro e w1 ⟨rfl, hb1⟩; have hbw1 := hbw.trans (hb1.mono hszr); have hP1 := hPo w1 (hE.below hbw1 h6); have hsz1 := hbw1.size) | (go_at_call 67; refine hP1.mono ?_; rintro e w2 ⟨rfl, hb2⟩; simp only [oneV, Option.isSome]; have hbw2 := hbw1.trans (hb2.mono hsz1); have hsz2 := hbw2.size; have hrow2 := (PRow.below hrow hb1).below hb2; have hbw3 := hbw2.alloc hsz2 (.cells #[.string p.n, .int .i64 p.k] 39); have hrow3 : (w2.alloc (.cells #[.string p.n, .int .i64 p.k] 39)).ownsRow w.heap.size 39 2 (.slice qa n qc) n (plCs acc) := by (rw [← hal] at hrow2 ⊢; exact World.ownsRow.alloc hrow2 _)) | (at_builtin; refine wpList_append_own _ rfl _ _ 23 rfl w.heap.size 39 i0 (.agg #[.string ⟨#[]⟩, .int .i64 0]) 2 24 Tryd.underlying23 hi hz0 hz1 hz2 rfl (by decide) _ n _ rfl (hrow3.alloc _) ⟨w2.heap.size + 1, 0, none⟩ 1 1 [.string p.n, .int .i64 p.k] rfl rfl ?cc1 ?cc2 ?cc3 ?cc4 ?cc5 ?_))
          case cc1 =>
            have h := cell2_new (w2.alloc (.cells #[.string p.n, .int .i64 p.k] 39)) (.string p.n) (.int .i64 p.k) 39
            rw [World.size_alloc] at h
            exact h
          case cc2 => simp [Value.oneCell']
          case cc3 => unfold maxLen; omega
          case cc4 => omega
          case cc5 => simp; omega
          intro v' w4 hown' hgrow _
          have hb4 := hbw3.grown (grown_of_alloc' hgrow) (by simp; omega) (fun j hj => (World.ownsRow.lt hrow3 j hj).1)
          go_wp2
          go_roundw
          case rel =>
            refine ⟨f, rest, acc ++ [p], more, rfl, rfl, by omega, by simp; omega, ?_, ?_, ?_, ?_, hb4⟩
            · intro e; have := HLs.out e; omega
            · intro e; have := H2.out; rw [if_pos e] at this; exact this
            · intro e; have := H2.out; rw [e] at this; exact this
            · unfold PRow
              rw [plCs_snoc, List.length_append, hal]
              exact hown'
          case measure =>
            cases more with
            | true => have := HLs.out rfl; simp only; omega
            | false => simp only; omega
end Go.Proofs.YtbldeiejlebbiaaDoor.T
