/-
  erratalaw03.alive: a stack is told and read.
-/
import Derived.Test.YtbldeiejlebbiaaDoorPlaceText
set_option linter.unusedVariables false
namespace Go.Proofs.YtbldeiejlebbiaaDoor.T
open Go Go.Lib Go.RowKit Go.Shelf

def plMain : Pl := ⟨⟨#[109, 97, 105, 110]⟩, 1⟩
def plF : Pl := ⟨⟨#[102]⟩, 20⟩
def textMF : ByteArray := ⟨#[102, 58, 50, 48, 32, 60, 32, 109, 97, 105, 110, 58, 49]⟩
theorem itoa_1 : Lib.itoa 1 = [49] := by decide +kernel
theorem itoa_20 : Lib.itoa 20 = [50, 48] := by decide +kernel
theorem check_mf : checkN [plMain, plF] = 0 := by decide +kernel
theorem text_mf : (⟨(textL [plMain, plF]).toArray⟩ : ByteArray) = textMF := by kernel_rfl
theorem parse_mf : parseL textMF = some [plMain, plF] := by kernel_rfl

set_option maxRecDepth 100000 in
set_option maxHeartbeats 4000000 in
theorem alive_in (w : World) (hE : Env w) : Calls Tryd.prog 16 #[] w fun e w' => e = .returned (.bool true) ∧ Below w.heap.size w w' := by
  have h6 := hE.sz
  have hb0 : Below w.heap.size w (w.alloc (.cells #[.string ⟨#[109, 97, 105, 110]⟩, .int .i64 1, .string ⟨#[102]⟩, .int .i64 20] 39)) := (Below.refl _ w).alloc (Nat.le_refl _) _
  have hz0 : (w.alloc (.cells #[.string ⟨#[109, 97, 105, 110]⟩, .int .i64 1, .string ⟨#[102]⟩, .int .i64 20] 39)).heap.size = w.heap.size + 1 := by simp
  have hsl : PlSl (w.heap.size + 1) (w.alloc (.cells #[.string ⟨#[109, 97, 105, 110]⟩, .int .i64 1, .string ⟨#[102]⟩, .int .i64 20] 39)) (.slice (some ⟨w.heap.size, 0, none⟩) 2 2) [plMain, plF] := by
    refine ⟨_, 2, rfl, by decide, by decide, fun _ => ⟨w.heap.size, 0, rfl, Nat.lt_succ_self _, ?_⟩⟩
    intro j p hj
    match j, hj with
    | 0, hj => simp at hj; subst hj; simp [plMain]
    | 1, hj => simp at hj; subst hj; simp [plF]
    | j + 2, hj => simp at hj
  have hT := callsIn_wide.1 (Text_in [plMain, plF] (by intro p hp; simp at hp; rcases hp with rfl | rfl <;> decide) (by decide) _ _ (hz0 ▸ hsl) (hE.below hb0 h6))
  rw [text_mf, check_mf] at hT
  have hP := fun W (hb : Below w.heap.size w W) => Parse_in textMF (by decide) W (hE.below hb h6)
  rw [parse_mf] at hP
  simp only [textMF] at hT hP
  go_enter Tryd.func16, Tryd.ntmps16
  go_wp2_with fail
  refine hT.mono ?_
  rintro e w1 ⟨rfl, hb1⟩
  have hb01 := hb0.trans (hb1.mono (by omega))
  have hP1 := hP w1 hb01
  have hsz1 := hb01.size
  go_wp2_with fail
  refine hP1.mono ?_
  rintro e w2 ⟨v, rfl, hrow, hb2⟩
  have hb02 := hb01.trans (hb2.mono hsz1)
  obtain ⟨g, cap, rfl, _, _, hat⟩ := PRow.parts hrow (by decide)
  have k0 := (hat 0 plMain rfl).1
  have k1 := (hat 0 plMain rfl).2
  simp only [plMain] at k0 k1
  have hlen : ((some [plMain, plF]).getD []).length = 2 := rfl
  rw [hlen]
  clear hat hrow hT hP hP1
  go_wp2
  go_ret
  exact ⟨rfl, hb02⟩
end Go.Proofs.YtbldeiejlebbiaaDoor.T
