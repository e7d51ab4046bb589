/-
  One entry more in a book, plainly; what stays as it lay.
-/
import Derived.Test.YtpemfnhplkjndaaGreatDoorMkCopy
set_option linter.unusedVariables false
namespace Go.Proofs.YtpemfnhplkjndaaGreatDoor.T
open Go Go.Lib Go.RowKit

/-- all but books and rows of entries lies as it lay -/
structure KeepB (w w' : World) : Prop where
  size : w.heap.size ≤ w'.heap.size
  blk : ∀ (g : Nat) (o : Obj), w.heap[g]? = some o → (∀ cs fr, o ≠ .cells cs 60 fr) → (∀ cs fr, o ≠ .cells cs 99 fr) → w'.heap[g]? = some o
theorem KeepB.refl (w : World) : KeepB w w := ⟨Nat.le_refl _, fun _ _ h _ _ => h⟩
theorem KeepB.trans {a b c : World} (h : KeepB a b) (k : KeepB b c) : KeepB a c := ⟨Nat.le_trans h.size k.size, fun g o hg h1 h2 => k.blk g o (h.blk g o hg h1 h2) h1 h2⟩
theorem KeepB.of_below {w w' : World} (h : Below w.heap.size w w') : KeepB w w' := ⟨h.size, fun g o hg _ _ => (h.block g (blk_lt hg)).trans hg⟩
theorem infoEntP : (Tryz.prog.info? 99).map (fun i => (i.zero, i.size, i.bytes)) = some (some (.pointer none), 1, 8) := by kernel_rfl

theorem nums6 {b n m : Nat} (h : b < n) (k : n ≤ m) : b < m ∧ ¬ b = m ∧ ¬ m = b ∧ ¬ b = m + 1 ∧ ¬ m + 1 = b ∧ b < m + 1 := by omega
theorem keep7 {w6 w7 : World} {o1 o2 O : Obj} {v : Value} {b : Nat} (h : ((w6.alloc o1).alloc o2).grownBy w7 v.ownBlock) (hv : v.ownBlock ≠ some b) (hb : w6.heap[b]? = some O) : w7.heap[b]? = some O := by
  have hlt := blk_lt hb
  rw [h.block b (by simp; omega) (fun e => hv e.symm), Below.heap_alloc _ _ _ (by simp; omega), Below.heap_alloc _ _ _ hlt]
  exact hb
theorem own_ne {w : World} {B : Nat} {e : TypeId} {m N : Nat} {v : Value} {xs : List Value} (h : w.ownsRow B e m v N xs) {g : Nat} {o : Obj} (hg : w.heap[g]? = some o) (hne : ∀ cs fr, o ≠ .cells cs e fr) : v.ownBlock ≠ some g := by
  intro e1
  rcases h.2 with ⟨rfl, _⟩ | ⟨q, cap, cur, rfl, _, hq, _⟩
  · cases e1
  · simp only [Value.ownBlock, Option.some.injEq] at e1
    subst e1
    rw [hq] at hg
    exact hne _ _ (Option.some.inj hg).symm
theorem EnAt.moved {w w' : World} {g : Nat} {x : En} (h : EnAt w g x) (hk : ∀ (g : Nat) (o : Obj), w.heap[g]? = some o → (∀ cs fr, o ≠ .cells cs 60 fr) → (∀ cs fr, o ≠ .cells cs 99 fr) → w'.heap[g]? = some o) : EnAt w' g x := by
  refine ⟨hk g _ h.blk (fun cs fr e => ?_) (fun cs fr e => ?_), h.its, ?_⟩
  · injection e with _ h2 _; exact absurd h2 (by decide)
  · injection e with _ h2 _; exact absurd h2 (by decide)
  · obtain ⟨a, c, hv, hc, hh⟩ := h.parts
    refine ⟨a, c, hv, hc, fun hne => ?_⟩
    obtain ⟨pb, po, cs, fr, ha, hblk, hcell⟩ := hh hne
    refine ⟨pb, po, cs, fr, ha, hk pb _ hblk (fun cs fr e => ?_) (fun cs fr e => ?_), hcell⟩
    · injection e with _ h2 _; exact absurd h2 (by decide)
    · injection e with _ h2 _; exact absurd h2 (by decide)
theorem push_en {B b N : Nat} {es : List En} {w6 w7 : World} {gs : List Nat} {v : Value} {x : En} {o2 : Obj} {gg cap : Nat} (hBb : B ≤ b) (hlen : gs.length = es.length) (hN : es.length = N) (hroom : N < 65536)
    (hk6 : w6.heap[b]? = some (.cells #[v] 60 (0, 0))) (hent : ∀ (j g : Nat) (x : En), gs[j]? = some g → es[j]? = some x → EnAt w6 g x) (hp : NSl w6 x.parts x.hs) (hits : ∃ a n c, x.its = .slice a n c)
    (hrow : w6.ownsRow B 99 1 v N (gs.map ptrV)) (hgrow : ((w6.alloc (.cells (enC x) 88)).alloc o2).grownBy w7 v.ownBlock)
    (hown : w7.ownsRow B 99 1 (.slice (some ⟨gg, 0, none⟩) (N + 1) cap) (N + 1) (gs.map ptrV ++ [.pointer (some ⟨w6.heap.size, 0, none⟩)])) (hat : v.ownBlock = some gg ∨ gg = w6.heap.size + 2) (hB6 : B ≤ w6.heap.size) :
    BkAt B (w7.setCell ⟨b, 0, none⟩ (.slice (some ⟨gg, 0, none⟩) (N + 1) cap)) b (es ++ [x]) ∧ KeepB w6 (w7.setCell ⟨b, 0, none⟩ (.slice (some ⟨gg, 0, none⟩) (N + 1) cap)) ∧ Below B w6 (w7.setCell ⟨b, 0, none⟩ (.slice (some ⟨gg, 0, none⟩) (N + 1) cap)) := by
  have hbl := blk_lt hk6
  have hbv : v.ownBlock ≠ some b := own_ne hrow hk6 (fun cs fr e => by injection e with _ h2 _; exact absurd h2 (by decide))
  have hgb : gg ≠ b := by
    rcases hat with h | h
    · intro e; subst e; exact hbv h
    · omega
  have hsz : w6.heap.size ≤ w7.heap.size := Nat.le_trans (by simp; omega) hgrow.size
  have hk : ∀ (g : Nat) (o : Obj), w6.heap[g]? = some o → (∀ cs fr, o ≠ .cells cs 60 fr) → (∀ cs fr, o ≠ .cells cs 99 fr) → (w7.setCell ⟨b, 0, none⟩ (.slice (some ⟨gg, 0, none⟩) (N + 1) cap)).heap[g]? = some o := fun g o hg h1 h2 => by
    have hgb : g ≠ b := by
      intro e; subst e
      rw [hk6] at hg
      exact h1 _ _ (Option.some.inj hg).symm
    exact blk_other (keep7 hgrow (own_ne hrow hg h2) hg) hgb _
  have hnew : w7.heap[w6.heap.size]? = some (.cells (enC x) 88) := by
    have h1 : (w6.alloc (.cells (enC x) 88)).heap[w6.heap.size]? = some (.cells (enC x) 88) := by show (w6.heap.push _)[w6.heap.size]? = _; simp
    have h2 := (Below.heap_alloc (w6.alloc (.cells (enC x) 88)) o2 w6.heap.size (by simp)).trans h1
    rw [hgrow.block _ (by simp; omega) (fun e => ?_)]
    · exact h2
    · have := hrow.2
      rcases this with ⟨rfl, _⟩ | ⟨q, c, cur, rfl, _, hq, _⟩
      · cases e
      · simp only [Value.ownBlock, Option.some.injEq] at e
        subst e
        have := blk_lt hq
        omega
  have hpx : NSl (w7.setCell ⟨b, 0, none⟩ (.slice (some ⟨gg, 0, none⟩) (N + 1) cap)) x.parts x.hs := by
    obtain ⟨a, c, hv, hc, hh⟩ := hp
    refine ⟨a, c, hv, hc, fun hne => ?_⟩
    obtain ⟨pb, po, cs, fr, ha, hblk, hcell⟩ := hh hne
    refine ⟨pb, po, cs, fr, ha, hk pb _ hblk (fun cs fr e => ?_) (fun cs fr e => ?_), hcell⟩
    · injection e with _ h2 _; exact absurd h2 (by decide)
    · injection e with _ h2 _; exact absurd h2 (by decide)
  refine ⟨⟨hBb, by simp; omega, .slice (some ⟨gg, 0, none⟩) (N + 1) cap, gs ++ [w6.heap.size], ?_, ?_, by simp [hlen], fun j g y hg hy => ?_⟩, ⟨?_, hk⟩, ?_⟩
  · exact blk_set (keep7 hgrow hbv hk6) 0 _
  · have e1 : (es ++ [x]).length = N + 1 := by simp [hN]
    have e2 : (gs ++ [w6.heap.size]).map ptrV = gs.map ptrV ++ [.pointer (some ⟨w6.heap.size, 0, none⟩)] := by simp [ptrV]
    rw [e1, e2]
    exact ownsRow_setCell_other hown (by simp [Value.ownBlock]; exact hgb) _
  · by_cases hj : j < es.length
    · rw [List.getElem?_append_left (by omega)] at hg
      rw [List.getElem?_append_left hj] at hy
      exact (hent j g y hg hy).moved hk
    · have hj2 : j = es.length := by
        have := (List.getElem?_eq_some_iff.1 hy).1
        simp at this
        omega
      subst hj2
      rw [List.getElem?_append_right (by omega)] at hg
      rw [List.getElem?_append_right (Nat.le_refl _)] at hy
      simp [hlen] at hg
      simp at hy
      subst hg hy
      exact ⟨blk_other hnew (by show w6.heap.size ≠ b; omega) _, hits, hpx⟩
  · simp; omega
  · refine Below.setCell (p := ⟨b, 0, none⟩) ?_ hBb _
    refine (((Below.refl B w6).alloc hB6 _).alloc (by simp; omega) _).trans (grown_below hgrow (by simp; omega) (fun q hq => ?_))
    rcases hrow.2 with ⟨rfl, _⟩ | ⟨q', c, cur, rfl, hq', _⟩
    · cases hq
    · simp only [Value.ownBlock, Option.some.injEq] at hq
      omega
end Go.Proofs.YtpemfnhplkjndaaGreatDoor.T
