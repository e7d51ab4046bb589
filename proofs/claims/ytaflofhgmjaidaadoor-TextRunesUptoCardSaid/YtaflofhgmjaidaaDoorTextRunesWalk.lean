/-
  erratalaw01.TextRunes: the walk.
-/
import Derived.Laws.EntriesVeiled
import Derived.WalkLawsBesides
import Derived.Test.YtaflofhgmjaidaaDoorTextTook
set_option linter.unusedVariables false
namespace Go.Proofs.YtaflofhgmjaidaaDoor.T
open Go Go.Lib Go.RowKit Go.Shelf
attribute [local go_sem] Oper.semAt_some

theorem equalIn_func_nil (d : Nat) (w : World) (f : Fn) (a b : Array Value) : (Op.equalIn (d + 1) 25 (.func f a b) .nilFunc).run Tryd.prog w = .ok false w := by
  simp [Op.equalIn, run_underlying Tryd.underlying25]
theorem equal_func_nil (w : World) (f : Fn) (a b : Array Value) : (Op.equal 25 (.func f a b) .nilFunc).run Tryd.prog w = .ok false w := equalIn_func_nil 9999 w f a b
theorem eql_func_nil (w : World) (f : Fn) (a b : Array Value) : (binOp .eql 25 (.func f a b) .nilFunc).run Tryd.prog w = .ok (.bool false) w := by
  simp only [binOp]
  simp [equal_func_nil w f a b]
theorem row_shape {w : World} {base : Nat} {e : TypeId} {size : Nat} {v : Value} {n : Nat} {xs : List Value} (h : w.ownsRow base e size v n xs) : ∃ po cap, v = .slice po n cap := by
  obtain ⟨_, ⟨rfl, rfl⟩ | ⟨g, cap, cur, rfl, _⟩⟩ := h
  · exact ⟨_, _, rfl⟩
  · exact ⟨_, _, rfl⟩
/-- the frame at the head of the two rounds -/
def Fr (s : ByteArray) (stop : Int) (b0 b1 : Nat) (po : Option Addr) (N cap : Nat) (k : Nat) (u : Nat → Value) : Array Value := List.toArray (.string s :: .int .i64 stop :: undef :: .pointer (some ⟨b0, 0, none⟩) :: .pointer (some ⟨b0 + 1, 0, none⟩) :: .pointer (some ⟨b1, 0, none⟩) :: .pointer (some ⟨b1 + 1 + 1, 0, none⟩) :: .int .i64 (k : Int) :: u 8 :: u 9 :: u 10 :: u 11 :: u 12 :: u 13 :: undef :: undef :: undef :: undef :: undef :: .string s :: .slice po N cap :: .string s :: .func (.func 33) #[] #[.pointer (some ⟨b1 + 1, 0, none⟩)] :: .func (.func 33) #[] #[.pointer (some ⟨b1 + 1, 0, none⟩)] :: .bool false :: u 25 :: u 26 :: u 27 :: u 28 :: u 29 :: u 30 :: u 31 :: u 32 :: u 33 :: u 34 :: u 35 :: u 36 :: u 37 :: u 38 :: u 39 :: u 40 :: u 41 :: u 42 :: u 43 :: u 44 :: u 45 :: u 46 :: u 47 :: u 48 :: u 49 :: u 50 :: u 51 :: u 52 :: u 53 :: u 54 :: u 55 :: u 56 :: u 57 :: u 58 :: u 59 :: u 60 :: u 61 :: u 62 :: u 63 :: u 64 :: u 65 :: u 66 :: u 67 :: u 68 :: u 69 :: u 70 :: u 71 :: u 72 :: u 73 :: u 74 :: u 75 :: u 76 :: u 77 :: u 78 :: u 79 :: u 80 :: u 81 :: u 82 :: u 83 :: u 84 :: u 85 :: u 86 :: u 87 :: u 88 :: u 89 :: u 90 :: u 91 :: u 92 :: u 93 :: u 94 :: u 95 :: u 96 :: undef :: undef :: undef :: undef :: undef :: undef :: undef :: undef :: undef :: undef :: undef :: undef :: undef :: undef :: undef :: undef :: undef :: undef :: undef :: undef :: undef :: undef :: undef :: undef :: undef :: undef :: undef :: undef :: undef :: undef :: undef :: undef :: undef :: undef :: undef :: undef :: undef :: undef :: undef :: undef :: undef :: undef :: undef :: [])
def Jr (s : ByteArray) (stop : Int) (b0 b1 : Nat) (po : Option Addr) (N cap : Nat) (W0 : World) (k : Nat) (a : Act) (wr : World) : Prop :=
  ∃ (u : Nat → Value) (Ds : List Nat), a = { tmps := Fr s stop b0 b1 po N cap k u, defers := Ds.map fun D => { target := .collected D, args := #[] } } ∧ Ds.length = k ∧ (∀ D ∈ Ds, W0.heap.size ≤ D ∧ wr.heap[D]? = some (.deferred (some []))) ∧ Ds.Nodup ∧ Below W0.heap.size W0 wr
theorem Jr.of {s : ByteArray} {stop : Int} {b0 b1 : Nat} {po : Option Addr} {N cap : Nat} {W0 : World} {k : Nat} {a : Act} {wr : World} (Ds : List Nat) (h : a.tmps = Fr s stop b0 b1 po N cap k (fun i => a.tmps.getD i undef)) (hd : a.defers = Ds.map fun D => { target := .collected D, args := #[] })
    (h1 : Ds.length = k) (h2 : ∀ D ∈ Ds, W0.heap.size ≤ D ∧ wr.heap[D]? = some (.deferred (some []))) (h3 : Ds.Nodup) (h4 : Below W0.heap.size W0 wr) : Jr s stop b0 b1 po N cap W0 k a wr := by
  obtain ⟨t, d⟩ := a
  subst hd
  exact ⟨_, Ds, by rw [← h], h1, h2, h3, h4⟩
theorem loop_twice {F : Fence} {n : Nat} {P : Program} {c : Code} {Q : Exit → Act → World → Prop} {a : Act} {w : World} (J : Nat → Act → World → Prop) (h0 : J 0 a w)
    (hr : ∀ k a w, k < 2 → J k a w → c.wpIn F n P (Exit.then (J (k + 1)) Q) a w) (h2 : ∀ a w, J 2 a w → c.wpIn F n P (Exit.then (fun _ _ => False) Q) a w) : (Code.loop c).wpIn F n P Q a w := by
  have up : ∀ {K K' : Act → World → Prop}, (∀ a w, K a w → K' a w) → ∀ e a w, Exit.then K Q e a w → Exit.then K' Q e a w := fun hk e a w h => by cases e <;> first | exact hk _ _ h | exact h
  refine wpIn_loop_rounds 3 ?_
  rw [roundsIn_succ]
  refine wpIn_mono (hr 0 a w (by omega) h0) (up fun a1 w1 h1 => ?_)
  rw [roundsIn_succ]
  refine wpIn_mono (hr 1 a1 w1 (by omega) h1) (up fun a2 w2 h2' => ?_)
  rw [roundsIn_succ]
  exact wpIn_mono (h2 a2 w2 h2') (up fun _ _ h => h.elim)
theorem keepsOthers_below {W W' : World} (h : Below W.heap.size W W') : KeepsOthers W W' := ⟨h.size, fun k o hk _ => (h.block k (Array.getElem?_eq_some_iff.1 hk).1).trans hk⟩
theorem set_run (xs : List Int) (j : Nat) (h : j < xs.length) : ((List.replicate j (-9) ++ xs.drop j).map (Value.int .i64)).set j (.int .i64 (-9)) = (List.replicate (j + 1) (-9) ++ xs.drop (j + 1)).map (Value.int .i64) := by
  have e : xs.drop j = xs[j] :: xs.drop (j + 1) := List.drop_eq_getElem_cons h
  rw [e]
  simp only [List.map_append, List.map_cons]
  rw [List.set_append_right _ _ (by simp)]
  simp only [List.length_map, List.length_replicate, Nat.sub_self, List.set_cons_zero]
  rw [List.replicate_succ', List.map_append]
  simp
theorem row_below {w w' : World} {B n : Nat} {v : Value} {xs : List Int} (h : IntsRow B w v xs) (hb : Below n w w') (hl : ∀ g, v.ownBlock = some g → g < n) : IntsRow B w' v xs := by
  obtain ⟨hlen, h0 | ⟨g, cap, cur, rfl, hB, hg, hr⟩⟩ := h
  · exact ⟨hlen, .inl h0⟩
  · exact ⟨hlen, .inr ⟨g, cap, cur, rfl, hB, (hb.block g (hl g rfl)).trans hg, hr⟩⟩
/-- two rows of other numbers at their heads lie in other blocks -/
theorem rows_apart {w : World} {B1 B2 n : Nat} {v vb : Value} {xs : List Int} (h : w.ownsRow B1 3 1 v n ((List.replicate n (-9)).map (Value.int .i64))) (hb : IntsRow B2 w vb xs) (h0 : 0 < xs.length) (hx : ∀ x ∈ xs, 0 ≤ x) (hn0 : 0 < n) : vb.ownBlock = none ∨ vb.ownBlock ≠ v.ownBlock := by
  obtain ⟨_, ⟨rfl, _⟩ | ⟨g, cap, cur, rfl, _, hg, _, _, _, ht⟩⟩ := hb
  · exact .inl rfl
  · refine .inr fun e => ?_
    obtain ⟨_, ⟨rfl, hn⟩ | ⟨g', cap', cur', rfl, _, hg', hnc, _, _, ht'⟩⟩ := h
    · cases e
    · have eg : g = g' := by injection e
      subst eg
      rw [hg] at hg'
      cases hg'
      cases xs with
      | nil => simp at h0
      | cons x xs =>
        have hx0 := hx x (by simp)
        obtain ⟨m, rfl⟩ : ∃ m, n = m + 1 := ⟨n - 1, by omega⟩
        cases hc : cur.toList with
        | nil => rw [hc] at ht; simp at ht
        | cons c rest =>
          rw [hc] at ht ht'
          simp [List.replicate_succ] at ht ht'
          have e1 := ht.1
          have e2 := ht'.1
          rw [e1] at e2
          injection e2 with _ e3
          omega
theorem lnext {β : Type} (L a : List β) (y : β) (h : a ++ [y] <+: L) : L[a.length]? = some y := by
  obtain ⟨t, rfl⟩ := h
  simp
theorem lpre {β : Type} (L a : List β) (y : β) (h : a <+: L) (hy : L[a.length]? = some y) : a ++ [y] <+: L := by
  obtain ⟨t, rfl⟩ := h
  cases t with
  | nil => simp at hy
  | cons z t =>
    simp at hy
    subst hy
    exact ⟨t, by simp⟩
theorem next_pre {s : ByteArray} {pre : List (Pc s)} {x : Pc s} (h : vals (pre ++ [x]) <+: pcs s) : (pcs s)[pre.length]? = some x.1 := by
  rw [vals_snoc] at h
  have := lnext _ _ _ h
  rwa [vals_length] at this
theorem pre_next {s : ByteArray} {pre : List (Pc s)} {x : Pc s} (h : vals pre <+: pcs s) (hx : (pcs s)[pre.length]? = some x.1) : vals (pre ++ [x]) <+: pcs s := by
  rw [vals_snoc]
  exact lpre _ _ _ h (by rwa [vals_length])
theorem sameInts_0 (n : Nat) (h : n = 0) (pa pb : Option Addr) (ca cb : Nat) (w : World) :
    Calls Tryd.prog 13 #[.slice pa n ca, .slice pb n cb] w fun e w' => e = .returned (.bool true) ∧ ∃ n, w' = w.drewN n := by
  subst h
  go_enter Tryd.func13, Tryd.ntmps13
  go_wp2
  refine wp_loop_rounds 1 ?_
  rw [rounds_succ]
  go_wp2
  go_ret
  exact ⟨rfl, 0, rfl⟩
theorem sameInts_or (B1 B2 : Nat) (xs : List Int) (pa pb : Option Addr) (ca cb : Nat) (hxs : xs.length ≤ 1048576) (w : World) (ha : 0 < xs.length → IntsRow B1 w (.slice pa xs.length ca) xs) (hb : IntsRow B2 w (.slice pb xs.length cb) xs) :
    Calls Tryd.prog 13 #[.slice pa xs.length ca, .slice pb xs.length cb] w fun e w' => e = .returned (.bool true) ∧ ∃ n, w' = w.drewN n := by
  by_cases h : xs.length = 0
  · exact sameInts_0 _ h pa pb ca cb w
  · exact sameInts_in B1 B2 _ _ xs hxs w (ha (by omega)) hb
set_option maxRecDepth 1000000 in
set_option maxHeartbeats 4000000 in
theorem textRunes_in (s : ByteArray) (stop : Int) (hs : s.size ≤ 1048576) (w : World) (hT : Tabs w) (h2 : 2 ≤ w.heap.size) :
    CallsIn Fence.wide 9 Tryd.prog 3 #[.string s, .int .i64 stop] w fun e w' => e = .returned (.bool true) ∧ Below w.heap.size w w' := by
  have hro : Fence.wide.round = none := rfl
  have hw : ∀ f, Fence.wide.fn f := fun _ => trivial
  have hpl := pcs_length s
  refine callsIn_of_wp_marks Tryd.func3 rfl trivial ?_ hro
  simp only [Tryd.ntmps3, List.size_toArray, List.length_cons, List.length_nil, Nat.reduceAdd, Nat.reduceSub, Array.replicate_succ, Array.replicate_zero, List.push_toArray, List.append_toArray, List.nil_append, List.cons_append]
  gi_wp2_with fail
  have bS := Boxed.new w 3 (.int .i64 stop)
  have bR := Boxed.new (w.alloc (.cells #[.int .i64 stop] 3)) 4 (.bool false)
  have bS2 := bS.alloc (.cells #[.bool false] 4)
  have hB2 : Below w.heap.size w ((w.alloc (.cells #[.int .i64 stop] 3)).alloc (.cells #[.bool false] 4)) := ((Below.refl _ w).alloc (Nat.le_refl _) _).alloc (by simp) _
  have hs2 : ((w.alloc (.cells #[.int .i64 stop] 3)).alloc (.cells #[.bool false] 4)).heap.size = w.heap.size + 2 := by simp
  rw [World.size_alloc] at bR
  obtain ⟨wa, hwa⟩ : ∃ wa, (w.alloc (.cells #[.int .i64 stop] 3)).alloc (.cells #[.bool false] 4) = wa := ⟨_, rfl⟩
  rw [hwa] at bR bS2 hB2 hs2 ⊢
  clear hwa bS
  refine (callsIn_wide.2 (pieces_in s hs wa)).mono ?_
  rintro e w1 ⟨vl, rfl, hrow, hb1⟩
  rw [hs2] at hrow
  obtain ⟨po, cap, rfl⟩ := row_shape hrow
  have hsz1 : w.heap.size + 2 ≤ w1.heap.size := by have := hb1.size; omega
  have bS1 : Boxed w1 w.heap.size 3 (.int .i64 stop) := (hb1.block _ (by omega)).trans bS2
  have bR1 : Boxed w1 (w.heap.size + 1) 4 (.bool false) := (hb1.block _ (by omega)).trans bR
  have hB1 : Below w.heap.size w w1 := hB2.trans (hb1.mono (by omega))
  clear hb1 hB2 bS2 bR hs2
  have hen := fun (W : World) (a b : Array Value) => eql_func_nil W (.func 33) a b
  gi_wp2_with (gi_at_call 10; refine (Runes_in _ _ _).mono ?_; rintro e w' ⟨rfl, rfl⟩)
  have bV := ((Boxed.new w1 22 (.slice po (pcs s).length cap)).alloc (.cells #[.string s] 9)).alloc (.cells #[.func (.func 33) #[] #[.pointer (some ⟨w1.heap.size + 1, 0, none⟩)]] 25)
  have bs := (Boxed.new (w1.alloc (.cells #[.slice po (pcs s).length cap] 22)) 9 (.string s)).alloc (.cells #[.func (.func 33) #[] #[.pointer (some ⟨w1.heap.size + 1, 0, none⟩)]] 25)
  have bF := Boxed.new ((w1.alloc (.cells #[.slice po (pcs s).length cap] 22)).alloc (.cells #[.string s] 9)) 25 (.func (.func 33) #[] #[.pointer (some ⟨w1.heap.size + 1, 0, none⟩)])
  have hBW : Below w1.heap.size w1 (((w1.alloc (.cells #[.slice po (pcs s).length cap] 22)).alloc (.cells #[.string s] 9)).alloc (.cells #[.func (.func 33) #[] #[.pointer (some ⟨w1.heap.size + 1, 0, none⟩)]] 25)) := (((Below.refl _ w1).alloc (Nat.le_refl _) _).alloc (by simp) _).alloc (by simp; omega) _
  have hsW : (((w1.alloc (.cells #[.slice po (pcs s).length cap] 22)).alloc (.cells #[.string s] 9)).alloc (.cells #[.func (.func 33) #[] #[.pointer (some ⟨w1.heap.size + 1, 0, none⟩)]] 25)).heap.size = w1.heap.size + 3 := by simp
  simp only [World.size_alloc] at bs bF
  obtain ⟨W0, hW0⟩ : ∃ W0, ((w1.alloc (.cells #[.slice po (pcs s).length cap] 22)).alloc (.cells #[.string s] 9)).alloc (.cells #[.func (.func 33) #[] #[.pointer (some ⟨w1.heap.size + 1, 0, none⟩)]] 25) = W0 := ⟨_, rfl⟩
  rw [hW0] at bV bs bF hBW hsW ⊢
  have HSW := Lib.hid hsW
  clear hW0 hsW
  refine loop_twice (Jr s stop w.heap.size w1.heap.size po (pcs s).length cap W0) ?_ ?_ ?_
  · exact Jr.of [] rfl rfl rfl (by simp) List.nodup_nil (Below.refl _ _)
  · rintro k a' wr hk2 ⟨u, Ds, rfl, hDl, hDs, hDn, hbr⟩
    unfold Fr
    have cV : wr.cell? ⟨w1.heap.size, 0, none⟩ = some (.slice po (pcs s).length cap) := (hbr.cell (p := ⟨w1.heap.size, 0, none⟩) bV.lt).trans bV.cell
    have cF : wr.cell? ⟨w1.heap.size + 1 + 1, 0, none⟩ = some (.func (.func 33) #[] #[.pointer (some ⟨w1.heap.size + 1, 0, none⟩)]) := (hbr.cell (p := ⟨w1.heap.size + 1 + 1, 0, none⟩) bF.lt).trans bF.cell
    have hBr : Below w.heap.size w wr := (hB1.trans (hBW.mono (by omega))).trans (hbr.mono (by have := hBW.size; omega))
    have hszr : w1.heap.size + 3 ≤ wr.heap.size := by have := hbr.size; have := HSW.out; omega
    have hlF : w1.heap.size + 1 + 1 < wr.heap.size := by omega
    have hlV : w1.heap.size < wr.heap.size := by omega
    · have hkb : decide ((k : Int) < 2) = true := by simp; omega
      gi_wp2
      have bN0 := Boxed.new wr 3 (.int .i64 0)
      have hT' : Tabs (wr.alloc (.cells #[.int .i64 0] 3)) := hT.below (hBr.alloc (by have := hBr.size; omega) _) h2
      have hcs : (wr.alloc (.cells #[.int .i64 0] 3)).cell? ⟨w1.heap.size + 1, 0, none⟩ = some (.string s) := (((Below.refl _ wr).alloc (Nat.le_refl _) _).cell (p := ⟨w1.heap.size + 1, 0, none⟩) (by show w1.heap.size + 1 < _; omega)).trans ((hbr.cell (p := ⟨w1.heap.size + 1, 0, none⟩) bs.lt).trans bs.cell)
      refine wpIn_rangeFunc_ownH hro (by omega) (gf := 33) (lb := #[.pointer (some ⟨w1.heap.size + 1, 0, none⟩)]) rfl trivial (enters_of Tryd.func33 (by kernel_rfl) rfl)
        (runes_stops 8 (by omega) (w1.heap.size + 1) wr.heap.size s (by omega) _ hT' (by have := hBr.size; omega) (by simp) (by simp; omega) hcs) KpR.t (KpR.b (by simp)) (Below.refl _ _) (fun _ => rfl)
        (fun pre W => (vals pre <+: pcs s ∧ Boxed W wr.heap.size 3 (.int .i64 pre.length)) ∧ Below wr.heap.size wr W)
        (fun c pre W => c = .ret ∧ ¬ vals pre <+: pcs s)
        (OwnFrom.and (OwnFrom.and (ownFrom_pure _ _) (Own.from (boxed_own _ _ _) _)) (ownFrom_below (Nat.le_refl _) (by simp)))
        (fun c => ownFrom_pure _ _)
        ⟨⟨List.nil_prefix, bN0⟩, (Below.refl _ wr).alloc (Nat.le_refl _) _⟩
        (fun x a' W => a' = { tmps := (List.toArray (.string s :: .int .i64 stop :: undef :: .pointer (some ⟨w.heap.size, 0, none⟩) :: .pointer (some ⟨w.heap.size + 1, 0, none⟩) :: .pointer (some ⟨w1.heap.size, 0, none⟩) :: .pointer (some ⟨w1.heap.size + 1 + 1, 0, none⟩) :: .int .i64 k :: .pointer (some ⟨wr.heap.size, 0, none⟩) :: .int .i64 x.1.1 :: .int .i32 x.1.2 :: u 11 :: u 12 :: u 13 :: undef :: undef :: undef :: undef :: undef :: .string s :: .slice po (pcs s).length cap :: .string s :: .func (.func 33) #[] #[.pointer (some ⟨w1.heap.size + 1, 0, none⟩)] :: .func (.func 33) #[] #[.pointer (some ⟨w1.heap.size + 1, 0, none⟩)] :: .bool false :: .int .i64 k :: .bool true :: u 27 :: u 28 :: .func (.func 33) #[] #[.pointer (some ⟨w1.heap.size + 1, 0, none⟩)] :: .int .i64 x.1.1 :: .int .i32 x.1.2 :: u 32 :: u 33 :: u 34 :: u 35 :: u 36 :: u 37 :: u 38 :: u 39 :: u 40 :: u 41 :: u 42 :: u 43 :: u 44 :: u 45 :: u 46 :: u 47 :: u 48 :: u 49 :: u 50 :: u 51 :: u 52 :: u 53 :: u 54 :: u 55 :: u 56 :: u 57 :: u 58 :: u 59 :: u 60 :: u 61 :: u 62 :: u 63 :: u 64 :: u 65 :: u 66 :: u 67 :: u 68 :: u 69 :: u 70 :: u 71 :: u 72 :: u 73 :: u 74 :: u 75 :: u 76 :: u 77 :: u 78 :: u 79 :: u 80 :: u 81 :: u 82 :: u 83 :: u 84 :: u 85 :: u 86 :: u 87 :: u 88 :: u 89 :: u 90 :: u 91 :: u 92 :: u 93 :: u 94 :: u 95 :: u 96 :: undef :: undef :: undef :: undef :: undef :: undef :: undef :: undef :: undef :: undef :: undef :: undef :: undef :: undef :: undef :: undef :: undef :: undef :: undef :: undef :: undef :: undef :: undef :: undef :: undef :: undef :: undef :: undef :: undef :: undef :: undef :: undef :: undef :: undef :: undef :: undef :: undef :: undef :: undef :: undef :: undef :: undef :: undef :: [])), defers := [] })
        (fun x a' _ X Y row hs hg hr => hs)
        ?assign ?body ?done ?stop
      case assign =>
        rintro l pre x W K hi hK
        gi_wp2
        exact hK _ _ (KeepsFrom.refl _ _) ⟨Below.refl _ _, KeepsWalks.refl _, fun c => c⟩ hi rfl
      case body =>
        rintro l pre x a' W hl ⟨r, hr⟩ ⟨⟨hpre, bN⟩, hB⟩ rfl hlt
        have hN0 : 0 < (pcs s).length := by omega
        obtain ⟨g, hg, rfl⟩ : ∃ g, g < w1.heap.size ∧ po = some ⟨g, 0, none⟩ := by
          obtain ⟨_, ⟨_, h0⟩ | ⟨g, cp, cur, hv, _, hgb, _⟩⟩ := hrow
          · omega
          · exact ⟨g, (Array.getElem?_eq_some_iff.1 hgb).1, by cases hv; rfl⟩
        obtain ⟨y, hy⟩ : ∃ y, (pcs s)[pre.length]? = some y := ⟨_, List.getElem?_eq_getElem hlt⟩
        obtain ⟨c0, c2⟩ := pcells_get s (pcs s) pre.length y hy
        have hBB : Below w1.heap.size w1 W := (hBW.trans (hbr.mono (by have := HSW.out; omega))).trans (hB.mono (by omega))
        have cN := bN.cell
        have fN := bN.frozen
        have cW : W.cell? ⟨w1.heap.size, 0, none⟩ = some (.slice (some ⟨g, 0, none⟩) (pcs s).length cap) := (hB.cell (p := ⟨w1.heap.size, 0, none⟩) hlV).trans cV
        have cS : W.cell? ⟨w.heap.size, 0, none⟩ = some (.int .i64 stop) := (hBB.cell (p := ⟨w.heap.size, 0, none⟩) (by show w.heap.size < _; omega)).trans bS1.cell
        have cR : W.cell? ⟨w.heap.size + 1, 0, none⟩ = some (.bool false) := (hBB.cell (p := ⟨w.heap.size + 1, 0, none⟩) (by show w.heap.size + 1 < _; omega)).trans bR1.cell
        have fR : W.frozen? ⟨w.heap.size + 1, 0, none⟩ = false := (hBB.frozen (p := ⟨w.heap.size + 1, 0, none⟩) (by show w.heap.size + 1 < _; omega)).trans bR1.frozen
        have cF2 : W.cell? ⟨w1.heap.size + 1 + 1, 0, none⟩ = some (.func (.func 33) #[] #[.pointer (some ⟨w1.heap.size + 1, 0, none⟩)]) := (hB.cell (p := ⟨w1.heap.size + 1 + 1, 0, none⟩) hlF).trans cF
        have cY0 : W.cell? ⟨g, pre.length * 3, none⟩ = some (.int .i64 y.1) := (hBB.cell (p := ⟨g, pre.length * 3, none⟩) hg).trans ((hrow.cellAt _ (by omega)).trans c0)
        have cY2 : W.cell? ⟨g, pre.length * 3 + 2, none⟩ = some (.int .i32 y.2) := (hBB.cell (p := ⟨g, pre.length * 3 + 2, none⟩) hg).trans ((hrow.cellAt _ (by omega)).trans c2)
        have HY := Lib.hid hy
        clear hy c0 c2
        have hge : decide (((pcs s).length : Int) ≤ (pre.length : Int)) = false := by simp; omega
        have hgeN : decide ((pcs s).length ≤ pre.length) = false := by simp; omega
        have hyb : y.1 < s.size ∧ y.2 = (pc s y.1).1 := pcs_mem s y (List.mem_of_getElem? HY.out)
        have hxb : x.1.1 < s.size ∧ x.1.2 = (pc s x.1.1).1 := pcs_mem s x.1 x.2
        by_cases hxy : x.1.1 = y.1
        · have exy : x.1 = y := Prod.ext hxy (by rw [hxb.2, hyb.2, hxy])
          subst exy
          have hpx : vals (pre ++ [x]) <+: pcs s := pre_next hpre HY.out
          clear hxy hyb hxb
          by_cases hst : (pre.length : Int) = stop
          · have hsb : ((pre.length : Int) == stop) = true := by rw [beq_iff_eq]; exact hst
            have HST := Lib.hid hst
            clear hst
            have hWw : wr.heap.size < W.heap.size := by have := hB.size; have := bN.lt; omega
            have hlF' : w1.heap.size + 1 + 1 < W.heap.size := by omega
            gi_wp2
            have bM0 := Boxed.new W 3 (.int .i64 0)
            have hTm : Tabs (W.alloc (.cells #[.int .i64 0] 3)) := hT.below ((hBr.trans (hB.mono (by have := hBr.size; omega))).alloc (by have := hBr.size; omega) _) h2
            have hr' : (W.alloc (.cells #[.int .i64 0] 3)).heap[l]? = some (.loop r) := (Below.heap_alloc W _ l (Array.getElem?_eq_some_iff.1 hr).1).trans hr
            have hcm : (W.alloc (.cells #[.int .i64 0] 3)).cell? ⟨w1.heap.size + 1, 0, none⟩ = some (.string s) := (((Below.refl _ W).alloc (Nat.le_refl _) _).cell (p := ⟨w1.heap.size + 1, 0, none⟩) (by show w1.heap.size + 1 < _; omega)).trans ((hB.cell (p := ⟨w1.heap.size + 1, 0, none⟩) (by show w1.heap.size + 1 < _; omega)).trans ((hbr.cell (p := ⟨w1.heap.size + 1, 0, none⟩) bs.lt).trans bs.cell))
            refine wpIn_rangeFunc_ownN (l₀ := l) (r₀ := r) rfl hr' (by omega) (gf := 33) (lb := #[.pointer (some ⟨w1.heap.size + 1, 0, none⟩)]) rfl trivial (enters_of Tryd.func33 (by kernel_rfl) rfl)
              ((runes_stops 6 (by omega) (w1.heap.size + 1) W.heap.size s (by omega) _ hTm (by have := hBr.size; omega) (by simp) (by simp; omega) hcm).inRound l) KpR.t (KpR.b (by simp)) (Below.refl _ _) (fun _ => rfl)
              (fun pre' W' => ((vals pre' <+: pcs s ∧ pre'.length ≤ pre.length) ∧ Boxed W' W.heap.size 3 (.int .i64 pre'.length)) ∧ Below W.heap.size W W')
              (fun c pre' W' => (c = .ret ∧ ¬ vals pre' <+: pcs s) ∨ ((c = .exit 4 ∧ pre'.length = pre.length + 1) ∧ Boxed W' W.heap.size 3 (.int .i64 pre'.length) ∧ Below W.heap.size W W'))
              (OwnFrom.and (OwnFrom.and (ownFrom_pure _ _) (Own.from (boxed_own _ _ _) _)) (ownFrom_below (Nat.le_refl _) (by simp)))
              (fun c pre' X Y row hs hg hrw => hs.imp id (fun h => ⟨h.1, (Own.from (boxed_own W.heap.size 3 (fun (l : List (Pc s)) => Value.int .i64 l.length)) _) pre' X Y row h.2.1 hg hrw, (ownFrom_below (β := Unit) (B := (W.alloc (.cells #[.int .i64 0] 3)).heap.size) (Nat.le_refl _) (by simp)) () X Y row h.2.2 hg hrw⟩))
              ⟨⟨⟨List.nil_prefix, Nat.zero_le _⟩, bM0⟩, (Below.refl _ W).alloc (Nat.le_refl _) _⟩
              (fun z a'' _ => a'' = { tmps := (List.toArray (.string s :: .int .i64 stop :: undef :: .pointer (some ⟨w.heap.size, 0, none⟩) :: .pointer (some ⟨w.heap.size + 1, 0, none⟩) :: .pointer (some ⟨w1.heap.size, 0, none⟩) :: .pointer (some ⟨w1.heap.size + 1 + 1, 0, none⟩) :: .int .i64 k :: .pointer (some ⟨wr.heap.size, 0, none⟩) :: .int .i64 x.1.1 :: .int .i32 x.1.2 :: .pointer (some ⟨W.heap.size, 0, none⟩) :: .int .i64 z.1.1 :: .int .i32 z.1.2 :: undef :: undef :: undef :: undef :: undef :: .string s :: .slice (some ⟨g, 0, none⟩) (pcs s).length cap :: .string s :: .func (.func 33) #[] #[.pointer (some ⟨w1.heap.size + 1, 0, none⟩)] :: .func (.func 33) #[] #[.pointer (some ⟨w1.heap.size + 1, 0, none⟩)] :: .bool false :: .int .i64 k :: .bool true :: u 27 :: u 28 :: .func (.func 33) #[] #[.pointer (some ⟨w1.heap.size + 1, 0, none⟩)] :: .int .i64 x.1.1 :: .int .i32 x.1.2 :: .int .i64 pre.length :: .slice (some ⟨g, 0, none⟩) (pcs s).length cap :: .int .i64 (pcs s).length :: .bool false :: .bool false :: .slice (some ⟨g, 0, none⟩) (pcs s).length cap :: .int .i64 pre.length :: .pointer (some ⟨g, pre.length * 3, none⟩) :: .pointer (some ⟨g, pre.length * 3, none⟩) :: .int .i64 x.1.1 :: .int .i64 x.1.1 :: .bool false :: .bool false :: .bool false :: .slice (some ⟨g, 0, none⟩) (pcs s).length cap :: .int .i64 pre.length :: .pointer (some ⟨g, pre.length * 3, none⟩) :: .pointer (some ⟨g, pre.length * 3 + 2, none⟩) :: .int .i32 x.1.2 :: .int .i32 x.1.2 :: .bool false :: .bool false :: .int .i64 pre.length :: .int .i64 stop :: .bool true :: .func (.func 33) #[] #[.pointer (some ⟨w1.heap.size + 1, 0, none⟩)] :: .int .i64 z.1.1 :: .int .i32 z.1.2 :: u 60 :: u 61 :: u 62 :: u 63 :: u 64 :: u 65 :: u 66 :: u 67 :: u 68 :: u 69 :: u 70 :: u 71 :: u 72 :: u 73 :: u 74 :: u 75 :: u 76 :: u 77 :: u 78 :: u 79 :: u 80 :: u 81 :: u 82 :: u 83 :: u 84 :: u 85 :: u 86 :: u 87 :: u 88 :: u 89 :: u 90 :: u 91 :: u 92 :: u 93 :: u 94 :: u 95 :: u 96 :: undef :: undef :: undef :: undef :: undef :: undef :: undef :: undef :: undef :: undef :: undef :: undef :: undef :: undef :: undef :: undef :: undef :: undef :: undef :: undef :: undef :: undef :: undef :: undef :: undef :: undef :: undef :: undef :: undef :: undef :: undef :: undef :: undef :: undef :: undef :: undef :: undef :: undef :: undef :: undef :: undef :: undef :: undef :: [])), defers := [] })
              (fun _ _ _ _ _ _ hs _ _ => hs)
              ?assign2 ?body2 ?done2 ?stop2
            case assign2 =>
              rintro l2 pre' z W' K hi hK
              gi_wp2
              exact hK _ _ (KeepsFrom.refl _ _) ⟨Below.refl _ _, KeepsWalks.refl _, fun c => c⟩ hi rfl
            case body2 =>
              rintro l2 pre' z a'' W' _ _ ⟨⟨⟨hpre', hle⟩, bM⟩, hB'⟩ rfl hlt'
              obtain ⟨y, hy⟩ : ∃ y, (pcs s)[pre'.length]? = some y := ⟨_, List.getElem?_eq_getElem hlt'⟩
              obtain ⟨c0, c2⟩ := pcells_get s (pcs s) pre'.length y hy
              have cM := bM.cell
              have fM := bM.frozen
              have cW' : W'.cell? ⟨w1.heap.size, 0, none⟩ = some (.slice (some ⟨g, 0, none⟩) (pcs s).length cap) := (hB'.cell (p := ⟨w1.heap.size, 0, none⟩) (by show w1.heap.size < _; omega)).trans cW
              have cS' : W'.cell? ⟨w.heap.size, 0, none⟩ = some (.int .i64 stop) := (hB'.cell (p := ⟨w.heap.size, 0, none⟩) (by show w.heap.size < _; omega)).trans cS
              have cR' : W'.cell? ⟨w.heap.size + 1, 0, none⟩ = some (.bool false) := (hB'.cell (p := ⟨w.heap.size + 1, 0, none⟩) (by show w.heap.size + 1 < _; omega)).trans cR
              have fR' : W'.frozen? ⟨w.heap.size + 1, 0, none⟩ = false := (hB'.frozen (p := ⟨w.heap.size + 1, 0, none⟩) (by show w.heap.size + 1 < _; omega)).trans fR
              have hBB' : Below w1.heap.size w1 W' := hBB.trans (hB'.mono (by omega))
              have cY0' : W'.cell? ⟨g, pre'.length * 3, none⟩ = some (.int .i64 y.1) := (hBB'.cell (p := ⟨g, pre'.length * 3, none⟩) hg).trans ((hrow.cellAt _ (by omega)).trans c0)
              have cY2' : W'.cell? ⟨g, pre'.length * 3 + 2, none⟩ = some (.int .i32 y.2) := (hBB'.cell (p := ⟨g, pre'.length * 3 + 2, none⟩) hg).trans ((hrow.cellAt _ (by omega)).trans c2)
              have HY' := Lib.hid hy
              clear hy c0 c2 cW cS cR fR cY0 cY2
              have hge' : decide (((pcs s).length : Int) ≤ (pre'.length : Int)) = false := by simp; omega
              have hgeN' : decide ((pcs s).length ≤ pre'.length) = false := by simp; omega
              have hyb : y.1 < s.size ∧ y.2 = (pc s y.1).1 := pcs_mem s y (List.mem_of_getElem? HY'.out)
              have hzb : z.1.1 < s.size ∧ z.1.2 = (pc s z.1.1).1 := pcs_mem s z.1 z.2
              have hs1 : stop ≤ (pre.length : Int) := by have := HST.out; omega
              have hs2 : (pre.length : Int) ≤ stop := by have := HST.out; omega
              by_cases hzy : z.1.1 = y.1
              · have ezy : z.1 = y := Prod.ext hzy (by rw [hzb.2, hyb.2, hzy])
                subst ezy
                have hpz : vals (pre' ++ [z]) <+: pcs s := pre_next hpre' HY'.out
                clear hzy hyb hzb
                by_cases heq : pre'.length = pre.length
                · have g1 : stop < (pre'.length : Int) + 1 := by omega
                  have HEQ := Lib.hid heq
                  clear heq
                  gi_wp2
                  refine ⟨(KeepsOthers.setCell _ _ _).from _, .inr ⟨⟨rfl, by simp; exact HEQ.out⟩, ?_, hB'.setCell (p := ⟨W.heap.size, 0, none⟩) (Nat.le_refl _) _⟩⟩
                  have := bM.set (.int .i64 ((pre'.length : Int) + 1))
                  simpa using this
                · have g1 : (pre'.length : Int) + 1 ≤ stop := by omega
                  gi_wp2
                  refine ⟨(KeepsOthers.setCell _ _ _).from _, ⟨(Below.refl _ W').setCell (p := ⟨W.heap.size, 0, none⟩) (Nat.le_refl _) _, KeepsWalks.setCell _ _ _, fun c => (World.cell?_setCell_other _ _ _ _ (by simp <;> omega)).trans c⟩, ⟨⟨hpz, by simp; omega⟩, ?_⟩, hB'.setCell (p := ⟨W.heap.size, 0, none⟩) (Nat.le_refl _) _⟩
                  have := bM.set (.int .i64 ((pre'.length : Int) + 1))
                  simpa using this
              · have hne : ((y.1 : Int) != (z.1.1 : Int)) = true := by rw [bne_iff_ne]; omega
                gi_wp2
                refine ⟨(KeepsOthers.setCell _ _ _).from _, .inl ⟨rfl, fun h => hzy ?_⟩⟩
                have := next_pre h
                rw [HY'.out] at this
                cases this; rfl
            case done2 =>
              rintro zs W' hzs ⟨⟨⟨_, hle⟩, _⟩, _⟩
              have : zs.length = (pcs s).length := by rw [← vals_length, hzs]
              omega
            case stop2 =>
              rintro c pre' W' hpre' (⟨_, hno⟩ | ⟨⟨rfl, hlen⟩, bM, hB'⟩)
              · exact absurd hpre' hno
              · have bN' : Boxed W' wr.heap.size 3 (.int .i64 pre.length) := (hB'.block _ hWw).trans bN
                have cM := bM.cell
                have cN' := bN'.cell
                have fN' := bN'.frozen
                have cS' : W'.cell? ⟨w.heap.size, 0, none⟩ = some (.int .i64 stop) := (hB'.cell (p := ⟨w.heap.size, 0, none⟩) (by show w.heap.size < _; omega)).trans cS
                clear cW cS cR fR cY0 cY2 cN fN
                have hs1 : stop ≤ (pre.length : Int) := by have := HST.out; omega
                have hs2 : (pre.length : Int) ≤ stop := by have := HST.out; omega
                have hnb : ((pre'.length : Int) != stop + 1) = false := by rw [bne_eq_false_iff_eq]; omega
                have HL := Lib.hid hlen
                clear hlen
                gi_wp2
                have hsz' := hB'.size
                refine ⟨?_, ⟨((hB'.mono (B' := wr.heap.size) (by omega)).setCell (p := ⟨wr.heap.size, 0, none⟩) (Nat.le_refl _) _), ?_, fun c => (World.cell?_setCell_other _ _ _ _ (by simp <;> omega)).trans ((hB'.cell (p := ⟨w1.heap.size + 1, 0, none⟩) (by show w1.heap.size + 1 < _; omega)).trans c)⟩, ⟨hpx, ?_⟩, (hB.trans (hB'.mono (B' := wr.heap.size) (by omega))).setCell (p := ⟨wr.heap.size, 0, none⟩) (Nat.le_refl _) _⟩
                · exact (keepsOthers_below hB').from _ |>.trans ((KeepsOthers.setCell _ _ _).from _)
                · exact (keepsOthers_below hB').walks.trans (KeepsWalks.setCell _ _ _)
                · have := bN'.set (.int .i64 ((pre.length : Int) + 1))
                  simpa using this
          · have hsb : ((pre.length : Int) == stop) = false := by rw [beq_eq_false_iff_ne]; exact hst
            gi_wp2
            refine ⟨(KeepsOthers.setCell _ _ _).from _, ⟨(Below.refl _ W).setCell (p := ⟨wr.heap.size, 0, none⟩) (Nat.le_refl _) _, KeepsWalks.setCell _ _ _, fun c => (World.cell?_setCell_other _ _ _ _ (by simp <;> omega)).trans c⟩, ⟨hpx, ?_⟩, hB.setCell (p := ⟨wr.heap.size, 0, none⟩) (Nat.le_refl _) _⟩
            have := bN.set (.int .i64 ((pre.length : Int) + 1))
            simpa using this
        · have hne : ((y.1 : Int) != (x.1.1 : Int)) = true := by rw [bne_iff_ne]; omega
          gi_wp2
          refine ⟨(KeepsOthers.setCell _ _ _).from _, rfl, fun h => hxy ?_⟩
          have := next_pre h
          rw [HY.out] at this
          cases this; rfl
      case done =>
        rintro D xs W hD hxs ⟨⟨_, bN⟩, hB⟩ hK
        have hlen : xs.length = (pcs s).length := by rw [← vals_length, hxs]
        have cN := bN.cell
        have cW : W.cell? ⟨w1.heap.size, 0, none⟩ = some (.slice po (pcs s).length cap) := (hB.cell (p := ⟨w1.heap.size, 0, none⟩) hlV).trans cV
        have hnb : ((xs.length : Int) != ((pcs s).length : Int)) = false := by rw [bne_eq_false_iff_eq]; omega
        have HL := Lib.hid hlen
        have HK := Lib.hid hK
        have HDL := Lib.hid hDl
        clear hlen hK hDl
        gi_wp2
        have hDw : D < W.heap.size := (Array.getElem?_eq_some_iff.1 HK.out).1
        simp only [World.size_alloc] at hD
        have hW0r := hbr.size
        refine Jr.of (D :: Ds) rfl rfl (by simp [HDL.out]) ?_ ?_ (hbr.trans (hB.mono hW0r))
        · intro D' hD'
          rcases List.mem_cons.1 hD' with rfl | hD'
          · exact ⟨by omega, HK.out⟩
          · exact ⟨(hDs D' hD').1, (hB.block _ (Array.getElem?_eq_some_iff.1 (hDs D' hD').2).1).trans (hDs D' hD').2⟩
        · refine List.nodup_cons.2 ⟨fun h => ?_, hDn⟩
          have := (Array.getElem?_eq_some_iff.1 (hDs D h).2).1
          omega
      case stop =>
        rintro D c pre W hD hpre ⟨_, hno⟩ _
        exact absurd hpre hno
  · rintro a' wz ⟨u, Ds, rfl, hDl, hDs, hDn, hbr⟩
    unfold Fr
    obtain ⟨D1, D2, rfl⟩ : ∃ D1 D2, Ds = [D1, D2] := by
      match Ds, hDl with
      | [D1, D2], _ => exact ⟨D1, D2, rfl⟩
    have hW0 : w1.heap.size + 3 ≤ wz.heap.size := by have := hbr.size; have := HSW.out; omega
    have hBr : Below w.heap.size w wz := (hB1.trans (hBW.mono (by omega))).trans (hbr.mono (by have := hBW.size; omega))
    have hcR : Boxed wz (w.heap.size + 1) 4 (.bool false) := (hbr.block _ (by have := HSW.out; omega)).trans ((hBW.block _ (by omega)).trans bR1)
    have hD1 := hDs D1 (by simp)
    have hD2 := hDs D2 (by simp)
    have hD12 : D1 ≠ D2 := by simpa using hDn
    clear hDs hDn hDl
    obtain ⟨xs, hxs⟩ : ∃ xs, brksOf (pcs s) = xs := ⟨_, rfl⟩
    have hxl : xs.length ≤ 1048576 := by rw [← hxs]; have := brksOf_length (pcs s); omega
    have hx0 : ∀ x ∈ xs, 0 ≤ x := by
      rw [← hxs]; unfold brksOf; intro x hx
      obtain ⟨y, _, rfl⟩ := List.mem_map.1 hx
      omega
    have h1r := refBreaks_in s hs wz
    rw [hxs] at h1r
    gi_wp2_with fail
    refine (callsIn_wide.2 h1r).mono ?_
    rintro e w2 ⟨v1, rfl, r1, hb2⟩
    have hB2 : Below w.heap.size w w2 := hBr.trans (hb2.mono hBr.size)
    have h2r := callsIn_wide.1 (Breaks_in s hs w2 (hT.below hB2 h2) (by have := hB2.size; omega))
    rw [hxs] at h2r
    gi_wp2_with fail
    refine (callsIn_wide.2 h2r).mono ?_
    rintro e w3 ⟨va, rfl, ra, hb3⟩
    have hB3 : Below w.heap.size w w3 := hB2.trans (hb3.mono hB2.size)
    have h3r := callsIn_wide.1 (Breaks_in s hs w3 (hT.below hB3 h2) (by have := hB3.size; omega))
    rw [hxs] at h3r
    gi_wp2_with fail
    refine (callsIn_wide.2 h3r).mono ?_
    rintro e w4 ⟨vb, rfl, rb, hb4⟩
    have ra4 : IntsRow w2.heap.size w4 va xs := row_none ra (below_grown hb4)
    have r14 : IntsRow wz.heap.size w4 v1 xs := row_none (row_none r1 (below_grown hb3)) (below_grown hb4)
    clear h1r h2r h3r
    gi_wp2_with fail
    refine (callsIn_wide.2 (sameInts_in _ _ _ _ _ hxl _ ra4 r14)).mono ?_
    rintro e w5 ⟨rfl, n5, rfl⟩
    have rb5 : IntsRow w3.heap.size (w4.drewN n5) vb xs := row_none rb ⟨rfl, rfl, rfl, Nat.le_refl _, fun _ _ _ => rfl⟩
    have r15 : IntsRow wz.heap.size (w4.drewN n5) v1 xs := row_none r14 ⟨rfl, rfl, rfl, Nat.le_refl _, fun _ _ _ => rfl⟩
    obtain ⟨pa, ca, rfl⟩ := row_shape ra
    gi_wp2_with fail
    refine (callsIn_wide.2 (sameInts_in _ _ _ _ _ hxl _ rb5 r15)).mono ?_
    rintro e w6 ⟨rfl, n6, rfl⟩
    obtain ⟨X, hX⟩ : ∃ X, (w4.drewN n5).drewN n6 = X := ⟨_, rfl⟩
    have g6 : (w4.drewN n5).grownBy X none := by rw [← hX]; exact ⟨rfl, rfl, rfl, Nat.le_refl _, fun _ _ _ => rfl⟩
    have g5 : w4.grownBy (w4.drewN n5) none := ⟨rfl, rfl, rfl, Nat.le_refl _, fun _ _ _ => rfl⟩
    have raX : X.ownsRow w2.heap.size 3 1 (.slice pa xs.length ca) xs.length (xs.map (Value.int .i64)) := row_none (row_none ra4 g5) g6
    have rbX : IntsRow w3.heap.size X vb xs := row_none rb5 g6
    have r1X : IntsRow wz.heap.size X v1 xs := row_none r15 g6
    have hB4 : Below w3.heap.size w3 X := by rw [← hX]; exact below_drewN (below_drewN hb4 _) _
    rw [hX]
    have hpa : ∀ ga, pa = some ga → ga.block < w3.heap.size ∧ w2.heap.size ≤ ga.block := fun ga h => by
      have := World.ownsRow.lt ra ga.block (by rw [h]; rfl); omega
    have hpb : ∀ gb, vb.ownBlock = some gb → w3.heap.size ≤ gb := fun gb h => (World.ownsRow.lt rb gb h).1
    have hX4 : w3.heap.size ≤ X.heap.size := hB4.size
    have hp1 : ∀ g1, v1.ownBlock = some g1 → g1 < w2.heap.size := fun g1 h => (World.ownsRow.lt r1 g1 h).2
    obtain ⟨p1, c1, rfl⟩ := row_shape r1X
    obtain ⟨pb, cb, rfl⟩ := row_shape rbX
    have hw2 : wz.heap.size ≤ w2.heap.size := hb2.size
    have hw3 : w2.heap.size ≤ w3.heap.size := hb3.size
    have hBX : Below wz.heap.size wz X := (hb2.trans (hb3.mono hw2)).trans (hB4.mono (by omega))
    clear hX g5 g6 ra4 r14 rb5 r15 r1 ra rb hb2 hb3 hb4 hB2 hB3 hB4
    gi_wp2
    gi_loopw [17] (fun i wx => ∃ j : Nat, j ≤ xs.length ∧ i = .int .i64 j ∧ wx.ownsRow w2.heap.size 3 1 (.slice pa xs.length ca) xs.length ((List.replicate j (-9) ++ xs.drop j).map (Value.int .i64)) ∧ IntsRow w3.heap.size wx (.slice pb xs.length cb) xs ∧ Below w2.heap.size X wx) (fun i _ => xs.length - (RowKit.intOf i).toNat)
    case atStart => exact ⟨0, Nat.zero_le _, rfl, by simpa using raX, rbX, Below.refl _ _⟩
    case round =>
      obtain ⟨j, hj, rfl, hrj, hbj, hbx⟩ := hrel
      by_cases hjl : j < xs.length
      · obtain ⟨g, hgg⟩ : ∃ g, pa = some ⟨g, 0, none⟩ := by
          obtain ⟨_, ⟨_, h0⟩ | ⟨g, cp, cur, hv, _⟩⟩ := hrj
          · omega
          · exact ⟨g, by cases hv; rfl⟩
        subst hgg
        have hgl : g < w3.heap.size ∧ w2.heap.size ≤ g := hpa _ rfl
        have hcg : wr.cell? ⟨g, j, none⟩ = some (.int .i64 (xs[j])) := by
          rw [hrj.cellAt j (by omega), List.getElem?_map, List.getElem?_append_right (by simp), List.length_replicate, Nat.sub_self, List.getElem?_drop]
          simp [hjl]
        have hfg := hrj.frozenAt j
        obtain ⟨hst1, hst2⟩ := hrj.stored j (.int .i64 (-9))
        have hbj2 : IntsRow w3.heap.size (wr.setCell ⟨g, j, none⟩ (.int .i64 (-9))) (.slice pb xs.length cb) xs := World.ownsRow.kept hbj hst2 (by
          cases hvb : (Value.slice pb xs.length cb).ownBlock with
          | none => exact .inl rfl
          | some gb => exact .inr (fun e => by have := hpb gb hvb; simp at e; omega))
        have hl2 : ((List.replicate j (-9) ++ xs.drop j).map (Value.int .i64)).set j (.int .i64 (-9)) = (List.replicate (j + 1) (-9) ++ xs.drop (j + 1)).map (Value.int .i64) := set_run xs j hjl
        have HL2 := Lib.hid hl2
        have HS1 := Lib.hid hst1
        clear hl2 hst1
        gi_wp2
        go_roundw
        case rel => exact ⟨j + 1, by omega, by go_num, HL2.out ▸ HS1.out, hbj2, hbx.setCell (p := ⟨g, j, none⟩) hgl.2 _⟩
        case measure => simp [RowKit.intOf]; omega
      · obtain rfl : j = xs.length := by omega
        rw [List.drop_length, List.append_nil] at hrj
        obtain ⟨i0, hi, hz0, hz1, hz2⟩ := info_parts infoInt
        obtain ⟨Y, rfl⟩ : ∃ Y, Y = wr := ⟨_, rfl⟩
        have hXY := hbx.size
        gi_wp2
        gi_loopw [15, 18] (fun v i wr => ∃ j : Nat, j ≤ 20 ∧ i = .int .i64 j ∧ wr.ownsRow w2.heap.size 3 1 v (xs.length + j) ((List.replicate (xs.length + j) (-9)).map (Value.int .i64)) ∧ (0 < xs.length → IntsRow w3.heap.size wr (.slice pb xs.length cb) xs) ∧ Below w2.heap.size X wr) (fun _ i _ => 20 - (RowKit.intOf i).toNat)
        case atStart => exact ⟨0, by omega, rfl, hrj, fun _ => hbj, hbx⟩
        case round =>
          obtain ⟨j, hj, rfl, hrk, hbk, hbz⟩ := hrel
          have hsz := hbz.size
          have hszX : w2.heap.size ≤ X.heap.size := by omega
          by_cases hj2 : j < 20
          · gi_wp2_with (gi_at_builtin; refine wpListIn_append_own _ rfl _ _ 29 rfl w2.heap.size 3 i0 (.int .i64 0) 1 8 Tryd.underlying29 hi hz0 hz1 hz2 rfl (by decide) _ _ _ rfl (hrk.alloc _) ⟨wr.heap.size, 0, none⟩ 1 1 [.int .i64 (-9)] rfl rfl (cell1_new _ _ _) (by simp [Value.oneCell']) (by unfold maxLen; omega) (by omega) (by simp; omega) ?_; intro v' w7 hown' hgrow _)
            gi_wp2
            go_roundw
            case rel =>
              refine ⟨j + 1, by omega, by go_num, ?_, ?_, ?_⟩
              · rw [show xs.length + (j + 1) = xs.length + j + 1 from rfl, List.replicate_succ', List.map_append]
                exact hown'
              · intro h0
                exact World.ownsRow.kept (World.ownsRow.alloc (hbk h0) _) hgrow (rows_apart (w := wr) hrk (hbk h0) h0 hx0 (by omega))
              · exact (hbz.alloc (by omega) _).grown hgrow (by simp; omega) (fun k hk => (hrk.lt k hk).1)
            case measure => simp [RowKit.intOf]; omega
          · obtain rfl : j = 20 := by omega
            obtain ⟨pv, cv, rfl⟩ := row_shape hrk
            have hBz : Below wz.heap.size wz wr := hBX.trans (hbz.mono hw2)
            have r1z : IntsRow wz.heap.size wr (.slice p1 xs.length c1) xs := row_below r1X hbz hp1
            have bRz : Boxed wr (w.heap.size + 1) 4 (.bool false) := (hBz.block _ (by have := hcR.lt; omega)).trans hcR
            have cRz := bRz.cell
            have fRz := bRz.frozen
            have k1 : wr.heap[D1]? = some (.deferred (some [])) := (hBz.block _ (Array.getElem?_eq_some_iff.1 hD1.2).1).trans hD1.2
            have k2 : wr.heap[D2]? = some (.deferred (some [])) := (hBz.block _ (Array.getElem?_eq_some_iff.1 hD2.2).1).trans hD2.2
            have K1 := Lib.hid k1
            have K2 := Lib.hid k2
            clear k1 k2
            have hll : (((xs.length + 20 : Nat) : Int) == (xs.length : Int) + 20) = true := by rw [beq_iff_eq]; omega
            gi_wp2_with fail
            refine (callsIn_wide.2 (sameInts_or _ _ xs pb p1 cb c1 hxl _ hbk r1z)).mono ?_
            rintro e w8 ⟨rfl, n8, rfl⟩
            gi_wp2
            have hBf : Below w.heap.size w ((wr.drewN n8).setCell ⟨w.heap.size + 1, 0, none⟩ (.bool true)) := (below_drewN (hBr.trans (hBz.mono hBr.size)) n8).setCell (p := ⟨w.heap.size + 1, 0, none⟩) (by simp) _
            have hcf : Boxed ((wr.drewN n8).setCell ⟨w.heap.size + 1, 0, none⟩ (.bool true)) (w.heap.size + 1) 4 (.bool true) := Boxed.set (W := wr.drewN n8) _ bRz
            have kf1 : ((wr.drewN n8).setCell ⟨w.heap.size + 1, 0, none⟩ (.bool true)).heap[D1]? = some (.deferred (some [])) := (KeepsOthers.setCell (wr.drewN n8) ⟨w.heap.size + 1, 0, none⟩ (.bool true)).same D1 _ K1.out rfl
            have kf2 : ((wr.drewN n8).setCell ⟨w.heap.size + 1, 0, none⟩ (.bool true)).heap[D2]? = some (.deferred (some [])) := (KeepsOthers.setCell (wr.drewN n8) ⟨w.heap.size + 1, 0, none⟩ (.bool true)).same D2 _ K2.out rfl
            obtain ⟨V, hV⟩ : ∃ V, (wr.drewN n8).setCell ⟨w.heap.size + 1, 0, none⟩ (.bool true) = V := ⟨_, rfl⟩
            rw [hV] at hBf hcf kf1 kf2 ⊢
            clear hV
            have kg2 : (V.putObj D1 (.deferred none)).heap[D2]? = some (.deferred (some [])) := (World.putObj_heap_other (Ne.symm hD12)).trans kf2
            refine ⟨by simp, .inl ⟨_, _, rfl, run_takeDeferred kf1, ?_⟩⟩
            refine ⟨by simp, .inl ⟨_, _, rfl, run_takeDeferred kg2, ?_⟩⟩
            have hc1 := cell_kept hcf.cell (grownBy_putObj' _ D1 (.deferred none)) (fun r e => by cases e; exact ⟨_, kf1, rfl⟩)
            have hc2 := cell_kept hc1 (grownBy_putObj' _ D2 (.deferred none)) (fun r e => by cases e; exact ⟨_, kg2, rfl⟩)
            have hb0 : w.heap.size ≤ D1 ∧ w.heap.size ≤ D2 := by
              have := hB1.size; have := hBW.size; omega
            refine ⟨.bool true, ?_, rfl, (hBf.trans (belowK_b (w := w) (Nat.le_refl _) _ D1 _ _ hb0.1 kf1 rfl rfl)).trans (belowK_b (w := w) (Nat.le_refl _) _ D2 _ _ hb0.2 kg2 rfl rfl)⟩
            simp [results, Tryd.f3, go_sem, hc2]
end Go.Proofs.YtaflofhgmjaidaaDoor.T
