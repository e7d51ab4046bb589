/-
  kinds.Long of a Code, a Wrap and a Veil.
-/
import Derived.Test.YtpemfnhplkjndaaGreatDoorMkMake
set_option linter.unusedVariables false
namespace Go.Proofs.YtpemfnhplkjndaaGreatDoor.T
open Go Go.Lib Go.RowKit
attribute [local go_sem] run_store_float

theorem decimal_in (i : Nat) (hi : i < 100) (w : World) : Calls Tryz.prog 93 #[.int .i16 i] w fun e w' => e = .returned (.string ⟨(Lib.decDigits i).toArray⟩) ∧ w' = w := by
  go_enter Tryz.func93, Tryz.ntmps93
  go_wp2_with (go_at_call 103; refine (Go.Proofs.Tryz.strconv_Itoa_small i hi _).mono ?_; rintro e w1 ⟨rfl, rfl⟩)
  go_ret
  exact ⟨rfl, rfl⟩
theorem digs_le (i : Nat) (hi : i < 100) : (Lib.decDigits i).length ≤ 2 := by
  revert i; decide +kernel
/-- a Code's text -/
def codeB (i : Nat) : ByteArray := ⟨#[99, 111, 100, 101, 32]⟩ ++ ⟨(Lib.decDigits i).toArray⟩
theorem codeB_size (i : Nat) (hi : i < 100) : (codeB i).size ≤ 7 := by
  have := digs_le i hi
  unfold codeB
  rw [ByteArray.size_append]
  show 5 + (Lib.decDigits i).toArray.size ≤ 7
  simp; omega
theorem codeText_in (i : Nat) (hi : i < 100) (w : World) : Calls Tryz.prog 82 #[.int .i16 i] w fun e w' => e = .returned (.string (codeB i)) ∧ w' = w := by
  have hd := digs_le i hi
  go_enter Tryz.func82, Tryz.ntmps82
  go_wp2_with (go_at_call 93; refine (decimal_in i hi _).mono ?_; rintro e w1 ⟨rfl, rfl⟩)
  go_ret
  exact ⟨rfl, rfl⟩
theorem sum_one (b o y : Nat) (l : Nat) (hl : l ≤ 65536) (w : World) (hc : w.cell? ⟨b, o, none⟩ = some (.int .i64 l)) : Calls Tryz.prog 76 #[.slice (some ⟨b, o, none⟩) 1 y] w fun e w' => e = .returned (.int .i64 l) ∧ w' = w := by
  go_enter Tryz.func76, Tryz.ntmps76
  go_wp2
  refine wp_loop_rounds 2 ?_
  rw [rounds_succ]
  go_wp2
  rw [rounds_succ]
  go_wp2
  go_ret
  exact ⟨rfl, rfl⟩
theorem causeLong_one (b o y : Nat) (l : Nat) (hl : l ≤ 65536) (w : World) (hc : w.cell? ⟨b, o, none⟩ = some (.int .i64 l)) : Calls Tryz.prog 75 #[.slice (some ⟨b, o, none⟩) 1 y] w fun e w' => e = .returned (.int .i64 ((2 + l : Nat) : Int)) ∧ w' = w := by
  go_enter Tryz.func75, Tryz.ntmps75
  go_wp2_with (go_at_call 76; refine (sum_one b o y l hl _ hc).mono ?_; rintro e w1 ⟨rfl, rfl⟩)
  go_ret
  exact ⟨by simp, rfl⟩
set_option maxRecDepth 100000 in
theorem counting_nil (k : Int) (t : ByteArray) (n : Int) (p q : Option Addr) (c d m : Nat) (x : Value) (w : World) : Calls Tryz.prog 74 #[spV k t n (.slice p m c) (.slice q 0 d), x] w fun e w' => e = .returned (.slice none 0 0) ∧ Below w.heap.size w w' := by
  unfold spV
  go_enter Tryz.func74, Tryz.ntmps74
  go_wp2
  refine wp_loop_rounds 1 ?_
  rw [rounds_succ]
  go_wp2
  go_ret
  exact ⟨rfl, (Below.refl _ _).alloc (Nat.le_refl _) _⟩
set_option maxRecDepth 100000 in
theorem ownText_code (i : Nat) (hi : i < 100) (p q : Option Addr) (c d m k : Nat) (w : World) : Calls Tryz.prog 77 #[spV 1 ⟨#[]⟩ i (.slice p m c) (.slice q k d)] w fun e w' => e = .returned (.string (codeB i)) ∧ Below w.heap.size w w' := by
  unfold spV
  go_enter Tryz.func77, Tryz.ntmps77
  go_wp2_with (go_at_call 82; refine (codeText_in i hi _).mono ?_; rintro e w1 ⟨rfl, rfl⟩)
  go_ret
  exact ⟨rfl, (Below.refl _ _).alloc (Nat.le_refl _) _⟩
set_option maxRecDepth 100000 in
set_option maxHeartbeats 1000000 in
theorem long_code (i : Nat) (hi : i < 100) (p q : Option Addr) (c d : Nat) (x : Value) (w : World) : Calls Tryz.prog 58 #[spV 1 ⟨#[]⟩ i (.slice p 0 c) (.slice q 0 d), x] w fun e w' => e = .returned (.int .i64 ((codeB i).size : Nat)) ∧ Below w.heap.size w w' := by
  have hs := codeB_size i hi
  have cK := fun W => check_code i p q c d W
  have cC := fun W => counting_nil 1 ⟨#[]⟩ i p q c d 0 x W
  have cO := fun W => ownText_code i hi p q c d 0 0 W
  have KK := Lib.hid cK; have KC := Lib.hid cC; have KO := Lib.hid cO
  clear cK cC cO
  unfold spV at *
  go_enter Tryz.func58, Tryz.ntmps58
  go_wp2_with fail
  refine (KK.out _).mono ?_
  rintro e w1 ⟨rfl, hb1⟩
  obtain ⟨g0, g1, g2, g3, g4, g5, g6, g7, g8, g9, g10⟩ := box11 hb1
  go_wp2_with fail
  refine (KC.out _).mono ?_
  rintro e w2 ⟨rfl, hb2⟩
  have hb3 := more hb1 hb2
  obtain ⟨h0, h1, h2, h3, h4, h5, h6, h7, h8, h9, h10⟩ := box11 hb3
  clear g0 g1 g2 g3 g4 g5 g6 g7 g8 g9 g10
  go_wp2_with fail
  refine (KO.out _).mono ?_
  rintro e w3 ⟨rfl, hb4⟩
  go_wp2
  go_ret
  exact ⟨rfl, ((Below.refl _ _).alloc (Nat.le_refl _) _).trans ((more hb3 hb4).mono (by simp))⟩
theorem info_parts {t : TypeId} {z : Value} {n b : Nat} (h : (Tryz.prog.info? t).map (fun i => (i.zero, i.size, i.bytes)) = some (some z, n, b)) : ∃ i, Tryz.prog.info? t = some i ∧ i.zero = some z ∧ i.size = n ∧ i.bytes = b := by
  obtain ⟨i, hi, h⟩ := Option.map_eq_some_iff.1 h
  simp at h
  exact ⟨i, hi, h.1, h.2.1, h.2.2⟩
theorem infoInt : (Tryz.prog.info? 3).map (fun i => (i.zero, i.size, i.bytes)) = some (some (.int .i64 0), 1, 8) := by kernel_rfl
theorem infoErr : (Tryz.prog.info? 23).map (fun i => (i.zero, i.size, i.bytes)) = some (some .nilIface, 1, 16) := by kernel_rfl
theorem cell1_new (W : World) (a : Value) (t : TypeId) : ∀ j u, [a][j]? = some u → (W.alloc (.cells #[a] t)).cell? ((⟨W.heap.size, 0, none⟩ : Addr).add j) = some u := by
  intro j u hj
  have : ((⟨W.heap.size, 0, none⟩ : Addr).add j) = ⟨W.heap.size, j, none⟩ := by unfold Addr.add; split <;> simp_all
  rw [this, World.cell?_alloc_at _ _ _ _ rfl]
  simpa using hj
theorem grown_below {w w' : World} {B : Nat} {row : Option Nat} (hg : w.grownBy w' row) (hB : B ≤ w.heap.size) (hr : ∀ k, row = some k → B ≤ k) : Below B w w' := (Below.refl B w).grown hg hB hr
theorem cell1_in (W : World) (a : Value) (t : TypeId) (N : Nat) (hN : N = W.heap.size) : ∀ j u, [a][j]? = some u → (W.alloc (.cells #[a] t)).cell? ((⟨N, 0, none⟩ : Addr).add j) = some u := hN ▸ cell1_new W a t
/-- a row of one -/
theorem row_one {w : World} {B : Nat} {e : TypeId} {v x : Value} (h : w.ownsRow B e 1 v 1 [x]) : ∃ g c, v = .slice (some ⟨g, 0, none⟩) 1 c ∧ B ≤ g ∧ 1 ≤ c ∧ w.cell? ⟨g, 0, none⟩ = some x := by
  have h' := h
  obtain ⟨_, ⟨_, h0⟩ | ⟨g, cap, cur, rfl, hg, hg1, h3, h4, _⟩⟩ := h
  · simp at h0
  · refine ⟨g, cap, rfl, hg, h3, ?_⟩
    have := h'.cells (g := g) rfl 0 x rfl
    simpa [Addr.add] using this
set_option maxRecDepth 100000 in
set_option maxHeartbeats 1000000 in
theorem counting_one (k : Int) (t : ByteArray) (n : Int) (p : Option Addr) (c d m : Nat) (pb po : Nat) (h : Nat) (hh : h ≠ 0) (b o y l : Nat) (hl : l ≤ 65536) (w : World) (hp : w.cell? ⟨pb, po, none⟩ = some (.int .i64 h)) (hc : w.cell? ⟨b, o, none⟩ = some (.int .i64 l)) :
    Calls Tryz.prog 74 #[spV k t n (.slice p m c) (.slice (some ⟨pb, po, none⟩) 1 d), .slice (some ⟨b, o, none⟩) 1 y] w fun e w' => ∃ g z, e = .returned (.slice (some ⟨g, 0, none⟩) 1 z) ∧ w'.cell? ⟨g, 0, none⟩ = some (.int .i64 l) ∧ Below w.heap.size w w' := by
  obtain ⟨i0, hi, hz0, hz1, hz2⟩ := info_parts infoInt
  have hlp : pb < w.heap.size := World.block_lt_of_cell? _ _ hp
  have hlb : b < w.heap.size := World.block_lt_of_cell? _ _ hc
  have hh0 : ((h : Int) == 0) = false := by simp; omega
  have hmn : min (l : Int) 65537 = l := by omega
  unfold spV
  go_enter Tryz.func74, Tryz.ntmps74
  go_wp2
  refine wp_loop_rounds 2 ?_
  rw [rounds_succ]
  go_wp2_with (at_builtin; refine wpList_append_own _ rfl (.tmp 29) (.tmp 31) 38 rfl w.heap.size 3 i0 (.int .i64 0) 1 8 Tryz.underlying38 hi hz0 hz1 hz2 rfl (by decide) (.slice none 0 0) 0 [] rfl (World.ownsRow_nil _ _ _ _) ⟨w.heap.size + 1, 0, none⟩ 1 1 [.int .i64 l] rfl rfl (cell1_in _ _ _ _ (by simp)) (by simp [Value.oneCell']) (by unfold maxLen; omega) (by omega) (by simp; omega) ?_; intro v' w3 hown' hgrow _)
  obtain ⟨g, z, rfl, hg, hz, hcg⟩ := row_one hown'
  have hbF := (((Below.refl w.heap.size w).alloc (Nat.le_refl _) _).alloc (by simp) _).trans (grown_below (B := w.heap.size) hgrow (by simp; omega) (fun k hk => by simp [Value.ownBlock] at hk))
  rw [rounds_succ]
  go_wp2
  go_ret
  exact ⟨g, z, rfl, hcg, hbF⟩
set_option maxRecDepth 100000 in
set_option maxHeartbeats 1000000 in
theorem long_wrap (t : ByteArray) (ht : t.size ≤ 4096) (p : Option Addr) (c d : Nat) (pb po : Nat) (h : Nat) (hh : h ≠ 0) (b o y l : Nat) (hl : l ≤ 65536) (w : World) (hp : w.cell? ⟨pb, po, none⟩ = some (.int .i64 h)) (hc : w.cell? ⟨b, o, none⟩ = some (.int .i64 l)) :
    Calls Tryz.prog 58 #[spV 14 t 0 (.slice p 0 c) (.slice (some ⟨pb, po, none⟩) 1 d), .slice (some ⟨b, o, none⟩) 1 y] w fun e w' => e = .returned (.int .i64 ((t.size + (2 + l) : Nat) : Int)) ∧ Below w.heap.size w w' := by
  have hlp : pb < w.heap.size := World.block_lt_of_cell? _ _ hp
  have hlb : b < w.heap.size := World.block_lt_of_cell? _ _ hc
  have cK := fun W => check_wrap t ht p (some ⟨pb, po, none⟩) c 1 d (by decide) W
  have cC := fun W => counting_one 14 t 0 p c d 0 pb po h hh b o y l hl W
  have KK := Lib.hid cK; have KC := Lib.hid cC
  clear cK cC
  unfold spV at *
  go_enter Tryz.func58, Tryz.ntmps58
  go_wp2_with fail
  refine (KK.out _).mono ?_
  rintro e w1 ⟨rfl, hb1⟩
  obtain ⟨g0, g1, g2, g3, g4, g5, g6, g7, g8, g9, g10⟩ := box11 hb1
  have hw1 : Below w.heap.size w w1 := ((Below.refl _ _).alloc (Nat.le_refl _) _).trans (hb1.mono (by simp))
  have hp1 := (hw1.cell (p := ⟨pb, po, none⟩) hlp).trans hp
  have hc1 := (hw1.cell (p := ⟨b, o, none⟩) hlb).trans hc
  go_wp2_with fail
  refine (KC.out _ hp1 hc1).mono ?_
  rintro e w2 ⟨g, z, rfl, hcg, hb2⟩
  have hb3 := more hb1 hb2
  obtain ⟨h0, h1, h2, h3, h4, h5, h6, h7, h8, h9, h10⟩ := box11 hb3
  clear g0 g1 g2 g3 g4 g5 g6 g7 g8 g9 g10 hp1 hc1
  go_wp2
  go_quiet ((go_at_call 75; exact Calls.quiet_of_same (causeLong_one g 0 z l hl _ hcg)))
  go_wp2
  go_ret
  exact ⟨by simp, Go.below_drewN (((Below.refl _ _).alloc (Nat.le_refl _) _).trans (hb3.mono (by simp))) _⟩
set_option maxRecDepth 100000 in
set_option maxHeartbeats 1000000 in
theorem long_veil (p : Option Addr) (c d : Nat) (pb po : Nat) (h : Nat) (hh : h ≠ 0) (b o y l : Nat) (hl : l ≤ 65536) (w : World) (hp : w.cell? ⟨pb, po, none⟩ = some (.int .i64 h)) (hc : w.cell? ⟨b, o, none⟩ = some (.int .i64 l)) :
    Calls Tryz.prog 58 #[spV 20 ⟨#[]⟩ 0 (.slice p 0 c) (.slice (some ⟨pb, po, none⟩) 1 d), .slice (some ⟨b, o, none⟩) 1 y] w fun e w' => e = .returned (.int .i64 ((4 + (2 + l) : Nat) : Int)) ∧ Below w.heap.size w w' := by
  have hlp : pb < w.heap.size := World.block_lt_of_cell? _ _ hp
  have hlb : b < w.heap.size := World.block_lt_of_cell? _ _ hc
  have cK := fun W => check_veil p (some ⟨pb, po, none⟩) c 1 d (by decide) W
  have cC := fun W => counting_one 20 ⟨#[]⟩ 0 p c d 0 pb po h hh b o y l hl W
  have KK := Lib.hid cK; have KC := Lib.hid cC
  clear cK cC
  unfold spV at *
  go_enter Tryz.func58, Tryz.ntmps58
  go_wp2_with fail
  refine (KK.out _).mono ?_
  rintro e w1 ⟨rfl, hb1⟩
  obtain ⟨g0, g1, g2, g3, g4, g5, g6, g7, g8, g9, g10⟩ := box11 hb1
  have hw1 : Below w.heap.size w w1 := ((Below.refl _ _).alloc (Nat.le_refl _) _).trans (hb1.mono (by simp))
  have hp1 := (hw1.cell (p := ⟨pb, po, none⟩) hlp).trans hp
  have hc1 := (hw1.cell (p := ⟨b, o, none⟩) hlb).trans hc
  go_wp2_with fail
  refine (KC.out _ hp1 hc1).mono ?_
  rintro e w2 ⟨g, z, rfl, hcg, hb2⟩
  have hb3 := more hb1 hb2
  obtain ⟨h0, h1, h2, h3, h4, h5, h6, h7, h8, h9, h10⟩ := box11 hb3
  clear g0 g1 g2 g3 g4 g5 g6 g7 g8 g9 g10 hp1 hc1
  go_wp2_with (go_at_call 75; refine (causeLong_one g 0 z l hl _ hcg).mono ?_; rintro e w3 ⟨rfl, rfl⟩)
  go_ret
  exact ⟨by simp, ((Below.refl _ _).alloc (Nat.le_refl _) _).trans (hb3.mono (by simp))⟩
end Go.Proofs.YtpemfnhplkjndaaGreatDoor.T
