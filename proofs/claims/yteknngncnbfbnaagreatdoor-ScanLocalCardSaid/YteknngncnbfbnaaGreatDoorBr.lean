/- Bare, for every source. -/
import Derived.Test.YteknngncnbfbnaaGreatDoorBw
import Derived.RangeFuncNested
import Derived.RangeFuncBound
import Derived.RangeFuncCalls
import Derived.RangeFuncLeaves
import Derived.RangeFuncBox
import Derived.Shelf.Abstract
import Derived.WalkKit
import Derived.OwnWalkIn
import Derived.TacticsInMore
import Derived.LoopNIn
import Derived.LoopIn
import Derived.RecoverIn
import Derived.Maps.AppendAt
import Derived.Outline
import Derived.Handy
import Derived.Deep.LoopGhost
import Derived.RegionTactic
import Derived.ChangeAlike
import Derived.Deep.QuietTactic
import Derived.BigQuiet
import Derived.StillTailTactics
import Derived.Deep.RegionWith
import Derived.LoopTactic
import Derived.OwnWalk
import Derived.Deep.AppendLies
import Derived.Deep.DeepCutAuto
import Derived.KernelRfl
import Derived.KernelRfl
namespace Go.Proofs.YteknngncnbfbnaaGreatDoor
open Go Go.RowKit Go.Shelf
/-- The bytes of Bare. -/
def bareL (xs : List Bit) : List UInt8 := xs.flatMap fun x => if x.1 = 7 ∨ x.1 = 8 then blankedL (bs x.2) else bs x.2
theorem goL_sz : ∀ (f : Nat) (l : List UInt8), ∀ x ∈ (goL f l).1, x.2.size ≤ l.length
  | 0, l, x, hx => by cases l <;> simp [goL] at hx
  | f + 1, [], x, hx => by simp [goL] at hx
  | f + 1, c :: l, x, hx => by
    unfold goL at hx
    cases h : firstL (c :: l) with
    | bad y => rw [h] at hx; simp at hx
    | ok kd n =>
      rw [h] at hx
      simp only [List.mem_cons] at hx
      rcases hx with rfl | hx
      · have e : (mkS ((c :: l).take n)).size = ((c :: l).take n).length := by rw [← bs_len, bs_mkS]
        simp only [e, List.length_take]; omega
      · have := goL_sz f _ x hx
        rw [List.length_drop] at this; omega
theorem pcsL_sz (l : List UInt8) : ∀ x ∈ (pcsL l).1, x.2.size ≤ 20000 := by
  intro x hx
  unfold pcsL at hx
  split at hx
  · simp at hx
  · rename_i h
    have := goL_sz l.length l
    revert hx this
    generalize goL l.length l = r
    obtain ⟨xs, k, o⟩ := r
    cases o with
    | none => intro hx this; have := this x hx; omega
    | some y => intro hx; simp at hx
theorem bareL_snoc (xs : List Bit) (x : Bit) : bareL (xs ++ [x]) = bareL xs ++ (if x.1 = 7 ∨ x.1 = 8 then blankedL (bs x.2) else bs x.2) := by
  unfold bareL; simp
theorem bareL_le {xs : List Bit} {n : Nat} (h : ∀ x ∈ xs, x.2.size ≤ n) : (bareL xs).length ≤ xs.length * n := by
  induction xs with
  | nil => simp [bareL]
  | cons x xs ih =>
    have h1 := ih fun y hy => h y (List.mem_cons_of_mem _ hy)
    have h2 := h x List.mem_cons_self
    have e : (bareL (x :: xs)).length = (if x.1 = 7 ∨ x.1 = 8 then blankedL (bs x.2) else bs x.2).length + (bareL xs).length := by unfold bareL; simp
    have e2 : (if x.1 = 7 ∨ x.1 = 8 then blankedL (bs x.2) else bs x.2).length = x.2.size := by
      split
      · unfold blankedL; rw [List.length_map, bs_len]
      · exact bs_len _
    rw [e, e2, List.length_cons, Nat.add_mul]; omega
/-- A slice of pieces: the block that it lies in, whole. -/
theorem Held.block {w : World} {base : Nat} {v : Value} {xs : List Bit} (h : Held w base v xs) : ∃ A cap, v = .slice A xs.length cap ∧
    ∀ k x, xs[k]? = some x → ∃ g c fz, A = some ⟨g, 0, none⟩ ∧ base ≤ g ∧ w.heap[g]? = some (.cells c 38 fz) ∧ c[2 * k]? = some (.int .u8 x.1) ∧ c[2 * k + 1]? = some (.string x.2) := by
  obtain ⟨A, cap, rfl, hA⟩ := h.any
  refine ⟨A, cap, rfl, fun k x hk => ?_⟩
  obtain ⟨g, rfl, hb, hlt, c0, c1⟩ := hA k x hk
  have h1 : w.ownsRow base 38 2 (.slice (some ⟨g, 0, none⟩) xs.length cap) xs.length (flatB xs) := h.1
  rcases h1.2 with ⟨hv, _⟩ | ⟨g', cap', cur, hv, _, hgb, _⟩
  · simp at hv
  · injection hv with hv
    injection hv with hv
    injection hv with hv
    subst hv
    refine ⟨g, cur, _, rfl, hb, hgb, ?_, ?_⟩
    · simpa [World.cell?, hgb] using c0
    · simpa [World.cell?, hgb] using c1
def BarePost (w : World) (l : List UInt8) (x n : Nat) (e : Ending) (w' : World) : Prop := e = .returned (.tuple #[.string (mkS l), .agg #[.int .i64 x, .int .i64 n]]) ∧ Below w.heap.size w w'
theorem str_cells (s : ByteArray) : Lib.strCells s = Lib.byteCells (bs s) := rfl
theorem builder_new (w : World) : Lib.IsBuilderF 88 5 w.heap.size w.heap.size (Lib.byteCells []) (w.alloc (.cells #[.pointer none, .slice none 0 0] 88)) := by
  refine Lib.IsBuilderF.of (.inl ⟨Nat.le_refl _, .slice none 0 0, ?_, World.ownsRow_nil _ _ _ _, by simp [Value.ownBlock]⟩)
  exact Blk.new w [.pointer none, .slice none 0 0] 88
theorem builder_below {l : List Value} {b : Nat} {W W' : World} (h : Lib.IsBuilderF 88 5 b b l W) (hb : Below W.heap.size W W') : Lib.IsBuilderF 88 5 b b l W' := by
  have key : ∀ p, Lib.BuilderAtF 88 5 b b p l W → Lib.BuilderAtF 88 5 b b p l W' := by
    rintro p ⟨hB, v, hv, hown, hne⟩
    have hlt : b < W.heap.size := (Array.getElem?_eq_some_iff.1 hv).1
    have hg : W.grownBy W' none := ⟨hb.os, hb.tape, hb.output, hb.size, fun k hk _ => hb.block k hk⟩
    exact ⟨hB, v, (hb.block b hlt).trans hv, World.ownsRowF.kept hown hg (Classical.em _), hne⟩
  exact h.imp (key _) (key _)
set_option maxRecDepth 100000 in
set_option maxHeartbeats 4000000 in
theorem bare_eq (s : ByteArray) (w : World) (hE : Env w) : Calls Tryz.prog 34 #[.string s] w (BarePost w (bareL (pcsL (bs s)).1) (pcsL (bs s)).2.1 (pcsL (bs s)).2.2) := by
  have hc := pieces_eq s (w.alloc (.cells #[.int .i64 0, .int .i64 0] 34)) (hE.alloc _)
  have hlen := (pcsL_le (bs s)).1
  have hsz := pcsL_sz (bs s)
  revert hc hlen hsz
  generalize pcsL (bs s) = p
  obtain ⟨xs, x, l⟩ := p
  intro hc hlen hsz
  simp only at hc hlen hsz ⊢
  have HC := hide hc
  have HSZ := hide hsz
  clear hc hsz
  go_enter Tryz.func34, Tryz.ntmps34
  go_wp2_with (go_at_call 29; refine (unhide HC).mono ?_; rintro e w1 ⟨v, rfl, hH, hB⟩; obtain ⟨A, cap, rfl, hA⟩ := hH.block)
  have hszz : w.heap.size < w1.heap.size := by have := hB.size; simp at this; omega
  have hN0 : Blk w1 w.heap.size [.int .i64 0, .int .i64 0] 34 := Blk.below (Blk.new w [.int .i64 0, .int .i64 0] 34) hB (by simp)
  have hB0 : Below w.heap.size w w1 := ((Below.refl _ w).alloc (Nat.le_refl _) (.cells #[.int .i64 0, .int .i64 0] 34)).trans (hB.mono (by simp))
  obtain ⟨W0, hW0⟩ : ∃ W0, w1.alloc (.cells #[.int .i64 x, .int .i64 l] 34) = W0 := ⟨_, rfl⟩
  have hs0 : W0.heap.size = w1.heap.size + 1 := by rw [← hW0]; simp
  have hF : Blk W0 w1.heap.size [.int .i64 x, .int .i64 l] 34 := by rw [← hW0]; exact Blk.new w1 [.int .i64 x, .int .i64 l] 34
  have hN : Blk W0 w.heap.size [.int .i64 0, .int .i64 0] 34 := by rw [← hW0]; exact hN0.alloc _
  have hB1 : Below w.heap.size w W0 := by rw [← hW0]; exact hB0.alloc hB0.size _
  have hcells : ∀ k x, xs[k]? = some x → ∃ g c fz, A = some ⟨g, 0, none⟩ ∧ g < w1.heap.size ∧ W0.heap[g]? = some (.cells c 38 fz) ∧ c[2 * k]? = some (.int .u8 x.1) ∧ c[2 * k + 1]? = some (.string x.2) := fun k x hk => by
    obtain ⟨g, c, fz, e, _, hg, c0, c1⟩ := hA k x hk
    have hlt := (Array.getElem?_eq_some_iff.1 hg).1
    refine ⟨g, c, fz, e, hlt, ?_, c0, c1⟩
    rw [← hW0]; exact (Below.heap_alloc _ _ _ hlt).trans hg
  rw [hW0]
  clear hA hH hB hN0 hB0 hE HC
  have hI0 := builder_new W0
  rw [hs0] at hI0
  obtain ⟨M, hM⟩ : ∃ M, w1.heap.size = M := ⟨_, rfl⟩
  rw [hM] at hs0 hI0 hF hcells hszz ⊢
  obtain ⟨W1, hW1⟩ : ∃ W1, W0.alloc (.cells #[.pointer none, .slice none 0 0] 88) = W1 := ⟨_, rfl⟩
  rw [hW1] at hI0 ⊢
  have hs1 : W1.heap.size = M + 2 := by rw [← hW1]; simp; omega
  have hF1 : Blk W1 M [.int .i64 x, .int .i64 l] 34 := by rw [← hW1]; exact hF.alloc _
  have hN1 : Blk W1 w.heap.size [.int .i64 0, .int .i64 0] 34 := by rw [← hW1]; exact hN.alloc _
  have hB2 : Below w.heap.size w W1 := by rw [← hW1]; exact hB1.alloc hB1.size _
  have hcells1 : ∀ k x, xs[k]? = some x → ∃ g c fz, A = some ⟨g, 0, none⟩ ∧ g < M ∧ W1.heap[g]? = some (.cells c 38 fz) ∧ c[2 * k]? = some (.int .u8 x.1) ∧ c[2 * k + 1]? = some (.string x.2) := fun k x hk => by
    obtain ⟨g, c, fz, e, hg, h1, h2⟩ := hcells k x hk
    exact ⟨g, c, fz, e, hg, by rw [← hW1]; exact (Below.heap_alloc _ _ _ (by omega)).trans h1, h2⟩
  have HCE := hide hcells1
  have HF := hide hF1
  have HN := hide hN1
  clear hcells hcells1 hF hN hF1 hN1 hW0 hW1 hB1 hs0 hM
  go_loopw [8, 16] (fun _ i wr => ∃ k : Nat, k ≤ xs.length ∧ i = .int .i64 k ∧ Lib.IsBuilderF 88 5 (M + 1) (M + 1) (Lib.byteCells (bareL (xs.take k))) wr ∧ Below (M + 1) W1 wr) (fun _ i _ => xs.length - (intOf i).toNat)
  case atStart => exact ⟨0, Nat.zero_le _, rfl, by simpa [bareL] using hI0, Below.refl _ _⟩
  case round =>
    obtain ⟨k, hk, rfl, hI, hb⟩ := hrel
    have hbs := hb.size
    by_cases hlt : k < xs.length
    · have hgk : xs[k]? = some xs[k] := List.getElem?_eq_getElem hlt
      obtain ⟨g, c, fz, rfl, hgl, hg, c0, c1⟩ := unhide HCE k _ hgk
      have hg' : wr.heap[g]? = some (.cells c 38 fz) := (hb.block g (by omega)).trans hg
      have d0 : wr.cell? ⟨g, k * 2, none⟩ = some (.int .u8 xs[k].1) := by rw [Nat.mul_comm]; simpa [World.cell?, hg'] using c0
      have d1 : wr.cell? ⟨g, k * 2 + 1, none⟩ = some (.string xs[k].2) := by rw [Nat.mul_comm]; simpa [World.cell?, hg'] using c1
      have hxs := unhide HSZ xs[k] (List.getElem_mem hlt)
      have hble := bareL_le (xs := xs.take k) (n := 20000) (fun y hy => unhide HSZ y (List.mem_of_mem_take hy))
      have hmul : (xs.take k).length * 20000 ≤ 20000 * 20000 := Nat.mul_le_mul (Nat.le_trans (List.length_take_le _ _) (by omega)) (Nat.le_refl _)
      have HT := Lib.hid (List.take_succ_eq_append_getElem hlt)
      have HSN := Lib.hid (bareL_snoc (xs.take k) xs[k])
      clear c0 c1 hg hg' hgk
      generalize xs[k] = y at d0 d1 hxs HT HSN
      obtain ⟨a, b⟩ := y
      simp only at d0 d1 hxs HSN
      obtain ⟨L, hL⟩ : ∃ L, bareL (xs.take k) = L := ⟨_, rfl⟩
      rw [hL] at hI hble
      have hLb : L.length ≤ 400000000 := by omega
      have HL := Lib.hid hL
      clear hL hble hmul
      by_cases h78 : a = 7 ∨ a = 8
      · have HX := Lib.hid (show bareL (xs.take (k + 1)) = L ++ blankedL (bs b) by rw [HT.out, HSN.out, HL.out, if_pos h78])
        clear HT HSN HL
        have hwr : ∀ W, Lib.IsBuilderF 88 5 (M + 1) (M + 1) (Lib.byteCells L) W → M + 1 ≤ W.heap.size → Calls Tryz.prog 69 #[.pointer (some ⟨M + 1, 0, none⟩), .string (mkS (blankedL (bs b)))] W fun e w' => e = .returned (.tuple #[.int .i64 (mkS (blankedL (bs b))).size, .nilIface]) ∧ Lib.IsBuilderF 88 5 (M + 1) (M + 1) (Lib.byteCells (L ++ blankedL (bs b))) w' ∧ Below (M + 1) W w' := fun W h1 h2 => by
          refine (writeString (M + 1) (M + 1) (Lib.byteCells L) (mkS (blankedL (bs b))) W h1 ?_ h2).mono ?_
          · have e1 : (Lib.byteCells L).length = L.length := by simp [Lib.byteCells]
            have e2 : (mkS (blankedL (bs b))).size = b.size := by rw [← bs_len, bs_mkS]; unfold blankedL; rw [List.length_map, bs_len]
            rw [e1, e2]; omega
          · rintro e w' ⟨he, hI', hb', _⟩
            refine ⟨he, .inr ?_, hb'⟩
            rw [str_cells, bs_mkS] at hI'
            have e3 : Lib.byteCells (L ++ blankedL (bs b)) = Lib.byteCells L ++ Lib.byteCells (blankedL (bs b)) := by simp [Lib.byteCells]
            rw [e3]; exact hI'
        have HWR := hide hwr
        clear hwr
        have hMr : M + 1 ≤ wr.heap.size := by omega
        rcases h78 with rfl | rfl
        all_goals
          go_wp2_with (first | (go_at_call 70; refine (blanked_any b hxs _).mono ?_; rintro e w3 ⟨rfl, hb3⟩; have hI3 := builder_below (hI.alloc _) hb3; have hs3 := hb3.size; simp only [World.size_alloc] at hs3) | (go_at_call 69; refine (unhide HWR _ hI3 (by omega)).mono ?_; rintro e w4 ⟨rfl, hI4, hb4⟩))
          go_roundw
          case rel => exact ⟨k + 1, by omega, by go_num, by rw [HX.out]; exact hI4, (hb.alloc hMr _).trans ((hb3.mono (by simp; omega)).trans hb4)⟩
          case measure => simp [intOf]; omega
      · have HX := Lib.hid (show bareL (xs.take (k + 1)) = L ++ bs b by rw [HT.out, HSN.out, HL.out, if_neg h78])
        clear HT HSN HL
        have hwr : ∀ W, Lib.IsBuilderF 88 5 (M + 1) (M + 1) (Lib.byteCells L) W → M + 1 ≤ W.heap.size → Calls Tryz.prog 69 #[.pointer (some ⟨M + 1, 0, none⟩), .string b] W fun e w' => e = .returned (.tuple #[.int .i64 b.size, .nilIface]) ∧ Lib.IsBuilderF 88 5 (M + 1) (M + 1) (Lib.byteCells (L ++ bs b)) w' ∧ Below (M + 1) W w' := fun W h1 h2 => by
          refine (writeString (M + 1) (M + 1) (Lib.byteCells L) b W h1 ?_ h2).mono ?_
          · have e1 : (Lib.byteCells L).length = L.length := by simp [Lib.byteCells]
            rw [e1]; omega
          · rintro e w' ⟨he, hI', hb', _⟩
            refine ⟨he, .inr ?_, hb'⟩
            rw [str_cells] at hI'
            have e3 : Lib.byteCells (L ++ bs b) = Lib.byteCells L ++ Lib.byteCells (bs b) := by simp [Lib.byteCells]
            rw [e3]; exact hI'
        have HWR := hide hwr
        clear hwr
        have h7 : ((a : Int) == 7) = false := by simp; omega
        have h8 : ((a : Int) == 8) = false := by simp; omega
        have hMr : M + 1 ≤ wr.heap.size := by omega
        clear h78
        have hI3 := hI.alloc (.cells #[.int .u8 a, .string b] 38)
        go_wp2_with (go_at_call 69; refine (unhide HWR _ hI3 (by simp; omega)).mono ?_; rintro e w4 ⟨rfl, hI4, hb4⟩)
        go_roundw
        case rel => exact ⟨k + 1, by omega, by go_num, by rw [HX.out]; exact hI4, (hb.alloc hMr _).trans hb4⟩
        case measure => simp [intOf]; omega
    · obtain rfl : k = xs.length := by omega
      rw [List.take_length] at hI
      have hst := Tryz.Builder_String_any_k (M + 1) (M + 1) (bareL xs) wr.drew hI (by simp; omega)
      have HST := hide hst
      have hF2 : Blk wr M [.int .i64 x, .int .i64 l] 34 := (unhide HF).below hb (by omega)
      have hN2 : Blk wr w.heap.size [.int .i64 0, .int .i64 0] 34 := (unhide HN).below hb (by omega)
      have f0 := hF2.cell 0
      have f1 := hF2.cell 1
      clear hst HCE HSZ HF HN
      go_wp2
      go_region_with (go_at_call 71; refine (unhide HST).mono ?_; rintro e w2 ⟨rfl, _, hb2, _⟩; have hF3 := (hF2.drew).below hb2 (Nat.lt_succ_self M); have hN3 := (hN2.drew).below hb2 (by omega); have g0 := hF3.cell 0; have g1 := hF3.cell 1; have n0 := hN3.cell 0; have n1 := hN3.cell 1; have z0 := hN3.frozen 0; have z1 := hN3.frozen 1)
      all_goals
        go_wp2
        have hZ := ((hN3.set 0 (.int .i64 x)).set 1 (.int .i64 l))
        have hc0 := hZ.cell 0
        have hc1 := hZ.cell 1
        refine bodyPost_ret (v := .tuple #[.string (mkS (bareL xs)), .agg #[.int .i64 x, .int .i64 l]]) ?_ rfl ⟨rfl, ?_⟩
        · clear hZ
          revert hc0 hc1
          generalize (w2.setCell ⟨w.heap.size, 0, none⟩ (.int .i64 x)).setCell ⟨w.heap.size, 1, none⟩ (.int .i64 l) = Z
          intro hc0 hc1
          simp [results, Tryz.results34, go_sem, hc0, hc1, mkS]
        · exact (((hB2.trans (hb.mono (by omega))).drew.trans (hb2.mono (by omega))).setCell (Nat.le_refl _) _).setCell (Nat.le_refl _) _
end Go.Proofs.YteknngncnbfbnaaGreatDoor
