/- Scan: the tokens of every source, or its fault. -/
import Derived.Test.YteknngncnbfbnaaGreatDoorPq
import Derived.RangeFuncNested
import Derived.RangeFuncBound
import Derived.RangeFuncCalls
import Derived.RangeFuncLeaves
import Derived.RangeFuncBox
import Derived.Shelf.Abstract
import Derived.WalkKit
import Derived.OwnWalkIn
import Derived.TacticsInMore
import Derived.LoopNIn
import Derived.LoopIn
import Derived.RecoverIn
import Derived.Maps.AppendAt
import Derived.Outline
import Derived.Handy
import Derived.Deep.LoopGhost
import Derived.RegionTactic
import Derived.ChangeAlike
import Derived.Deep.QuietTactic
import Derived.BigQuiet
import Derived.StillTailTactics
import Derived.Deep.RegionWith
import Derived.LoopTactic
import Derived.OwnWalk
import Derived.Deep.AppendLies
import Derived.Deep.DeepCutAuto
import Derived.KernelRfl
namespace Go.Proofs.YteknngncnbfbnaaGreatDoor
open Go Go.RowKit Go.Shelf

theorem nl_take_le (l : List UInt8) (k : Nat) : nl (l.take k) ≤ nl l := by
  unfold nl
  conv => rhs; rw [← List.take_append_drop k l, List.countP_append]
  omega
theorem goL_le : ∀ (f : Nat) (l : List UInt8), (goL f l).1.length ≤ l.length ∧ (((goL f l).1.map fun x => nl (bs x.2)).sum) ≤ nl l ∧ (goL f l).2.1 ≤ l.length
  | 0, l => by simp [goL]
  | f + 1, [] => by simp [goL]
  | f + 1, c :: l => by
    cases h : firstL (c :: l) with
    | bad x => rw [goL_bad (by simp) h]; simp
    | ok kd n =>
      rw [goL_ok (by simp) h]
      obtain ⟨_, _, hn1, hnl⟩ := firstL_ok h
      obtain ⟨h1, h2, h3⟩ := goL_le f ((c :: l).drop n)
      rw [List.length_drop] at h1 h3
      refine ⟨by simp only [List.length_cons] at *; omega, ?_, by simp only [List.length_cons] at *; omega⟩
      simp only [List.map_cons, List.sum_cons, bs_mkS]
      have : nl (c :: l) = nl ((c :: l).take n) + nl ((c :: l).drop n) := by
        unfold nl; rw [← List.countP_append, List.take_append_drop]
      omega
theorem pcsL_le (l : List UInt8) : (pcsL l).1.length ≤ 20000 ∧ (((pcsL l).1.map fun x => nl (bs x.2)).sum) ≤ 20000 := by
  unfold pcsL
  split
  · simp
  · rename_i h
    obtain ⟨h1, h2, _⟩ := goL_le l.length l
    have h3 := nl_le l
    generalize goL l.length l = r at *
    obtain ⟨xs, k, o⟩ := r
    cases o with
    | none => exact ⟨by simp at *; omega, by simp at *; omega⟩
    | some x => simp

abbrev Tok := Nat × ByteArray × Nat
def flatT (ts : List Tok) : List Value := ts.flatMap fun t => [.int .u8 t.1, .string t.2.1, .int .i64 t.2.2]
def nlB (xs : List Bit) : Nat := (xs.map fun x => nl (bs x.2)).sum
/-- The tokens among pieces, the first of which begins on a line. -/
def toksL : Nat → List Bit → List Tok
  | _, [] => []
  | L, x :: xs => if x.1 ≤ 5 then (x.1, x.2, L) :: toksL (L + nl (bs x.2)) xs else toksL (L + nl (bs x.2)) xs
theorem nlB_snoc (xs : List Bit) (x : Bit) : nlB (xs ++ [x]) = nlB xs + nl (bs x.2) := by simp [nlB]
theorem toksL_snoc (xs : List Bit) (x : Bit) : ∀ L, toksL L (xs ++ [x]) = toksL L xs ++ (if x.1 ≤ 5 then [(x.1, x.2, L + nlB xs)] else []) := by
  induction xs with
  | nil => intro L; simp [toksL, nlB]
  | cons y ys ih =>
    intro L
    simp only [List.cons_append, toksL, ih]
    have e : L + nl (bs y.2) + nlB ys = L + nlB (y :: ys) := by simp [nlB]; omega
    rw [e]
    split <;> simp
theorem flatB_at {xs : List Bit} {k : Nat} {x : Bit} (h : xs[k]? = some x) : (flatB xs)[2 * k]? = some (.int .u8 x.1) ∧ (flatB xs)[2 * k + 1]? = some (.string x.2) := by
  induction xs generalizing k with
  | nil => simp at h
  | cons y ys ih =>
    cases k with
    | zero => simp at h; subst h; exact ⟨rfl, rfl⟩
    | succ k =>
      have := ih (k := k) (by simpa using h)
      have e : flatB (y :: ys) = .int .u8 y.1 :: .string y.2 :: flatB ys := rfl
      rw [e, show 2 * (k + 1) = 2 * k + 1 + 1 by omega]
      exact this
theorem flatB_len (xs : List Bit) : (flatB xs).length = 2 * xs.length := by
  induction xs with
  | nil => rfl
  | cons y ys ih => simp only [flatB, List.flatMap_cons, List.length_append, List.length_cons, List.length_nil] at *; omega
/-- A slice of pieces: nil, or a row whose cells are known. -/
theorem Held.form {w : World} {base : Nat} {v : Value} {xs : List Bit} (h : Held w base v xs) :
    (xs = [] ∧ v = .slice none 0 0) ∨ (xs ≠ [] ∧ ∃ g cap, v = .slice (some ⟨g, 0, none⟩) xs.length cap ∧ base ≤ g ∧ g < w.heap.size ∧
      ∀ k x, xs[k]? = some x → w.cell? ⟨g, 2 * k, none⟩ = some (.int .u8 x.1) ∧ w.cell? ⟨g, 2 * k + 1, none⟩ = some (.string x.2)) := by
  by_cases hx : xs = []
  · exact .inl ⟨hx, h.2.2 hx⟩
  · refine .inr ⟨hx, ?_⟩
    have hpos : 0 < xs.length := List.length_pos_iff.2 hx
    have h1 : w.ownsRow base 38 2 v xs.length (flatB xs) := h.1
    obtain ⟨g, cap, rfl, hb, hlt⟩ := World.ownsRow.form h1 hpos
    refine ⟨g, cap, rfl, hb, hlt, fun k x hk => ?_⟩
    have hc := World.ownsRow.cells h1 (g := g) rfl
    obtain ⟨h1, h2⟩ := flatB_at hk
    have c1 := hc _ _ h1
    have c2 := hc _ _ h2
    rw [add_zero_addr] at c1 c2
    exact ⟨c1, c2⟩
/-- The same in one form: an address, asked for only where there is an element. -/
theorem Held.any {w : World} {base : Nat} {v : Value} {xs : List Bit} (h : Held w base v xs) : ∃ A cap, v = .slice A xs.length cap ∧
    ∀ k x, xs[k]? = some x → ∃ g, A = some ⟨g, 0, none⟩ ∧ base ≤ g ∧ g < w.heap.size ∧ w.cell? ⟨g, 2 * k, none⟩ = some (.int .u8 x.1) ∧ w.cell? ⟨g, 2 * k + 1, none⟩ = some (.string x.2) := by
  rcases h.form with ⟨rfl, rfl⟩ | ⟨_, g, cap, rfl, hb, hlt, hc⟩
  · exact ⟨none, 0, rfl, fun k x hk => by simp at hk⟩
  · exact ⟨some ⟨g, 0, none⟩, cap, rfl, fun k x hk => ⟨g, rfl, hb, hlt, hc k x hk⟩⟩
theorem nl_total {s : ByteArray} {k : Nat} {pre : List Bit} (h : Run s k pre) : nlB pre = nl ((bs s).take k) := by
  induction h with
  | nil => simp [nlB, nl]
  | @snoc k pre kd n _ hf ih =>
    rw [nlB_snoc, ih, piece_bs]
    unfold nl
    rw [← List.countP_append, List.take_add]
def ScanPost (w : World) (xs : List Bit) (x l : Nat) (e : Ending) (w' : World) : Prop :=
  ∃ v, e = .returned (.tuple #[v, .agg #[.int .i64 x, .int .i64 l]]) ∧ w'.ownsRow w.heap.size 56 3 v (toksL 1 xs).length (flatT (toksL 1 xs)) ∧ (v = .slice none 0 0 ↔ toksL 1 xs = []) ∧ Below w.heap.size w w'
theorem info56 : (Tryz.prog.info? 56).map (fun i => (i.zero, i.size, i.bytes)) = some (some (.agg #[.int .u8 0, .string ⟨#[]⟩, .int .i64 0]), 3, 32) := by kernel_rfl
theorem toksL_len (xs : List Bit) : ∀ L, (toksL L xs).length ≤ xs.length := by
  induction xs with
  | nil => intro L; simp [toksL]
  | cons y ys ih =>
    intro L
    have := ih (L + nl (bs y.2))
    unfold toksL
    split <;> simp only [List.length_cons] <;> omega
theorem nlB_take_le (xs : List Bit) (k : Nat) : nlB (xs.take k) ≤ nlB xs := by
  have h : nlB xs = nlB (xs.take k) + nlB (xs.drop k) := by
    unfold nlB
    conv => lhs; rw [← List.take_append_drop k xs]
    rw [List.map_append, List.sum_append]
  omega
/-- What the loop of Scan has made of the first k pieces. -/
def ScanI (W1 : World) (xs : List Bit) (k : Nat) (t : Value) (wr : World) : Prop :=
  wr.ownsRow W1.heap.size 56 3 t (toksL 1 (xs.take k)).length (flatT (toksL 1 (xs.take k))) ∧ (t = .slice none 0 0 ↔ toksL 1 (xs.take k) = []) ∧ Below W1.heap.size W1 wr
theorem row_base {w : World} {base base' : Nat} {e : TypeId} {size n : Nat} {v : Value} {xs : List Value} (h : w.ownsRow base e size v n xs) (hb : base' ≤ base) : w.ownsRow base' e size v n xs :=
  ⟨h.1, h.2.imp id fun ⟨g, cap, cur, hv, hg, r⟩ => ⟨g, cap, cur, hv, Nat.le_trans hb hg, r⟩⟩
theorem row_ne' {W : World} {base c size n e : Nat} {cs : List Value} {t : TypeId} {v : Value} {xs : List Value} (hc : Blk W c cs t) (ht : t ≠ e) (hr : W.ownsRow base e size v n xs) : some c ≠ v.ownBlock := by
  rcases hr.2 with ⟨rfl, _⟩ | ⟨g, cap, cur, rfl, _, hgb, _⟩
  · simp [Value.ownBlock]
  · intro e'
    obtain rfl : c = g := by simpa [Value.ownBlock] using e'
    unfold Blk at hc
    rw [hgb] at hc
    injection hc with hc
    injection hc with _ h2
    exact ht h2.symm
/-- A fault's two cells are stored: they are known; a row of another type stays; what lay below stays. -/
theorem fault_stored {W : World} {N : Nat} {y z x l : Int} (h : Blk W N [.int .i64 y, .int .i64 z] 34) :
    Blk ((W.setCell ⟨N, 0, none⟩ (.int .i64 x)).setCell ⟨N, 1, none⟩ (.int .i64 l)).drew N [.int .i64 x, .int .i64 l] 34 := (h.set 0 _).set 1 _
theorem row_stored {W : World} {N : Nat} {y z : Int} (u v : Value) (h : Blk W N [.int .i64 y, .int .i64 z] 34) {base e size n : Nat} {t : Value} {ts : List Value} (hr : W.ownsRow base e size t n ts) (he : 34 ≠ e) :
    ((W.setCell ⟨N, 0, none⟩ u).setCell ⟨N, 1, none⟩ v).drew.ownsRow base e size t n ts := by
  show ((W.setCell ⟨N, 0, none⟩ u).setCell ⟨N, 1, none⟩ v).ownsRow base e size t n ts
  exact (hr.kept (grownBy_setCell1 W N 0 u) (.inr (row_ne' h he hr).symm)).kept (grownBy_setCell1 _ N 1 v) (.inr (row_ne' h he hr).symm)
set_option maxRecDepth 100000 in
set_option maxHeartbeats 4000000 in
theorem scan_eq (s : ByteArray) (w : World) (hE : Env w) : Calls Tryz.prog 32 #[.string s] w (ScanPost w (pcsL (bs s)).1 (pcsL (bs s)).2.1 (pcsL (bs s)).2.2) := by
  have hc := pieces_eq s (w.alloc (.cells #[.int .i64 0, .int .i64 0] 34)) (hE.alloc _)
  have hlen : (pcsL (bs s)).1.length ≤ 20000 ∧ nlB (pcsL (bs s)).1 ≤ 20000 := pcsL_le (bs s)
  revert hc hlen
  generalize pcsL (bs s) = p
  obtain ⟨xs, x, l⟩ := p
  intro hc hlen
  simp only at hc hlen ⊢
  have HC := hide hc
  clear hc
  obtain ⟨i0, hi, hz0, hz1, hz2⟩ := info_parts info56
  go_enter Tryz.func32, Tryz.ntmps32
  go_wp2_with (go_at_call 29; refine (unhide HC).mono ?_; rintro e w1 ⟨v, rfl, hH, hB⟩; obtain ⟨A, cap, rfl, hA⟩ := hH.any)
  obtain ⟨W1, hW1⟩ : ∃ W1, w1.alloc (.cells #[.int .i64 x, .int .i64 l] 34) = W1 := ⟨_, rfl⟩
  rw [hW1]
  have hszz : w.heap.size < w1.heap.size := by have := hB.size; simp at this; omega
  have hN : Blk W1 w.heap.size [.int .i64 0, .int .i64 0] 34 := by
    rw [← hW1]
    exact (Blk.below (Blk.new w [.int .i64 0, .int .i64 0] 34) hB (by simp)).alloc _
  have hF : Blk W1 w1.heap.size [.int .i64 x, .int .i64 l] 34 := by rw [← hW1]; exact Blk.new w1 [.int .i64 x, .int .i64 l] 34
  have hB0 : Below w.heap.size w W1 := by
    rw [← hW1]
    have h1 := ((Below.refl _ w).alloc (Nat.le_refl _) (.cells #[.int .i64 0, .int .i64 0] 34)).trans (hB.mono (by simp))
    exact h1.alloc h1.size _
  clear hE HC
  have hB1 : w1.heap.size < W1.heap.size := hF.lt
  have hcells : ∀ k x, xs[k]? = some x → ∃ g, A = some ⟨g, 0, none⟩ ∧ g < W1.heap.size ∧ W1.cell? ⟨g, 2 * k, none⟩ = some (.int .u8 x.1) ∧ W1.cell? ⟨g, 2 * k + 1, none⟩ = some (.string x.2) := fun k x hk => by
    obtain ⟨g, hg, _, hlt, c0, c1⟩ := hA k x hk
    refine ⟨g, hg, by omega, ?_, ?_⟩
    · rw [← hW1]; exact (World.cell?_alloc_lt w1 _ ⟨g, 2 * k, none⟩ hlt).trans c0
    · rw [← hW1]; exact (World.cell?_alloc_lt w1 _ ⟨g, 2 * k + 1, none⟩ hlt).trans c1
  clear hA hH hB hW1
  have HN := hide hN
  have HF := hide hF
  have HCS := hide hcells
  clear hN hF hcells
  go_loopw [6, 7, 17] (fun t L i wr => ∃ k : Nat, k ≤ xs.length ∧ i = .int .i64 k ∧ L = .int .i64 (1 + nlB (xs.take k) : Nat) ∧ ScanI W1 xs k t wr) (fun _ _ i _ => xs.length - (intOf i).toNat)
  case atStart => exact ⟨0, Nat.zero_le _, rfl, rfl, World.ownsRow_nil _ _ _ _, by simp [toksL], Below.refl _ _⟩
  case round =>
    obtain ⟨k, hk, rfl, rfl, hown, hnil, hbel⟩ := hrel
    by_cases hlt : k < xs.length
    · have hgk : xs[k]? = some xs[k] := List.getElem?_eq_getElem hlt
      obtain ⟨g, rfl, hgl, c0, c1⟩ := unhide HCS k _ hgk
      have d0 : wr.cell? ⟨g, k * 2, none⟩ = some (.int .u8 xs[k].1) := by rw [Nat.mul_comm]; exact (hbel.cell (p := ⟨g, 2 * k, none⟩) hgl).trans c0
      have d1 : wr.cell? ⟨g, k * 2 + 1, none⟩ = some (.string xs[k].2) := by rw [Nat.mul_comm]; exact (hbel.cell (p := ⟨g, 2 * k + 1, none⟩) hgl).trans c1
      clear c0 c1 hgk
      have HT := Lib.hid (List.take_succ_eq_append_getElem hlt)
      have htl := Nat.le_trans (toksL_len (xs.take k) 1) (List.length_take_le k xs)
      have hnl2 := nlB_take_le xs (k + 1)
      rw [HT.out, nlB_snoc] at hnl2
      have HS := Lib.hid (toksL_snoc (xs.take k) xs[k] 1)
      have HNL := Lib.hid (nlB_snoc (xs.take k) xs[k])
      obtain ⟨L, hL⟩ : ∃ L, 1 + nlB (xs.take k) = L := ⟨_, rfl⟩
      obtain ⟨M, hM⟩ : ∃ M, nl (bs xs[k].2) = M := ⟨_, rfl⟩
      have hcnt := fun W => count_any xs[k].2 W
      rw [hL]
      rw [hM] at hnl2 hcnt
      have hLM : L + M ≤ 20001 := by omega
      have HL := Lib.hid hL
      have HM := Lib.hid hM
      have HCNT := hide hcnt
      have HNIL := Lib.hid hnil
      have hbs := hbel.size
      clear hL hM hcnt hnl2 hnil
      by_cases h5 : xs[k].1 ≤ 5
      · have h5' : ((xs[k].1 : Nat) : Int) ≤ 5 := by omega
        go_wp2_with (first | (go_at_call 68; refine (unhide HCNT _).mono ?_; rintro e w4 ⟨rfl, rfl⟩) | (at_builtin; refine wpList_append_own _ rfl _ _ 40 rfl W1.heap.size 56 i0 (.agg #[.int .u8 0, .string ⟨#[]⟩, .int .i64 0]) 3 32 Tryz.underlying40 hi hz0 hz1 hz2 rfl (by decide) _ _ _ rfl ((hown.alloc _).alloc _) ⟨wr.heap.size + 1, 0, none⟩ 1 1 [.int .u8 xs[k].1, .string xs[k].2, .int .i64 L] rfl rfl ?c1 ?c2 (by unfold maxLen; omega) (by omega) (by simp; omega) ?_))
        case c1 =>
          intro j u hj
          rw [← hj, add_zero_addr]
          have := Blk.new (wr.alloc (.cells #[.int .u8 xs[k].1, .string xs[k].2] 38)) [.int .u8 xs[k].1, .string xs[k].2, .int .i64 L] 56
          rw [World.size_alloc] at this
          exact this.cell j
        case c2 =>
          intro u hu
          simp at hu
          rcases hu with rfl | rfl | rfl <;> rfl
        intro v' w5 hown' hgrow _
        obtain ⟨g', cap', rfl⟩ := ownsRow_succ hown'
        have hbit : Blk w5 wr.heap.size [.int .u8 xs[k].1, .string xs[k].2] 38 := by
          have h1 : Blk ((wr.alloc (.cells #[.int .u8 xs[k].1, .string xs[k].2] 38)).alloc (.cells #[.int .u8 xs[k].1, .string xs[k].2, .int .i64 L] 56)) wr.heap.size [.int .u8 xs[k].1, .string xs[k].2] 38 := (Blk.new wr [.int .u8 xs[k].1, .string xs[k].2] 38).alloc _
          exact (hgrow.block _ h1.lt (row_ne' h1 (by decide) ((hown.alloc _).alloc _))).trans h1
        have hb1 := hbit.cell 1
        have hbw : Below W1.heap.size W1 w5 := by
          have h1 := (hbel.alloc hbel.size (.cells #[.int .u8 xs[k].1, .string xs[k].2] 38)).alloc (by simp; omega) (.cells #[.int .u8 xs[k].1, .string xs[k].2, .int .i64 L] 56)
          refine h1.grown hgrow h1.size (fun j hj => ?_)
          rcases hown.2 with ⟨rfl, _⟩ | ⟨g2, cap2, cur2, rfl, hg2, _⟩
          · simp [Value.ownBlock] at hj
          · simp [Value.ownBlock] at hj; omega
        clear hgrow hbit
        go_wp2_with (go_at_call 68; refine (unhide HCNT _).mono ?_; rintro e w4 ⟨rfl, rfl⟩)
        go_roundw
        case rel =>
          have e1 : toksL 1 (xs.take (k + 1)) = toksL 1 (xs.take k) ++ [(xs[k].1, xs[k].2, L)] := by rw [HT.out, HS.out, if_pos h5, HL.out]
          have e2 : flatT (toksL 1 (xs.take k) ++ [(xs[k].1, xs[k].2, L)]) = flatT (toksL 1 (xs.take k)) ++ [.int .u8 xs[k].1, .string xs[k].2, .int .i64 L] := by simp [flatT]
          refine ⟨k + 1, by omega, by go_num, ?_, ?_, ?_, hbw⟩
          · rw [HT.out, HNL.out, HM.out, ← Nat.add_assoc, HL.out]; simp
          · rw [e1, e2, List.length_append]; exact hown'
          · rw [e1]; simp
        case measure => simp [intOf]; omega
      · have h5' : ¬ ((xs[k].1 : Nat) : Int) ≤ 5 := by omega
        go_wp2_with (go_at_call 68; refine (unhide HCNT _).mono ?_; rintro e w4 ⟨rfl, rfl⟩)
        go_roundw
        case rel =>
          have e1 : toksL 1 (xs.take (k + 1)) = toksL 1 (xs.take k) := by rw [HT.out, HS.out, if_neg h5, List.append_nil]
          refine ⟨k + 1, by omega, by go_num, ?_, ?_, ?_, hbel.alloc hbel.size _⟩
          · rw [HT.out, HNL.out, HM.out, ← Nat.add_assoc, HL.out]; simp
          · rw [e1]; exact hown.alloc _
          · rw [e1]; exact HNIL.out
        case measure => simp [intOf]; omega
    · obtain rfl : k = xs.length := by omega
      rw [List.take_length] at hown hnil
      have HNIL := Lib.hid hnil
      clear hnil
      have hF := (unhide HF).below hbel hB1
      have hNw := (unhide HN).below hbel (by omega)
      have f0 := hF.cell 0
      have f1 := hF.cell 1
      have n0 := hNw.cell 0
      have n1 := hNw.cell 1
      have z0 := hNw.frozen 0
      have z1 := hNw.frozen 1
      go_wp2
      go_region
      all_goals
        go_wp2
        have hZ := fault_stored (x := x) (l := l) hNw
        have hc0 := hZ.cell 0
        have hc1 := hZ.cell 1
        refine bodyPost_ret (v := .tuple #[u6, .agg #[.int .i64 x, .int .i64 l]]) ?_ rfl ⟨u6, rfl, row_base (row_stored _ _ hNw hown (by decide)) hB0.size, HNIL.out, (((hB0.trans (hbel.mono hB0.size)).setCell (Nat.le_refl _) _).setCell (Nat.le_refl _) _).drew⟩
        revert hc0 hc1
        generalize ((wr.setCell ⟨w.heap.size, 0, none⟩ (.int .i64 x)).setCell ⟨w.heap.size, 1, none⟩ (.int .i64 l)).drew = Z
        intro hc0 hc1
        simp [results, Tryz.results32, go_sem, hc0, hc1]
end Go.Proofs.YteknngncnbfbnaaGreatDoor
