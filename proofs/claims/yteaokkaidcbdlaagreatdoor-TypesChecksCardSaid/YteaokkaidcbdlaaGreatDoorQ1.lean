/- Part 1 of 51: the texts Ck, Qt, one behind the other. -/
import Derived.Test.YteaokkaidcbdlaaGreatDoorQ0
import Derived.Tactics
import Derived.Tactics2
import Derived.WalkKit
import Derived.LoopTactic
import Derived.Outline
import Derived.Lib.Hide
import Derived.Handy
import Derived.KernelRfl
import Derived.Deep.LoopGhost
import Derived.CallsIn
import Derived.Deep.QuietTactic
import Derived.BigQuiet
import Derived.Deep.Draws
import Derived.WalkSpells
import Derived.Lib.Walk
import Derived.Lib.Strings
import Derived.Maps.OwnOps
import Derived.Maps.OwnSet
import Derived.Deep.RegionWith
import Derived.StillTailTactics
import Derived.WalkMore
import Derived.RangeFuncNested
import Derived.RangeFuncBound
import Derived.RangeFuncCalls
import Derived.RangeFuncLeaves
import Derived.RangeFuncBox
import Derived.Shelf.Abstract
import Derived.OwnWalkIn
import Derived.TacticsInMore
import Derived.LoopNIn
import Derived.LoopIn
import Derived.RecoverIn
import Derived.Maps.AppendAt
import Derived.RegionTactic
import Derived.ChangeAlike
import Derived.OwnWalk
import Derived.Deep.AppendLies
import Derived.Deep.DeepCutAuto
import Derived.Deep.RegionLaw
import Derived.Deep.RegionHeld3
/- Indices, kinds, and the checker's smallest step. -/
namespace Go.Proofs.YteaokkaidcbdlaaGreatDoor
open Go Go.RowKit Go.Shelf
def idxB (n : Nat) (i : Int) : Bool := decide (0 ≤ i ∧ i < n)
theorem isIndex_any (o : Option Addr) (n cap : Nat) (i : Int) (w : World) :
    Calls Tryz.prog 99 #[.slice o n cap, .int .i64 i] w fun e w' => e = .returned (.bool (idxB n i)) ∧ w = w' := by
  rcases (show i < 0 ∨ (0 ≤ i ∧ i < n) ∨ (0 ≤ i ∧ (n : Int) ≤ i) by omega) with h | ⟨h, h'⟩ | ⟨h, h'⟩
  all_goals
    go_enter Tryz.func99, Tryz.ntmps99
    go_wp2
    go_ret
    exact ⟨ret_bool (by unfold idxB; first | (symm; exact decide_eq_true (by omega)) | (symm; exact decide_eq_false (by omega)) | (rw [Bool.eq_iff_iff]; simp; omega)), rfl⟩
theorem isKind_any (i : Int) (w : World) :
    Calls Tryz.prog 92 #[.int .i64 i] w fun e w' => e = .returned (.bool (decide (1 ≤ i ∧ i ≤ 13))) ∧ w = w' := by
  rcases (show i < 1 ∨ (1 ≤ i ∧ i ≤ 13) ∨ (13 < i) by omega) with h | ⟨h, h'⟩ | h
  all_goals
    go_enter Tryz.func92, Tryz.ntmps92
    go_wp2
    go_ret
    exact ⟨ret_bool (by first | (symm; exact decide_eq_true (by omega)) | (symm; exact decide_eq_false (by omega)) | (rw [Bool.eq_iff_iff]; simp; omega)), rfl⟩
def supB (k : Nat) : Bool := decide (k = 12 ∨ k = 13)
theorem hasSuper_any (k : Nat) (w : World) :
    Calls Tryz.prog 94 #[.int .u8 k] w fun e w' => e = .returned (.bool (supB k)) ∧ w = w' := by
  rcases (show k = 12 ∨ k = 13 ∨ (k ≠ 12 ∧ k ≠ 13) by omega) with rfl | rfl | ⟨h, h'⟩
  · go_enter Tryz.func94, Tryz.ntmps94
    go_wp2
    go_ret
    exact ⟨ret_bool rfl, rfl⟩
  · go_enter Tryz.func94, Tryz.ntmps94
    go_wp2
    go_ret
    exact ⟨ret_bool rfl, rfl⟩
  · have e1 : ((k : Int) == 12) = false := by simp; omega
    have e2 : ((k : Int) == 13) = false := by simp; omega
    go_enter Tryz.func94, Tryz.ntmps94
    go_wp2
    go_ret
    exact ⟨ret_bool (by unfold supB; symm; exact decide_eq_false (by omega)), rfl⟩
/-- May a type of the first kind stand above one of the second? -/
def aboveB (k j : Nat) : Bool := decide (k = 12 ∨ k = 6 ∨ k = 7 ∨ k = 8 ∨ k = 13 ∨ k = 4 ∧ j = 13)
theorem mayBeSuper_any (k j : Nat) (w : World) :
    Calls Tryz.prog 280 #[.int .u8 k, .int .u8 j] w fun e w' => e = .returned (.bool (aboveB k j)) ∧ w = w' := by
  rcases (show k = 12 ∨ k = 6 ∨ k = 7 ∨ k = 8 ∨ k = 13 ∨ (k = 4 ∧ j = 13) ∨ (k = 4 ∧ j ≠ 13) ∨ (k ≠ 12 ∧ k ≠ 6 ∧ k ≠ 7 ∧ k ≠ 8 ∧ k ≠ 13 ∧ k ≠ 4) by omega) with rfl | rfl | rfl | rfl | rfl | ⟨rfl, rfl⟩ | ⟨rfl, h⟩ | ⟨h1, h2, h3, h4, h5, h6⟩
  case inr.inr.inr.inr.inr.inr.inl =>
    have e2 : ((j : Int) == 13) = false := by simp; omega
    go_enter Tryz.func280, Tryz.ntmps280
    go_wp2
    go_ret
    exact ⟨ret_bool (by unfold aboveB; symm; exact decide_eq_false (by omega)), rfl⟩
  case inr.inr.inr.inr.inr.inr.inr =>
    have e1 : ((k : Int) == 12) = false := by simp; omega
    have e2 : ((k : Int) == 6) = false := by simp; omega
    have e3 : ((k : Int) == 7) = false := by simp; omega
    have e4 : ((k : Int) == 8) = false := by simp; omega
    have e5 : ((k : Int) == 13) = false := by simp; omega
    have e6 : ((k : Int) == 4) = false := by simp; omega
    go_enter Tryz.func280, Tryz.ntmps280
    go_wp2
    go_ret
    exact ⟨ret_bool (by unfold aboveB; symm; exact decide_eq_false (by omega)), rfl⟩
  all_goals
    go_enter Tryz.func280, Tryz.ntmps280
    go_wp2
    go_ret
    exact ⟨ret_bool (by unfold aboveB; symm; exact decide_eq_true (by omega)), rfl⟩

/-! ### The checker: it lies in a block of its own, and so does the type -/
def tyC (t : TyD) (vp vm vo : Value) : List Value :=
  [.int .u8 t.kind, .int .i64 t.low, .int .i64 t.high, .bool t.branded, .string t.brand, .string t.opq, .int .i64 t.super, vp, vm, vo]
structure Own2 (W0 W : World) (gv : Value) (bc bt : Nat) (f : Bool) (cs : List Value) : Prop where
  bel : Below W0.heap.size W0 W
  c : Blk W bc [gv, .bool f] 124
  t : Blk W bt cs 62
  hc : W0.heap.size ≤ bc
  ht : W0.heap.size ≤ bt
  ne : bc ≠ bt
theorem Own2.setC {W0 W : World} {gv : Value} {bc bt : Nat} {f : Bool} {cs : List Value} (h : Own2 W0 W gv bc bt f cs) (g : Bool) : Own2 W0 (W.setCell ⟨bc, 1, none⟩ (.bool g)) gv bc bt g cs :=
  ⟨h.bel.setCell h.hc _, h.c.set 1 _, h.t.other _ _ (Ne.symm h.ne), h.hc, h.ht, h.ne⟩
theorem Own2.setT {W0 W : World} {gv : Value} {bc bt : Nat} {f : Bool} {cs : List Value} (h : Own2 W0 W gv bc bt f cs) (i : Nat) (v : Value) : Own2 W0 (W.setCell ⟨bt, i, none⟩ v) gv bc bt f (cs.set i v) :=
  ⟨h.bel.setCell h.ht _, h.c.other _ _ h.ne, h.t.set i _, h.hc, h.ht, h.ne⟩
theorem Own2.drewN {W0 W : World} {gv : Value} {bc bt : Nat} {f : Bool} {cs : List Value} (h : Own2 W0 W gv bc bt f cs) (n : Nat) : Own2 W0 (W.drewN n) gv bc bt f cs :=
  ⟨below_drewN' h.bel n, h.c, h.t, h.hc, h.ht, h.ne⟩
theorem need_any (bc : Nat) (gv : Value) (f x : Bool) (w : World) (h : Blk w bc [gv, .bool f] 124) :
    Calls Tryz.prog 271 #[.pointer (some ⟨bc, 0, none⟩), .bool x] w fun e w' => e = .returned (.tuple #[]) ∧ w' = w.setCell ⟨bc, 1, none⟩ (.bool (f && x)) := by
  have h1 := h.cell 1
  have h2 := h.frozen 1
  simp at h1
  cases f <;> cases x
  all_goals
    go_enter Tryz.func271, Tryz.ntmps271
    go_wp2
    go_end0
    exact ⟨rfl, rfl⟩
end Go.Proofs.YteaokkaidcbdlaaGreatDoor
/- A region that draws its order, whose head is quiet and whose tail comes last. -/
namespace Go.Proofs.YteaokkaidcbdlaaGreatDoor
open Go Go.RowKit Go.Shelf
/-! ### A drawn region whose head is quiet and whose tail comes last, whatever is drawn: one walk of the head in the text's order, then the tail -/
section
variable {P : Program} {ops : Array Oper} {C : World → Prop}
/-- Whatever order is drawn, f more operations of the head (those below n) come up, each quiet; then L. -/
def Headed (P : Program) (ops : Array Oper) (C : World → Prop) (n : Nat) (L : Array Bool → Act → Prop) : Nat → Array Bool → Act → Prop
  | 0, done, a => L done a
  | f + 1, done, a => Region.ready .any ops done ≠ [] ∧ ∀ i ∈ Region.ready .any ops done, i < n ∧ qOp P ops C i (Headed P ops C n L f (done.setIfInBounds i true)) a
theorem Headed.any {n g : Nat} {L : Array Bool → Act → Prop} {Q : Exit → Act → World → Prop} (hL : ∀ done a w, C w → L done a → wpAny P .any ops Q g done a w) :
    ∀ (f : Nat) (done : Array Bool) (a : Act) (w : World), C w → Headed P ops C n L f done a → wpAny P .any ops Q (f + g) done a w := by
  intro f
  induction f with
  | zero => intro done a w hw h; rw [Nat.zero_add]; exact hL _ _ _ hw h
  | succ f ih =>
    intro done a w hw h
    rw [show f + 1 + g = (f + g) + 1 by omega]
    exact ⟨fun h0 => absurd h0 h.1, fun i hi => wpOp_of_qOp hw (fun a' w' hw' h' => ih _ a' w' hw' h') (h.2 i hi).2⟩
theorem Headed.first {n i : Nat} {o : Oper} {v : Value} {L : Array Bool → Act → Prop} (hi : ops[i]? = some o) (hsel : ∀ (j : Nat) (o : Oper) cs b, ops[j]? = some o → o.op ≠ .select cs b)
    (hs : Region.sinkB .any ops n = true) (hc : Region.chainB .any ops n = true) (hn : n < ops.size) (hin : i < n) (hL : ∀ done a, L done a → ∀ j ∈ Region.ready .any ops done, n ≤ j) :
    ∀ (f : Nat) (done : Array Bool) (a : Act), HeadInv .any ops n done →
      (∀ j oj, ops[j]? = some oj → j ≠ i → done.getD j true = false → (∀ e ∈ oj.after, Region.binds .any e = true → e.on ≠ i) → o.apart ops oj = true) →
      i ∈ Region.ready .any ops done → YieldsIn P ops C o v a → Headed P ops C n L f (done.setIfInBounds i true) (a.put o.dst v) → Headed P ops C n L (f + 1) done a := by
  intro f
  induction f with
  | zero =>
    intro done a inv _ hr hy H
    refine ⟨fun h => (by rw [h] at hr; cases hr), fun j hj => ?_⟩
    have hjn : j < n := Nat.lt_of_not_le fun h => tail_waits hs hc hn inv _ i rfl hin (mem_ready.1 hr).1 j h hj
    refine ⟨hjn, ?_⟩
    by_cases hji : j = i
    · subst hji; exact hy.qOp hi H
    · have := hL _ _ H j (ready_mono hj hji); omega
  | succ f ih =>
    intro done a inv hfree hr hy H
    have hun := (mem_ready.1 hr).1
    refine ⟨fun h => (by rw [h] at hr; cases hr), fun j hj => ?_⟩
    have hjn : j < n := Nat.lt_of_not_le fun h => tail_waits hs hc hn inv _ i rfl hin hun j h hj
    refine ⟨hjn, ?_⟩
    by_cases hji : j = i
    · subst hji; exact hy.qOp hi H
    · have h1 := (H.2 j (ready_mono hj hji)).2
      obtain ⟨hjun, oj, hoj, hall⟩ := mem_ready.1 hj
      have hnot : ∀ e ∈ oj.after, Region.binds .any e = true → e.on ≠ i := fun e he hb heq => by
        have h1 := hall e he hb
        rw [heq, getD_both hun] at h1
        cases h1
      have h2 := qOp_put hoj (hfree j oj hoj hji hjun hnot) (fun cs b => hsel i o cs b hi) (fun cs b => hsel j oj cs b hoj) hy h1
      refine qOp_mono (fun a' h3 => ih _ a' (inv.set hj hjn) (fun k ok hk hki hun' hno => hfree k ok hk hki ?_ hno) (ready_mono hr (Ne.symm hji)) h3.1 (by rw [Array.setIfInBounds_comm _ _ hji]; exact h3.2)) h2
      by_cases hjk : j = k
      · subst hjk; exact hjun
      · rw [getD_set_ne true hjk] at hun'; exact hun'
theorem Headed.lex {n g : Nat} {K : Act → Prop} (hsel : Region.noSelect ops = true) (hs : Region.sinkB .any ops n = true) (hc : Region.chainB .any ops n = true) (hn : n < ops.size) :
    ∀ (l : List Oper) (k : Nat) (done : Array Bool) (a : Act), (∀ j, j < l.length → l[j]? = ops[k + j]?) → k + l.length = n → HeadInv .any ops n done →
      Region.lexHead .any ops g l.length k done = true → wpQuiet P ops C K l a → Headed P ops C n (fun done' a' => Region.seqB .any ops g n done' = true ∧ K a') l.length done a := by
  intro l
  induction l with
  | nil =>
    intro k done a _ hk _ hB h
    obtain rfl : k = n := by simpa using hk
    exact ⟨by simpa [Region.lexHead] using hB, h⟩
  | cons o l ih =>
    intro k done a hl hk inv hB h
    have h0 : ops[k]? = some o := by simpa using (hl 0 (by simp)).symm
    simp only [List.length_cons, Region.lexHead, Bool.and_eq_true] at hB hk
    obtain ⟨⟨hr, hf⟩, hB'⟩ := hB
    have hr' : k ∈ Region.ready .any ops done := by simpa using hr
    have hst : qOp P ops C k (wpQuiet P ops C K l) a := by unfold qOp; simp only [h0]; exact h
    obtain ⟨v, hy, hK⟩ := yieldsIn_of_qOp h0 hst
    exact Headed.first h0 (Region.noSelect_spec hsel) hs hc hn (by omega) (fun _ _ hL => seqB_ready hL.1) l.length done a inv (Region.free_spec h0 hf) hr' hy
      (ih (k + 1) _ _ (fun j hj => by have := hl (j + 1) (by simp; omega); simpa [Nat.add_assoc, Nat.add_comm 1 j] using this) (by omega) (inv.set hr' (by omega)) hB' hK)
theorem region_tail {id : Nat} {Q : Exit → Act → World → Prop} {a : Act} {w : World} {l : List Oper} (n : Nat) (hm : P.follows .mixedOrders = true) (hB : Region.lexTailB .any l.toArray n = true)
    (h : wpQuiet P l.toArray (fun w' => ∃ n, w' = w.drewN n) (fun a' => ∀ w', (∃ n, w' = w.drewN n) → wpList P l.toArray Q (l.drop n) a' w') (l.take n) a) : (Code.region id l.toArray true).wp P Q a w := by
  simp only [Region.lexTailB, Bool.and_eq_true, decide_eq_true_eq] at hB
  obtain ⟨⟨⟨⟨hsel, hn⟩, hs⟩, hc⟩, hlex⟩ := hB
  have hn' : n < l.length := by simpa using hn
  have htl : (l.take n).length = n := by simp; omega
  have hdl : (l.drop n).length = l.toArray.size - n := by simp
  have inv0 : HeadInv .any l.toArray n (Array.replicate l.toArray.size false) :=
    ⟨by simp, fun j oj _ hl => (by rw [getD_replicate_false] at hl; cases hl), fun t _ ht => getD_in (by simpa using ht) (getD_replicate_false _ _)⟩
  have H := Headed.lex (P := P) (g := l.toArray.size - n) hsel hs hc hn (l.take n) 0 _ a (fun j hj => by
    rw [htl] at hj
    simp [hj]) (by simpa using htl) inv0 (by rw [htl]; exact hlex) h
  refine wp_region_any hm ?_
  have := Headed.any (Q := Q) (g := l.toArray.size - n) (fun done a' w' hw' hL => by
    have := wpAny_of_seq (md := .any) (Q' := Q) (l.drop n) n done a' w' (fun j => by simp [List.getElem?_drop]) (by rw [hdl]; exact hL.1) (hL.2 w' hw')
    rwa [hdl] at this) _ _ _ { w with drawn := w.drawn + 1 } ⟨1, rfl⟩ H
  rw [htl, show n + (l.toArray.size - n) = l.toArray.size by omega] at this
  exact this
end
end Go.Proofs.YteaokkaidcbdlaaGreatDoor
