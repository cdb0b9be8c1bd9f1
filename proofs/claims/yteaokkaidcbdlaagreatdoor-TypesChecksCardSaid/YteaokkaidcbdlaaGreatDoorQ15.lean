/- Part 15 of 51: the texts Mk, Sb, one behind the other. -/
import Derived.Test.YteaokkaidcbdlaaGreatDoorQ0
import Derived.RangeFuncNested
import Derived.Maps.AppendAt
import Derived.Tactics
import Derived.Tactics2
import Derived.WalkKit
import Derived.LoopTactic
import Derived.Outline
import Derived.Lib.Hide
import Derived.Handy
import Derived.KernelRfl
import Derived.Deep.LoopGhost
import Derived.CallsIn
import Derived.Deep.QuietTactic
import Derived.BigQuiet
import Derived.Deep.Draws
import Derived.WalkSpells
import Derived.Lib.Walk
import Derived.Lib.Strings
import Derived.Maps.OwnOps
import Derived.Maps.OwnSet
import Derived.Deep.RegionWith
import Derived.StillTailTactics
import Derived.WalkMore
import Derived.RangeFuncBound
import Derived.RangeFuncCalls
import Derived.RangeFuncLeaves
import Derived.RangeFuncBox
import Derived.Shelf.Abstract
import Derived.OwnWalkIn
import Derived.TacticsInMore
import Derived.LoopNIn
import Derived.LoopIn
import Derived.RecoverIn
import Derived.RegionTactic
import Derived.ChangeAlike
import Derived.OwnWalk
import Derived.Deep.AppendLies
import Derived.Deep.DeepCutAuto
import Derived.Deep.RegionLaw
import Derived.Deep.RegionHeld3
import Derived.Laws.EntriesVeiled
import Derived.Test.YteaokkaidcbdlaaGreatDoorQ9
/- the marks of ranges over iterators that stand in a loop -/
namespace Go.Proofs.YteaokkaidcbdlaaGreatDoor
open Go Go.RowKit Go.Shelf
/-! ### The marks of ranges over iterators that stand in a loop -/
def marks (ms : List Nat) : List Deferred := ms.map fun D => { target := .collected D, args := #[] }
def shut (w : World) (ms : List Nat) : World := ms.foldl (fun w D => w.putObj D (.deferred none)) w
/-- All marks' blocks are open, and each is another one, laid behind B. -/
structure Open' (w : World) (B : Nat) (ms : List Nat) : Prop where
  at' : ∀ D ∈ ms, w.heap[D]? = some (.deferred (some []))
  ge : ∀ D ∈ ms, B ≤ D
  nodup : ms.Nodup
theorem Open'.nil (w : World) (B : Nat) : Open' w B [] := ⟨fun _ h => by simp at h, fun _ h => by simp at h, List.nodup_nil⟩
theorem Open'.keeps {w w' : World} {B : Nat} {ms : List Nat} (h : Open' w B ms) (hk : ∀ D ∈ ms, w'.heap[D]? = w.heap[D]?) : Open' w' B ms := ⟨fun D hD => (hk D hD).trans (h.at' D hD), h.ge, h.nodup⟩
theorem Open'.below {w w' : World} {B : Nat} {ms : List Nat} (h : Open' w B ms) (hb : Below w.heap.size w w') : Open' w' B ms := h.keeps fun D hD => hb.block D (Array.getElem?_eq_some_iff.1 (h.at' D hD)).1
theorem Open'.from' {w w' : World} {B C : Nat} {ms : List Nat} (h : Open' w B ms) (hk : KeepsFrom C w w') (hC : C ≤ B) : Open' w' B ms :=
  ⟨fun D hD => hk.same _ _ (Nat.le_trans hC (h.ge D hD)) (h.at' D hD) rfl, h.ge, h.nodup⟩
theorem Open'.cons {w : World} {B D : Nat} {ms : List Nat} (h : Open' w B ms) (hD : w.heap[D]? = some (.deferred (some []))) (hg : B ≤ D) (hn : D ∉ ms) : Open' w B (D :: ms) :=
  ⟨fun E hE => by rcases List.mem_cons.1 hE with rfl | hE; exact hD; exact h.at' E hE, fun E hE => by rcases List.mem_cons.1 hE with rfl | hE; exact hg; exact h.ge E hE, List.nodup_cons.2 ⟨hn, h.nodup⟩⟩
theorem Open'.grown {w w' : World} {B : Nat} {ms : List Nat} {row : Option Nat} (h : Open' w B ms) (hg : w.grownBy w' row) (hr : ∀ r, row = some r → ∃ o, w.heap[r]? = some o ∧ ∀ ds, o ≠ .deferred ds) : Open' w' B ms :=
  h.keeps fun D hD => hg.block D (Array.getElem?_eq_some_iff.1 (h.at' D hD)).1 (fun e => by
    obtain ⟨o, ho, hne⟩ := hr D e.symm
    have := h.at' D hD
    rw [ho] at this; cases this
    exact hne _ rfl)
theorem shut_row {base : Nat} {e : TypeId} {sz n : Nat} {v : Value} {xs : List Value} : ∀ (ms : List Nat) (w : World), (∀ D ∈ ms, w.heap[D]? = some (.deferred (some []))) → ms.Nodup → w.ownsRow base e sz v n xs → (shut w ms).ownsRow base e sz v n xs
  | [], w, _, _, h => h
  | D :: ms, w, hm, hn, h => by
    have hD := hm D (by simp)
    refine shut_row ms _ (fun E hE => ?_) (List.nodup_cons.1 hn).2 (ownsRow_putObj h _ hD rfl)
    have hne : D ≠ E := fun e => (List.nodup_cons.1 hn).1 (e ▸ hE)
    exact (World.putObj_heap_other (by omega)).trans (hm E (by simp [hE]))
theorem shut_below {B : Nat} {w0 : World} (hB : B ≤ w0.heap.size) : ∀ (ms : List Nat) (w : World), (∀ D ∈ ms, B ≤ D) → w0.heap.size ≤ w.heap.size → Below B w0 w → Below B w0 (shut w ms)
  | [], _, _, _, h => h
  | D :: ms, w, hm, hs, h => by
    refine shut_below hB ms _ (fun E hE => hm E (by simp [hE])) ?_ (h.grown (grownBy_putObj' w D _) (Nat.le_trans hB hs) (fun j e => by cases e; exact hm D (by simp)))
    exact Nat.le_trans hs (by simp [World.putObj])
theorem leaves_marks {F : Fence} {n : Nat} {fn : Func} {tmps : Array Value} {R : Ending → World → Prop} : ∀ (ms : List Nat) (w : World), (∀ D ∈ ms, w.heap[D]? = some (.deferred (some []))) → ms.Nodup →
    LeavesIn F n Tryz.prog fn tmps R [] .returning (shut w ms) → LeavesInM F n Tryz.prog fn tmps R (marks ms) .returning w
  | [], w, _, _, h => h
  | D :: ms, w, hm, hn, h => by
    refine ⟨by simp, .inl ⟨D, _, rfl, run_takeDeferred (hm D (by simp)), leaves_marks ms _ (fun E hE => ?_) (List.nodup_cons.1 hn).2 h⟩⟩
    have hne : D ≠ E := fun e => (List.nodup_cons.1 hn).1 (e ▸ hE)
    exact (World.putObj_heap_other (by omega)).trans (hm E (by simp [hE]))
end Go.Proofs.YteaokkaidcbdlaaGreatDoor
/- classes' own functions: of one class (105), rows of types of one class (108) -/
namespace Go.Proofs.YteaokkaidcbdlaaGreatDoor
open Go Go.RowKit Go.Shelf
/-! ### classes$1 (105): are two types of one class? -/
theorem sameClass_any (cb : Nat) (va : Value) (xs : List Int) (i j : Nat) (hi : i < xs.length) (hj : j < xs.length) (W : World) (hc : W.cell? ⟨cb, 0, none⟩ = some va) (hs : SliceOf 1 (IntAt W) va xs) :
    Calls Tryz.prog 105 #[.int .i64 i, .int .i64 j, .pointer (some ⟨cb, 0, none⟩)] W fun e w' => e = .returned (.bool (decide (xs[i] = xs[j]))) ∧ Below W.heap.size W w' := by
  obtain ⟨o, cap, rfl⟩ := hs.form
  obtain ⟨-, hm, hl, hat⟩ := hs.at
  obtain ⟨b, off, rfl, e0⟩ := hat i xs[i] (List.getElem?_eq_getElem hi)
  obtain ⟨b2, off2, he, f0⟩ := hat j xs[j] (List.getElem?_eq_getElem hj)
  cases he
  unfold IntAt at e0 f0
  simp only [Nat.mul_one] at e0 f0
  have hi' : (i : Int) < xs.length := by omega
  have hj' : (j : Int) < xs.length := by omega
  have hBD := fun nq => below_drewN' (Below.refl W.heap.size W) nq
  generalize xs[i] = x at e0 ⊢
  generalize xs[j] = y at f0 ⊢
  clear hs hat hm hl
  by_cases hxy : x = y
  · subst hxy
    go_enter Tryz.func105, Tryz.ntmps105
    go_wp2
    go_quiet (fail)
    go_wp2
    go_ret
    exact ⟨ret_bool (by simp), hBD nq⟩
  · go_enter Tryz.func105, Tryz.ntmps105
    go_wp2
    go_quiet (fail)
    go_wp2
    go_ret
    exact ⟨ret_bool (by simp [hxy]), hBD nq⟩
/-- Of one class, for any two numbers that are types. -/
def sameB (xs : List Int) (x y : Int) : Bool := decide (xs.getD x.toNat 0 = xs.getD y.toNat 0)
theorem sameClass_int (cb : Nat) (va : Value) (xs : List Int) (x y : Int) (hx : 0 ≤ x ∧ x < xs.length) (hy : 0 ≤ y ∧ y < xs.length) (W : World) (hc : W.cell? ⟨cb, 0, none⟩ = some va) (hs : SliceOf 1 (IntAt W) va xs) :
    Calls Tryz.prog 105 #[.int .i64 x, .int .i64 y, .pointer (some ⟨cb, 0, none⟩)] W fun e w' => e = .returned (.bool (sameB xs x y)) ∧ Below W.heap.size W w' := by
  obtain ⟨i, rfl⟩ := Int.eq_ofNat_of_zero_le hx.1
  obtain ⟨j, rfl⟩ := Int.eq_ofNat_of_zero_le hy.1
  have hi : i < xs.length := by omega
  have hj : j < xs.length := by omega
  have h := sameClass_any cb va xs i j hi hj W hc hs
  unfold sameB
  simpa [List.getD_eq_getElem?_getD, List.getElem?_eq_getElem hi, List.getElem?_eq_getElem hj] using h
/-- slices.EqualFunc of numbers of types, held together by their classes. -/
theorem eqClass_any (cb : Nat) (va v u : Value) (xs l m : List Int) (W : World) (hc : W.cell? ⟨cb, 0, none⟩ = some va) (hs : SliceOf 1 (IntAt W) va xs) (hl : SliceOf 1 (IntAt W) v l) (hm : SliceOf 1 (IntAt W) u m)
    (hzl : ∀ x ∈ l, 0 ≤ x ∧ x < xs.length) (hzm : ∀ x ∈ m, 0 ≤ x ∧ x < xs.length) :
    Calls Tryz.prog 108 #[v, u, .func (.func 105) #[] #[.pointer (some ⟨cb, 0, none⟩)]] W fun e w' => e = .returned (.bool (eqF (sameB xs) l m)) ∧ Below W.heap.size W w' := by
  obtain ⟨o, cap, rfl⟩ := hl.form
  obtain ⟨p, cup, rfl⟩ := hm.form
  obtain ⟨_, hcm, hlc, hat⟩ := hl.at
  obtain ⟨_, hcm2, hlc2, hat2⟩ := hm.at
  have hl63 : l.length ≤ 9223372036854775807 := by unfold maxLen at hcm; omega
  have HC := hide (fun x y hx hy W' (hb : Below W.heap.size W W') => sameClass_int cb va xs x y hx hy W' (Holds.below hb _ _ hc) (hs.mono fun _ _ _ _ => IntAt.go (.below hb)))
  clear hl hm hcm hcm2 hlc hlc2 hc hs
  by_cases hlen : l.length = m.length
  · have hne : ((l.length : Int) != m.length) = false := by simp; omega
    go_enter Tryz.func108, Tryz.ntmps108
    go_wp2
    go_loopw [17] (fun i wr => ∃ k : Nat, k ≤ l.length ∧ i = .int .i64 k ∧ Below W.heap.size W wr ∧ Hid (((l.zip m).take k).all (fun x => sameB xs x.1 x.2) = true)) (fun i _ => l.length - (intOf i).toNat)
    case atStart => exact ⟨0, Nat.zero_le _, rfl, Below.refl _ _, Lib.hid rfl⟩
    case round =>
      obtain ⟨k, hk, rfl, hbw, HT⟩ := hrel
      by_cases hlt : k < l.length
      · have hlt2 : k < m.length := by omega
        have hlt' : (k : Int) < l.length := by omega
        have hlt2' : (k : Int) < m.length := by omega
        obtain ⟨b, off, rfl, e0⟩ := hat k l[k] (List.getElem?_eq_getElem hlt)
        obtain ⟨b2, off2, rfl, e1⟩ := hat2 k m[k] (List.getElem?_eq_getElem hlt2)
        have r0 : wr.cell? ⟨b, off + k, none⟩ = some (.int .i64 l[k]) := Holds.below hbw _ _ (by simpa [IntAt] using e0)
        have r1 : wr.cell? ⟨b2, off2 + k, none⟩ = some (.int .i64 m[k]) := Holds.below hbw _ _ (by simpa [IntAt] using e1)
        have hF := unhide HC l[k] m[k] (hzl _ (List.getElem_mem hlt)) (hzm _ (List.getElem_mem hlt2)) wr hbw
        have hF := hF.mono fun _ w' h => (⟨h.1, hbw.trans (h.2.mono hbw.size)⟩ : _ ∧ Below W.heap.size W w')
        clear e0 e1 hat hat2 hlen hne HC hzl hzm
        cases hx : sameB xs l[k] m[k] with
        | false =>
          rw [hx] at hF
          have HF := hide hF
          have HX := Lib.hid (eqF_no k hlt hlt2 hx)
          clear hF hx
          go_wp2_with (first | (go_at_call 105; refine (unhide HF).mono ?_; rintro e w4 ⟨rfl, hb4⟩))
          go_ret
          exact ⟨ret_bool HX.out.symm, hb4⟩
        | true =>
          rw [hx] at hF
          have HF := hide hF
          have HX := Lib.hid (show ((l.zip m).take (k + 1)).all (fun x => sameB xs x.1 x.2) = true by rw [eqF_take k hlt hlt2, HT.out, hx]; rfl)
          clear hF hx
          go_wp2_with (first | (go_at_call 105; refine (unhide HF).mono ?_; rintro e w4 ⟨rfl, hb4⟩))
          go_roundw
          case rel => exact ⟨k + 1, by omega, by go_num, hb4, HX⟩
          case measure => simp [intOf]; omega
      · obtain rfl : k = l.length := by omega
        have HX := Lib.hid (eqF_yes hlen HT.out)
        go_wp2
        go_ret
        exact ⟨ret_bool HX.out.symm, hbw⟩
  · have hne : ((l.length : Int) != m.length) = true := by simp; omega
    have HX := Lib.hid (show eqF (sameB xs) l m = false by unfold eqF; simp [hlen])
    go_enter Tryz.func108, Tryz.ntmps108
    go_wp2
    go_ret
    exact ⟨ret_bool HX.out.symm, Below.refl _ _⟩
end Go.Proofs.YteaokkaidcbdlaaGreatDoor
