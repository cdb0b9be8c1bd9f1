/- Part 12 of 53: the texts Eo, Ep, Rg, one behind the other. -/
import Derived.Test.YteaokkaidcbdlaaGreatDoorM9
import Derived.Test.YteaokkaidcbdlaaGreatDoorM11
namespace Go.Proofs.YteaokkaidcbdlaaGreatDoor
open Go Go.RowKit Go.Shelf
theorem drewN_two (w : World) (a b : Nat) : (w.drewN a).drewN b = w.drewN (a + b) := by unfold World.drewN; simp [Nat.add_assoc]
set_option maxRecDepth 100000 in
set_option maxHeartbeats 8000000 in
theorem eqOvers_any (v u : Value) (l m : List OverD) (W : World) (hl : SliceOf 2 (OverAt W) v l) (hm : SliceOf 2 (OverAt W) u m) :
    Calls Tryz.prog 167 #[v, u] W fun e w' => e = .returned (.bool (eqF overFitB l m)) ∧ ∃ n, w' = W.drewN n := by
  obtain ⟨o, cap, rfl⟩ := hl.form
  obtain ⟨p, cup, rfl⟩ := hm.form
  obtain ⟨_, hcm, hlc, hat⟩ := hl.at
  obtain ⟨_, hcm2, hlc2, hat2⟩ := hm.at
  have hl63 : l.length ≤ 9223372036854775807 := by unfold maxLen at hcm; omega
  clear hl hm hcm hcm2 hlc hlc2
  by_cases hlen : l.length = m.length
  ·have hne : ((l.length : Int) != m.length) = false := by simp; omega
   go_enter Tryz.func167, Tryz.ntmps167
   go_wp2
   go_loopw [13] (fun i wr => ∃ k n : Nat, k ≤ l.length ∧ i = .int .i64 k ∧ wr = W.drewN n ∧ Hid (((l.zip m).take k).all (fun x => overFitB x.1 x.2) = true)) (fun i _ => l.length - (intOf i).toNat)
   case atStart => exact ⟨0, 0, Nat.zero_le _, rfl, rfl, Lib.hid rfl⟩
   case round =>
    obtain ⟨k, n, hk, rfl, rfl, HT⟩ := hrel
    by_cases hlt : k < l.length
    ·have hlt2 : k < m.length := by omega
     have hlt' : (k : Int) < l.length := by omega
     have hlt2' : (k : Int) < m.length := by omega
     obtain ⟨b, off, rfl, e0⟩ := hat k l[k] (List.getElem?_eq_getElem hlt)
     obtain ⟨b2, off2, rfl, e1⟩ := hat2 k m[k] (List.getElem?_eq_getElem hlt2)
     have r0 : W.cell? ⟨b, off + k * 2, none⟩ = some (.string l[k].name) := e0.1
     have r1 : W.cell? ⟨b, off + k * 2 + 1, none⟩ = some (.string l[k].proc) := e0.2
     have r2 : W.cell? ⟨b2, off2 + k * 2, none⟩ = some (.string m[k].name) := e1.1
     have r3 : W.cell? ⟨b2, off2 + k * 2 + 1, none⟩ = some (.string m[k].proc) := e1.2
     have s1 : (l[k].name.toList == m[k].name.toList) = sameS l[k].name m[k].name := rfl
     have s2 : (l[k].proc.toList == m[k].proc.toList) = sameS l[k].proc m[k].proc := rfl
     have HB := Lib.hid (show overFitB l[k] m[k] = (sameS l[k].name m[k].name && sameS l[k].proc m[k].proc) from rfl)
     clear e0 e1 hat hat2 hlen hne
     generalize sameS l[k].name m[k].name = x at s1 HB
     generalize sameS l[k].proc m[k].proc = y at s2 HB
     rcases (show x = false ∨ (x = true ∧ y = false) ∨ (x = true ∧ y = true) by cases x <;> cases y <;> simp) with rfl | ⟨rfl, rfl⟩ | ⟨rfl, rfl⟩
     ·have HX := Lib.hid (eqF_no (f := overFitB) k hlt hlt2 (by rw [HB.out]; rfl))
      clear HB
      go_wp2
      go_quiet (fail)
      go_wp2
      go_ret
      exact ⟨ret_bool HX.out.symm, _, drewN_two _ _ _⟩
     ·have HX := Lib.hid (eqF_no (f := overFitB) k hlt hlt2 (by rw [HB.out]; rfl))
      clear HB
      go_wp2
      go_quiet (fail)
      go_wp2
      go_ret
      exact ⟨ret_bool HX.out.symm, _, drewN_two _ _ _⟩
     ·have HX := Lib.hid (show ((l.zip m).take (k + 1)).all (fun x => overFitB x.1 x.2) = true by rw [eqF_take (f := overFitB) k hlt hlt2, HT.out, HB.out]; rfl)
      clear HB
      go_wp2
      go_quiet (fail)
      go_wp2
      go_roundw
      case rel => exact ⟨k + 1, n + nq, by omega, by go_num, by rfl, HX⟩
      case measure => simp [intOf]; omega
    ·obtain rfl : k = l.length := by omega
     have HX := Lib.hid (eqF_yes hlen HT.out)
     go_wp2
     go_ret
     exact ⟨ret_bool HX.out.symm, n, rfl⟩
  ·have hne : ((l.length : Int) != m.length) = true := by simp; omega
   have HX := Lib.hid (eqF_len (f := overFitB) hlen)
   clear hlen hat hat2
   go_enter Tryz.func167, Tryz.ntmps167
   go_wp2
   go_ret
   exact ⟨ret_bool HX.out.symm, 0, rfl⟩
end Go.Proofs.YteaokkaidcbdlaaGreatDoor

namespace Go.Proofs.YteaokkaidcbdlaaGreatDoor
open Go Go.RowKit Go.Shelf
set_option maxRecDepth 100000 in
set_option maxHeartbeats 8000000 in
theorem eqParts_any (v u : Value) (l m : List PartD) (fb : Nat) (W0 W : World) (hf : W0.cell? ⟨fb, 0, none⟩ = some fitV) (hl : SliceOf 2 (PartAt W0) v l) (hm : SliceOf 2 (PartAt W0) u m) (hB : Below W0.heap.size W0 W) :
    Calls Tryz.prog 165 #[v, u, .func (.func 162) #[] #[.pointer (some ⟨fb, 0, none⟩)]] W fun e w' => e = .returned (.bool (eqF partFitB l m)) ∧ Below W.heap.size W w' := by
  obtain ⟨o, cap, rfl⟩ := hl.form
  obtain ⟨p, cup, rfl⟩ := hm.form
  obtain ⟨_, hcm, hlc, hat⟩ := hl.at
  obtain ⟨_, hcm2, hlc2, hat2⟩ := hm.at
  have hl63 : l.length ≤ 9223372036854775807 := by unfold maxLen at hcm; omega
  clear hl hm hcm hcm2 hlc hlc2
  by_cases hlen : l.length = m.length
  ·have hne : ((l.length : Int) != m.length) = false := by simp; omega
   go_enter Tryz.func165, Tryz.ntmps165
   go_wp2
   go_loopw [17] (fun i wr => ∃ k : Nat, k ≤ l.length ∧ i = .int .i64 k ∧ Below W.heap.size W wr ∧ Hid (((l.zip m).take k).all (fun x => partFitB x.1 x.2) = true)) (fun i _ => l.length - (intOf i).toNat)
   case atStart => exact ⟨0, Nat.zero_le _, rfl, Below.refl _ _, Lib.hid rfl⟩
   case round =>
    obtain ⟨k, hk, rfl, hbw, HT⟩ := hrel
    by_cases hlt : k < l.length
    ·have hlt2 : k < m.length := by omega
     have hlt' : (k : Int) < l.length := by omega
     have hlt2' : (k : Int) < m.length := by omega
     have hbel : Below W0.heap.size W0 wr := hB.trans (hbw.mono hB.size)
     have hh := Holds.below hbel
     obtain ⟨b, off, rfl, e0⟩ := hat k l[k] (List.getElem?_eq_getElem hlt)
     obtain ⟨b2, off2, rfl, e1⟩ := hat2 k m[k] (List.getElem?_eq_getElem hlt2)
     skip
     have r0 : wr.cell? ⟨b, off + k * 2, none⟩ = some (.string l[k].name) := hh _ _ e0.1
     have r1 : wr.cell? ⟨b, off + k * 2 + 1, none⟩ = some (.int .i64 l[k].type) := hh _ _ e0.2
     skip
     have hb2 : Below wr.heap.size wr ((wr.alloc (.cells #[.string l[k].name, .int .i64 l[k].type] 93)).alloc (.cells #[.string m[k].name, .int .i64 m[k].type] 93)) := ((Below.refl _ _).alloc (Nat.le_refl _) _).alloc (by simp) _
     have r2 : ∀ o1, (wr.alloc o1).cell? ⟨b2, off2 + k * 2, none⟩ = some (.string m[k].name) := fun o1 => (World.cell?_alloc_lt _ _ _ (cell_lt (hh _ _ e1.1))).trans (hh _ _ e1.1)
     have r3 : ∀ o1, (wr.alloc o1).cell? ⟨b2, off2 + k * 2 + 1, none⟩ = some (.int .i64 m[k].type) := fun o1 => (World.cell?_alloc_lt _ _ _ (cell_lt (hh _ _ e1.2))).trans (hh _ _ e1.2)
     have r4 : wr.cell? ⟨b2, off2 + k * 2, none⟩ = some (.string m[k].name) := hh _ _ e1.1
     have r5 : wr.cell? ⟨b2, off2 + k * 2 + 1, none⟩ = some (.int .i64 m[k].type) := hh _ _ e1.2
     have hC : Calls Tryz.prog 162 #[.agg #[.string l[k].name, .int .i64 l[k].type], .agg #[.string m[k].name, .int .i64 m[k].type], .pointer (some ⟨fb, 0, none⟩)] _ fun e w' => e = .returned (.bool (partFitB l[k] m[k])) ∧ Below _ _ w' := partFit_any l[k].name m[k].name l[k].type m[k].type fb ((wr.alloc (.cells #[.string l[k].name, .int .i64 l[k].type] 93)).alloc (.cells #[.string m[k].name, .int .i64 m[k].type] 93)) (Holds.below hb2 _ _ (hh _ _ hf))
     have BL : Below W.heap.size W ((wr.alloc (.cells #[.string l[k].name, .int .i64 l[k].type] 93)).alloc (.cells #[.string m[k].name, .int .i64 m[k].type] 93)) := hbw.trans (hb2.mono hbw.size)
     clear e0 e1 hat hat2 hlen hne hh hbel
     cases hx : partFitB l[k] m[k] with
     | false =>
       rw [hx] at hC
       have HC := hide hC
       have HX := Lib.hid (eqF_no k hlt hlt2 hx)
       clear hC hx
       go_wp2_with (first | (go_at_call 162; refine (unhide HC).mono ?_; rintro e w4 ⟨rfl, hb4⟩))
       go_ret
       exact ⟨ret_bool HX.out.symm, BL.trans (hb4.mono BL.size)⟩
     | true =>
       rw [hx] at hC
       have HC := hide hC
       have HX := Lib.hid (show ((l.zip m).take (k + 1)).all (fun x => partFitB x.1 x.2) = true by rw [eqF_take k hlt hlt2, HT.out, hx]; rfl)
       clear hC hx
       go_wp2_with (first | (go_at_call 162; refine (unhide HC).mono ?_; rintro e w4 ⟨rfl, hb4⟩))
       go_roundw
       case rel => exact ⟨k + 1, by omega, by go_num, BL.trans (hb4.mono BL.size), HX⟩
       case measure => simp [intOf]; omega
    ·obtain rfl : k = l.length := by omega
     have HX := Lib.hid (eqF_yes hlen HT.out)
     go_wp2
     go_ret
     exact ⟨ret_bool HX.out.symm, hbw⟩
  ·have hne : ((l.length : Int) != m.length) = true := by simp; omega
   have HX := Lib.hid (eqF_len (f := partFitB) hlen)
   clear hlen hat hat2
   go_enter Tryz.func165, Tryz.ntmps165
   go_wp2
   go_ret
   exact ⟨ret_bool HX.out.symm, Below.refl _ _⟩
end Go.Proofs.YteaokkaidcbdlaaGreatDoor

namespace Go.Proofs.YteaokkaidcbdlaaGreatDoor
open Go Go.RowKit Go.Shelf
attribute [local go_sem] Oper.semAt_some
theorem wpIn_rangeGives {α : Type} {g : Operand} {ps : Array Tmp} {assign body : Code} {Q : Exit → Act → World → Prop} {a : Act} {w1 : World} {gf : Nat} {lb : Array Value} (encs : α → Array Value) (L : List α)
    (hg : a.eval g = .func (.func gf) #[] lb) (eg : ∀ args w, (callFunc gf args).run Tryz.prog w = .ok (.enter gf args) w) (hps : ∀ x, (encs x).size = ps.size)
    (I : List α → World → Prop) (h0 : I [] w1)
    (hIt : ∀ (l : Nat) (J : List α → World → Prop), (∀ p W, J p W → I p W) →
     (∀ p x W, p ++ [x] <+: L → J p W → YieldAt Fence.wide 0 Tryz.prog l (encs x) W fun e W' => e = .returned (.bool true) ∧ J (p ++ [x]) W') →
     ∀ W, J [] W → CallsIn Fence.wide 1 Tryz.prog gf (#[.func (.yield l) #[] #[]] ++ lb) W fun e W' => (∃ v, e = .returned v) ∧ J L W')
    (hIa : ∀ pre W o, I pre W → I pre (W.alloc o))
    (hIp : ∀ pre W l o o', I pre W → w1.heap.size ≤ l → W.heap[l]? = some o → o.isCells = false → I pre (W.putObj l o'))
    (a₁ : α → Act)
    (hassign : ∀ (l : Nat) (x : α) (W : World) (K : Act → World → Prop), K (a₁ x) W →
     assign.wpIn (Fence.wide.inRound l) 0 Tryz.prog (Exit.then K (fun _ _ _ => False)) { tmps := (ps.zip (encs x)).foldl (fun t (p, v) => t.setIfInBounds p v) a.tmps, defers := [] } W)
    (hbody : ∀ (l : Nat) (pre : List α) (x : α) (W : World), pre ++ [x] <+: L → I pre W →
     body.wpIn (Fence.wide.inRound l) 0 Tryz.prog (fun e _ W3 => e = .normal ∧ KeepsFrom w1.heap.size W W3 ∧ I (pre ++ [x]) W3) (a₁ x) W)
    (hdone : ∀ (W : World), I L W → W.heap[w1.heap.size]? = some (.deferred (some [])) → Q .normal { a with defers := { target := .collected w1.heap.size, args := #[] } :: a.defers } W) :
    (Code.rangeFunc g ps assign body).wpIn Fence.wide 2 Tryz.prog Q a w1 := by
  refine wpIn_rangeFunc ?_
  intro fn hfn
  obtain ⟨rec, hrec⟩ : ∃ rec : LoopState → Option Code → Loop, rec = fun st pe => { state := st, pending := pe, fn, tmps := a.tmps, params := ps, assign, body, defers := w1.heap.size } := ⟨_, rfl⟩
  obtain ⟨W1, hW1⟩ : ∃ W1, (w1.alloc (.deferred (some []))).alloc (.loop (rec .ready none)) = W1 := ⟨_, rfl⟩
  have hL1 : W1.heap[w1.heap.size + 1]? = some (.loop (rec .ready none)) := by
   rw [← hW1]; have := World.alloc_heap_new (w1.alloc (.deferred (some []))) (.loop (rec .ready none)); rwa [World.size_alloc] at this
  have hK1 : W1.heap[w1.heap.size]? = some (.deferred (some [])) := by
   rw [← hW1]; exact (Below.heap_alloc _ _ _ (by simp)).trans (World.alloc_heap_new w1 _)
  have hI1 : I [] W1 := by rw [← hW1]; exact hIa _ _ _ (hIa _ _ _ h0)
  refine ⟨w1.heap.size + 1, [{ target := .collected w1.heap.size, args := #[] }], W1, { target := .fn (.func gf) lb, args := #[.func (.yield (w1.heap.size + 1)) #[] #[]] }, W1, gf,
   #[.func (.yield (w1.heap.size + 1)) #[] #[]] ++ lb, W1, ?_, ?_, ?_, ?_, (fun h => by cases h), ?_⟩
  ·rw [← hW1, hrec]; exact run_enterLoop_outer _ _ _ _ _
  ·simp only [resolve, hg]
   simp [go_sem]
  ·intro _ _; trivial
  ·simp [invoke, go_sem, eg]
  ·refine (hIt (w1.heap.size + 1) (fun pre W => I pre W ∧ W.heap[w1.heap.size + 1]? = some (.loop (rec .ready none)) ∧ W.heap[w1.heap.size]? = some (.deferred (some []))) (fun _ _ h => h.1) ?_ W1 ⟨hI1, hL1, hK1⟩).mono ?_
   ·
    rintro pre x W hpx ⟨hi, hl, hk⟩
    have hlt : w1.heap.size + 1 < W.heap.size := (Array.getElem?_eq_some_iff.1 hl).1
    have hy := run_yield (P := Tryz.prog) (args := encs x) hl (by rw [hrec]; exact hps x)
    rw [hrec] at hy
    refine ⟨fn, _, assign, body, hy, roundIn_of_wpIn hfn (hassign _ x W _ ?_)⟩
    clear hy
    refine ⟨_, run_beginRound hl (by rw [hrec]), ?_⟩
    have hl2 : (W.putObj (w1.heap.size + 1) (.loop { rec .ready none with state := .busy })).heap[w1.heap.size + 1]? = some (.loop { rec .ready none with state := .busy }) := World.putObj_heap_same hlt
    have hk2 : (W.putObj (w1.heap.size + 1) (.loop { rec .ready none with state := .busy })).heap[w1.heap.size]? = some (.deferred (some [])) := (World.putObj_heap_other (by omega)).trans hk
    refine wpIn_mono (hbody _ pre x _ hpx (hIp _ _ _ _ _ hi (by omega) hl rfl)) ?_
    rintro e a3 W3 ⟨rfl, hk3, hi3⟩
    have hl3 := hk3.same _ _ (by omega) hl2 rfl
    have hr := run_endRound (P := Tryz.prog) none hl3
    rw [hrec] at hr
    have hl3' := hl3
    rw [hrec] at hl3'
    refine ⟨_, _, hr, rfl, hIp _ _ _ _ _ hi3 (by omega) hl3' rfl, ?_, ?_⟩
    ·rw [hrec]; exact World.putObj_heap_same (Array.getElem?_eq_some_iff.1 hl3).1
    ·exact (World.putObj_heap_other (by omega)).trans (hk3.same _ _ (Nat.le_refl _) hk2 rfl)
   ·
    rintro e W2 ⟨⟨v, rfl⟩, hi, hl, hk⟩
    exact ⟨none, _, by have := run_endLoop (P := Tryz.prog) hl (by rw [hrec]; simp); rw [hrec] at this; exact this, hdone _ (hIp _ _ _ _ _ hi (by omega) hl rfl) ((World.putObj_heap_other (by omega)).trans hk)⟩
end Go.Proofs.YteaokkaidcbdlaaGreatDoor

