/- Part 20 of 51: the texts Rg, Rs, one behind the other. -/
import Derived.Test.YteaokkaidcbdlaaGreatDoorQ19
import Derived.Tactics
import Derived.Tactics2
import Derived.WalkKit
import Derived.LoopTactic
import Derived.Outline
import Derived.Lib.Hide
import Derived.Handy
import Derived.KernelRfl
import Derived.Deep.LoopGhost
import Derived.CallsIn
import Derived.Deep.QuietTactic
import Derived.BigQuiet
import Derived.Deep.Draws
import Derived.WalkSpells
import Derived.Lib.Walk
import Derived.Lib.Strings
import Derived.Maps.OwnOps
import Derived.Maps.OwnSet
import Derived.Deep.RegionWith
import Derived.StillTailTactics
import Derived.WalkMore
import Derived.RangeFuncNested
import Derived.RangeFuncBound
import Derived.RangeFuncCalls
import Derived.RangeFuncLeaves
import Derived.RangeFuncBox
import Derived.Shelf.Abstract
import Derived.OwnWalkIn
import Derived.TacticsInMore
import Derived.LoopNIn
import Derived.LoopIn
import Derived.RecoverIn
import Derived.Maps.AppendAt
import Derived.RegionTactic
import Derived.ChangeAlike
import Derived.OwnWalk
import Derived.Deep.AppendLies
import Derived.Deep.DeepCutAuto
import Derived.Deep.RegionLaw
import Derived.Deep.RegionHeld3
import Derived.Laws.EntriesVeiled
import Derived.Test.YteaokkaidcbdlaaGreatDoorQ13
import Derived.Shelf.RegionOpen
/- a range over an iterator that gives a list known ahead, by a body that goes on -/
namespace Go.Proofs.YteaokkaidcbdlaaGreatDoor
open Go Go.RowKit Go.Shelf
attribute [local go_sem] Oper.semAt_some
/-! ### A range over an iterator that gives a list known ahead, by a body that goes on -/
theorem wpIn_rangeGives {α : Type} {g : Operand} {ps : Array Tmp} {assign body : Code} {Q : Exit → Act → World → Prop} {a : Act} {w1 : World} {gf : Nat} {lb : Array Value} (encs : α → Array Value) (L : List α)
    (hg : a.eval g = .func (.func gf) #[] lb) (eg : ∀ args w, (callFunc gf args).run Tryz.prog w = .ok (.enter gf args) w) (hps : ∀ x, (encs x).size = ps.size)
    (I : List α → World → Prop) (h0 : I [] w1)
    (hIt : ∀ (l : Nat) (J : List α → World → Prop), (∀ p W, J p W → I p W) →
      (∀ p x W, p ++ [x] <+: L → J p W → YieldAt Fence.wide 0 Tryz.prog l (encs x) W fun e W' => e = .returned (.bool true) ∧ J (p ++ [x]) W') →
      ∀ W, J [] W → CallsIn Fence.wide 1 Tryz.prog gf (#[.func (.yield l) #[] #[]] ++ lb) W fun e W' => (∃ v, e = .returned v) ∧ J L W')
    (hIa : ∀ pre W o, I pre W → I pre (W.alloc o))
    (hIp : ∀ pre W l o o', I pre W → w1.heap.size ≤ l → W.heap[l]? = some o → o.isCells = false → I pre (W.putObj l o'))
    (a₁ : α → Act)
    (hassign : ∀ (l : Nat) (x : α) (W : World) (K : Act → World → Prop), K (a₁ x) W →
      assign.wpIn (Fence.wide.inRound l) 0 Tryz.prog (Exit.then K (fun _ _ _ => False)) { tmps := (ps.zip (encs x)).foldl (fun t (p, v) => t.setIfInBounds p v) a.tmps, defers := [] } W)
    (hbody : ∀ (l : Nat) (pre : List α) (x : α) (W : World), pre ++ [x] <+: L → I pre W →
      body.wpIn (Fence.wide.inRound l) 0 Tryz.prog (fun e _ W3 => e = .normal ∧ KeepsFrom w1.heap.size W W3 ∧ I (pre ++ [x]) W3) (a₁ x) W)
    (hdone : ∀ (W : World), I L W → W.heap[w1.heap.size]? = some (.deferred (some [])) → Q .normal { a with defers := { target := .collected w1.heap.size, args := #[] } :: a.defers } W) :
    (Code.rangeFunc g ps assign body).wpIn Fence.wide 2 Tryz.prog Q a w1 := by
  refine wpIn_rangeFunc ?_
  intro fn hfn
  obtain ⟨rec, hrec⟩ : ∃ rec : LoopState → Option Code → Loop, rec = fun st pe => { state := st, pending := pe, fn, tmps := a.tmps, params := ps, assign, body, defers := w1.heap.size } := ⟨_, rfl⟩
  obtain ⟨W1, hW1⟩ : ∃ W1, (w1.alloc (.deferred (some []))).alloc (.loop (rec .ready none)) = W1 := ⟨_, rfl⟩
  have hL1 : W1.heap[w1.heap.size + 1]? = some (.loop (rec .ready none)) := by
    rw [← hW1]; have := World.alloc_heap_new (w1.alloc (.deferred (some []))) (.loop (rec .ready none)); rwa [World.size_alloc] at this
  have hK1 : W1.heap[w1.heap.size]? = some (.deferred (some [])) := by
    rw [← hW1]; exact (Below.heap_alloc _ _ _ (by simp)).trans (World.alloc_heap_new w1 _)
  have hI1 : I [] W1 := by rw [← hW1]; exact hIa _ _ _ (hIa _ _ _ h0)
  refine ⟨w1.heap.size + 1, [{ target := .collected w1.heap.size, args := #[] }], W1, { target := .fn (.func gf) lb, args := #[.func (.yield (w1.heap.size + 1)) #[] #[]] }, W1, gf,
    #[.func (.yield (w1.heap.size + 1)) #[] #[]] ++ lb, W1, ?_, ?_, ?_, ?_, (fun h => by cases h), ?_⟩
  · rw [← hW1, hrec]; exact run_enterLoop_outer _ _ _ _ _
  · simp only [resolve, hg]
    simp [go_sem]
  · intro _ _; trivial
  · simp [invoke, go_sem, eg]
  · refine (hIt (w1.heap.size + 1) (fun pre W => I pre W ∧ W.heap[w1.heap.size + 1]? = some (.loop (rec .ready none)) ∧ W.heap[w1.heap.size]? = some (.deferred (some []))) (fun _ _ h => h.1) ?_ W1 ⟨hI1, hL1, hK1⟩).mono ?_
    · -- ONE ROUND
      rintro pre x W hpx ⟨hi, hl, hk⟩
      have hlt : w1.heap.size + 1 < W.heap.size := (Array.getElem?_eq_some_iff.1 hl).1
      have hy := run_yield (P := Tryz.prog) (args := encs x) hl (by rw [hrec]; exact hps x)
      rw [hrec] at hy
      refine ⟨fn, _, assign, body, hy, roundIn_of_wpIn hfn (hassign _ x W _ ?_)⟩
      clear hy
      refine ⟨_, run_beginRound hl (by rw [hrec]), ?_⟩
      have hl2 : (W.putObj (w1.heap.size + 1) (.loop { rec .ready none with state := .busy })).heap[w1.heap.size + 1]? = some (.loop { rec .ready none with state := .busy }) := World.putObj_heap_same hlt
      have hk2 : (W.putObj (w1.heap.size + 1) (.loop { rec .ready none with state := .busy })).heap[w1.heap.size]? = some (.deferred (some [])) := (World.putObj_heap_other (by omega)).trans hk
      refine wpIn_mono (hbody _ pre x _ hpx (hIp _ _ _ _ _ hi (by omega) hl rfl)) ?_
      rintro e a3 W3 ⟨rfl, hk3, hi3⟩
      have hl3 := hk3.same _ _ (by omega) hl2 rfl
      have hr := run_endRound (P := Tryz.prog) none hl3
      rw [hrec] at hr
      have hl3' := hl3
      rw [hrec] at hl3'
      refine ⟨_, _, hr, rfl, hIp _ _ _ _ _ hi3 (by omega) hl3' rfl, ?_, ?_⟩
      · rw [hrec]; exact World.putObj_heap_same (Array.getElem?_eq_some_iff.1 hl3).1
      · exact (World.putObj_heap_other (by omega)).trans (hk3.same _ _ (Nat.le_refl _) hk2 rfl)
    · -- BEHIND THE ITERATOR
      rintro e W2 ⟨⟨v, rfl⟩, hi, hl, hk⟩
      exact ⟨none, _, by have := run_endLoop (P := Tryz.prog) hl (by rw [hrec]; simp); rw [hrec] at this; exact this, hdone _ (hIp _ _ _ _ _ hi (by omega) hl rfl) ((World.putObj_heap_other (by omega)).trans hk)⟩
end Go.Proofs.YteaokkaidcbdlaaGreatDoor
/- references (104), of a type's shape -/
namespace Go.Proofs.YteaokkaidcbdlaaGreatDoor
open Go Go.RowKit Go.Shelf
attribute [local go_sem] Oper.semAt_some
/-! ### references (104): the numbers of types that a type refers to, in their order -/
theorem places_any (p : Addr) (w : World) : Calls Tryz.prog 116 #[.pointer (some p)] w fun e w' => e = .returned (.func (.func 168) #[] #[.pointer (some ⟨w.heap.size, 0, none⟩)]) ∧ w' = w.alloc (.cells #[.pointer (some p)] 126) := by
  go_enter Tryz.func116, Tryz.ntmps116
  go_wp2
  go_ret
  exact ⟨rfl, rfl⟩
/-- An append of one number, in a round: at the operation. -/
theorem wpIn_app1 {F : Fence} {m : Nat} {o : Oper} {a : Act} {K : Act → World → Prop} {Q : Exit → Act → World → Prop} {W : World} (s x : Operand) (hop : o.op = .call { callee := .builtin .append, args := #[s, x], argTypes := #[37, 37] })
    (base : Nat) (v : Value) (k : Nat) (xs : List Value) (hs : a.eval s = v) (hown : W.ownsRow base 3 1 v k xs) (h : Nat) (u : Int) (hx : a.eval x = .slice (some ⟨h, 0, none⟩) 1 1) (hc : W.cell? ⟨h, 0, none⟩ = some (.int .i64 u))
    (b1 : k < 1000000) (b3 : base ≤ W.heap.size)
    (hK : ∀ v' w', w'.ownsRow base 3 1 v' (k + 1) (xs ++ [.int .i64 u]) → W.grownBy w' v.ownBlock → K (a.put o.dst v') w') : o.wpIn F m Tryz.prog a W K Q := by
  obtain ⟨i0, hi, hz0, hz1, hz2⟩ := info_parts info3
  obtain ⟨v', w', hrun, r1, r2, r3⟩ := run_append_own (P := Tryz.prog) W base 37 o.type 3 i0 (.int .i64 0) 1 8 Tryz.underlying37 hi hz0 hz1 hz2 (by decide) (by decide) v k xs hown ⟨h, 0, none⟩ 1 1 [.int .i64 u] (by simp)
    (fun j w hj => by match j with
      | 0 => simp at hj; subst hj; rw [add_zero_addr]; exact hc
      | j + 1 => simp at hj) (fun w hw => by simp at hw; subst hw; rfl) (by unfold maxLen; omega) (by omega) b3
  unfold Oper.wpIn
  refine ⟨?_, ?_⟩
  · simp [Oper.about, hop, resolve, Target.leads, Sem.run_pure]
  · rw [Oper.semAt_plain F _ _ (by rw [hop]; intro c hc'; cases hc')]
    simp [execOp, hop, resolve, invoke, builtin, hs, hx, hrun, Result.andThen]
    exact hK v' w' r1 r2
def RefI (w : World) (val : Addr → Int) (b k : Nat) (pre : List Addr) (W : World) : Prop :=
  (∃ v, Boxed W w.heap.size 37 v ∧ W.ownsRow w.heap.size 3 1 v pre.length (pre.map fun x => .int .i64 (val x))) ∧ Boxed W (w.heap.size + 1) 126 (.pointer (some ⟨b, k, none⟩)) ∧ Below w.heap.size w W
set_option maxRecDepth 100000 in
set_option maxHeartbeats 4000000 in
theorem references_shape (b k kd : Nat) (op : Option Addr) (np cp : Nat) (om : Option Addr) (cm : Nat) (S : List SigD) (hnp : np ≤ 9223372036854775807) (hns : S.length ≤ 9223372036854775807)
    (hS : ∀ s ∈ S, s.n ≤ 9223372036854775807 ∧ (0 < s.n → ∃ ab aoff, s.o = some ⟨ab, aoff, none⟩)) (hop : 0 < np → ∃ ab aoff, op = some ⟨ab, aoff, none⟩) (hom : 0 < S.length → ∃ ab aoff, om = some ⟨ab, aoff, none⟩)
    (w : World) (hRd : w.cell? ⟨b, k, none⟩ = some (.int .u8 kd) ∧ w.cell? ⟨b, k + 7, none⟩ = some (.slice op np cp) ∧ w.cell? ⟨b, k + 8, none⟩ = some (.slice om S.length cm))
    (hSg : ∀ m (h : m < S.length), ∀ mb moff, om = some ⟨mb, moff, none⟩ → w.cell? ⟨mb, moff + m * 5 + 1, none⟩ = some (.slice S[m].o S[m].n S[m].cap))
    (hRs : ∀ m (h : m < S.length), ∀ mb moff, om = some ⟨mb, moff, none⟩ → w.cell? ⟨mb, moff + m * 5 + 1 + 1, none⟩ = some (.int .i64 S[m].res))
    (val : Addr → Int) (hlen : (placesL (supB kd) b k op np om S).length ≤ 100000)
    (hval : ∀ x ∈ placesL (supB kd) b k op np om S, w.cell? x = some (.int .i64 (val x))) :
    Calls Tryz.prog 104 #[.pointer (some ⟨b, k, none⟩)] w fun e w' => ∃ v, e = .returned v ∧ w'.ownsRow w.heap.size 3 1 v (placesL (supB kd) b k op np om S).length ((placesL (supB kd) b k op np om S).map fun x => .int .i64 (val x)) ∧ Below w.heap.size w w' := by
  refine (callsIn_wide (n := 2)).1 ?_
  refine callsIn_of_wp_marks Tryz.func104 rfl trivial ?_ rfl
  simp only [Tryz.ntmps104, List.size_toArray, List.length_cons, List.length_nil, Nat.reduceAdd, Nat.reduceSub, Array.replicate_succ, Array.replicate_zero, List.push_toArray, List.append_toArray, List.nil_append, List.cons_append]
  have HH : ∀ W, Below w.heap.size w W → ∀ a v, w.cell? a = some v → W.cell? a = some v := fun W h a v hv => Holds.below h a v hv
  obtain ⟨L, hL⟩ : ∃ L, placesL (supB kd) b k op np om S = L := ⟨_, rfl⟩
  have HIT := hide (fun (cb l : Nat) (J : List Addr → World → Prop) (hRd' : _) (hSg' : _) (hRs' : _) (hY : _) (W : World) (h0 : J [] W) => places_in l cb b k kd op np cp om cm S hnp hns hS hop hom J hRd' hSg' hRs' hY W h0)
  rw [hL] at hlen hval HIT ⊢
  have HVL := hide hval
  clear hval
  gi_wp2_with (refine ⟨trivial, ?_⟩; gi_at_call 116; refine (callsIn_wide.2 (places_any _ _)).mono ?_; rintro e w1 ⟨rfl, rfl⟩)
  refine wpIn_rangeGives (gf := 168) (lb := #[.pointer (some ⟨w.heap.size + 1, 0, none⟩)]) (fun x : Addr => #[.pointer (some x)]) L (by simp [go_sem]) (enters_of Tryz.func168 (by kernel_rfl) rfl) (fun _ => rfl) (RefI w val b k) ?i0 ?it ?ia ?ip
    (fun x => { tmps := #[.pointer (some ⟨b, k, none⟩), undef, .slice none 0 0, .pointer (some ⟨w.heap.size, 0, none⟩), .pointer (some x), .pointer (some ⟨b, k, none⟩), .func (.func 168) #[] #[.pointer (some ⟨w.heap.size + 1, 0, none⟩)], .pointer (some x), undef, undef, undef, undef, undef, undef, undef], defers := [] }) ?assign ?body ?done
  case i0 =>
    have bO := Boxed.new w 37 (.slice none 0 0)
    have bN := Boxed.new (w.alloc (.cells #[.slice none 0 0] 37)) 126 (.pointer (some ⟨b, k, none⟩))
    rw [World.size_alloc] at bN
    exact ⟨⟨_, bO.alloc _, World.ownsRow_nil _ _ _ _⟩, bN, ((Below.refl _ w).alloc (Nat.le_refl _) _).alloc (by simp) _⟩
  case it =>
    intro l J hJI hY W h0
    have hb := fun p W (h : J p W) => HH W (hJI p W h).2.2
    exact unhide HIT (w.heap.size + 1) l J
      (fun p W h => ⟨(hJI p W h).2.1.cell, hb p W h _ _ hRd.1, hb p W h _ _ hRd.2.1, hb p W h _ _ hRd.2.2⟩)
      (fun m hm p W h mb moff ho => hb p W h _ _ (hSg m hm mb moff ho))
      (fun m hm j W hj h mb moff ho => hb _ W h _ _ (hRs m hm mb moff ho)) hY W h0
  case ia =>
    rintro pre W o ⟨⟨v, hv, hr⟩, hF, hBl⟩
    exact ⟨⟨v, hv.alloc o, hr.alloc o⟩, hF.alloc o, hBl.alloc hBl.size o⟩
  case ip =>
    rintro pre W l o o' ⟨⟨v, hv, hr⟩, hF, hBl⟩ hl ho hoc
    simp only [World.size_alloc] at hl
    refine ⟨⟨v, ?_, ownsRow_putObj hr _ ho hoc⟩, ?_, ?_⟩
    · exact (World.putObj_heap_other (by omega)).trans hv
    · exact (World.putObj_heap_other (by omega)).trans hF
    · exact hBl.grown (grownBy_putObj' W l o') hBl.size (fun j e => by cases e; omega)
  case assign =>
    intro l x W K hK
    gi_wp2
    exact hK
  case body =>
    rintro l pre x W hpx ⟨⟨v, hv, hr⟩, hF, hBl⟩
    have hvc := hv.cell
    have hvz := hv.frozen
    have hx0 := HH W hBl _ _ (unhide HVL x (hpx.subset (by simp)))
    have hpl : pre.length < 100000 := by have := hpx.length_le; simp at this; omega
    have hmx : Tryz.prog.follows .mixedOrders = true := by kernel_rfl
    have hNs : w.heap.size ≤ W.heap.size := hBl.size
    clear HIT hRd hSg hRs hS hop hom hnp hns hpx
    gi_wp2
    have hvc2 := (hv.alloc (.cells #[.int .i64 (val x)] 3)).cell
    have hDw : Below w.heap.size w W.drew := ⟨hBl.os, hBl.tape, hBl.output, hBl.size, hBl.block⟩
    have fin : ∀ (v' : Value) (W3 : World), W3.ownsRow w.heap.size 3 1 v' (pre.length + 1) ((pre.map fun x => .int .i64 (val x)) ++ [.int .i64 (val x)]) → (W.drew.alloc (.cells #[.int .i64 (val x)] 3)).grownBy W3 v.ownBlock →
        Exit.normal = Exit.normal ∧ KeepsFrom ((w.alloc (.cells #[.slice none 0 0] 37)).alloc (.cells #[.pointer (some ⟨b, k, none⟩)] 126)).heap.size W (W3.setCell ⟨w.heap.size, 0, none⟩ v') ∧ RefI w val b k (pre ++ [x]) (W3.setCell ⟨w.heap.size, 0, none⟩ v') := by
      intro v' W3 hown' hgrow
      have h5 := Boxed.appended (W := W.drew) hv (by decide) hr hNs (Nat.le_refl _) hown' hgrow
      have hF3 : Boxed W3 (w.heap.size + 1) 126 (.pointer (some ⟨b, k, none⟩)) := (Boxed.alloc (W := W.drew) hF (.cells #[.int .i64 (val x)] 3)).kept hgrow (Boxed.not_row (W := W.drew) hF (by decide) hr)
      refine ⟨rfl, ((KeepsOthers.drew W).trans h5.2.2.2.1).from _, ⟨v', h5.2.1, ?_⟩, hF3.kept (grownBy_setCell' W3 w.heap.size v') (by simp), hDw.trans h5.2.2.2.2⟩
      simpa using h5.2.2.1
    refine wpIn_region_any hmx ?_
    change wpAnyIn _ _ _ _ _ _ _ _ _ (World.drew _)
    refine wpAnyIn_ready (rs := [0, 1]) (by kernel_rfl) (by simp) ?_
    refine AllReadyIn.cons rfl (fun K hK => ?_) (AllReadyIn.cons rfl (fun K hK => ?_) AllReadyIn.nil)
    · go_simp; refine hK _ _ ?_; clear hK K
      (refine wpAnyIn_ready (rs := [1]) (by kernel_rfl) (by simp) ?_; refine AllReadyIn.cons rfl (fun K hK => ?_) AllReadyIn.nil; go_simp; refine hK _ _ ?_; clear hK K)
      (refine wpAnyIn_ready (rs := [2]) (by kernel_rfl) (by simp) ?_; refine AllReadyIn.cons rfl (fun K hK => ?_) AllReadyIn.nil; go_simp; refine hK _ _ ?_; clear hK K)
      (refine wpAnyIn_ready (rs := [3]) (by kernel_rfl) (by simp) ?_; refine AllReadyIn.cons rfl (fun K hK => ?_) AllReadyIn.nil; go_simp; refine hK _ _ ?_; clear hK K)
      (refine wpAnyIn_ready (rs := [4]) (by kernel_rfl) (by simp) ?_; refine AllReadyIn.cons rfl (fun K hK => ?_) AllReadyIn.nil; go_simp; refine hK _ _ ?_; clear hK K)
      (refine wpAnyIn_ready (rs := [5]) (by kernel_rfl) (by simp) ?_)
      (refine BigFrame.allReadyIn_want rfl (by kernel_rfl) (fun K hK => ?_) AllReadyIn.nil
       refine wpIn_app1 _ _ rfl w.heap.size v pre.length _ rfl (World.ownsRow.alloc (w := W.drew) hr _) W.heap.size (val x) rfl ((Blk.new W.drew [.int .i64 (val x)] 3).cell 0) (by omega) (by simp; omega) ?_
       intro v' W3 hown' hgrow
       obtain ⟨g', cap', rfl⟩ := ownsRow_succ hown'
       have h5 := Boxed.appended (W := W.drew) hv (by decide) hr hNs (Nat.le_refl _) hown' hgrow
       have hvc3 := h5.1.cell
       have hvz3 := h5.1.frozen
       refine hK _ _ ?_
       clear hK K)
      (refine wpAnyIn_ready (rs := [6]) (by kernel_rfl) (by simp) ?_; refine AllReadyIn.cons rfl (fun K hK => ?_) AllReadyIn.nil; go_simp; refine hK _ _ ?_; clear hK K)
      refine wpAnyIn_done (by kernel_rfl) ?_ _
      exact fin _ W3 hown' hgrow
    · go_simp; refine hK _ _ ?_; clear hK K
      refine wpAnyIn_ready (rs := [0, 2]) (by kernel_rfl) (by simp) ?_
      refine AllReadyIn.cons rfl (fun K hK => ?_) (AllReadyIn.cons rfl (fun K hK => ?_) AllReadyIn.nil)
      · go_simp; refine hK _ _ ?_; clear hK K
        (refine wpAnyIn_ready (rs := [2]) (by kernel_rfl) (by simp) ?_; refine AllReadyIn.cons rfl (fun K hK => ?_) AllReadyIn.nil; go_simp; refine hK _ _ ?_; clear hK K)
        (refine wpAnyIn_ready (rs := [3]) (by kernel_rfl) (by simp) ?_; refine AllReadyIn.cons rfl (fun K hK => ?_) AllReadyIn.nil; go_simp; refine hK _ _ ?_; clear hK K)
        (refine wpAnyIn_ready (rs := [4]) (by kernel_rfl) (by simp) ?_; refine AllReadyIn.cons rfl (fun K hK => ?_) AllReadyIn.nil; go_simp; refine hK _ _ ?_; clear hK K)
        (refine wpAnyIn_ready (rs := [5]) (by kernel_rfl) (by simp) ?_)
        (refine BigFrame.allReadyIn_want rfl (by kernel_rfl) (fun K hK => ?_) AllReadyIn.nil
         refine wpIn_app1 _ _ rfl w.heap.size v pre.length _ rfl (World.ownsRow.alloc (w := W.drew) hr _) W.heap.size (val x) rfl ((Blk.new W.drew [.int .i64 (val x)] 3).cell 0) (by omega) (by simp; omega) ?_
         intro v' W3 hown' hgrow
         obtain ⟨g', cap', rfl⟩ := ownsRow_succ hown'
         have h5 := Boxed.appended (W := W.drew) hv (by decide) hr hNs (Nat.le_refl _) hown' hgrow
         have hvc3 := h5.1.cell
         have hvz3 := h5.1.frozen
         refine hK _ _ ?_
         clear hK K)
        (refine wpAnyIn_ready (rs := [6]) (by kernel_rfl) (by simp) ?_; refine AllReadyIn.cons rfl (fun K hK => ?_) AllReadyIn.nil; go_simp; refine hK _ _ ?_; clear hK K)
        refine wpAnyIn_done (by kernel_rfl) ?_ _
        exact fin _ W3 hown' hgrow
      · go_simp; refine hK _ _ ?_; clear hK K
        refine wpAnyIn_ready (rs := [0, 3]) (by kernel_rfl) (by simp) ?_
        refine AllReadyIn.cons rfl (fun K hK => ?_) (AllReadyIn.cons rfl (fun K hK => ?_) AllReadyIn.nil)
        · go_simp; refine hK _ _ ?_; clear hK K
          (refine wpAnyIn_ready (rs := [3]) (by kernel_rfl) (by simp) ?_; refine AllReadyIn.cons rfl (fun K hK => ?_) AllReadyIn.nil; go_simp; refine hK _ _ ?_; clear hK K)
          (refine wpAnyIn_ready (rs := [4]) (by kernel_rfl) (by simp) ?_; refine AllReadyIn.cons rfl (fun K hK => ?_) AllReadyIn.nil; go_simp; refine hK _ _ ?_; clear hK K)
          (refine wpAnyIn_ready (rs := [5]) (by kernel_rfl) (by simp) ?_)
          (refine BigFrame.allReadyIn_want rfl (by kernel_rfl) (fun K hK => ?_) AllReadyIn.nil
           refine wpIn_app1 _ _ rfl w.heap.size v pre.length _ rfl (World.ownsRow.alloc (w := W.drew) hr _) W.heap.size (val x) rfl ((Blk.new W.drew [.int .i64 (val x)] 3).cell 0) (by omega) (by simp; omega) ?_
           intro v' W3 hown' hgrow
           obtain ⟨g', cap', rfl⟩ := ownsRow_succ hown'
           have h5 := Boxed.appended (W := W.drew) hv (by decide) hr hNs (Nat.le_refl _) hown' hgrow
           have hvc3 := h5.1.cell
           have hvz3 := h5.1.frozen
           refine hK _ _ ?_
           clear hK K)
          (refine wpAnyIn_ready (rs := [6]) (by kernel_rfl) (by simp) ?_; refine AllReadyIn.cons rfl (fun K hK => ?_) AllReadyIn.nil; go_simp; refine hK _ _ ?_; clear hK K)
          refine wpAnyIn_done (by kernel_rfl) ?_ _
          exact fin _ W3 hown' hgrow
        · go_simp; refine hK _ _ ?_; clear hK K
          refine wpAnyIn_ready (rs := [0, 4]) (by kernel_rfl) (by simp) ?_
          refine AllReadyIn.cons rfl (fun K hK => ?_) (AllReadyIn.cons rfl (fun K hK => ?_) AllReadyIn.nil)
          · go_simp; refine hK _ _ ?_; clear hK K
            (refine wpAnyIn_ready (rs := [4]) (by kernel_rfl) (by simp) ?_; refine AllReadyIn.cons rfl (fun K hK => ?_) AllReadyIn.nil; go_simp; refine hK _ _ ?_; clear hK K)
            (refine wpAnyIn_ready (rs := [5]) (by kernel_rfl) (by simp) ?_)
            (refine BigFrame.allReadyIn_want rfl (by kernel_rfl) (fun K hK => ?_) AllReadyIn.nil
             refine wpIn_app1 _ _ rfl w.heap.size v pre.length _ rfl (World.ownsRow.alloc (w := W.drew) hr _) W.heap.size (val x) rfl ((Blk.new W.drew [.int .i64 (val x)] 3).cell 0) (by omega) (by simp; omega) ?_
             intro v' W3 hown' hgrow
             obtain ⟨g', cap', rfl⟩ := ownsRow_succ hown'
             have h5 := Boxed.appended (W := W.drew) hv (by decide) hr hNs (Nat.le_refl _) hown' hgrow
             have hvc3 := h5.1.cell
             have hvz3 := h5.1.frozen
             refine hK _ _ ?_
             clear hK K)
            (refine wpAnyIn_ready (rs := [6]) (by kernel_rfl) (by simp) ?_; refine AllReadyIn.cons rfl (fun K hK => ?_) AllReadyIn.nil; go_simp; refine hK _ _ ?_; clear hK K)
            refine wpAnyIn_done (by kernel_rfl) ?_ _
            exact fin _ W3 hown' hgrow
          · go_simp; refine hK _ _ ?_; clear hK K
            (refine wpAnyIn_ready (rs := [0]) (by kernel_rfl) (by simp) ?_; refine AllReadyIn.cons rfl (fun K hK => ?_) AllReadyIn.nil; go_simp; refine hK _ _ ?_; clear hK K)
            (refine wpAnyIn_ready (rs := [5]) (by kernel_rfl) (by simp) ?_)
            (refine BigFrame.allReadyIn_want rfl (by kernel_rfl) (fun K hK => ?_) AllReadyIn.nil
             refine wpIn_app1 _ _ rfl w.heap.size v pre.length _ rfl (World.ownsRow.alloc (w := W.drew) hr _) W.heap.size (val x) rfl ((Blk.new W.drew [.int .i64 (val x)] 3).cell 0) (by omega) (by simp; omega) ?_
             intro v' W3 hown' hgrow
             obtain ⟨g', cap', rfl⟩ := ownsRow_succ hown'
             have h5 := Boxed.appended (W := W.drew) hv (by decide) hr hNs (Nat.le_refl _) hown' hgrow
             have hvc3 := h5.1.cell
             have hvz3 := h5.1.frozen
             refine hK _ _ ?_
             clear hK K)
            (refine wpAnyIn_ready (rs := [6]) (by kernel_rfl) (by simp) ?_; refine AllReadyIn.cons rfl (fun K hK => ?_) AllReadyIn.nil; go_simp; refine hK _ _ ?_; clear hK K)
            refine wpAnyIn_done (by kernel_rfl) ?_ _
            exact fin _ W3 hown' hgrow
  case done =>
    rintro W ⟨⟨v, hv, hr⟩, hF, hBl⟩ hK
    have hvc := hv.cell
    have hvz := hv.frozen
    gi_wp2
    refine ⟨by simp, .inl ⟨_, _, rfl, run_takeDeferred hK, ?_⟩⟩
    refine ⟨_, results_tmp rfl _ _ _, v, rfl, ownsRow_putObj hr _ hK rfl, ?_⟩
    exact hBl.grown (grownBy_putObj' W _ _) hBl.size (fun j e => by cases e; simp; omega)
end Go.Proofs.YteaokkaidcbdlaaGreatDoor
