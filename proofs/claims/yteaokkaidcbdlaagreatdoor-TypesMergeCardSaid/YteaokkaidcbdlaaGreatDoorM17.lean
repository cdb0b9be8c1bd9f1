/- Part 17 of 53: the texts Rs, Rf, one behind the other. -/
import Derived.Test.YteaokkaidcbdlaaGreatDoorM12
import Derived.Test.YteaokkaidcbdlaaGreatDoorM14
import Derived.Shelf.RegionOpen
namespace Go.Proofs.YteaokkaidcbdlaaGreatDoor
open Go Go.RowKit Go.Shelf
attribute [local go_sem] Oper.semAt_some
theorem places_any (p : Addr) (w : World) : Calls Tryz.prog 116 #[.pointer (some p)] w fun e w' => e = .returned (.func (.func 168) #[] #[.pointer (some ⟨w.heap.size, 0, none⟩)]) ∧ w' = w.alloc (.cells #[.pointer (some p)] 126) := by
 go_enter Tryz.func116, Tryz.ntmps116
 go_wp2
 go_ret
 exact ⟨rfl, rfl⟩
theorem wpIn_app1 {F : Fence} {m : Nat} {o : Oper} {a : Act} {K : Act → World → Prop} {Q : Exit → Act → World → Prop} {W : World} (s x : Operand) (hop : o.op = .call { callee := .builtin .append, args := #[s, x], argTypes := #[37, 37] })
    (base : Nat) (v : Value) (k : Nat) (xs : List Value) (hs : a.eval s = v) (hown : W.ownsRow base 3 1 v k xs) (h : Nat) (u : Int) (hx : a.eval x = .slice (some ⟨h, 0, none⟩) 1 1) (hc : W.cell? ⟨h, 0, none⟩ = some (.int .i64 u))
    (b1 : k < 1000000) (b3 : base ≤ W.heap.size)
    (hK : ∀ v' w', w'.ownsRow base 3 1 v' (k + 1) (xs ++ [.int .i64 u]) → W.grownBy w' v.ownBlock → K (a.put o.dst v') w') : o.wpIn F m Tryz.prog a W K Q := by
  obtain ⟨i0, hi, hz0, hz1, hz2⟩ := info_parts info3
  obtain ⟨v', w', hrun, r1, r2, r3⟩ := run_append_own (P := Tryz.prog) W base 37 o.type 3 i0 (.int .i64 0) 1 8 Tryz.underlying37 hi hz0 hz1 hz2 (by decide) (by decide) v k xs hown ⟨h, 0, none⟩ 1 1 [.int .i64 u] (by simp)
   (fun j w hj => by match j with
    | 0 => simp at hj; subst hj; rw [add_zero_addr]; exact hc
    | j + 1 => simp at hj) (fun w hw => by simp at hw; subst hw; rfl) (by unfold maxLen; omega) (by omega) b3
  unfold Oper.wpIn
  refine ⟨?_, ?_⟩
  ·simp [Oper.about, hop, resolve, Target.leads, Sem.run_pure]
  ·rw [Oper.semAt_plain F _ _ (by rw [hop]; intro c hc'; cases hc')]
   simp [execOp, hop, resolve, invoke, builtin, hs, hx, hrun, Result.andThen]
   exact hK v' w' r1 r2
def RefI (w : World) (val : Addr → Int) (b k : Nat) (pre : List Addr) (W : World) : Prop :=
 (∃ v, Boxed W w.heap.size 37 v ∧ W.ownsRow w.heap.size 3 1 v pre.length (pre.map fun x => .int .i64 (val x))) ∧ Boxed W (w.heap.size + 1) 126 (.pointer (some ⟨b, k, none⟩)) ∧ Below w.heap.size w W
set_option maxRecDepth 100000 in
set_option maxHeartbeats 4000000 in
theorem references_shape (b k kd : Nat) (op : Option Addr) (np cp : Nat) (om : Option Addr) (cm : Nat) (S : List SigD) (hnp : np ≤ 9223372036854775807) (hns : S.length ≤ 9223372036854775807)
    (hS : ∀ s ∈ S, s.n ≤ 9223372036854775807 ∧ (0 < s.n → ∃ ab aoff, s.o = some ⟨ab, aoff, none⟩)) (hop : 0 < np → ∃ ab aoff, op = some ⟨ab, aoff, none⟩) (hom : 0 < S.length → ∃ ab aoff, om = some ⟨ab, aoff, none⟩)
    (w : World) (hRd : w.cell? ⟨b, k, none⟩ = some (.int .u8 kd) ∧ w.cell? ⟨b, k + 7, none⟩ = some (.slice op np cp) ∧ w.cell? ⟨b, k + 8, none⟩ = some (.slice om S.length cm))
    (hSg : ∀ m (h : m < S.length), ∀ mb moff, om = some ⟨mb, moff, none⟩ → w.cell? ⟨mb, moff + m * 5 + 1, none⟩ = some (.slice S[m].o S[m].n S[m].cap))
    (hRs : ∀ m (h : m < S.length), ∀ mb moff, om = some ⟨mb, moff, none⟩ → w.cell? ⟨mb, moff + m * 5 + 1 + 1, none⟩ = some (.int .i64 S[m].res))
    (val : Addr → Int) (hlen : (placesL (supB kd) b k op np om S).length ≤ 100000)
    (hval : ∀ x ∈ placesL (supB kd) b k op np om S, w.cell? x = some (.int .i64 (val x))) :
    Calls Tryz.prog 104 #[.pointer (some ⟨b, k, none⟩)] w fun e w' => ∃ v, e = .returned v ∧ w'.ownsRow w.heap.size 3 1 v (placesL (supB kd) b k op np om S).length ((placesL (supB kd) b k op np om S).map fun x => .int .i64 (val x)) ∧ Below w.heap.size w w' := by
  refine (callsIn_wide (n := 2)).1 ?_
  refine callsIn_of_wp_marks Tryz.func104 rfl trivial ?_ rfl
  simp only [Tryz.ntmps104, List.size_toArray, List.length_cons, List.length_nil, Nat.reduceAdd, Nat.reduceSub, Array.replicate_succ, Array.replicate_zero, List.push_toArray, List.append_toArray, List.nil_append, List.cons_append]
  have HH : ∀ W, Below w.heap.size w W → ∀ a v, w.cell? a = some v → W.cell? a = some v := fun W h a v hv => Holds.below h a v hv
  obtain ⟨L, hL⟩ : ∃ L, placesL (supB kd) b k op np om S = L := ⟨_, rfl⟩
  have HIT := hide (fun (cb l : Nat) (J : List Addr → World → Prop) (hRd' : _) (hSg' : _) (hRs' : _) (hY : _) (W : World) (h0 : J [] W) => places_in l cb b k kd op np cp om cm S hnp hns hS hop hom J hRd' hSg' hRs' hY W h0)
  rw [hL] at hlen hval HIT ⊢
  have HVL := hide hval
  clear hval
  gi_wp2_with (refine ⟨trivial, ?_⟩; gi_at_call 116; refine (callsIn_wide.2 (places_any _ _)).mono ?_; rintro e w1 ⟨rfl, rfl⟩)
  refine wpIn_rangeGives (gf := 168) (lb := #[.pointer (some ⟨w.heap.size + 1, 0, none⟩)]) (fun x : Addr => #[.pointer (some x)]) L (by simp [go_sem]) (enters_of Tryz.func168 (by kernel_rfl) rfl) (fun _ => rfl) (RefI w val b k) ?i0 ?it ?ia ?ip
   (fun x => { tmps := #[.pointer (some ⟨b, k, none⟩), undef, .slice none 0 0, .pointer (some ⟨w.heap.size, 0, none⟩), .pointer (some x), .pointer (some ⟨b, k, none⟩), .func (.func 168) #[] #[.pointer (some ⟨w.heap.size + 1, 0, none⟩)], .pointer (some x), undef, undef, undef, undef, undef, undef, undef], defers := [] }) ?assign ?body ?done
  case i0 =>
   have bO := Boxed.new w 37 (.slice none 0 0)
   have bN := Boxed.new (w.alloc (.cells #[.slice none 0 0] 37)) 126 (.pointer (some ⟨b, k, none⟩))
   rw [World.size_alloc] at bN
   exact ⟨⟨_, bO.alloc _, World.ownsRow_nil _ _ _ _⟩, bN, ((Below.refl _ w).alloc (Nat.le_refl _) _).alloc (by simp) _⟩
  case it =>
   intro l J hJI hY W h0
   have hb := fun p W (h : J p W) => HH W (hJI p W h).2.2
   exact unhide HIT (w.heap.size + 1) l J
    (fun p W h => ⟨(hJI p W h).2.1.cell, hb p W h _ _ hRd.1, hb p W h _ _ hRd.2.1, hb p W h _ _ hRd.2.2⟩)
    (fun m hm p W h mb moff ho => hb p W h _ _ (hSg m hm mb moff ho))
    (fun m hm j W hj h mb moff ho => hb _ W h _ _ (hRs m hm mb moff ho)) hY W h0
  case ia =>
   rintro pre W o ⟨⟨v, hv, hr⟩, hF, hBl⟩
   exact ⟨⟨v, hv.alloc o, hr.alloc o⟩, hF.alloc o, hBl.alloc hBl.size o⟩
  case ip =>
   rintro pre W l o o' ⟨⟨v, hv, hr⟩, hF, hBl⟩ hl ho hoc
   simp only [World.size_alloc] at hl
   refine ⟨⟨v, ?_, ownsRow_putObj hr _ ho hoc⟩, ?_, ?_⟩
   ·exact (World.putObj_heap_other (by omega)).trans hv
   ·exact (World.putObj_heap_other (by omega)).trans hF
   ·exact hBl.grown (grownBy_putObj' W l o') hBl.size (fun j e => by cases e; omega)
  case assign =>
   intro l x W K hK
   gi_wp2
   exact hK
  case body =>
   rintro l pre x W hpx ⟨⟨v, hv, hr⟩, hF, hBl⟩
   have hvc := hv.cell
   have hvz := hv.frozen
   have hx0 := HH W hBl _ _ (unhide HVL x (hpx.subset (by simp)))
   have hpl : pre.length < 100000 := by have := hpx.length_le; simp at this; omega
   have hmx : Tryz.prog.follows .mixedOrders = true := by kernel_rfl
   have hNs : w.heap.size ≤ W.heap.size := hBl.size
   clear HIT hRd hSg hRs hS hop hom hnp hns hpx
   gi_wp2
   have hvc2 := (hv.alloc (.cells #[.int .i64 (val x)] 3)).cell
   have hDw : Below w.heap.size w W.drew := ⟨hBl.os, hBl.tape, hBl.output, hBl.size, hBl.block⟩
   have fin : ∀ (v' : Value) (W3 : World), W3.ownsRow w.heap.size 3 1 v' (pre.length + 1) ((pre.map fun x => .int .i64 (val x)) ++ [.int .i64 (val x)]) → (W.drew.alloc (.cells #[.int .i64 (val x)] 3)).grownBy W3 v.ownBlock →
       Exit.normal = Exit.normal ∧ KeepsFrom ((w.alloc (.cells #[.slice none 0 0] 37)).alloc (.cells #[.pointer (some ⟨b, k, none⟩)] 126)).heap.size W (W3.setCell ⟨w.heap.size, 0, none⟩ v') ∧ RefI w val b k (pre ++ [x]) (W3.setCell ⟨w.heap.size, 0, none⟩ v') := by
     intro v' W3 hown' hgrow
     have h5 := Boxed.appended (W := W.drew) hv (by decide) hr hNs (Nat.le_refl _) hown' hgrow
     have hF3 : Boxed W3 (w.heap.size + 1) 126 (.pointer (some ⟨b, k, none⟩)) := (Boxed.alloc (W := W.drew) hF (.cells #[.int .i64 (val x)] 3)).kept hgrow (Boxed.not_row (W := W.drew) hF (by decide) hr)
     refine ⟨rfl, ((KeepsOthers.drew W).trans h5.2.2.2.1).from _, ⟨v', h5.2.1, ?_⟩, hF3.kept (grownBy_setCell' W3 w.heap.size v') (by simp), hDw.trans h5.2.2.2.2⟩
     simpa using h5.2.2.1
   refine wpIn_region_any hmx ?_
   change wpAnyIn _ _ _ _ _ _ _ _ _ (World.drew _)
   refine wpAnyIn_ready (rs := [0, 1]) (by kernel_rfl) (by simp) ?_
   refine AllReadyIn.cons rfl (fun K hK => ?_) (AllReadyIn.cons rfl (fun K hK => ?_) AllReadyIn.nil)
   ·go_simp; refine hK _ _ ?_; clear hK K
    (refine wpAnyIn_ready (rs := [1]) (by kernel_rfl) (by simp) ?_; refine AllReadyIn.cons rfl (fun K hK => ?_) AllReadyIn.nil; go_simp; refine hK _ _ ?_; clear hK K)
    (refine wpAnyIn_ready (rs := [2]) (by kernel_rfl) (by simp) ?_; refine AllReadyIn.cons rfl (fun K hK => ?_) AllReadyIn.nil; go_simp; refine hK _ _ ?_; clear hK K)
    (refine wpAnyIn_ready (rs := [3]) (by kernel_rfl) (by simp) ?_; refine AllReadyIn.cons rfl (fun K hK => ?_) AllReadyIn.nil; go_simp; refine hK _ _ ?_; clear hK K)
    (refine wpAnyIn_ready (rs := [4]) (by kernel_rfl) (by simp) ?_; refine AllReadyIn.cons rfl (fun K hK => ?_) AllReadyIn.nil; go_simp; refine hK _ _ ?_; clear hK K)
    (refine wpAnyIn_ready (rs := [5]) (by kernel_rfl) (by simp) ?_)
    (refine BigFrame.allReadyIn_want rfl (by kernel_rfl) (fun K hK => ?_) AllReadyIn.nil
     refine wpIn_app1 _ _ rfl w.heap.size v pre.length _ rfl (World.ownsRow.alloc (w := W.drew) hr _) W.heap.size (val x) rfl ((Blk.new W.drew [.int .i64 (val x)] 3).cell 0) (by omega) (by simp; omega) ?_
     intro v' W3 hown' hgrow
     obtain ⟨g', cap', rfl⟩ := ownsRow_succ hown'
     have h5 := Boxed.appended (W := W.drew) hv (by decide) hr hNs (Nat.le_refl _) hown' hgrow
     have hvc3 := h5.1.cell
     have hvz3 := h5.1.frozen
     refine hK _ _ ?_
     clear hK K)
    (refine wpAnyIn_ready (rs := [6]) (by kernel_rfl) (by simp) ?_; refine AllReadyIn.cons rfl (fun K hK => ?_) AllReadyIn.nil; go_simp; refine hK _ _ ?_; clear hK K)
    refine wpAnyIn_done (by kernel_rfl) ?_ _
    exact fin _ W3 hown' hgrow
   ·go_simp; refine hK _ _ ?_; clear hK K
    refine wpAnyIn_ready (rs := [0, 2]) (by kernel_rfl) (by simp) ?_
    refine AllReadyIn.cons rfl (fun K hK => ?_) (AllReadyIn.cons rfl (fun K hK => ?_) AllReadyIn.nil)
    ·go_simp; refine hK _ _ ?_; clear hK K
     (refine wpAnyIn_ready (rs := [2]) (by kernel_rfl) (by simp) ?_; refine AllReadyIn.cons rfl (fun K hK => ?_) AllReadyIn.nil; go_simp; refine hK _ _ ?_; clear hK K)
     (refine wpAnyIn_ready (rs := [3]) (by kernel_rfl) (by simp) ?_; refine AllReadyIn.cons rfl (fun K hK => ?_) AllReadyIn.nil; go_simp; refine hK _ _ ?_; clear hK K)
     (refine wpAnyIn_ready (rs := [4]) (by kernel_rfl) (by simp) ?_; refine AllReadyIn.cons rfl (fun K hK => ?_) AllReadyIn.nil; go_simp; refine hK _ _ ?_; clear hK K)
     (refine wpAnyIn_ready (rs := [5]) (by kernel_rfl) (by simp) ?_)
     (refine BigFrame.allReadyIn_want rfl (by kernel_rfl) (fun K hK => ?_) AllReadyIn.nil
      refine wpIn_app1 _ _ rfl w.heap.size v pre.length _ rfl (World.ownsRow.alloc (w := W.drew) hr _) W.heap.size (val x) rfl ((Blk.new W.drew [.int .i64 (val x)] 3).cell 0) (by omega) (by simp; omega) ?_
      intro v' W3 hown' hgrow
      obtain ⟨g', cap', rfl⟩ := ownsRow_succ hown'
      have h5 := Boxed.appended (W := W.drew) hv (by decide) hr hNs (Nat.le_refl _) hown' hgrow
      have hvc3 := h5.1.cell
      have hvz3 := h5.1.frozen
      refine hK _ _ ?_
      clear hK K)
     (refine wpAnyIn_ready (rs := [6]) (by kernel_rfl) (by simp) ?_; refine AllReadyIn.cons rfl (fun K hK => ?_) AllReadyIn.nil; go_simp; refine hK _ _ ?_; clear hK K)
     refine wpAnyIn_done (by kernel_rfl) ?_ _
     exact fin _ W3 hown' hgrow
    ·go_simp; refine hK _ _ ?_; clear hK K
     refine wpAnyIn_ready (rs := [0, 3]) (by kernel_rfl) (by simp) ?_
     refine AllReadyIn.cons rfl (fun K hK => ?_) (AllReadyIn.cons rfl (fun K hK => ?_) AllReadyIn.nil)
     ·go_simp; refine hK _ _ ?_; clear hK K
      (refine wpAnyIn_ready (rs := [3]) (by kernel_rfl) (by simp) ?_; refine AllReadyIn.cons rfl (fun K hK => ?_) AllReadyIn.nil; go_simp; refine hK _ _ ?_; clear hK K)
      (refine wpAnyIn_ready (rs := [4]) (by kernel_rfl) (by simp) ?_; refine AllReadyIn.cons rfl (fun K hK => ?_) AllReadyIn.nil; go_simp; refine hK _ _ ?_; clear hK K)
      (refine wpAnyIn_ready (rs := [5]) (by kernel_rfl) (by simp) ?_)
      (refine BigFrame.allReadyIn_want rfl (by kernel_rfl) (fun K hK => ?_) AllReadyIn.nil
       refine wpIn_app1 _ _ rfl w.heap.size v pre.length _ rfl (World.ownsRow.alloc (w := W.drew) hr _) W.heap.size (val x) rfl ((Blk.new W.drew [.int .i64 (val x)] 3).cell 0) (by omega) (by simp; omega) ?_
       intro v' W3 hown' hgrow
       obtain ⟨g', cap', rfl⟩ := ownsRow_succ hown'
       have h5 := Boxed.appended (W := W.drew) hv (by decide) hr hNs (Nat.le_refl _) hown' hgrow
       have hvc3 := h5.1.cell
       have hvz3 := h5.1.frozen
       refine hK _ _ ?_
       clear hK K)
      (refine wpAnyIn_ready (rs := [6]) (by kernel_rfl) (by simp) ?_; refine AllReadyIn.cons rfl (fun K hK => ?_) AllReadyIn.nil; go_simp; refine hK _ _ ?_; clear hK K)
      refine wpAnyIn_done (by kernel_rfl) ?_ _
      exact fin _ W3 hown' hgrow
     ·go_simp; refine hK _ _ ?_; clear hK K
      refine wpAnyIn_ready (rs := [0, 4]) (by kernel_rfl) (by simp) ?_
      refine AllReadyIn.cons rfl (fun K hK => ?_) (AllReadyIn.cons rfl (fun K hK => ?_) AllReadyIn.nil)
      ·go_simp; refine hK _ _ ?_; clear hK K
       (refine wpAnyIn_ready (rs := [4]) (by kernel_rfl) (by simp) ?_; refine AllReadyIn.cons rfl (fun K hK => ?_) AllReadyIn.nil; go_simp; refine hK _ _ ?_; clear hK K)
       (refine wpAnyIn_ready (rs := [5]) (by kernel_rfl) (by simp) ?_)
       (refine BigFrame.allReadyIn_want rfl (by kernel_rfl) (fun K hK => ?_) AllReadyIn.nil
        refine wpIn_app1 _ _ rfl w.heap.size v pre.length _ rfl (World.ownsRow.alloc (w := W.drew) hr _) W.heap.size (val x) rfl ((Blk.new W.drew [.int .i64 (val x)] 3).cell 0) (by omega) (by simp; omega) ?_
        intro v' W3 hown' hgrow
        obtain ⟨g', cap', rfl⟩ := ownsRow_succ hown'
        have h5 := Boxed.appended (W := W.drew) hv (by decide) hr hNs (Nat.le_refl _) hown' hgrow
        have hvc3 := h5.1.cell
        have hvz3 := h5.1.frozen
        refine hK _ _ ?_
        clear hK K)
       (refine wpAnyIn_ready (rs := [6]) (by kernel_rfl) (by simp) ?_; refine AllReadyIn.cons rfl (fun K hK => ?_) AllReadyIn.nil; go_simp; refine hK _ _ ?_; clear hK K)
       refine wpAnyIn_done (by kernel_rfl) ?_ _
       exact fin _ W3 hown' hgrow
      ·go_simp; refine hK _ _ ?_; clear hK K
       (refine wpAnyIn_ready (rs := [0]) (by kernel_rfl) (by simp) ?_; refine AllReadyIn.cons rfl (fun K hK => ?_) AllReadyIn.nil; go_simp; refine hK _ _ ?_; clear hK K)
       (refine wpAnyIn_ready (rs := [5]) (by kernel_rfl) (by simp) ?_)
       (refine BigFrame.allReadyIn_want rfl (by kernel_rfl) (fun K hK => ?_) AllReadyIn.nil
        refine wpIn_app1 _ _ rfl w.heap.size v pre.length _ rfl (World.ownsRow.alloc (w := W.drew) hr _) W.heap.size (val x) rfl ((Blk.new W.drew [.int .i64 (val x)] 3).cell 0) (by omega) (by simp; omega) ?_
        intro v' W3 hown' hgrow
        obtain ⟨g', cap', rfl⟩ := ownsRow_succ hown'
        have h5 := Boxed.appended (W := W.drew) hv (by decide) hr hNs (Nat.le_refl _) hown' hgrow
        have hvc3 := h5.1.cell
        have hvz3 := h5.1.frozen
        refine hK _ _ ?_
        clear hK K)
       (refine wpAnyIn_ready (rs := [6]) (by kernel_rfl) (by simp) ?_; refine AllReadyIn.cons rfl (fun K hK => ?_) AllReadyIn.nil; go_simp; refine hK _ _ ?_; clear hK K)
       refine wpAnyIn_done (by kernel_rfl) ?_ _
       exact fin _ W3 hown' hgrow
  case done =>
   rintro W ⟨⟨v, hv, hr⟩, hF, hBl⟩ hK
   have hvc := hv.cell
   have hvz := hv.frozen
   gi_wp2
   refine ⟨by simp, .inl ⟨_, _, rfl, run_takeDeferred hK, ?_⟩⟩
   refine ⟨_, results_tmp rfl _ _ _, v, rfl, ownsRow_putObj hr _ hK rfl, ?_⟩
   exact hBl.grown (grownBy_putObj' W _ _) hBl.size (fun j e => by cases e; simp; omega)
end Go.Proofs.YteaokkaidcbdlaaGreatDoor

namespace Go.Proofs.YteaokkaidcbdlaaGreatDoor
open Go Go.RowKit Go.Shelf
def sigRefs (m : MethD) : List Int := m.args ++ if m.result = -1 then [] else [m.result]
def refsOf (t : TyD) : List Int := (if supB t.kind then [t.super] else []) ++ (t.parts.map (·.type) ++ t.meths.flatMap sigRefs)
theorem choose_list {α : Type} {P : Nat → α → Prop} : ∀ n, (∀ i, i < n → ∃ s, P i s) → ∃ S : List α, S.length = n ∧ ∀ i (h : i < S.length), P i S[i]
 | 0, _ => ⟨[], rfl, fun i h => by simp at h⟩
 | n + 1, h => by
   obtain ⟨S, hl, hS⟩ := choose_list n (fun i hi => h i (by omega))
   obtain ⟨s, hs⟩ := h n (by omega)
   refine ⟨S ++ [s], by simp [hl], fun i hi => ?_⟩
   by_cases hi' : i < S.length
   ·rw [List.getElem_append_left hi']; exact hS i hi'
   ·have : i = n := by simp at hi; omega
    subst this
    rw [List.getElem_append_right (by omega)]
    simpa [hl] using hs
def cellI (x : Int) : Option Value := some (.int .i64 x)
theorem argAts_cells {W : World} {o : Option Addr} {cap : Nat} {l : List Int} (h : SliceOf 1 (IntAt W) (.slice o l.length cap) l) : (argAts o l.length).map W.cell? = l.map cellI := by
 obtain ⟨-, -, -, hat⟩ := h.at
 apply List.ext_getElem
 ·simp [argAts]
 ·intro i h1 h2
  have hi : i < l.length := by simpa using h2
  obtain ⟨b, off, rfl, hc⟩ := hat i l[i] (List.getElem?_eq_getElem hi)
  unfold IntAt at hc
  simp [argAts, cellI]
  simpa using hc
theorem partAts_cells {W : World} {o : Option Addr} {cap : Nat} {l : List PartD} (h : SliceOf 2 (PartAt W) (.slice o l.length cap) l) : (partAts o l.length).map W.cell? = (l.map (·.type)).map cellI := by
 obtain ⟨-, -, -, hat⟩ := h.at
 apply List.ext_getElem
 ·simp [partAts]
 ·intro i h1 h2
  have hi : i < l.length := by simpa using h2
  obtain ⟨b, off, rfl, hc⟩ := hat i l[i] (List.getElem?_eq_getElem hi)
  simp [partAts, cellI]
  exact hc.2
structure SigAt (W : World) (om : Option Addr) (i : Nat) (m : MethD) (s : SigD) : Prop where
 hdr : ∀ mb moff, om = some ⟨mb, moff, none⟩ → W.cell? ⟨mb, moff + i * 5 + 1, none⟩ = some (.slice s.o s.n s.cap)
 res : ∀ mb moff, om = some ⟨mb, moff, none⟩ → W.cell? ⟨mb, moff + i * 5 + 1 + 1, none⟩ = some (.int .i64 s.res)
 n : s.n = m.args.length
 r : s.res = m.result
 args : SliceOf 1 (IntAt W) (.slice s.o m.args.length s.cap) m.args
theorem sigAts_cells {W : World} {mb moff i : Nat} {m : MethD} {s : SigD} (h : SigAt W (some ⟨mb, moff, none⟩) i m s) : (sigAts s.o s.n mb (moff + i * 5 + 1) s.res).map W.cell? = (sigRefs m).map cellI := by
 unfold sigAts sigRefs
 rw [List.map_append, List.map_append, h.n, argAts_cells h.args, h.r]
 congr 1
 split
 ·rfl
 ·simp [cellI, ← h.r]
  exact h.res mb moff rfl
theorem methAts_cells {W : World} {mb moff : Nat} {M : List MethD} {S : List SigD} (hl : S.length = M.length) (h : ∀ i (h1 : i < S.length) (h2 : i < M.length), SigAt W (some ⟨mb, moff, none⟩) i M[i] S[i]) :
    ∀ n, n ≤ S.length → (methAts (some ⟨mb, moff, none⟩) S n).map W.cell? = ((M.take n).flatMap sigRefs).map cellI
  | 0, _ => by simp [methAts]
  | n + 1, hn => by
    have ih := methAts_cells hl h n (by omega)
    rw [methAts_succ _ _ _ _ (by omega), List.map_append, ih, sigAts_cells (h n (by omega) (by omega)), List.take_succ_eq_append_getElem (by omega), List.flatMap_append, List.map_append]
    simp
def valI (W : World) (a : Addr) : Int := match W.cell? a with | some (.int _ x) => x | _ => 0
set_option maxRecDepth 100000 in
theorem references_any (b k : Nat) (t : TyD) (w : World) (ht : TyAt w b k t) (hlen : (refsOf t).length ≤ 100000) :
    Calls Tryz.prog 104 #[.pointer (some ⟨b, k, none⟩)] w fun e w' => ∃ v, e = .returned v ∧ w'.ownsRow w.heap.size 3 1 v (refsOf t).length ((refsOf t).map (.int .i64)) ∧ Below w.heap.size w w' := by
  obtain ⟨vp, vm, vo, hl, k0, k1, k2, k3, k4, k5, k6, k7, k8, k9⟩ := ht
  obtain ⟨op, cp, rfl⟩ := hl.parts.form
  obtain ⟨om, cm, rfl⟩ := hl.meths.form
  obtain ⟨-, hpm, hpl, hpat⟩ := hl.parts.at
  obtain ⟨-, hmm, hml, hmat⟩ := hl.meths.at
  have hnp : t.parts.length ≤ 9223372036854775807 := by unfold maxLen at hpm; omega
  have hnm : t.meths.length ≤ 9223372036854775807 := by unfold maxLen at hmm; omega
  obtain ⟨S, hSl, hSP⟩ := choose_list (P := fun i s => ∀ h : i < t.meths.length, SigAt w om i t.meths[i] s ∧ s.n ≤ 9223372036854775807 ∧ (0 < s.n → ∃ ab aoff, s.o = some ⟨ab, aoff, none⟩)) t.meths.length (fun i hi => by
   obtain ⟨mb, moff, rfl, va, vr, hv, m0, m1, m2, m3, m4⟩ := hmat i t.meths[i] (List.getElem?_eq_getElem hi)
   have hargs := hv.args
   obtain ⟨oa, ca, rfl⟩ := hv.args.form
   obtain ⟨-, ham, hal, haat⟩ := hv.args.at
   refine ⟨⟨oa, t.meths[i].args.length, ca, t.meths[i].result⟩, fun _ => ⟨⟨?_, ?_, rfl, rfl, hargs⟩, ?_, ?_⟩⟩
   ·intro b' o' e; cases e; exact m1
   ·intro b' o' e; cases e; exact m2
   ·show t.meths[i].args.length ≤ _
    unfold maxLen at ham; omega
   ·intro h0
    obtain ⟨ab, aoff, e, _⟩ := haat 0 t.meths[i].args[0] (List.getElem?_eq_getElem h0)
    exact ⟨ab, aoff, e⟩)
  have hcells : (placesL (supB t.kind) b k op t.parts.length om S).map w.cell? = (refsOf t).map cellI := by
   unfold placesL refsOf
   rw [List.map_append, List.map_append, List.map_append, List.map_append, partAts_cells hl.parts]
   congr 1
   ·unfold superAts
    split
    ·simp [cellI]; exact k6
    ·rfl
   ·congr 1
    by_cases h0 : S.length = 0
    ·have : t.meths = [] := List.eq_nil_of_length_eq_zero (by omega)
     rw [h0, this]; simp [methAts]
    ·obtain ⟨mb, moff, rfl, _⟩ := hmat 0 t.meths[0] (List.getElem?_eq_getElem (by omega))
     rw [methAts_cells (M := t.meths) hSl (fun i h1 h2 => (hSP i h1 h2).1) S.length (Nat.le_refl _), hSl, List.take_length]
  have hval : ∀ x ∈ placesL (supB t.kind) b k op t.parts.length om S, w.cell? x = some (.int .i64 (valI w x)) := by
   intro x hx
   have h1 : w.cell? x ∈ (refsOf t).map cellI := by rw [← hcells]; exact List.mem_map_of_mem hx
   obtain ⟨y, _, hy⟩ := List.mem_map.1 h1
   unfold valI
   rw [← hy]; rfl
  have hmap : (placesL (supB t.kind) b k op t.parts.length om S).map (fun x => Value.int .i64 (valI w x)) = (refsOf t).map (.int .i64) := by
   have h2 : ((placesL (supB t.kind) b k op t.parts.length om S).map (fun x => Value.int .i64 (valI w x))).map some = ((refsOf t).map (Value.int .i64)).map some := by
    rw [List.map_map, List.map_map, show (some ∘ Value.int .i64 : Int → Option Value) = cellI from rfl, ← hcells]
    exact List.map_congr_left fun x hx => (hval x hx).symm
   exact (List.map_inj_right (fun x y h => by injection h)).1 h2
  have hL : (placesL (supB t.kind) b k op t.parts.length om S).length = (refsOf t).length := by
   have := congrArg List.length hcells
   simpa using this
  have := references_shape b k t.kind op t.parts.length cp om cm S hnp (by omega) (fun s hs => by
      obtain ⟨i, hi, rfl⟩ := List.mem_iff_getElem.1 hs
      exact (hSP i hi (by omega)).2)
    (fun h0 => by
     obtain ⟨ab, aoff, e, _⟩ := hpat 0 t.parts[0] (List.getElem?_eq_getElem h0)
     exact ⟨ab, aoff, e⟩)
    (fun h0 => by
     obtain ⟨ab, aoff, e, _⟩ := hmat 0 t.meths[0] (List.getElem?_eq_getElem (by omega))
     exact ⟨ab, aoff, e⟩)
    w ⟨k0, k7, by rw [hSl]; exact k8⟩
    (fun m h mb moff e => ((hSP m h (by omega)).1.hdr mb moff e))
    (fun m h mb moff e => ((hSP m h (by omega)).1.res mb moff e))
    (valI w) (by rw [hL]; exact hlen) hval
  rw [hL, hmap] at this
  exact this
end Go.Proofs.YteaokkaidcbdlaaGreatDoor

