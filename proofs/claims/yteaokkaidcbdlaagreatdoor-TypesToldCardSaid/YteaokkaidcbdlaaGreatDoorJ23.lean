/- Part 23 of 53: the texts Sd, one behind the other. -/
import Derived.Test.YteaokkaidcbdlaaGreatDoorJ22
import Derived.Test.YteaokkaidcbdlaaGreatDoorJ16
import Derived.Tactics
import Derived.Tactics2
import Derived.WalkKit
import Derived.LoopTactic
import Derived.Outline
import Derived.Lib.Hide
import Derived.Handy
import Derived.KernelRfl
import Derived.Deep.LoopGhost
import Derived.CallsIn
import Derived.Deep.QuietTactic
import Derived.BigQuiet
import Derived.Deep.Draws
import Derived.WalkSpells
import Derived.Lib.Walk
import Derived.Lib.Strings
import Derived.Maps.OwnOps
import Derived.Maps.OwnSet
import Derived.Deep.RegionWith
import Derived.StillTailTactics
import Derived.WalkMore
import Derived.RangeFuncNested
import Derived.RangeFuncBound
import Derived.RangeFuncCalls
import Derived.RangeFuncLeaves
import Derived.RangeFuncBox
import Derived.Shelf.Abstract
import Derived.OwnWalkIn
import Derived.TacticsInMore
import Derived.LoopNIn
import Derived.LoopIn
import Derived.RecoverIn
import Derived.Maps.AppendAt
import Derived.RegionTactic
import Derived.ChangeAlike
import Derived.OwnWalk
import Derived.Deep.AppendLies
import Derived.Deep.DeepCutAuto
import Derived.Deep.RegionLaw
import Derived.Deep.RegionHeld3
import Derived.Laws.EntriesVeiled
namespace Go.Proofs.YteaokkaidcbdlaaGreatDoor
open Go Go.RowKit Go.Shelf
def natsI (n : Nat) : List Int := (List.range n).map Int.ofNat
theorem natsI_at {n i : Nat} (h : i < n) : (natsI n)[i]? = some (i : Int) := by simp [natsI, h]
structure Ask159 (W : World) (fb ib tb sb bb cb : Nat) (o : Option Addr) (cap : Nat) (va vb : Value) (xs : List Int) (B : List (List Int)) (t : Nat) : Prop where
  f : W.cell? ⟨fb, 0, none⟩ = some (.func (.func 107) #[] #[.pointer (some ⟨sb, 0, none⟩), .pointer (some ⟨bb, 0, none⟩)])
  i : W.cell? ⟨ib, 0, none⟩ = some (.slice o xs.length cap)
  g : SliceOf 1 (IntAt W) (.slice o xs.length cap) (natsI xs.length)
  t : W.cell? ⟨tb, 0, none⟩ = some (.int .i64 t)
  q : Ask107 W sb bb cb va vb xs B
theorem Ask159.below {W W' : World} {fb ib tb sb bb cb : Nat} {o : Option Addr} {cap : Nat} {va vb : Value} {xs : List Int} {B : List (List Int)} {t : Nat} (h : Ask159 W fb ib tb sb bb cb o cap va vb xs B t) (hb : Below W.heap.size W W') :
    Ask159 W' fb ib tb sb bb cb o cap va vb xs B t :=
  ⟨Holds.below hb _ _ h.f, Holds.below hb _ _ h.i, h.g.mono fun _ _ _ _ => IntAt.go (.below hb), Holds.below hb _ _ h.t, h.q.below hb⟩
set_option maxRecDepth 100000 in
set_option maxHeartbeats 8000000 in
theorem ask159_any (fb ib tb sb bb cb : Nat) (o : Option Addr) (cap : Nat) (va vb : Value) (xs : List Int) (B : List (List Int)) (t k : Nat) (hk : k < xs.length) (ht : t < xs.length) (hB : B.length = xs.length) (hz : ∀ l ∈ B, ∀ x ∈ l, 0 ≤ x ∧ x < xs.length)
    (W : World) (h : Ask159 W fb ib tb sb bb cb o cap va vb xs B t) :
    Calls Tryz.prog 159 #[.int .i64 k, .pointer (some ⟨fb, 0, none⟩), .pointer (some ⟨ib, 0, none⟩), .pointer (some ⟨tb, 0, none⟩)] W fun e w' => e = .returned (.bool (finerB xs B k t)) ∧ Below W.heap.size W w' := by
  obtain ⟨-, -, -, hat⟩ := h.g.at
  obtain ⟨b, off, rfl, e0⟩ := hat k k (natsI_at hk)
  unfold IntAt at e0
  simp only [Nat.mul_one] at e0
  have hA := hide (fun W' (hb : Below W.heap.size W W') => ask107_any sb bb cb va vb xs B k t hk ht hB hz W' (h.q.below hb))
  have hF : ∀ W', Below W.heap.size W W' → W'.cell? ⟨fb, 0, none⟩ = some (.func (.func 107) #[] #[.pointer (some ⟨sb, 0, none⟩), .pointer (some ⟨bb, 0, none⟩)]) := fun W' hb => Holds.below hb _ _ h.f
  have hI : ∀ W', Below W.heap.size W W' → W'.cell? ⟨ib, 0, none⟩ = some (.slice (some ⟨b, off, none⟩) xs.length cap) := fun W' hb => Holds.below hb _ _ h.i
  have hT : ∀ W', Below W.heap.size W W' → W'.cell? ⟨tb, 0, none⟩ = some (.int .i64 t) := fun W' hb => Holds.below hb _ _ h.t
  have hK : ∀ W', Below W.heap.size W W' → W'.cell? ⟨b, off + k, none⟩ = some (.int .i64 k) := fun W' hb => Holds.below hb _ _ e0
  have hk' : (k : Int) < xs.length := by omega
  clear hat e0 h
  generalize finerB xs B k t = x at hA ⊢
  go_enter Tryz.func159, Tryz.ntmps159
  go_wp2_with fail
  refine wp_region_quiet (C := fun w' => Below W.heap.size W w') (by kernel_rfl) (by kernel_rfl) (below_drewN' (Below.refl _ _) 1) ?_
  simp only []
  repeat (first
    | go_big_quiet_skip
    | (go_big_quiet_want; go_big_quiet_op; first
      | go_big_quiet_on
      | (refine ⟨_, fun _ _ => rfl, ?_⟩; go_big_quiet_on)
      | (refine ⟨.func (.func 107) #[] #[.pointer (some ⟨sb, 0, none⟩), .pointer (some ⟨bb, 0, none⟩)], ?_, ?_⟩
         · intro w1 hb
           have e := hF w1 hb
           simp [e, go_sem]
           done
         go_big_quiet_on)
      | (refine ⟨.slice (some ⟨b, off, none⟩) xs.length cap, ?_, ?_⟩
         · intro w1 hb
           have e := hI w1 hb
           simp [e, go_sem]
           done
         go_big_quiet_on)
      | (refine ⟨.int .i64 k, ?_, ?_⟩
         · intro w1 hb
           have e := hK w1 hb
           simp [e, go_sem]
           done
         go_big_quiet_on)
      | (refine ⟨.int .i64 t, ?_, ?_⟩
         · intro w1 hb
           have e := hT w1 hb
           simp [e, go_sem]
           done
         go_big_quiet_on)
      | (apply Exists.intro
         refine ⟨fun w1 hb => ?_, ?_⟩
         · with_reducible refine (unhide hA w1 hb).mono ?_
           rintro e w2 ⟨rfl, hb2⟩
           exact ⟨rfl, hb.trans (hb2.mono hb.size)⟩
         go_big_quiet_on)))
  refine wpQuiet_nil ?_
  rintro w1 hb
  go_wp2
  go_ret
  exact ⟨rfl, hb⟩
theorem index159_any (fb ib tb sb bb cb : Nat) (o : Option Addr) (cap : Nat) (va vb : Value) (xs : List Int) (B : List (List Int)) (t : Nat) (ht : t < xs.length) (hLB : B.length = xs.length) (hz : ∀ l ∈ B, ∀ x ∈ l, 0 ≤ x ∧ x < xs.length)
    (F : List Nat) (hF : ∀ f ∈ F, f < xs.length) (hl : F.length ≤ 1000000) (v : Value) (base : Nat) (W0 W : World) (hB : Below W0.heap.size W0 W)
    (h : Ask159 W0 fb ib tb sb bb cb o cap va vb xs B t) (hv : W0.ownsRow base 3 1 v F.length (natsV F)) :
    Calls Tryz.prog 156 #[v, .func (.func 159) #[] #[.pointer (some ⟨fb, 0, none⟩), .pointer (some ⟨ib, 0, none⟩), .pointer (some ⟨tb, 0, none⟩)]] W fun e w' => e = .returned (.int .i64 (idxI (fun f => finerB xs B f t) F)) ∧ Below W.heap.size W w' := by
  obtain ⟨oa, ca, rfl, hrow⟩ : ∃ oa ca, v = .slice oa F.length ca ∧ ∀ k (h : k < F.length), ∃ g, oa = some ⟨g, 0, none⟩ ∧ W0.cell? ⟨g, k, none⟩ = some (natI F[k]) := by
    have hv' := hv
    rcases hv.2 with ⟨rfl, h0⟩ | ⟨g, cap2, cur, rfl, _⟩
    · exact ⟨none, 0, by rw [h0], fun k hk => by omega⟩
    · refine ⟨_, _, rfl, fun k hk => ⟨g, rfl, ?_⟩⟩
      rw [Row1.cells hv' k hk]
      unfold natsV
      rw [List.getElem?_map, List.getElem?_eq_getElem hk]; rfl
  clear hv
  go_enter Tryz.func156, Tryz.ntmps156
  go_wp2
  go_loopw [8] (fun i wr => ∃ k : Nat, k ≤ F.length ∧ i = .int .i64 k ∧ Below W.heap.size W wr ∧ Hid ((F.take k).all (fun f => !finerB xs B f t) = true)) (fun i _ => F.length - (intOf i).toNat)
  case atStart => exact ⟨0, Nat.zero_le _, rfl, Below.refl _ _, Lib.hid rfl⟩
  case round =>
    obtain ⟨k, hk, rfl, hbw, HT⟩ := hrel
    by_cases hlt : k < F.length
    · have hlt' : (k : Int) < F.length := by omega
      have hbel := hB.trans (hbw.mono hB.size)
      obtain ⟨g, rfl, hc⟩ := hrow k hlt
      have r0 : wr.cell? ⟨g, k, none⟩ = some (.int .i64 F[k]) := Holds.below hbel _ _ hc
      have hfl := hF F[k] (List.getElem_mem hlt)
      have hA := ask159_any fb ib tb sb bb cb o cap va vb xs B t F[k] hfl ht hLB hz wr (h.below hbel)
      clear hrow hc hbel hF h hLB hz ht
      cases hx : finerB xs B F[k] t with
      | true =>
        rw [hx] at hA
        have HA := hide hA
        have HX := Lib.hid (idxI_at (p := fun f => finerB xs B f t) hlt HT.out hx)
        clear hA hx
        go_wp2_with (first | (go_at_call 159; refine (unhide HA).mono ?_; rintro e w4 ⟨rfl, hb4⟩))
        go_ret
        exact ⟨ret_int HX.out.symm, hbw.trans (hb4.mono hbw.size)⟩
      | false =>
        rw [hx] at hA
        have HA := hide hA
        have HX := Lib.hid (show (F.take (k + 1)).all (fun f => !finerB xs B f t) = true by rw [all_take _ _ _ hlt, HT.out, hx]; rfl)
        clear hA hx
        go_wp2_with (first | (go_at_call 159; refine (unhide HA).mono ?_; rintro e w4 ⟨rfl, hb4⟩))
        go_roundw
        case rel => exact ⟨k + 1, by omega, by go_num, hbw.trans (hb4.mono hbw.size), HX⟩
        case measure => simp [intOf]; omega
    · obtain rfl : k = F.length := by omega
      have HX := Lib.hid (idxI_none (p := fun f => finerB xs B f t) (l := F) (by have := HT.out; rwa [List.take_length] at this))
      clear hLB ht
      go_wp2
      go_ret
      exact ⟨ret_int HX.out.symm, hbw⟩
end Go.Proofs.YteaokkaidcbdlaaGreatDoor

