/- Part 16 of 53: the texts Ls, If, one behind the other. -/
import Derived.Test.YteaokkaidcbdlaaGreatDoorJ15
import Derived.Tactics
import Derived.Tactics2
import Derived.WalkKit
import Derived.LoopTactic
import Derived.Outline
import Derived.Lib.Hide
import Derived.Handy
import Derived.KernelRfl
import Derived.Deep.LoopGhost
import Derived.CallsIn
import Derived.Deep.QuietTactic
import Derived.BigQuiet
import Derived.Deep.Draws
import Derived.WalkSpells
import Derived.Lib.Walk
import Derived.Lib.Strings
import Derived.Maps.OwnOps
import Derived.Maps.OwnSet
import Derived.Deep.RegionWith
import Derived.StillTailTactics
import Derived.WalkMore
import Derived.RangeFuncNested
import Derived.RangeFuncBound
import Derived.RangeFuncCalls
import Derived.RangeFuncLeaves
import Derived.RangeFuncBox
import Derived.Shelf.Abstract
import Derived.OwnWalkIn
import Derived.TacticsInMore
import Derived.LoopNIn
import Derived.LoopIn
import Derived.RecoverIn
import Derived.Maps.AppendAt
import Derived.RegionTactic
import Derived.ChangeAlike
import Derived.OwnWalk
import Derived.Deep.AppendLies
import Derived.Deep.DeepCutAuto
import Derived.Deep.RegionLaw
import Derived.Deep.RegionHeld3
import Derived.Laws.EntriesVeiled
namespace Go.Proofs.YteaokkaidcbdlaaGreatDoor
open Go Go.RowKit Go.Shelf
theorem agree_any (a b : TyD) (va1 va2 va3 vb1 vb2 vb3 : Value) (W : World) (ha : TyL W va1 va2 va3 a) (hb : TyL W vb1 vb2 vb3 b) :
    Calls Tryz.prog 103 #[tyVal a va1 va2 va3, tyVal b vb1 vb2 vb3] W fun e w' => e = .returned (.bool (agreeB a b)) ∧ Below W.heap.size W w' := by
  have hC := hide (fun W' (h : Below W.heap.size W W') => areAlike_any a b va1 va2 va3 vb1 vb2 vb3 W' (ha.go (.below h)) (hb.go (.below h)))
  have hbel : ∀ o1 o2, Below W.heap.size W ((W.alloc o1).alloc o2) := fun o1 o2 => ((Below.refl _ _).alloc (Nat.le_refl _) _).alloc (by simp) _
  unfold tyVal at hC ⊢
  clear ha hb
  go_enter Tryz.func103, Tryz.ntmps103
  go_wp2_with (first | (go_at_call 114; refine (unhide hC _ (hbel _ _)).mono ?_; rintro e w4 ⟨rfl, hb4⟩))
  go_ret
  exact ⟨rfl, (hbel _ _).trans (hb4.mono (hbel _ _).size)⟩
def stepL (same : Nat → Nat → Bool) (st : List Nat × List Nat) (i : Nat) : List Nat × List Nat :=
  match st.1.findIdx? (fun f => same f i) with
  | none => (st.1 ++ [i], st.2 ++ [i])
  | some j => (st.1, st.2 ++ [st.1.getD j 0])
def leastsS (same : Nat → Nat → Bool) (n : Nat) : List Nat × List Nat := (List.range n).foldl (stepL same) ([], [])
theorem leastsS_succ (same : Nat → Nat → Bool) (n : Nat) : leastsS same (n + 1) = stepL same (leastsS same n) n := by
  unfold leastsS; rw [List.range_succ, List.foldl_append]; rfl
theorem leastsS_len (same : Nat → Nat → Bool) (n : Nat) : (leastsS same n).2.length = n ∧ (leastsS same n).1.length ≤ n ∧ ∀ f ∈ (leastsS same n).1, f < n := by
  induction n with
  | zero => exact ⟨rfl, Nat.le_refl _, fun f h => by simp [leastsS] at h⟩
  | succ n ih =>
    rw [leastsS_succ]
    unfold stepL
    obtain ⟨h1, h2, h3⟩ := ih
    split
    · refine ⟨by simp [h1], by simp; omega, fun f hf => ?_⟩
      simp at hf
      rcases hf with hf | rfl
      · have := h3 f hf; omega
      · omega
    · exact ⟨by simp [h1], by simp; omega, fun f hf => by have := h3 f hf; omega⟩
def idxI (p : Nat → Bool) (l : List Nat) : Int := match l.findIdx? p with | some j => j | none => -1
theorem idxI_at {p : Nat → Bool} {l : List Nat} {k : Nat} (h : k < l.length) (ha : (l.take k).all (fun f => !p f) = true) (hp : p l[k] = true) : idxI p l = k := by
  unfold idxI
  have : l.findIdx? p = some k := by
    rw [List.findIdx?_eq_some_iff_getElem]
    refine ⟨h, hp, fun j hj => ?_⟩
    have := List.all_eq_true.1 ha l[j] (by rw [List.mem_take_iff_getElem]; exact ⟨j, by omega, rfl⟩)
    simpa using this
  rw [this]
theorem idxI_none {p : Nat → Bool} {l : List Nat} (ha : l.all (fun f => !p f) = true) : idxI p l = -1 := by
  unfold idxI
  have : l.findIdx? p = none := by
    rw [List.findIdx?_eq_none_iff]
    intro x hx
    simpa using List.all_eq_true.1 ha x hx
  rw [this]
def natI (n : Nat) : Value := .int .i64 n
structure Ask157 (W : World) (fb ib tb : Nat) (o : Option Addr) (cap : Nat) (G : List TyD) (t : TyD) : Prop where
  f : W.cell? ⟨fb, 0, none⟩ = some (.func (.func 103) #[] #[])
  i : W.cell? ⟨ib, 0, none⟩ = some (.slice o G.length cap)
  g : GrAt W (.slice o G.length cap) G
  t : ∃ v1 v2 v3, TyL W v1 v2 v3 t ∧ ∀ j u, (tyC t v1 v2 v3)[j]? = some u → W.cell? ⟨tb, j, none⟩ = some u
theorem Ask157.below {W W' : World} {fb ib tb : Nat} {o : Option Addr} {cap : Nat} {G : List TyD} {t : TyD} (h : Ask157 W fb ib tb o cap G t) (hb : Below W.heap.size W W') : Ask157 W' fb ib tb o cap G t := by
  have hh := Holds.below hb
  obtain ⟨v1, v2, v3, hl, hc⟩ := h.t
  exact ⟨hh _ _ h.f, hh _ _ h.i, h.g.go hh, v1, v2, v3, hl.go hh, fun j u hu => hh _ _ (hc j u hu)⟩
set_option maxRecDepth 100000 in
set_option maxHeartbeats 8000000 in
theorem ask157_any (fb ib tb : Nat) (o : Option Addr) (cap : Nat) (G : List TyD) (t : TyD) (k : Nat) (hk : k < G.length) (W : World) (h : Ask157 W fb ib tb o cap G t) :
    Calls Tryz.prog 157 #[.int .i64 k, .pointer (some ⟨fb, 0, none⟩), .pointer (some ⟨ib, 0, none⟩), .pointer (some ⟨tb, 0, none⟩)] W fun e w' => e = .returned (.bool (agreeB G[k] t)) ∧ Below W.heap.size W w' := by
  obtain ⟨v1, v2, v3, hl, hc⟩ := h.t
  obtain ⟨_, _, _, hat⟩ := h.g.at
  obtain ⟨b, off, rfl, u1, u2, u3, gl, k0, k1, k2, k3, k4, k5, k6, k7, k8, k9⟩ := hat k G[k] (List.getElem?_eq_getElem hk)
  have hA := hide (fun W' (hb : Below W.heap.size W W') => agree_any G[k] t u1 u2 u3 v1 v2 v3 W' (gl.go (.below hb)) (hl.go (.below hb)))
  have hF : ∀ W', Below W.heap.size W W' → W'.cell? ⟨fb, 0, none⟩ = some (.func (.func 103) #[] #[]) := fun W' hb => Holds.below hb _ _ h.f
  have hI : ∀ W', Below W.heap.size W W' → W'.cell? ⟨ib, 0, none⟩ = some (.slice (some ⟨b, off, none⟩) G.length cap) := fun W' hb => Holds.below hb _ _ h.i
  have hT : ∀ W', Below W.heap.size W W' → ∀ j u, (tyC t v1 v2 v3)[j]? = some u → W'.cell? ⟨tb, j, none⟩ = some u := fun W' hb j u hu => Holds.below hb _ _ (hc j u hu)
  have hK : ∀ W', Below W.heap.size W W' → ∀ j u, (tyC G[k] u1 u2 u3)[j]? = some u → W'.cell? ⟨b, off + k * 10 + j, none⟩ = some u := fun W' hb j u hu => by
    refine Holds.below hb _ _ ?_
    match j with
    | 0 => simp [tyC] at hu; subst hu; exact k0
    | 1 => simp [tyC] at hu; subst hu; exact k1
    | 2 => simp [tyC] at hu; subst hu; exact k2
    | 3 => simp [tyC] at hu; subst hu; exact k3
    | 4 => simp [tyC] at hu; subst hu; exact k4
    | 5 => simp [tyC] at hu; subst hu; exact k5
    | 6 => simp [tyC] at hu; subst hu; exact k6
    | 7 => simp [tyC] at hu; subst hu; exact k7
    | 8 => simp [tyC] at hu; subst hu; exact k8
    | 9 => simp [tyC] at hu; subst hu; exact k9
    | j + 10 => simp [tyC] at hu
  have hk' : (k : Int) < G.length := by omega
  clear hat k0 k1 k2 k3 k4 k5 k6 k7 k8 k9 hl hc gl h
  generalize agreeB G[k] t = x at hA ⊢
  generalize G[k] = g at hA hK
  go_enter Tryz.func157, Tryz.ntmps157
  go_wp2_with fail
  refine wp_region_quiet (C := fun w' => Below W.heap.size W w') (by kernel_rfl) (by kernel_rfl) (below_drewN' (Below.refl _ _) 1) ?_
  simp only []
  repeat (first
    | go_big_quiet_skip
    | (go_big_quiet_want; go_big_quiet_op; first
      | go_big_quiet_on
      | (refine ⟨_, fun _ _ => rfl, ?_⟩; go_big_quiet_on)
      | (refine ⟨.func (.func 103) #[] #[], ?_, ?_⟩
         · intro w1 hb
           have e := hF w1 hb
           simp [e, go_sem]
           done
         go_big_quiet_on)
      | (refine ⟨.slice (some ⟨b, off, none⟩) G.length cap, ?_, ?_⟩
         · intro w1 hb
           have e := hI w1 hb
           simp [e, go_sem]
           done
         go_big_quiet_on)
      | (refine ⟨tyVal g u1 u2 u3, ?_, ?_⟩
         · intro w1 hb
           have e0 := hK w1 hb 0 _ rfl
           have e1 := hK w1 hb 1 _ rfl
           have e2 := hK w1 hb 2 _ rfl
           have e3 := hK w1 hb 3 _ rfl
           have e4 := hK w1 hb 4 _ rfl
           have e5 := hK w1 hb 5 _ rfl
           have e6 := hK w1 hb 6 _ rfl
           have e7 := hK w1 hb 7 _ rfl
           have e8 := hK w1 hb 8 _ rfl
           have e9 := hK w1 hb 9 _ rfl
           rw [Nat.add_zero] at e0
           simp [e0, e1, e2, e3, e4, e5, e6, e7, e8, e9, tyVal, go_sem]
           done
         go_big_quiet_on)
      | (refine ⟨tyVal t v1 v2 v3, ?_, ?_⟩
         · intro w1 hb
           have e0 := hT w1 hb 0 _ rfl
           have e1 := hT w1 hb 1 _ rfl
           have e2 := hT w1 hb 2 _ rfl
           have e3 := hT w1 hb 3 _ rfl
           have e4 := hT w1 hb 4 _ rfl
           have e5 := hT w1 hb 5 _ rfl
           have e6 := hT w1 hb 6 _ rfl
           have e7 := hT w1 hb 7 _ rfl
           have e8 := hT w1 hb 8 _ rfl
           have e9 := hT w1 hb 9 _ rfl
           simp [e0, e1, e2, e3, e4, e5, e6, e7, e8, e9, tyVal, go_sem]
           done
         go_big_quiet_on)
      | (apply Exists.intro
         refine ⟨fun w1 hb => ?_, ?_⟩
         · with_reducible refine (unhide hA w1 hb).mono ?_
           rintro e w2 ⟨rfl, hb2⟩
           exact ⟨rfl, hb.trans (hb2.mono hb.size)⟩
         go_big_quiet_on)))
  refine wpQuiet_nil ?_
  rintro w1 hb
  go_wp2
  go_ret
  exact ⟨rfl, hb⟩
end Go.Proofs.YteaokkaidcbdlaaGreatDoor

namespace Go.Proofs.YteaokkaidcbdlaaGreatDoor
open Go Go.RowKit Go.Shelf
def natsV (l : List Nat) : List Value := l.map natI
theorem index157_any (fb ib tb : Nat) (o : Option Addr) (cap : Nat) (G : List TyD) (t : TyD) (F : List Nat) (hF : ∀ f ∈ F, f < G.length) (hl : F.length ≤ 1000000) (v : Value) (base : Nat) (W0 W : World) (hB : Below W0.heap.size W0 W)
    (h : Ask157 W0 fb ib tb o cap G t) (hv : W0.ownsRow base 3 1 v F.length (natsV F)) :
    Calls Tryz.prog 156 #[v, .func (.func 157) #[] #[.pointer (some ⟨fb, 0, none⟩), .pointer (some ⟨ib, 0, none⟩), .pointer (some ⟨tb, 0, none⟩)]] W fun e w' => e = .returned (.int .i64 (idxI (fun f => agreeB (G.getD f default) t) F)) ∧ Below W.heap.size W w' := by
  obtain ⟨oa, ca, rfl, hrow⟩ : ∃ oa ca, v = .slice oa F.length ca ∧ ∀ k (h : k < F.length), ∃ g, oa = some ⟨g, 0, none⟩ ∧ W0.cell? ⟨g, k, none⟩ = some (natI F[k]) := by
    have hv' := hv
    rcases hv.2 with ⟨rfl, h0⟩ | ⟨g, cap2, cur, rfl, _⟩
    · exact ⟨none, 0, by rw [h0], fun k hk => by omega⟩
    · refine ⟨_, _, rfl, fun k hk => ⟨g, rfl, ?_⟩⟩
      rw [Row1.cells hv' k hk]
      unfold natsV
      rw [List.getElem?_map, List.getElem?_eq_getElem hk]; rfl
  clear hv
  go_enter Tryz.func156, Tryz.ntmps156
  go_wp2
  go_loopw [8] (fun i wr => ∃ k : Nat, k ≤ F.length ∧ i = .int .i64 k ∧ Below W.heap.size W wr ∧ Hid ((F.take k).all (fun f => !agreeB (G.getD f default) t) = true)) (fun i _ => F.length - (intOf i).toNat)
  case atStart => exact ⟨0, Nat.zero_le _, rfl, Below.refl _ _, Lib.hid rfl⟩
  case round =>
    obtain ⟨k, hk, rfl, hbw, HT⟩ := hrel
    by_cases hlt : k < F.length
    · have hlt' : (k : Int) < F.length := by omega
      have hbel := hB.trans (hbw.mono hB.size)
      obtain ⟨g, rfl, hc⟩ := hrow k hlt
      have r0 : wr.cell? ⟨g, k, none⟩ = some (.int .i64 F[k]) := Holds.below hbel _ _ hc
      have hfl := hF F[k] (List.getElem_mem hlt)
      have hA := ask157_any fb ib tb o cap G t F[k] hfl wr (h.below hbel)
      have hg : G.getD F[k] default = G[F[k]] := by rw [List.getD, List.getElem?_eq_getElem hfl]; rfl
      rw [← hg] at hA
      clear hrow hc hbel hF h
      cases hx : agreeB (G.getD F[k] default) t with
      | true =>
        rw [hx] at hA
        have HA := hide hA
        have HX := Lib.hid (idxI_at (p := fun f => agreeB (G.getD f default) t) hlt HT.out hx)
        clear hA hx hg
        go_wp2_with (first | (go_at_call 157; refine (unhide HA).mono ?_; rintro e w4 ⟨rfl, hb4⟩))
        go_ret
        exact ⟨ret_int HX.out.symm, hbw.trans (hb4.mono hbw.size)⟩
      | false =>
        rw [hx] at hA
        have HA := hide hA
        have HX := Lib.hid (show (F.take (k + 1)).all (fun f => !agreeB (G.getD f default) t) = true by rw [all_take _ _ _ hlt, HT.out, hx]; rfl)
        clear hA hx hg
        go_wp2_with (first | (go_at_call 157; refine (unhide HA).mono ?_; rintro e w4 ⟨rfl, hb4⟩))
        go_roundw
        case rel => exact ⟨k + 1, by omega, by go_num, hbw.trans (hb4.mono hbw.size), HX⟩
        case measure => simp [intOf]; omega
    · obtain rfl : k = F.length := by omega
      have HX := Lib.hid (idxI_none (p := fun f => agreeB (G.getD f default) t) (l := F) (by have := HT.out; rwa [List.take_length] at this))
      go_wp2
      go_ret
      exact ⟨ret_int HX.out.symm, hbw⟩
end Go.Proofs.YteaokkaidcbdlaaGreatDoor

