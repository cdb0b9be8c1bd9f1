/- Part 22 of 53: the texts Sc, Pl, Rg, one behind the other. -/
import Derived.Test.YteaokkaidcbdlaaGreatDoorJ20
import Derived.Tactics
import Derived.Tactics2
import Derived.WalkKit
import Derived.LoopTactic
import Derived.Outline
import Derived.Lib.Hide
import Derived.Handy
import Derived.KernelRfl
import Derived.Deep.LoopGhost
import Derived.CallsIn
import Derived.Deep.QuietTactic
import Derived.BigQuiet
import Derived.Deep.Draws
import Derived.WalkSpells
import Derived.Lib.Walk
import Derived.Lib.Strings
import Derived.Maps.OwnOps
import Derived.Maps.OwnSet
import Derived.Deep.RegionWith
import Derived.StillTailTactics
import Derived.WalkMore
import Derived.RangeFuncNested
import Derived.RangeFuncBound
import Derived.RangeFuncCalls
import Derived.RangeFuncLeaves
import Derived.RangeFuncBox
import Derived.Shelf.Abstract
import Derived.OwnWalkIn
import Derived.TacticsInMore
import Derived.LoopNIn
import Derived.LoopIn
import Derived.RecoverIn
import Derived.Maps.AppendAt
import Derived.RegionTactic
import Derived.ChangeAlike
import Derived.OwnWalk
import Derived.Deep.AppendLies
import Derived.Deep.DeepCutAuto
import Derived.Deep.RegionLaw
import Derived.Deep.RegionHeld3
import Derived.Laws.EntriesVeiled
namespace Go.Proofs.YteaokkaidcbdlaaGreatDoor
open Go Go.RowKit Go.Shelf
def RowAt (W : World) (b k : Nat) (l : List Int) : Prop := ∃ v, W.cell? ⟨b, k, none⟩ = some v ∧ SliceOf 1 (IntAt W) v l
theorem RowAt.go {W W' : World} (h : Holds W W') {b k : Nat} {l : List Int} (hx : RowAt W b k l) : RowAt W' b k l := by
  obtain ⟨v, h1, h2⟩ := hx
  exact ⟨v, h _ _ h1, h2.mono fun _ _ _ _ => IntAt.go h⟩
structure Ask107 (W : World) (sb bb cb : Nat) (va vb : Value) (xs : List Int) (B : List (List Int)) : Prop where
  s : W.cell? ⟨sb, 0, none⟩ = some (.func (.func 105) #[] #[.pointer (some ⟨cb, 0, none⟩)])
  c : W.cell? ⟨cb, 0, none⟩ = some va
  cs : SliceOf 1 (IntAt W) va xs
  b : W.cell? ⟨bb, 0, none⟩ = some vb
  bs : SliceOf 1 (RowAt W) vb B
theorem Ask107.below {W W' : World} {sb bb cb : Nat} {va vb : Value} {xs : List Int} {B : List (List Int)} (h : Ask107 W sb bb cb va vb xs B) (hb : Below W.heap.size W W') : Ask107 W' sb bb cb va vb xs B :=
  ⟨Holds.below hb _ _ h.s, Holds.below hb _ _ h.c, h.cs.mono fun _ _ _ _ => IntAt.go (.below hb), Holds.below hb _ _ h.b, h.bs.mono fun _ _ _ _ => RowAt.go (.below hb)⟩
def finerB (xs : List Int) (B : List (List Int)) (i j : Nat) : Bool := sameB xs i j && eqF (sameB xs) (B.getD i []) (B.getD j [])
set_option maxRecDepth 100000 in
set_option maxHeartbeats 8000000 in
theorem ask107_any (sb bb cb : Nat) (va vb : Value) (xs : List Int) (B : List (List Int)) (i j : Nat) (hi : i < xs.length) (hj : j < xs.length) (hB : B.length = xs.length) (hz : ∀ l ∈ B, ∀ x ∈ l, 0 ≤ x ∧ x < xs.length)
    (W : World) (h : Ask107 W sb bb cb va vb xs B) :
    Calls Tryz.prog 107 #[.int .i64 i, .int .i64 j, .pointer (some ⟨sb, 0, none⟩), .pointer (some ⟨bb, 0, none⟩)] W fun e w' => e = .returned (.bool (finerB xs B i j)) ∧ Below W.heap.size W w' := by
  have hbi : i < B.length := by omega
  have hbj : j < B.length := by omega
  obtain ⟨o, cap, rfl⟩ := h.bs.form
  obtain ⟨-, hm, hl, hat⟩ := h.bs.at
  obtain ⟨b, off, rfl, vi, e0, s0⟩ := hat i B[i] (List.getElem?_eq_getElem hbi)
  obtain ⟨b2, off2, he, vj, f0, t0⟩ := hat j B[j] (List.getElem?_eq_getElem hbj)
  cases he
  simp only [Nat.mul_one] at e0 f0
  have hzi := hz _ (List.getElem_mem hbi)
  have hzj := hz _ (List.getElem_mem hbj)
  have hS := hide (fun W' (hb : Below W.heap.size W W') => sameClass_int cb va xs i j ⟨by omega, by omega⟩ ⟨by omega, by omega⟩ W' (h.below hb).c (h.below hb).cs)
  have hE := hide (fun W' (hb : Below W.heap.size W W') => eqClass_any cb va vi vj xs B[i] B[j] W' (h.below hb).c (h.below hb).cs (s0.mono fun _ _ _ _ => IntAt.go (.below hb)) (t0.mono fun _ _ _ _ => IntAt.go (.below hb)) hzi hzj)
  have hF : ∀ W', Below W.heap.size W W' → W'.cell? ⟨sb, 0, none⟩ = some (.func (.func 105) #[] #[.pointer (some ⟨cb, 0, none⟩)]) := fun W' hb => (h.below hb).s
  have hR : ∀ W', Below W.heap.size W W' → W'.cell? ⟨bb, 0, none⟩ = some (.slice (some ⟨b, off, none⟩) B.length cap) := fun W' hb => (h.below hb).b
  have hI : ∀ W', Below W.heap.size W W' → W'.cell? ⟨b, off + i, none⟩ = some vi := fun W' hb => Holds.below hb _ _ e0
  have hJ : ∀ W', Below W.heap.size W W' → W'.cell? ⟨b, off + j, none⟩ = some vj := fun W' hb => Holds.below hb _ _ f0
  have hi' : (i : Int) < B.length := by omega
  have hj' : (j : Int) < B.length := by omega
  have HX := Lib.hid (show finerB xs B i j = (sameB xs i j && eqF (sameB xs) B[i] B[j]) by unfold finerB; simp [List.getD_eq_getElem?_getD, List.getElem?_eq_getElem hbi, List.getElem?_eq_getElem hbj])
  obtain ⟨oi, ci, rfl⟩ := s0.form
  obtain ⟨oj, cj, rfl⟩ := t0.form
  generalize B[i].length = ni at hE hI
  generalize B[j].length = nj at hE hJ
  generalize eqF (sameB xs) B[i] B[j] = y at hE HX
  generalize sameB xs i j = x at hS HX
  clear e0 f0 s0 t0 hzi hzj hat hz h hm hl
  cases x
  all_goals
    go_enter Tryz.func107, Tryz.ntmps107
    go_wp2_with fail
    refine wp_region_quiet (C := fun w' => Below W.heap.size W w') (by kernel_rfl) (by kernel_rfl) (below_drewN' (Below.refl _ _) 1) ?_
    simp only []
    repeat (first
      | go_big_quiet_skip
      | (go_big_quiet_want; go_big_quiet_op; first
        | go_big_quiet_on
        | (refine ⟨_, fun _ _ => rfl, ?_⟩; go_big_quiet_on)
        | (refine ⟨.func (.func 105) #[] #[.pointer (some ⟨cb, 0, none⟩)], ?_, ?_⟩
           · intro w1 hb
             have e := hF w1 hb
             simp [e, go_sem]
             done
           go_big_quiet_on)
        | (refine ⟨.slice (some ⟨b, off, none⟩) B.length cap, ?_, ?_⟩
           · intro w1 hb
             have e := hR w1 hb
             simp [e, go_sem]
             done
           go_big_quiet_on)
        | (refine ⟨.slice oi ni ci, ?_, ?_⟩
           · intro w1 hb
             have e := hI w1 hb
             simp [e, go_sem]
             done
           go_big_quiet_on)
        | (refine ⟨.slice oj nj cj, ?_, ?_⟩
           · intro w1 hb
             have e := hJ w1 hb
             simp [e, go_sem]
             done
           go_big_quiet_on)
        | (apply Exists.intro
           refine ⟨fun w1 hb => ?_, ?_⟩
           · with_reducible refine (unhide hS w1 hb).mono ?_
             rintro e w2 ⟨rfl, hb2⟩
             exact ⟨rfl, hb.trans (hb2.mono hb.size)⟩
           go_big_quiet_on)
        | (apply Exists.intro
           refine ⟨fun w1 hb => ?_, ?_⟩
           · with_reducible refine (unhide hE w1 hb).mono ?_
             rintro e w2 ⟨rfl, hb2⟩
             exact ⟨rfl, hb.trans (hb2.mono hb.size)⟩
           go_big_quiet_on)))
    refine wpQuiet_nil ?_
    rintro w1 hb
    go_wp2
    go_ret
    exact ⟨ret_bool (by rw [HX.out]; simp), hb⟩
end Go.Proofs.YteaokkaidcbdlaaGreatDoor

namespace Go.Proofs.YteaokkaidcbdlaaGreatDoor
open Go Go.RowKit Go.Shelf
attribute [local go_sem] Oper.semAt_some
structure SigD where
  o : Option Addr
  n : Nat
  cap : Nat
  res : Int
def partAts (o : Option Addr) (n : Nat) : List Addr := (List.range n).map fun i => match o with | some a => ⟨a.block, a.off + i * 2 + 1, none⟩ | none => ⟨0, i, none⟩
theorem partAts_succ (b off : Nat) (n k : Nat) (h : k < n) : (partAts (some ⟨b, off, none⟩) n).take (k + 1) = (partAts (some ⟨b, off, none⟩) n).take k ++ [⟨b, off + k * 2 + 1, none⟩] := by
  have hl : k < (partAts (some ⟨b, off, none⟩) n).length := by simp [partAts]; exact h
  rw [List.take_succ_eq_append_getElem hl]
  simp [partAts]
theorem partAts_all (o : Option Addr) (n : Nat) : (partAts o n).take n = partAts o n := List.take_of_length_le (by simp [partAts])
def methAts (om : Option Addr) (S : List SigD) (m : Nat) : List Addr := (S.take m).zipIdx.flatMap fun x => match om with | some a => sigAts x.1.o x.1.n a.block (a.off + x.2 * 5 + 1) x.1.res | none => []
theorem methAts_succ (b off : Nat) (S : List SigD) (m : Nat) (h : m < S.length) : methAts (some ⟨b, off, none⟩) S (m + 1) = methAts (some ⟨b, off, none⟩) S m ++ sigAts S[m].o S[m].n b (off + m * 5 + 1) S[m].res := by
  unfold methAts
  rw [List.take_succ_eq_append_getElem h, List.zipIdx_append, List.flatMap_append]
  simp [Nat.min_eq_left (Nat.le_of_lt h)]
def superAts (sup : Bool) (b k : Nat) : List Addr := if sup then [⟨b, k + 6, none⟩] else []
def placesL (sup : Bool) (b k : Nat) (op : Option Addr) (np : Nat) (om : Option Addr) (S : List SigD) : List Addr := superAts sup b k ++ (partAts op np ++ methAts om S S.length)
theorem methAts_pre (om : Option Addr) (S : List SigD) {m n : Nat} (h : m ≤ n) : methAts om S m <+: methAts om S n := by
  unfold methAts
  have : S.take m <+: S.take n := by
    rw [List.prefix_take_iff]
    exact ⟨List.take_prefix _ _, by simp; omega⟩
  obtain ⟨r, hr⟩ := this
  rw [← hr, List.zipIdx_append, List.flatMap_append]
  exact List.prefix_append _ _
theorem pre_of {α : Type} {a b c : List α} (h : b <+: c) : a ++ b <+: a ++ c := (List.prefix_append_right_inj _).2 h
set_option maxRecDepth 100000 in
set_option maxHeartbeats 8000000 in
theorem places_in (l cb b k kd : Nat) (op : Option Addr) (np cp : Nat) (om : Option Addr) (cm : Nat) (S : List SigD) (hnp : np ≤ 9223372036854775807) (hns : S.length ≤ 9223372036854775807)
    (hS : ∀ s ∈ S, s.n ≤ 9223372036854775807 ∧ (0 < s.n → ∃ ab aoff, s.o = some ⟨ab, aoff, none⟩)) (hop : 0 < np → ∃ ab aoff, op = some ⟨ab, aoff, none⟩) (hom : 0 < S.length → ∃ ab aoff, om = some ⟨ab, aoff, none⟩)
    (J : List Addr → World → Prop)
    (hRd : ∀ p W, J p W → W.cell? ⟨cb, 0, none⟩ = some (.pointer (some ⟨b, k, none⟩)) ∧ W.cell? ⟨b, k, none⟩ = some (.int .u8 kd) ∧ W.cell? ⟨b, k + 7, none⟩ = some (.slice op np cp) ∧ W.cell? ⟨b, k + 8, none⟩ = some (.slice om S.length cm))
    (hSg : ∀ m (h : m < S.length) p W, J p W → ∀ mb moff, om = some ⟨mb, moff, none⟩ → W.cell? ⟨mb, moff + m * 5 + 1, none⟩ = some (.slice S[m].o S[m].n S[m].cap))
    (hRs : ∀ m (h : m < S.length) j W, j ≤ S[m].n → J ((superAts (supB kd) b k ++ (partAts op np ++ methAts om S m)) ++ (argAts S[m].o S[m].n).take j) W → ∀ mb moff, om = some ⟨mb, moff, none⟩ → W.cell? ⟨mb, moff + m * 5 + 1 + 1, none⟩ = some (.int .i64 S[m].res))
    (hY : ∀ p x W, p ++ [x] <+: placesL (supB kd) b k op np om S → J p W → YieldAt Fence.wide 0 Tryz.prog l #[.pointer (some x)] W fun e W' => e = .returned (.bool true) ∧ J (p ++ [x]) W')
    (W : World) (h0 : J [] W) :
    CallsIn Fence.wide 1 Tryz.prog 168 #[.func (.yield l) #[] #[], .pointer (some ⟨cb, 0, none⟩)] W fun e W' => (∃ v, e = .returned v) ∧ J (placesL (supB kd) b k op np om S) W' := by
  refine callsIn_of_wp Tryz.func168 rfl trivial ?_ rfl
  simp only [Tryz.ntmps168, List.size_toArray, List.length_cons, List.length_nil, Nat.reduceAdd, Nat.reduceSub, Array.replicate_succ, Array.replicate_zero, List.push_toArray, List.append_toArray, List.nil_append, List.cons_append]
  obtain ⟨c0, c1, c2, c3⟩ := hRd _ _ h0
  have HS := hide (hasSuper_any kd)
  have hY0 : supB kd = true → YieldAt Fence.wide 0 Tryz.prog l #[.pointer (some ⟨b, k + 6, none⟩)] W fun e W' => e = .returned (.bool true) ∧ J [⟨b, k + 6, none⟩] W' := fun h => by
    have := hY [] ⟨b, k + 6, none⟩ W (by unfold placesL superAts; rw [h]; exact List.prefix_append _ _) h0
    exact this
  have HSU := Lib.hid (show ∀ x, supB kd = x → superAts (supB kd) b k = if x then [⟨b, k + 6, none⟩] else [] from fun x h => by unfold superAts; rw [h])
  generalize hsu : supB kd = su at HS hY0
  have HSu := Lib.hid hsu
  clear hsu
  cases su
  · clear hY0
    gi_wp2_with (first | (refine ⟨trivial, ?_⟩; gi_at_call 94; refine (callsIn_wide.2 (unhide HS _)).mono ?_; rintro e w2 ⟨rfl, rfl⟩))
    refine ⟨fun _ h => (by cases h), ?_⟩
    gi_wp2
    have hA : J (superAts (supB kd) b k) W := by rw [HSU.out _ HSu.out]; exact h0
    gi_loopw [23] (fun i wr => ∃ j : Nat, j ≤ np ∧ i = .int .i64 j ∧ J (superAts (supB kd) b k ++ (partAts op np).take j) wr) (fun i _ => np - (intOf i).toNat)
    case atStart => exact ⟨0, Nat.zero_le _, rfl, by simpa using hA⟩
    case round =>
      obtain ⟨j, hj, rfl, hJ⟩ := hrel
      obtain ⟨d0, d1, d2, d3⟩ := hRd _ _ hJ
      by_cases hlt : j < np
      · obtain ⟨ab, aoff, rfl⟩ := hop (by omega)
        have hs := partAts_succ ab aoff np j hlt
        obtain ⟨fn2, tmps2, assign2, body2, hy2, hR2⟩ := hY _ ⟨ab, aoff + j * 2 + 1, none⟩ wr (by
          rw [List.append_assoc, ← hs]
          unfold placesL
          exact pre_of ((List.take_prefix _ _).trans (List.prefix_append _ _))) hJ
        have hlt' : (j : Int) < np := by omega
        have HE := Lib.hid hs
        clear hs HS hRs hSg hY hRd
        gi_wp2
        refine hR2.mono ?_
        rintro e W3 ⟨rfl, hJ3⟩
        gi_wp2
        go_roundw
        case rel => exact ⟨j + 1, by omega, by go_num, by rw [HE.out, ← List.append_assoc]; exact hJ3⟩
        case measure => simp [intOf]; omega
      · obtain rfl : j = np := by omega
        rw [partAts_all] at hJ
        gi_wp2
        gi_loopw [42] (fun i wr => ∃ m : Nat, m ≤ S.length ∧ i = .int .i64 m ∧ J (superAts (supB kd) b k ++ (partAts op j ++ methAts om S m)) wr) (fun i _ => S.length - (intOf i).toNat)
        case atStart => exact ⟨0, Nat.zero_le _, rfl, by simpa [methAts] using hJ⟩
        case round =>
          obtain ⟨m, hm, rfl, hJ2⟩ := hrel
          obtain ⟨d0, d1, d2, d3⟩ := hRd _ _ hJ2
          by_cases hltm : m < S.length
          · obtain ⟨mb, moff, rfl⟩ := hom (by omega)
            obtain ⟨hn1, ho1⟩ := hS _ (List.getElem_mem hltm)
            have hs := methAts_succ mb moff S m hltm
            have hC := yieldSig_in l mb (moff + m * 5 + 1) S[m].o S[m].n S[m].cap S[m].res hn1 ho1 J _ (fun j' W' hj' hJ' => ⟨hSg m hltm _ W' hJ' mb moff rfl, hRs m hltm j' W' hj' hJ' mb moff rfl⟩) (fun p x W' hp hJ' => hY p x W' (hp.trans (by
              unfold placesL
              rw [List.append_assoc, List.append_assoc, ← hs]
              exact pre_of (pre_of (methAts_pre _ _ hltm)))) hJ') wr hJ2
            have HC := hide (callsIn_wide.1 hC)
            have hlt' : (m : Int) < S.length := by omega
            have HE := Lib.hid (show superAts (supB kd) b k ++ (partAts op j ++ methAts (some ⟨mb, moff, none⟩) S (m + 1)) = (superAts (supB kd) b k ++ (partAts op j ++ methAts (some ⟨mb, moff, none⟩) S m)) ++ sigAts S[m].o S[m].n mb (moff + m * 5 + 1) S[m].res by rw [hs]; simp [List.append_assoc])
            clear hs hC HS hRs hSg hY hRd hn1 ho1
            gi_wp2_with (first | (refine ⟨trivial, ?_⟩; gi_at_call 169; refine (callsIn_wide.2 (unhide HC)).mono ?_; rintro e w2 ⟨rfl, hJ3⟩))
            go_roundw
            case rel => exact ⟨m + 1, by omega, by go_num, by rw [HE.out]; exact hJ3⟩
            case measure => simp [intOf]; omega
          · obtain rfl : m = S.length := by omega
            gi_wp2
            go_end0
            exact ⟨⟨_, rfl⟩, by rw [HSu.out] at hJ2; exact hJ2⟩
  · obtain ⟨fn, tmps, assign, body, hy, hR⟩ := hY0 rfl
    clear hY0
    gi_wp2_with (first | (refine ⟨trivial, ?_⟩; gi_at_call 94; refine (callsIn_wide.2 (unhide HS _)).mono ?_; rintro e w2 ⟨rfl, rfl⟩))
    refine hR.mono ?_
    rintro e W3 ⟨rfl, hJ3⟩
    obtain ⟨c0, c1, c2, c3⟩ := hRd _ _ hJ3
    gi_wp2
    have hA : J (superAts (supB kd) b k) W3 := by rw [HSU.out _ HSu.out]; exact hJ3
    gi_loopw [23] (fun i wr => ∃ j : Nat, j ≤ np ∧ i = .int .i64 j ∧ J (superAts (supB kd) b k ++ (partAts op np).take j) wr) (fun i _ => np - (intOf i).toNat)
    case atStart => exact ⟨0, Nat.zero_le _, rfl, by simpa using hA⟩
    case round =>
      obtain ⟨j, hj, rfl, hJ⟩ := hrel
      obtain ⟨d0, d1, d2, d3⟩ := hRd _ _ hJ
      by_cases hlt : j < np
      · obtain ⟨ab, aoff, rfl⟩ := hop (by omega)
        have hs := partAts_succ ab aoff np j hlt
        obtain ⟨fn2, tmps2, assign2, body2, hy2, hR2⟩ := hY _ ⟨ab, aoff + j * 2 + 1, none⟩ wr (by
          rw [List.append_assoc, ← hs]
          unfold placesL
          exact pre_of ((List.take_prefix _ _).trans (List.prefix_append _ _))) hJ
        have hlt' : (j : Int) < np := by omega
        have HE := Lib.hid hs
        clear hs HS hRs hSg hY hRd
        gi_wp2
        refine hR2.mono ?_
        rintro e W4 ⟨rfl, hJ5⟩
        gi_wp2
        go_roundw
        case rel => exact ⟨j + 1, by omega, by go_num, by rw [HE.out, ← List.append_assoc]; exact hJ5⟩
        case measure => simp [intOf]; omega
      · obtain rfl : j = np := by omega
        rw [partAts_all] at hJ
        gi_wp2
        gi_loopw [42] (fun i wr => ∃ m : Nat, m ≤ S.length ∧ i = .int .i64 m ∧ J (superAts (supB kd) b k ++ (partAts op j ++ methAts om S m)) wr) (fun i _ => S.length - (intOf i).toNat)
        case atStart => exact ⟨0, Nat.zero_le _, rfl, by simpa [methAts] using hJ⟩
        case round =>
          obtain ⟨m, hm, rfl, hJ2⟩ := hrel
          obtain ⟨d0, d1, d2, d3⟩ := hRd _ _ hJ2
          by_cases hltm : m < S.length
          · obtain ⟨mb, moff, rfl⟩ := hom (by omega)
            obtain ⟨hn1, ho1⟩ := hS _ (List.getElem_mem hltm)
            have hs := methAts_succ mb moff S m hltm
            have hC := yieldSig_in l mb (moff + m * 5 + 1) S[m].o S[m].n S[m].cap S[m].res hn1 ho1 J _ (fun j' W' hj' hJ' => ⟨hSg m hltm _ W' hJ' mb moff rfl, hRs m hltm j' W' hj' hJ' mb moff rfl⟩) (fun p x W' hp hJ' => hY p x W' (hp.trans (by
              unfold placesL
              rw [List.append_assoc, List.append_assoc, ← hs]
              exact pre_of (pre_of (methAts_pre _ _ hltm)))) hJ') wr hJ2
            have HC := hide (callsIn_wide.1 hC)
            have hlt' : (m : Int) < S.length := by omega
            have HE := Lib.hid (show superAts (supB kd) b k ++ (partAts op j ++ methAts (some ⟨mb, moff, none⟩) S (m + 1)) = (superAts (supB kd) b k ++ (partAts op j ++ methAts (some ⟨mb, moff, none⟩) S m)) ++ sigAts S[m].o S[m].n mb (moff + m * 5 + 1) S[m].res by rw [hs]; simp [List.append_assoc])
            clear hs hC HS hRs hSg hY hRd hn1 ho1
            gi_wp2_with (first | (refine ⟨trivial, ?_⟩; gi_at_call 169; refine (callsIn_wide.2 (unhide HC)).mono ?_; rintro e w2 ⟨rfl, hJ5⟩))
            go_roundw
            case rel => exact ⟨m + 1, by omega, by go_num, by rw [HE.out]; exact hJ5⟩
            case measure => simp [intOf]; omega
          · obtain rfl : m = S.length := by omega
            gi_wp2
            go_end0
            exact ⟨⟨_, rfl⟩, by rw [HSu.out] at hJ2; exact hJ2⟩
end Go.Proofs.YteaokkaidcbdlaaGreatDoor

namespace Go.Proofs.YteaokkaidcbdlaaGreatDoor
open Go Go.RowKit Go.Shelf
attribute [local go_sem] Oper.semAt_some
theorem wpIn_rangeGives {α : Type} {g : Operand} {ps : Array Tmp} {assign body : Code} {Q : Exit → Act → World → Prop} {a : Act} {w1 : World} {gf : Nat} {lb : Array Value} (encs : α → Array Value) (L : List α)
    (hg : a.eval g = .func (.func gf) #[] lb) (eg : ∀ args w, (callFunc gf args).run Tryz.prog w = .ok (.enter gf args) w) (hps : ∀ x, (encs x).size = ps.size)
    (I : List α → World → Prop) (h0 : I [] w1)
    (hIt : ∀ (l : Nat) (J : List α → World → Prop), (∀ p W, J p W → I p W) →
      (∀ p x W, p ++ [x] <+: L → J p W → YieldAt Fence.wide 0 Tryz.prog l (encs x) W fun e W' => e = .returned (.bool true) ∧ J (p ++ [x]) W') →
      ∀ W, J [] W → CallsIn Fence.wide 1 Tryz.prog gf (#[.func (.yield l) #[] #[]] ++ lb) W fun e W' => (∃ v, e = .returned v) ∧ J L W')
    (hIa : ∀ pre W o, I pre W → I pre (W.alloc o))
    (hIp : ∀ pre W l o o', I pre W → w1.heap.size ≤ l → W.heap[l]? = some o → o.isCells = false → I pre (W.putObj l o'))
    (a₁ : α → Act)
    (hassign : ∀ (l : Nat) (x : α) (W : World) (K : Act → World → Prop), K (a₁ x) W →
      assign.wpIn (Fence.wide.inRound l) 0 Tryz.prog (Exit.then K (fun _ _ _ => False)) { tmps := (ps.zip (encs x)).foldl (fun t (p, v) => t.setIfInBounds p v) a.tmps, defers := [] } W)
    (hbody : ∀ (l : Nat) (pre : List α) (x : α) (W : World), pre ++ [x] <+: L → I pre W →
      body.wpIn (Fence.wide.inRound l) 0 Tryz.prog (fun e _ W3 => e = .normal ∧ KeepsFrom w1.heap.size W W3 ∧ I (pre ++ [x]) W3) (a₁ x) W)
    (hdone : ∀ (W : World), I L W → W.heap[w1.heap.size]? = some (.deferred (some [])) → Q .normal { a with defers := { target := .collected w1.heap.size, args := #[] } :: a.defers } W) :
    (Code.rangeFunc g ps assign body).wpIn Fence.wide 2 Tryz.prog Q a w1 := by
  refine wpIn_rangeFunc ?_
  intro fn hfn
  obtain ⟨rec, hrec⟩ : ∃ rec : LoopState → Option Code → Loop, rec = fun st pe => { state := st, pending := pe, fn, tmps := a.tmps, params := ps, assign, body, defers := w1.heap.size } := ⟨_, rfl⟩
  obtain ⟨W1, hW1⟩ : ∃ W1, (w1.alloc (.deferred (some []))).alloc (.loop (rec .ready none)) = W1 := ⟨_, rfl⟩
  have hL1 : W1.heap[w1.heap.size + 1]? = some (.loop (rec .ready none)) := by
    rw [← hW1]; have := World.alloc_heap_new (w1.alloc (.deferred (some []))) (.loop (rec .ready none)); rwa [World.size_alloc] at this
  have hK1 : W1.heap[w1.heap.size]? = some (.deferred (some [])) := by
    rw [← hW1]; exact (Below.heap_alloc _ _ _ (by simp)).trans (World.alloc_heap_new w1 _)
  have hI1 : I [] W1 := by rw [← hW1]; exact hIa _ _ _ (hIa _ _ _ h0)
  refine ⟨w1.heap.size + 1, [{ target := .collected w1.heap.size, args := #[] }], W1, { target := .fn (.func gf) lb, args := #[.func (.yield (w1.heap.size + 1)) #[] #[]] }, W1, gf,
    #[.func (.yield (w1.heap.size + 1)) #[] #[]] ++ lb, W1, ?_, ?_, ?_, ?_, (fun h => by cases h), ?_⟩
  · rw [← hW1, hrec]; exact run_enterLoop_outer _ _ _ _ _
  · simp only [resolve, hg]
    simp [go_sem]
  · intro _ _; trivial
  · simp [invoke, go_sem, eg]
  · refine (hIt (w1.heap.size + 1) (fun pre W => I pre W ∧ W.heap[w1.heap.size + 1]? = some (.loop (rec .ready none)) ∧ W.heap[w1.heap.size]? = some (.deferred (some []))) (fun _ _ h => h.1) ?_ W1 ⟨hI1, hL1, hK1⟩).mono ?_
    ·
      rintro pre x W hpx ⟨hi, hl, hk⟩
      have hlt : w1.heap.size + 1 < W.heap.size := (Array.getElem?_eq_some_iff.1 hl).1
      have hy := run_yield (P := Tryz.prog) (args := encs x) hl (by rw [hrec]; exact hps x)
      rw [hrec] at hy
      refine ⟨fn, _, assign, body, hy, roundIn_of_wpIn hfn (hassign _ x W _ ?_)⟩
      clear hy
      refine ⟨_, run_beginRound hl (by rw [hrec]), ?_⟩
      have hl2 : (W.putObj (w1.heap.size + 1) (.loop { rec .ready none with state := .busy })).heap[w1.heap.size + 1]? = some (.loop { rec .ready none with state := .busy }) := World.putObj_heap_same hlt
      have hk2 : (W.putObj (w1.heap.size + 1) (.loop { rec .ready none with state := .busy })).heap[w1.heap.size]? = some (.deferred (some [])) := (World.putObj_heap_other (by omega)).trans hk
      refine wpIn_mono (hbody _ pre x _ hpx (hIp _ _ _ _ _ hi (by omega) hl rfl)) ?_
      rintro e a3 W3 ⟨rfl, hk3, hi3⟩
      have hl3 := hk3.same _ _ (by omega) hl2 rfl
      have hr := run_endRound (P := Tryz.prog) none hl3
      rw [hrec] at hr
      have hl3' := hl3
      rw [hrec] at hl3'
      refine ⟨_, _, hr, rfl, hIp _ _ _ _ _ hi3 (by omega) hl3' rfl, ?_, ?_⟩
      · rw [hrec]; exact World.putObj_heap_same (Array.getElem?_eq_some_iff.1 hl3).1
      · exact (World.putObj_heap_other (by omega)).trans (hk3.same _ _ (Nat.le_refl _) hk2 rfl)
    ·
      rintro e W2 ⟨⟨v, rfl⟩, hi, hl, hk⟩
      exact ⟨none, _, by have := run_endLoop (P := Tryz.prog) hl (by rw [hrec]; simp); rw [hrec] at this; exact this, hdone _ (hIp _ _ _ _ _ hi (by omega) hl rfl) ((World.putObj_heap_other (by omega)).trans hk)⟩
end Go.Proofs.YteaokkaidcbdlaaGreatDoor

