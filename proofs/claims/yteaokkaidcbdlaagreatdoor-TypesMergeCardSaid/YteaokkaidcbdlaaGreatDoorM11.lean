/- Part 11 of 53: the texts Ys, Pl, one behind the other. -/
import Derived.Test.YteaokkaidcbdlaaGreatDoorM7
namespace Go.Proofs.YteaokkaidcbdlaaGreatDoor
open Go Go.RowKit Go.Shelf
attribute [local go_sem] Oper.semAt_some
def argAts (o : Option Addr) (n : Nat) : List Addr := (List.range n).map fun i => match o with | some a => ⟨a.block, a.off + i, none⟩ | none => ⟨0, i, none⟩
def sigAts (o : Option Addr) (n b k : Nat) (res : Int) : List Addr := argAts o n ++ if res = -1 then [] else [⟨b, k + 1, none⟩]
theorem argAts_succ (b off : Nat) (n k : Nat) (h : k < n) : (argAts (some ⟨b, off, none⟩) n).take (k + 1) = (argAts (some ⟨b, off, none⟩) n).take k ++ [⟨b, off + k, none⟩] := by
 have hl : k < (argAts (some ⟨b, off, none⟩) n).length := by simp [argAts]; exact h
 rw [List.take_succ_eq_append_getElem hl]
 simp [argAts]
theorem argAts_all (o : Option Addr) (n : Nat) : (argAts o n).take n = argAts o n := List.take_of_length_le (by simp [argAts])
set_option maxRecDepth 100000 in
set_option maxHeartbeats 4000000 in
theorem yieldSig_in (l b k : Nat) (o : Option Addr) (n cap : Nat) (res : Int) (hn : n ≤ 9223372036854775807) (ho : 0 < n → ∃ ab aoff, o = some ⟨ab, aoff, none⟩) (J : List Addr → World → Prop) (pre : List Addr)
    (hRd : ∀ j W, j ≤ n → J (pre ++ (argAts o n).take j) W → W.cell? ⟨b, k, none⟩ = some (.slice o n cap) ∧ W.cell? ⟨b, k + 1, none⟩ = some (.int .i64 res))
    (hY : ∀ p x W, p ++ [x] <+: pre ++ sigAts o n b k res → J p W → YieldAt Fence.wide 0 Tryz.prog l #[.pointer (some x)] W fun e W' => e = .returned (.bool true) ∧ J (p ++ [x]) W')
    (W : World) (h0 : J pre W) :
    CallsIn Fence.wide 1 Tryz.prog 169 #[.pointer (some ⟨b, k, none⟩), .func (.yield l) #[] #[]] W fun e W' => e = .returned (.bool true) ∧ J (pre ++ sigAts o n b k res) W' := by
  refine callsIn_of_wp Tryz.func169 rfl trivial ?_ rfl
  simp only [Tryz.ntmps169, List.size_toArray, List.length_cons, List.length_nil, Nat.reduceAdd, Nat.reduceSub, Array.replicate_succ, Array.replicate_zero, List.push_toArray, List.append_toArray, List.nil_append, List.cons_append]
  have hh := hRd 0 W (Nat.zero_le _) (by simpa using h0)
  obtain ⟨c0, -⟩ := hh
  gi_wp2
  gi_loopw [11] (fun i wr => ∃ j : Nat, j ≤ n ∧ i = .int .i64 j ∧ J (pre ++ (argAts o n).take j) wr) (fun i _ => n - (intOf i).toNat)
  case atStart => exact ⟨0, Nat.zero_le _, rfl, by simpa using h0⟩
  case round =>
   obtain ⟨j, hj, rfl, hJ⟩ := hrel
   obtain ⟨d0, d1⟩ := hRd j wr hj hJ
   by_cases hlt : j < n
   ·obtain ⟨ab, aoff, rfl⟩ := ho (by omega)
    have hs := argAts_succ ab aoff n j hlt
    obtain ⟨fn, tmps, assign, body, hy, hR⟩ := hY _ ⟨ab, aoff + j, none⟩ wr (by
     rw [List.append_assoc, ← hs]
     unfold sigAts
     exact (List.prefix_append_right_inj _).2 ((List.take_prefix _ _).trans (List.prefix_append _ _))) hJ
    have hlt' : (j : Int) < n := by omega
    gi_wp2
    refine hR.mono ?_
    rintro e W3 ⟨rfl, hJ3⟩
    gi_wp2
    go_roundw
    case rel => exact ⟨j + 1, by omega, by go_num, by rw [hs, ← List.append_assoc]; exact hJ3⟩
    case measure => simp [intOf]; omega
   ·obtain rfl : j = n := by omega
    rw [argAts_all] at hJ
    by_cases hres : res = -1
    ·have hres' : (res == -1) = true := by simp [hres]
     have hE : pre ++ sigAts o j b k res = pre ++ argAts o j := by unfold sigAts; rw [if_pos hres, List.append_nil]
     have HE := Lib.hid hE
     clear hE hY hRd ho h0 c0
     gi_wp2
     refine ⟨fun _ h => (by cases h), ?_⟩
     gi_wp2
     go_ret
     exact ⟨rfl, by rw [HE.out]; exact hJ⟩
    ·have hres' : (res == -1) = false := by simp [hres]
     obtain ⟨fn, tmps, assign, body, hy, hR⟩ := hY _ ⟨b, k + 1, none⟩ wr (by unfold sigAts; rw [if_neg hres, List.append_assoc]; exact List.prefix_refl _) hJ
     gi_wp2
     refine hR.mono ?_
     rintro e W3 ⟨rfl, hJ3⟩
     gi_wp2
     first | go_ret | (refine bodyPost_ret (v := .bool true) (results_tmp (i := 4) rfl _ _ rfl) rfl ?_) | (apply bodyPost_ret (results_tmp rfl _ _ rfl) rfl)
     exact ⟨rfl, by unfold sigAts; rw [if_neg hres, ← List.append_assoc]; exact hJ3⟩
end Go.Proofs.YteaokkaidcbdlaaGreatDoor

namespace Go.Proofs.YteaokkaidcbdlaaGreatDoor
open Go Go.RowKit Go.Shelf
attribute [local go_sem] Oper.semAt_some
structure SigD where
 o : Option Addr
 n : Nat
 cap : Nat
 res : Int
def partAts (o : Option Addr) (n : Nat) : List Addr := (List.range n).map fun i => match o with | some a => ⟨a.block, a.off + i * 2 + 1, none⟩ | none => ⟨0, i, none⟩
theorem partAts_succ (b off : Nat) (n k : Nat) (h : k < n) : (partAts (some ⟨b, off, none⟩) n).take (k + 1) = (partAts (some ⟨b, off, none⟩) n).take k ++ [⟨b, off + k * 2 + 1, none⟩] := by
 have hl : k < (partAts (some ⟨b, off, none⟩) n).length := by simp [partAts]; exact h
 rw [List.take_succ_eq_append_getElem hl]
 simp [partAts]
theorem partAts_all (o : Option Addr) (n : Nat) : (partAts o n).take n = partAts o n := List.take_of_length_le (by simp [partAts])
def methAts (om : Option Addr) (S : List SigD) (m : Nat) : List Addr := (S.take m).zipIdx.flatMap fun x => match om with | some a => sigAts x.1.o x.1.n a.block (a.off + x.2 * 5 + 1) x.1.res | none => []
theorem methAts_succ (b off : Nat) (S : List SigD) (m : Nat) (h : m < S.length) : methAts (some ⟨b, off, none⟩) S (m + 1) = methAts (some ⟨b, off, none⟩) S m ++ sigAts S[m].o S[m].n b (off + m * 5 + 1) S[m].res := by
 unfold methAts
 rw [List.take_succ_eq_append_getElem h, List.zipIdx_append, List.flatMap_append]
 simp [Nat.min_eq_left (Nat.le_of_lt h)]
def superAts (sup : Bool) (b k : Nat) : List Addr := if sup then [⟨b, k + 6, none⟩] else []
def placesL (sup : Bool) (b k : Nat) (op : Option Addr) (np : Nat) (om : Option Addr) (S : List SigD) : List Addr := superAts sup b k ++ (partAts op np ++ methAts om S S.length)
theorem methAts_pre (om : Option Addr) (S : List SigD) {m n : Nat} (h : m ≤ n) : methAts om S m <+: methAts om S n := by
 unfold methAts
 have : S.take m <+: S.take n := by
  rw [List.prefix_take_iff]
  exact ⟨List.take_prefix _ _, by simp; omega⟩
 obtain ⟨r, hr⟩ := this
 rw [← hr, List.zipIdx_append, List.flatMap_append]
 exact List.prefix_append _ _
theorem pre_of {α : Type} {a b c : List α} (h : b <+: c) : a ++ b <+: a ++ c := (List.prefix_append_right_inj _).2 h
set_option maxRecDepth 100000 in
set_option maxHeartbeats 8000000 in
theorem places_in (l cb b k kd : Nat) (op : Option Addr) (np cp : Nat) (om : Option Addr) (cm : Nat) (S : List SigD) (hnp : np ≤ 9223372036854775807) (hns : S.length ≤ 9223372036854775807)
    (hS : ∀ s ∈ S, s.n ≤ 9223372036854775807 ∧ (0 < s.n → ∃ ab aoff, s.o = some ⟨ab, aoff, none⟩)) (hop : 0 < np → ∃ ab aoff, op = some ⟨ab, aoff, none⟩) (hom : 0 < S.length → ∃ ab aoff, om = some ⟨ab, aoff, none⟩)
    (J : List Addr → World → Prop)
    (hRd : ∀ p W, J p W → W.cell? ⟨cb, 0, none⟩ = some (.pointer (some ⟨b, k, none⟩)) ∧ W.cell? ⟨b, k, none⟩ = some (.int .u8 kd) ∧ W.cell? ⟨b, k + 7, none⟩ = some (.slice op np cp) ∧ W.cell? ⟨b, k + 8, none⟩ = some (.slice om S.length cm))
    (hSg : ∀ m (h : m < S.length) p W, J p W → ∀ mb moff, om = some ⟨mb, moff, none⟩ → W.cell? ⟨mb, moff + m * 5 + 1, none⟩ = some (.slice S[m].o S[m].n S[m].cap))
    (hRs : ∀ m (h : m < S.length) j W, j ≤ S[m].n → J ((superAts (supB kd) b k ++ (partAts op np ++ methAts om S m)) ++ (argAts S[m].o S[m].n).take j) W → ∀ mb moff, om = some ⟨mb, moff, none⟩ → W.cell? ⟨mb, moff + m * 5 + 1 + 1, none⟩ = some (.int .i64 S[m].res))
    (hY : ∀ p x W, p ++ [x] <+: placesL (supB kd) b k op np om S → J p W → YieldAt Fence.wide 0 Tryz.prog l #[.pointer (some x)] W fun e W' => e = .returned (.bool true) ∧ J (p ++ [x]) W')
    (W : World) (h0 : J [] W) :
    CallsIn Fence.wide 1 Tryz.prog 168 #[.func (.yield l) #[] #[], .pointer (some ⟨cb, 0, none⟩)] W fun e W' => (∃ v, e = .returned v) ∧ J (placesL (supB kd) b k op np om S) W' := by
  refine callsIn_of_wp Tryz.func168 rfl trivial ?_ rfl
  simp only [Tryz.ntmps168, List.size_toArray, List.length_cons, List.length_nil, Nat.reduceAdd, Nat.reduceSub, Array.replicate_succ, Array.replicate_zero, List.push_toArray, List.append_toArray, List.nil_append, List.cons_append]
  obtain ⟨c0, c1, c2, c3⟩ := hRd _ _ h0
  have HS := hide (hasSuper_any kd)
  have hY0 : supB kd = true → YieldAt Fence.wide 0 Tryz.prog l #[.pointer (some ⟨b, k + 6, none⟩)] W fun e W' => e = .returned (.bool true) ∧ J [⟨b, k + 6, none⟩] W' := fun h => by
   have := hY [] ⟨b, k + 6, none⟩ W (by unfold placesL superAts; rw [h]; exact List.prefix_append _ _) h0
   exact this
  have HSU := Lib.hid (show ∀ x, supB kd = x → superAts (supB kd) b k = if x then [⟨b, k + 6, none⟩] else [] from fun x h => by unfold superAts; rw [h])
  generalize hsu : supB kd = su at HS hY0
  have HSu := Lib.hid hsu
  clear hsu
  cases su
  ·clear hY0
   gi_wp2_with (first | (refine ⟨trivial, ?_⟩; gi_at_call 94; refine (callsIn_wide.2 (unhide HS _)).mono ?_; rintro e w2 ⟨rfl, rfl⟩))
   refine ⟨fun _ h => (by cases h), ?_⟩
   gi_wp2
   have hA : J (superAts (supB kd) b k) W := by rw [HSU.out _ HSu.out]; exact h0
   gi_loopw [23] (fun i wr => ∃ j : Nat, j ≤ np ∧ i = .int .i64 j ∧ J (superAts (supB kd) b k ++ (partAts op np).take j) wr) (fun i _ => np - (intOf i).toNat)
   case atStart => exact ⟨0, Nat.zero_le _, rfl, by simpa using hA⟩
   case round =>
    obtain ⟨j, hj, rfl, hJ⟩ := hrel
    obtain ⟨d0, d1, d2, d3⟩ := hRd _ _ hJ
    by_cases hlt : j < np
    ·obtain ⟨ab, aoff, rfl⟩ := hop (by omega)
     have hs := partAts_succ ab aoff np j hlt
     obtain ⟨fn2, tmps2, assign2, body2, hy2, hR2⟩ := hY _ ⟨ab, aoff + j * 2 + 1, none⟩ wr (by
      rw [List.append_assoc, ← hs]
      unfold placesL
      exact pre_of ((List.take_prefix _ _).trans (List.prefix_append _ _))) hJ
     have hlt' : (j : Int) < np := by omega
     have HE := Lib.hid hs
     clear hs HS hRs hSg hY hRd
     gi_wp2
     refine hR2.mono ?_
     rintro e W3 ⟨rfl, hJ3⟩
     gi_wp2
     go_roundw
     case rel => exact ⟨j + 1, by omega, by go_num, by rw [HE.out, ← List.append_assoc]; exact hJ3⟩
     case measure => simp [intOf]; omega
    ·obtain rfl : j = np := by omega
     rw [partAts_all] at hJ
     gi_wp2
     gi_loopw [42] (fun i wr => ∃ m : Nat, m ≤ S.length ∧ i = .int .i64 m ∧ J (superAts (supB kd) b k ++ (partAts op j ++ methAts om S m)) wr) (fun i _ => S.length - (intOf i).toNat)
     case atStart => exact ⟨0, Nat.zero_le _, rfl, by simpa [methAts] using hJ⟩
     case round =>
      obtain ⟨m, hm, rfl, hJ2⟩ := hrel
      obtain ⟨d0, d1, d2, d3⟩ := hRd _ _ hJ2
      by_cases hltm : m < S.length
      ·obtain ⟨mb, moff, rfl⟩ := hom (by omega)
       obtain ⟨hn1, ho1⟩ := hS _ (List.getElem_mem hltm)
       have hs := methAts_succ mb moff S m hltm
       have hC := yieldSig_in l mb (moff + m * 5 + 1) S[m].o S[m].n S[m].cap S[m].res hn1 ho1 J _ (fun j' W' hj' hJ' => ⟨hSg m hltm _ W' hJ' mb moff rfl, hRs m hltm j' W' hj' hJ' mb moff rfl⟩) (fun p x W' hp hJ' => hY p x W' (hp.trans (by
        unfold placesL
        rw [List.append_assoc, List.append_assoc, ← hs]
        exact pre_of (pre_of (methAts_pre _ _ hltm)))) hJ') wr hJ2
       have HC := hide (callsIn_wide.1 hC)
       have hlt' : (m : Int) < S.length := by omega
       have HE := Lib.hid (show superAts (supB kd) b k ++ (partAts op j ++ methAts (some ⟨mb, moff, none⟩) S (m + 1)) = (superAts (supB kd) b k ++ (partAts op j ++ methAts (some ⟨mb, moff, none⟩) S m)) ++ sigAts S[m].o S[m].n mb (moff + m * 5 + 1) S[m].res by rw [hs]; simp [List.append_assoc])
       clear hs hC HS hRs hSg hY hRd hn1 ho1
       gi_wp2_with (first | (refine ⟨trivial, ?_⟩; gi_at_call 169; refine (callsIn_wide.2 (unhide HC)).mono ?_; rintro e w2 ⟨rfl, hJ3⟩))
       go_roundw
       case rel => exact ⟨m + 1, by omega, by go_num, by rw [HE.out]; exact hJ3⟩
       case measure => simp [intOf]; omega
      ·obtain rfl : m = S.length := by omega
       gi_wp2
       go_end0
       exact ⟨⟨_, rfl⟩, by rw [HSu.out] at hJ2; exact hJ2⟩
  ·obtain ⟨fn, tmps, assign, body, hy, hR⟩ := hY0 rfl
   clear hY0
   gi_wp2_with (first | (refine ⟨trivial, ?_⟩; gi_at_call 94; refine (callsIn_wide.2 (unhide HS _)).mono ?_; rintro e w2 ⟨rfl, rfl⟩))
   refine hR.mono ?_
   rintro e W3 ⟨rfl, hJ3⟩
   obtain ⟨c0, c1, c2, c3⟩ := hRd _ _ hJ3
   gi_wp2
   have hA : J (superAts (supB kd) b k) W3 := by rw [HSU.out _ HSu.out]; exact hJ3
   gi_loopw [23] (fun i wr => ∃ j : Nat, j ≤ np ∧ i = .int .i64 j ∧ J (superAts (supB kd) b k ++ (partAts op np).take j) wr) (fun i _ => np - (intOf i).toNat)
   case atStart => exact ⟨0, Nat.zero_le _, rfl, by simpa using hA⟩
   case round =>
    obtain ⟨j, hj, rfl, hJ⟩ := hrel
    obtain ⟨d0, d1, d2, d3⟩ := hRd _ _ hJ
    by_cases hlt : j < np
    ·obtain ⟨ab, aoff, rfl⟩ := hop (by omega)
     have hs := partAts_succ ab aoff np j hlt
     obtain ⟨fn2, tmps2, assign2, body2, hy2, hR2⟩ := hY _ ⟨ab, aoff + j * 2 + 1, none⟩ wr (by
      rw [List.append_assoc, ← hs]
      unfold placesL
      exact pre_of ((List.take_prefix _ _).trans (List.prefix_append _ _))) hJ
     have hlt' : (j : Int) < np := by omega
     have HE := Lib.hid hs
     clear hs HS hRs hSg hY hRd
     gi_wp2
     refine hR2.mono ?_
     rintro e W4 ⟨rfl, hJ5⟩
     gi_wp2
     go_roundw
     case rel => exact ⟨j + 1, by omega, by go_num, by rw [HE.out, ← List.append_assoc]; exact hJ5⟩
     case measure => simp [intOf]; omega
    ·obtain rfl : j = np := by omega
     rw [partAts_all] at hJ
     gi_wp2
     gi_loopw [42] (fun i wr => ∃ m : Nat, m ≤ S.length ∧ i = .int .i64 m ∧ J (superAts (supB kd) b k ++ (partAts op j ++ methAts om S m)) wr) (fun i _ => S.length - (intOf i).toNat)
     case atStart => exact ⟨0, Nat.zero_le _, rfl, by simpa [methAts] using hJ⟩
     case round =>
      obtain ⟨m, hm, rfl, hJ2⟩ := hrel
      obtain ⟨d0, d1, d2, d3⟩ := hRd _ _ hJ2
      by_cases hltm : m < S.length
      ·obtain ⟨mb, moff, rfl⟩ := hom (by omega)
       obtain ⟨hn1, ho1⟩ := hS _ (List.getElem_mem hltm)
       have hs := methAts_succ mb moff S m hltm
       have hC := yieldSig_in l mb (moff + m * 5 + 1) S[m].o S[m].n S[m].cap S[m].res hn1 ho1 J _ (fun j' W' hj' hJ' => ⟨hSg m hltm _ W' hJ' mb moff rfl, hRs m hltm j' W' hj' hJ' mb moff rfl⟩) (fun p x W' hp hJ' => hY p x W' (hp.trans (by
        unfold placesL
        rw [List.append_assoc, List.append_assoc, ← hs]
        exact pre_of (pre_of (methAts_pre _ _ hltm)))) hJ') wr hJ2
       have HC := hide (callsIn_wide.1 hC)
       have hlt' : (m : Int) < S.length := by omega
       have HE := Lib.hid (show superAts (supB kd) b k ++ (partAts op j ++ methAts (some ⟨mb, moff, none⟩) S (m + 1)) = (superAts (supB kd) b k ++ (partAts op j ++ methAts (some ⟨mb, moff, none⟩) S m)) ++ sigAts S[m].o S[m].n mb (moff + m * 5 + 1) S[m].res by rw [hs]; simp [List.append_assoc])
       clear hs hC HS hRs hSg hY hRd hn1 ho1
       gi_wp2_with (first | (refine ⟨trivial, ?_⟩; gi_at_call 169; refine (callsIn_wide.2 (unhide HC)).mono ?_; rintro e w2 ⟨rfl, hJ5⟩))
       go_roundw
       case rel => exact ⟨m + 1, by omega, by go_num, by rw [HE.out]; exact hJ5⟩
       case measure => simp [intOf]; omega
      ·obtain rfl : m = S.length := by omega
       gi_wp2
       go_end0
       exact ⟨⟨_, rfl⟩, by rw [HSu.out] at hJ2; exact hJ2⟩
end Go.Proofs.YteaokkaidcbdlaaGreatDoor

