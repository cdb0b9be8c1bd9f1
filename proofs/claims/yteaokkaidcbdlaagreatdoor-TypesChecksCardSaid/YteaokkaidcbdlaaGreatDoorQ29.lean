/- Part 29 of 51: the texts Td, Cn, one behind the other. -/
import Derived.Test.YteaokkaidcbdlaaGreatDoorQ28
import Derived.Tactics
import Derived.Tactics2
import Derived.WalkKit
import Derived.LoopTactic
import Derived.Outline
import Derived.Lib.Hide
import Derived.Handy
import Derived.KernelRfl
import Derived.Deep.LoopGhost
import Derived.CallsIn
import Derived.Deep.QuietTactic
import Derived.BigQuiet
import Derived.Deep.Draws
import Derived.WalkSpells
import Derived.Lib.Walk
import Derived.Lib.Strings
import Derived.Maps.OwnOps
import Derived.Maps.OwnSet
import Derived.Deep.RegionWith
import Derived.StillTailTactics
import Derived.WalkMore
import Derived.RangeFuncNested
import Derived.RangeFuncBound
import Derived.RangeFuncCalls
import Derived.RangeFuncLeaves
import Derived.RangeFuncBox
import Derived.Shelf.Abstract
import Derived.OwnWalkIn
import Derived.TacticsInMore
import Derived.LoopNIn
import Derived.LoopIn
import Derived.RecoverIn
import Derived.Maps.AppendAt
import Derived.RegionTactic
import Derived.ChangeAlike
import Derived.OwnWalk
import Derived.Deep.AppendLies
import Derived.Deep.DeepCutAuto
import Derived.Deep.RegionLaw
import Derived.Deep.RegionHeld3
import Derived.Laws.EntriesVeiled
import Derived.Laws.Cover3
/- Apart (27), CheckApart (29) -/
namespace Go.Proofs.YteaokkaidcbdlaaGreatDoor
open Go Go.RowKit Go.Shelf
/-! ### Apart (27), CheckApart (29) -/
def clF (G : List TyD) (q : Nat) : Nat := (classesL G).getD q 0
def apartL (G : List TyD) (i j : Int) : List Int × Bool × Int :=
  if checkedR G [i, j] ≠ 0 then ([], false, checkedR G [i, j]) else if clF G i.toNat = clF G j.toNat then ([], false, 0) else (tellL G (clF G) (i.toNat, j.toNat), true, 0)
def ckApartL (G : List TyD) (i j : Int) (way : List Int) : Bool × Int :=
  if checkedR G [i, j] ≠ 0 then (false, checkedR G [i, j]) else (tellsL G (i.toNat, j.toNat) way, 0)
theorem checked_fit {G : List TyD} (hz : GrZ G) {l : List Int} (h : checkedR G l = 0) : Fit G := check_fit hz (by
  unfold checkedR at h
  split at h
  · rename_i hne; exact absurd h hne
  · rename_i hne; simpa using hne)
theorem checked_ij {G : List TyD} {i j : Int} (h0 : checkedR G [i, j] = 0) : ∃ a b : Nat, i = a ∧ j = b ∧ a < G.length ∧ b < G.length := by
  have hij : idxB G.length i = true ∧ idxB G.length j = true := by
    unfold checkedR at h0
    split at h0
    · contradiction
    · split at h0
      · rename_i hh; simpa using hh
      · contradiction
  have hi : 0 ≤ i ∧ i < G.length := by have := hij.1; unfold idxB at this; simp at this; omega
  have hj : 0 ≤ j ∧ j < G.length := by have := hij.2; unfold idxB at this; simp at this; omega
  obtain ⟨a, rfl⟩ := Int.eq_ofNat_of_zero_le hi.1
  obtain ⟨b, rfl⟩ := Int.eq_ofNat_of_zero_le hj.1
  exact ⟨a, b, rfl, rfl, by omega, by omega⟩
/-- checked of two numbers in a row of the call's own. -/
theorem checked_two (gv : Value) (G : List TyD) (i j : Int) (W : World) (hG0 : GrAt W gv G) (hz : GrZ G) :
    Calls Tryz.prog 57 #[gv, .slice (some ⟨W.heap.size, 0, none⟩) 2 2] (W.alloc (.cells #[.int .i64 i, .int .i64 j] 3)) fun e w' => e = .returned (.int .i64 (checkedR G [i, j])) ∧ Below (W.alloc (.cells #[.int .i64 i, .int .i64 j] 3)).heap.size (W.alloc (.cells #[.int .i64 i, .int .i64 j] 3)) w' := by
  have bA := Blk.new W [.int .i64 i, .int .i64 j] 3
  have hbA := (Below.refl W.heap.size W).alloc (Nat.le_refl _) (.cells #[.int .i64 i, .int .i64 j] 3)
  change Blk (W.alloc (.cells #[.int .i64 i, .int .i64 j] 3)) _ _ _ at bA
  have hL : SliceOf 1 (IntAt (W.alloc (.cells #[.int .i64 i, .int .i64 j] 3))) (.slice (some ⟨W.heap.size, 0, none⟩) 2 2) [i, j] := by
    refine ⟨some ⟨W.heap.size, 0, none⟩, 2, rfl, Nat.le_refl _, by decide, fun q x hx => ⟨_, 0, rfl, ?_⟩⟩
    unfold IntAt
    match q with
    | 0 => simp at hx; subst hx; exact bA.cell 0
    | 1 => simp at hx; subst hx; exact bA.cell 1
    | q + 2 => simp at hx
  exact checked_any _ G _ (hG0.below hbA) hz _ [i, j] hL
theorem classes_cell {w3 : World} {base g c : Nat} {G : List TyD} (hr : w3.ownsRow base 3 1 (.slice (some ⟨g, 0, none⟩) G.length c) G.length (natsV (classesL G))) (q : Nat) (hq : q < G.length) : w3.cell? ⟨g, q, none⟩ = some (.int .i64 (clF G q)) := by
  have hq' : q < (classesL G).length := by rw [classesL_len]; exact hq
  rw [Row1.cells hr q hq]
  unfold natsV clF
  rw [List.getElem?_map, List.getElem?_eq_getElem hq', List.getD_eq_getElem?_getD, List.getElem?_eq_getElem hq']; rfl
set_option maxRecDepth 100000 in
set_option maxHeartbeats 8000000 in
theorem apart_all (gv : Value) (G : List TyD) (i j : Int) (W : World) (hG0 : GrAt W gv G) (hz : GrZ G) :
    Calls Tryz.prog 27 #[gv, .int .i64 i, .int .i64 j] W fun e w' => ∃ v, e = .returned (.tuple #[v, .bool (apartL G i j).2.1, .int .i64 (apartL G i j).2.2]) ∧ w'.ownsRow W.heap.size 3 1 v (apartL G i j).1.length ((apartL G i j).1.map (.int .i64)) ∧ Below W.heap.size W w' := by
  obtain ⟨o, cap, rfl⟩ := hG0.form
  have hbA := (Below.refl W.heap.size W).alloc (Nat.le_refl _) (.cells #[.int .i64 i, .int .i64 j] 3)
  have HC := hide (checked_two _ G i j W hG0 hz)
  by_cases h0 : checkedR G [i, j] = 0
  · obtain ⟨h1, h2, h3⟩ := checked_fit hz h0
    obtain ⟨a, b, rfl, rfl, ha, hb⟩ := checked_ij h0
    have HX := Lib.hid (show apartL G a b = if clF G a = clF G b then ([], false, 0) else (tellL G (clF G) (a, b), true, 0) by
      unfold apartL; rw [if_neg (by simp [h0])]; rfl)
    have HK := hide (fun (w1 : World) (h : Below W.heap.size W w1) => classes_any _ G w1 (hG0.below h) h1 h2 h3)
    have HTA := hide (fun (w1 : World) (h : Below W.heap.size W w1) (cg ccap : Nat) hcl => tellApart_any o cap G cg ccap (clF G) (a, b) w1 (hG0.below h) h1 h2 h3 hcl ha hb agB_refs)
    unfold prV pairV at HTA
    have HCell := hide (fun (w3 : World) (base g c : Nat) (hr : w3.ownsRow base 3 1 (.slice (some ⟨g, 0, none⟩) G.length c) G.length (natsV (classesL G))) (q : Nat) (hq : q < G.length) => classes_cell hr q hq)
    rw [h0] at HC
    have hbA' := hbA
    have hpos : 0 < G.length := by omega
    have ha' : (a : Int) < G.length := by omega
    have hb' : (b : Int) < G.length := by omega
    obtain ⟨xa, hxa⟩ : ∃ x, clF G a = x := ⟨_, rfl⟩
    obtain ⟨xb, hxb⟩ : ∃ x, clF G b = x := ⟨_, rfl⟩
    have HXA := Lib.hid hxa
    have HXB := Lib.hid hxb
    have HH3 := hide h3
    have HH2 := hide h2
    clear hxa hxb h0 h1 h2 h3 hz hG0
    go_enter Tryz.func27, Tryz.ntmps27
    go_wp2_with (first | (go_at_call 57; refine (unhide HC).mono ?_; clear HC; rintro e w1 ⟨rfl, hb1⟩; have hb1' := hbA'.trans (hb1.mono hbA'.size)) | (go_at_call 64; refine (unhide HK w1 hb1').mono ?_; clear HK; rintro e w3 ⟨v3, rfl, hr3, hb3⟩; obtain ⟨o3, c3, rfl⟩ := row_form hr3; obtain ⟨g3, rfl⟩ := row_some hr3 hpos; have hca := unhide HCell w3 _ _ _ hr3 a ha; have hcb := unhide HCell w3 _ _ _ hr3 b hb; rw [HXA.out] at hca; rw [HXB.out] at hcb; have hbe := hb1'.trans (hb3.mono hb1'.size); have hBD := fun nq => below_drewN' hbe nq))
    by_cases hxx : xa = xb
    · have hxe : ((xa : Int) == xb) = true := by simp [hxx]
      go_quiet (fail)
      go_wp2
      have hres : apartL G a b = ([], false, 0) := by rw [HX.out, HXA.out, HXB.out, if_pos hxx]
      go_ret3
      rw [hres]
      exact ⟨_, rfl, World.ownsRow_nil _ _ _ _, hBD _⟩
    · have hxe : ((xa : Int) == xb) = false := by simp; omega
      go_quiet (fail)
      have HT := hide (unhide HTA (w3.drewN nq) (hBD nq) g3 c3 (fun q hq => unhide HCell w3 _ _ _ hr3 q hq))
      go_wp2_with (go_at_call 68; refine (unhide HT).mono ?_; clear HT; rintro e w5 ⟨v5, rfl, r5, hb5⟩)
      have hres : apartL G a b = (tellL G (clF G) (a, b), true, 0) := by rw [HX.out, HXA.out, HXB.out, if_neg hxx]
      go_ret3
      rw [hres]
      exact ⟨v5, rfl, Row.mono r5 (hBD nq).size, (hBD nq).trans (hb5.mono (hBD nq).size)⟩
  · have HX := Lib.hid (show apartL G i j = ([], false, checkedR G [i, j]) by unfold apartL; rw [if_pos h0])
    clear hG0 hz
    generalize checkedR G [i, j] = ck at h0 HC HX
    go_enter Tryz.func27, Tryz.ntmps27
    go_wp2_with (first | (go_at_call 57; refine (unhide HC).mono ?_; clear HC; rintro e w1 ⟨rfl, hb1⟩; have hb1' := hbA.trans (hb1.mono hbA.size)))
    go_ret3
    rw [HX.out]
    exact ⟨_, rfl, World.ownsRow_nil _ _ _ _, hb1'⟩
set_option maxRecDepth 100000 in
set_option maxHeartbeats 8000000 in
theorem checkApart_all (gv wv : Value) (G : List TyD) (i j : Int) (way : List Int) (W : World) (hG0 : GrAt W gv G) (hz : GrZ G) (hw : SliceOf 1 (IntAt W) wv way) :
    Calls Tryz.prog 29 #[gv, .int .i64 i, .int .i64 j, wv] W fun e w' => e = .returned (.tuple #[.bool (ckApartL G i j way).1, .int .i64 (ckApartL G i j way).2]) ∧ Below W.heap.size W w' := by
  obtain ⟨o, cap, rfl⟩ := hG0.form
  obtain ⟨ow, cw, rfl⟩ := hw.form
  have hbA := (Below.refl W.heap.size W).alloc (Nat.le_refl _) (.cells #[.int .i64 i, .int .i64 j] 3)
  have HC := hide (checked_two _ G i j W hG0 hz)
  by_cases h0 : checkedR G [i, j] = 0
  · obtain ⟨h1, h2, h3⟩ := checked_fit hz h0
    obtain ⟨a, b, rfl, rfl, ha, hb⟩ := checked_ij h0
    have HX := Lib.hid (show ckApartL G a b way = (tellsL G (a, b) way, 0) by unfold ckApartL; rw [if_neg (by simp [h0])]; rfl)
    have HTA := hide (fun (w1 : World) (h : Below W.heap.size W w1) => tellsApart_any o cap G (a, b) (.slice ow way.length cw) way w1 (hG0.below h) h2 h3 (hw.mono fun _ _ _ _ => IntAt.go (.below h)) ha hb)
    unfold prV pairV at HTA
    rw [h0] at HC
    clear h0 h1 h2 h3 hz hG0 hw
    go_enter Tryz.func29, Tryz.ntmps29
    go_wp2_with (first | (go_at_call 57; refine (unhide HC).mono ?_; clear HC; rintro e w1 ⟨rfl, hb1⟩; have hb1' := hbA.trans (hb1.mono hbA.size)) | (go_at_call 69; refine (unhide HTA w1 hb1').mono ?_; clear HTA; rintro e w2 ⟨rfl, hb2⟩))
    go_ret2
    exact ⟨by rw [HX.out]; rfl, hb1'.trans (hb2.mono hb1'.size)⟩
  · have HX := Lib.hid (show ckApartL G i j way = (false, checkedR G [i, j]) by unfold ckApartL; rw [if_pos h0])
    clear hG0 hz hw
    generalize checkedR G [i, j] = ck at h0 HC HX
    go_enter Tryz.func29, Tryz.ntmps29
    go_wp2_with (first | (go_at_call 57; refine (unhide HC).mono ?_; clear HC; rintro e w1 ⟨rfl, hb1⟩; have hb1' := hbA.trans (hb1.mono hbA.size)))
    go_ret2
    exact ⟨by rw [HX.out]; rfl, hb1'⟩
end Go.Proofs.YteaokkaidcbdlaaGreatDoor
/- slices.Clone at parts (119), overs (120), methods (121) -/
namespace Go.Proofs.YteaokkaidcbdlaaGreatDoor
open Go Go.RowKit Go.Shelf
/-! ### slices.Clone at parts (119), overs (120), methods (121) -/
theorem add_addr (b off j : Nat) : (⟨b, off, none⟩ : Addr).add j = ⟨b, off + j, none⟩ := by
  unfold Addr.add
  split
  · rename_i h; subst h; rfl
  · rfl
theorem eql_slice_nil (w : World) (t e : TypeId) (a : Option Addr) (l c : Nat) (h : Tryz.prog.underlying t = some (.slice e)) : (binOp .eql t (.slice a l c) (.slice none 0 0)).run Tryz.prog w = .ok (.bool a.isNone) w := by
  simp only [binOp]
  simp [run_equal_slice_nil w t e a l c h]
theorem info93 : (Tryz.prog.info? 93).map (fun i => (i.zero, i.size, i.bytes)) = some (some (.agg #[.string ⟨#[]⟩, .int .i64 0]), 2, 24) := by kernel_rfl
theorem info116 : (Tryz.prog.info? 116).map (fun i => (i.zero, i.size, i.bytes)) = some (some (.agg #[.string ⟨#[]⟩, .string ⟨#[]⟩]), 2, 32) := by kernel_rfl
theorem info74 : (Tryz.prog.info? 74).map (fun i => (i.zero, i.size, i.bytes)) = some (some (.agg #[.string ⟨#[]⟩, .slice none 0 0, .int .i64 0, .slice none 0 0, .string ⟨#[]⟩]), 5, 88) := by kernel_rfl
set_option maxRecDepth 100000 in
theorem clone119 (ad : Addr) (n c : Nat) (xs : List Value) (w : World) (hx : xs.length = n * 2) (hc : ∀ j u, xs[j]? = some u → w.cell? (ad.add j) = some u) (h1 : ∀ u ∈ xs, u.oneCell' = true) (hn : n ≤ 100000) :
    Calls Tryz.prog 119 #[.slice (some ad) n c] w fun e w' => ∃ v', e = .returned v' ∧ w'.ownsRow w.heap.size 93 2 v' n xs ∧ Below w.heap.size w w' := by
  obtain ⟨i0, hi0, hz0, hz1, hz2⟩ := info_parts info93
  have hb0 : Below w.heap.size w (w.alloc (.cells #[] 93)) := (Below.refl _ _).alloc (Nat.le_refl _) _
  have hc' : ∀ j u, xs[j]? = some u → (w.alloc (.cells #[] 93)).cell? (ad.add j) = some u := fun j u hj => Holds.below hb0 _ _ (hc j u hj)
  have hown0 : (w.alloc (.cells #[] 93)).ownsRow w.heap.size 93 2 (.slice (some ⟨w.heap.size, 0, none⟩) 0 0) 0 [] := ⟨rfl, .inr ⟨_, 0, #[], rfl, Nat.le_refl _, World.alloc_heap_new w _, Nat.le_refl _, by decide, rfl, rfl⟩⟩
  have heq := fun w => eql_slice_nil w 58 93 (some ad) n c Tryz.underlying58
  simp only [Option.isNone_some] at heq
  go_enter Tryz.func119, Tryz.ntmps119
  go_wp2_with (at_builtin; refine wpList_append_own _ rfl _ _ 58 rfl w.heap.size 93 i0 (.agg #[.string ⟨#[]⟩, .int .i64 0]) 2 24 Tryz.underlying58 hi0 hz0 hz1 hz2 rfl (by decide) _ 0 [] rfl hown0 ad n c xs rfl hx hc' h1 (by unfold maxLen; omega) (by omega) (by simp) ?_)
  intro v' w1 hown' hgrow _
  go_wp2
  go_ret
  exact ⟨v', rfl, hown', hb0.grown hgrow (by simp) (fun j e => by have := (hown0.lt j e).1; omega)⟩
set_option maxRecDepth 100000 in
theorem clone119_nil (n c : Nat) (w : World) : Calls Tryz.prog 119 #[.slice none n c] w fun e w' => e = .returned (.slice none 0 0) ∧ w' = w := by
  have heq := fun w => eql_slice_nil w 58 93 none n c Tryz.underlying58
  simp only [Option.isNone_none] at heq
  go_enter Tryz.func119, Tryz.ntmps119
  go_wp2
  go_ret
  exact ⟨rfl, rfl⟩
set_option maxRecDepth 100000 in
theorem clone120 (ad : Addr) (n c : Nat) (xs : List Value) (w : World) (hx : xs.length = n * 2) (hc : ∀ j u, xs[j]? = some u → w.cell? (ad.add j) = some u) (h1 : ∀ u ∈ xs, u.oneCell' = true) (hn : n ≤ 100000) :
    Calls Tryz.prog 120 #[.slice (some ad) n c] w fun e w' => ∃ v', e = .returned v' ∧ w'.ownsRow w.heap.size 116 2 v' n xs ∧ Below w.heap.size w w' := by
  obtain ⟨i0, hi0, hz0, hz1, hz2⟩ := info_parts info116
  have hb0 : Below w.heap.size w (w.alloc (.cells #[] 116)) := (Below.refl _ _).alloc (Nat.le_refl _) _
  have hc' : ∀ j u, xs[j]? = some u → (w.alloc (.cells #[] 116)).cell? (ad.add j) = some u := fun j u hj => Holds.below hb0 _ _ (hc j u hj)
  have hown0 : (w.alloc (.cells #[] 116)).ownsRow w.heap.size 116 2 (.slice (some ⟨w.heap.size, 0, none⟩) 0 0) 0 [] := ⟨rfl, .inr ⟨_, 0, #[], rfl, Nat.le_refl _, World.alloc_heap_new w _, Nat.le_refl _, by decide, rfl, rfl⟩⟩
  have heq := fun w => eql_slice_nil w 60 116 (some ad) n c Tryz.underlying60
  simp only [Option.isNone_some] at heq
  go_enter Tryz.func120, Tryz.ntmps120
  go_wp2_with (at_builtin; refine wpList_append_own _ rfl _ _ 60 rfl w.heap.size 116 i0 (.agg #[.string ⟨#[]⟩, .string ⟨#[]⟩]) 2 32 Tryz.underlying60 hi0 hz0 hz1 hz2 rfl (by decide) _ 0 [] rfl hown0 ad n c xs rfl hx hc' h1 (by unfold maxLen; omega) (by omega) (by simp) ?_)
  intro v' w1 hown' hgrow _
  go_wp2
  go_ret
  exact ⟨v', rfl, hown', hb0.grown hgrow (by simp) (fun j e => by have := (hown0.lt j e).1; omega)⟩
set_option maxRecDepth 100000 in
theorem clone120_nil (n c : Nat) (w : World) : Calls Tryz.prog 120 #[.slice none n c] w fun e w' => e = .returned (.slice none 0 0) ∧ w' = w := by
  have heq := fun w => eql_slice_nil w 60 116 none n c Tryz.underlying60
  simp only [Option.isNone_none] at heq
  go_enter Tryz.func120, Tryz.ntmps120
  go_wp2
  go_ret
  exact ⟨rfl, rfl⟩
set_option maxRecDepth 100000 in
theorem clone121 (ad : Addr) (n c : Nat) (xs : List Value) (w : World) (hx : xs.length = n * 5) (hc : ∀ j u, xs[j]? = some u → w.cell? (ad.add j) = some u) (h1 : ∀ u ∈ xs, u.oneCell' = true) (hn : n ≤ 100000) :
    Calls Tryz.prog 121 #[.slice (some ad) n c] w fun e w' => ∃ v', e = .returned v' ∧ w'.ownsRow w.heap.size 74 5 v' n xs ∧ Below w.heap.size w w' := by
  obtain ⟨i0, hi0, hz0, hz1, hz2⟩ := info_parts info74
  have hb0 : Below w.heap.size w (w.alloc (.cells #[] 74)) := (Below.refl _ _).alloc (Nat.le_refl _) _
  have hc' : ∀ j u, xs[j]? = some u → (w.alloc (.cells #[] 74)).cell? (ad.add j) = some u := fun j u hj => Holds.below hb0 _ _ (hc j u hj)
  have hown0 : (w.alloc (.cells #[] 74)).ownsRow w.heap.size 74 5 (.slice (some ⟨w.heap.size, 0, none⟩) 0 0) 0 [] := ⟨rfl, .inr ⟨_, 0, #[], rfl, Nat.le_refl _, World.alloc_heap_new w _, Nat.le_refl _, by decide, rfl, rfl⟩⟩
  have heq := fun w => eql_slice_nil w 59 74 (some ad) n c Tryz.underlying59
  simp only [Option.isNone_some] at heq
  go_enter Tryz.func121, Tryz.ntmps121
  go_wp2_with (at_builtin; refine wpList_append_own _ rfl _ _ 59 rfl w.heap.size 74 i0 (.agg #[.string ⟨#[]⟩, .slice none 0 0, .int .i64 0, .slice none 0 0, .string ⟨#[]⟩]) 5 88 Tryz.underlying59 hi0 hz0 hz1 hz2 rfl (by decide) _ 0 [] rfl hown0 ad n c xs rfl hx hc' h1 (by unfold maxLen; omega) (by omega) (by simp) ?_)
  intro v' w1 hown' hgrow _
  go_wp2
  go_ret
  exact ⟨v', rfl, hown', hb0.grown hgrow (by simp) (fun j e => by have := (hown0.lt j e).1; omega)⟩
set_option maxRecDepth 100000 in
theorem clone121_nil (n c : Nat) (w : World) : Calls Tryz.prog 121 #[.slice none n c] w fun e w' => e = .returned (.slice none 0 0) ∧ w' = w := by
  have heq := fun w => eql_slice_nil w 59 74 none n c Tryz.underlying59
  simp only [Option.isNone_none] at heq
  go_enter Tryz.func121, Tryz.ntmps121
  go_wp2
  go_ret
  exact ⟨rfl, rfl⟩
end Go.Proofs.YteaokkaidcbdlaaGreatDoor
