/- Part 28 of 53: the texts Eq, Bs, Ta, Tm, one behind the other. -/
import Derived.Test.YteaokkaidcbdlaaGreatDoorJ27
import Derived.Test.YteaokkaidcbdlaaGreatDoorJ21
import Derived.Tactics
import Derived.Tactics2
import Derived.WalkKit
import Derived.LoopTactic
import Derived.Outline
import Derived.Lib.Hide
import Derived.Handy
import Derived.KernelRfl
import Derived.Deep.LoopGhost
import Derived.CallsIn
import Derived.Deep.QuietTactic
import Derived.BigQuiet
import Derived.Deep.Draws
import Derived.WalkSpells
import Derived.Lib.Walk
import Derived.Lib.Strings
import Derived.Maps.OwnOps
import Derived.Maps.OwnSet
import Derived.Deep.RegionWith
import Derived.StillTailTactics
import Derived.WalkMore
import Derived.RangeFuncNested
import Derived.RangeFuncBound
import Derived.RangeFuncCalls
import Derived.RangeFuncLeaves
import Derived.RangeFuncBox
import Derived.Shelf.Abstract
import Derived.OwnWalkIn
import Derived.TacticsInMore
import Derived.LoopNIn
import Derived.LoopIn
import Derived.RecoverIn
import Derived.Maps.AppendAt
import Derived.RegionTactic
import Derived.ChangeAlike
import Derived.OwnWalk
import Derived.Deep.AppendLies
import Derived.Deep.DeepCutAuto
import Derived.Deep.RegionLaw
import Derived.Deep.RegionHeld3
import Derived.Laws.EntriesVeiled
import Derived.Test.YteaokkaidcbdlaaGreatDoorJ18
import Derived.Test.YteaokkaidcbdlaaGreatDoorJ26
namespace Go.Proofs.YteaokkaidcbdlaaGreatDoor
open Go Go.RowKit Go.Shelf
def Fit (G : List TyD) : Prop := G.length ≤ 410 ∧ (∀ t ∈ G, (refsOf t).length ≤ 100000) ∧ ∀ t ∈ G, ∀ x ∈ refsOf t, 0 ≤ x ∧ x < G.length
def equalL (G : List TyD) (i j : Int) : Bool × Int :=
  if checkedR G [i, j] ≠ 0 then (false, checkedR G [i, j]) else (decide ((classesL G).getD i.toNat 0 = (classesL G).getD j.toNat 0), 0)
theorem classesL_len (G : List TyD) : (classesL G).length = G.length := by
  unfold classesL
  have h0 := (leasts_spec (fun f i => agreeB (G.getD f default) (G.getD i default)) G.length).1
  generalize (leastsS (fun f i => agreeB (G.getD f default) (G.getD i default)) G.length).2 = c at h0
  generalize G.length + 1 = m
  induction m generalizing c with
  | zero => exact h0
  | succ m ih =>
    unfold settle
    split
    · exact h0
    · exact ih _ (leasts_spec _ _).1
theorem row_some {w : World} {base : Nat} {e : TypeId} {sz n c : Nat} {o : Option Addr} {xs : List Value} (h : w.ownsRow base e sz (.slice o n c) n xs) (hn : 0 < n) : ∃ g, o = some ⟨g, 0, none⟩ := by
  rcases h.2 with ⟨e0, e1⟩ | ⟨g, c2, cur, e0, _⟩
  · omega
  · injection e0 with e0; exact ⟨g, e0⟩
set_option maxRecDepth 100000 in
set_option maxHeartbeats 8000000 in
theorem equal_any (gv : Value) (G : List TyD) (i j : Int) (W : World) (hG0 : GrAt W gv G) (hz : GrZ G) (hfit : checkedR G [i, j] = 0 → Fit G) :
    Calls Tryz.prog 23 #[gv, .int .i64 i, .int .i64 j] W fun e w' => e = .returned (.tuple #[.bool (equalL G i j).1, .int .i64 (equalL G i j).2]) ∧ Below W.heap.size W w' := by
  obtain ⟨o, cap, rfl⟩ := hG0.form
  have bA := Blk.new W [.int .i64 i, .int .i64 j] 3
  have hbA := (Below.refl W.heap.size W).alloc (Nat.le_refl _) (.cells #[.int .i64 i, .int .i64 j] 3)
  change Blk (W.alloc (.cells #[.int .i64 i, .int .i64 j] 3)) _ _ _ at bA
  have hL : SliceOf 1 (IntAt (W.alloc (.cells #[.int .i64 i, .int .i64 j] 3))) (.slice (some ⟨W.heap.size, 0, none⟩) 2 2) [i, j] := by
    refine ⟨some ⟨W.heap.size, 0, none⟩, 2, rfl, Nat.le_refl _, by decide, fun q x hx => ⟨_, 0, rfl, ?_⟩⟩
    unfold IntAt
    match q with
    | 0 => simp at hx; subst hx; exact bA.cell 0
    | 1 => simp at hx; subst hx; exact bA.cell 1
    | q + 2 => simp at hx
  have HC := hide (checked_any _ G _ (hG0.below hbA) hz _ [i, j] hL)
  by_cases h0 : checkedR G [i, j] = 0
  · obtain ⟨h1, h2, h3⟩ := hfit h0
    have hij : idxB G.length i = true ∧ idxB G.length j = true := by
      unfold checkedR at h0
      split at h0
      · contradiction
      · split at h0
        · rename_i hh; simpa using hh
        · contradiction
    have hi : 0 ≤ i ∧ i < G.length := by have := hij.1; unfold idxB at this; simp at this; omega
    have hj : 0 ≤ j ∧ j < G.length := by have := hij.2; unfold idxB at this; simp at this; omega
    obtain ⟨a, rfl⟩ := Int.eq_ofNat_of_zero_le hi.1
    obtain ⟨b, rfl⟩ := Int.eq_ofNat_of_zero_le hj.1
    have ha : a < (classesL G).length := by rw [classesL_len]; omega
    have hb : b < (classesL G).length := by rw [classesL_len]; omega
    have HX := Lib.hid (show equalL G a b = (decide ((classesL G)[a] = (classesL G)[b]), 0) by
      unfold equalL
      rw [if_neg (by simp [h0])]
      simp [List.getD_eq_getElem?_getD, ha, hb])
    have HK := hide (fun (w1 : World) (h : Below W.heap.size W w1) => classes_any _ G w1 (hG0.below h) h1 h2 h3)
    have HCell := hide (fun (w3 : World) (base g c : Nat) (hr : w3.ownsRow base 3 1 (.slice (some ⟨g, 0, none⟩) G.length c) G.length (natsV (classesL G))) (q : Nat) (hq : q < (classesL G).length) => show w3.cell? ⟨g, q, none⟩ = some (.int .i64 ((classesL G)[q] : Nat)) from by
      have hq2 : q < G.length := by rw [classesL_len] at hq; exact hq
      rw [Row1.cells hr q hq2]
      unfold natsV
      rw [List.getElem?_map, List.getElem?_eq_getElem hq]; rfl)
    rw [h0] at HC
    have hbA' := hbA
    have hpos : 0 < G.length := by omega
    have ha' : (a : Int) < G.length := by omega
    have hb' : (b : Int) < G.length := by omega
    generalize hxa : (classesL G)[a] = xa at HX
    generalize hxb : (classesL G)[b] = xb at HX
    have HXA := Lib.hid hxa
    have HXB := Lib.hid hxb
    clear hxa hxb h0 hij hi hj h1 h2 h3 hfit hz hG0 hL bA
    by_cases hxx : xa = xb
    all_goals
      go_enter Tryz.func23, Tryz.ntmps23
      go_wp2_with (first | (go_at_call 57; refine (unhide HC).mono ?_; clear HC; rintro e w1 ⟨rfl, hb1⟩; have hb1' := hbA'.trans (hb1.mono hbA'.size)) | (go_at_call 64; refine (unhide HK w1 hb1').mono ?_; clear HK; rintro e w3 ⟨v3, rfl, hr3, hb3⟩; obtain ⟨o3, c3, rfl⟩ := row_form hr3; obtain ⟨g3, rfl⟩ := row_some hr3 hpos; have hca := unhide HCell w3 _ _ _ hr3 a ha; have hcb := unhide HCell w3 _ _ _ hr3 b hb; rw [HXA.out] at hca; rw [HXB.out] at hcb; have hbe := hb1'.trans (hb3.mono hb1'.size); have hBD := fun nq => below_drewN' hbe nq))
      go_quiet (fail)
      go_wp2
      go_ret2
      exact ⟨by rw [HX.out]; first | (simp [hxx]; done) | (simp [hxx]; omega), hBD nq⟩
  · have HX := Lib.hid (show equalL G i j = (false, checkedR G [i, j]) by unfold equalL; rw [if_pos h0])
    clear hfit hG0 hz hL bA
    generalize checkedR G [i, j] = ck at h0 HC HX
    go_enter Tryz.func23, Tryz.ntmps23
    go_wp2_with (first | (go_at_call 57; refine (unhide HC).mono ?_; clear HC; rintro e w1 ⟨rfl, hb1⟩; have hb1' := hbA.trans (hb1.mono hbA.size)))
    go_ret2
    exact ⟨(by rw [HX.out]; rfl), hb1'⟩
end Go.Proofs.YteaokkaidcbdlaaGreatDoor

namespace Go.Proofs.YteaokkaidcbdlaaGreatDoor
open Go Go.RowKit Go.Shelf
attribute [local go_sem] Oper.semAt_some
def KInts (W W' : World) : Prop := ∀ (b : Nat) (cs : Array Value) (f : Nat × Nat), W.heap[b]? = some (.cells cs 3 f) → W'.heap[b]? = some (.cells cs 3 f)
theorem KInts.refl (W : World) : KInts W W := fun _ _ _ h => h
theorem KInts.trans {A B C : World} (h : KInts A B) (k : KInts B C) : KInts A C := fun b cs f hb => k b cs f (h b cs f hb)
theorem KInts.below {W W' : World} (h : Below W.heap.size W W') : KInts W W' := fun b _ _ hb => (h.block b (Array.getElem?_eq_some_iff.1 hb).1).trans hb
theorem KInts.put {W : World} {l : Nat} {o : Obj} (o' : Obj) (hl : W.heap[l]? = some o) (ho : o.isCells = false) : KInts W (W.putObj l o') := fun b cs f hb => by
  have hne : l ≠ b := by
    rintro rfl
    rw [hl] at hb; cases hb; cases ho
  exact (World.putObj_heap_other (by omega)).trans hb
theorem KInts.grown {W W' : World} {row : Option Nat} (hg : W.grownBy W' row) (h : ∀ r, row = some r → ∀ cs f, W.heap[r]? ≠ some (.cells cs 3 f)) : KInts W W' := fun b cs f hb => by
  refine (hg.block b (Array.getElem?_eq_some_iff.1 hb).1 (fun e => h b e.symm cs f hb)).trans hb
theorem KInts.row {W W' : World} (hk : KInts W W') {base sz n : Nat} {v : Value} {xs : List Value} (h : W.ownsRow base 3 sz v n xs) : W'.ownsRow base 3 sz v n xs := by
  refine ⟨h.1, ?_⟩
  rcases h.2 with h0 | ⟨g, cap, cur, rfl, hg, hc, hr⟩
  · exact .inl h0
  · exact .inr ⟨g, cap, cur, rfl, hg, hk _ _ _ hc, hr⟩
theorem besides_any (o : Option Addr) (n c : Nat) (i j : Int) (w : World) :
    Calls Tryz.prog 111 #[.slice o n c, pairV i j] w fun e w' => e = .returned (.func (.func 160) #[] #[.pointer (some ⟨w.heap.size, 0, none⟩), .pointer (some ⟨w.heap.size + 1, 0, none⟩)]) ∧ w' = (w.alloc (.cells #[.slice o n c] 23)).alloc (.cells #[.int .i64 i, .int .i64 j] 64) := by
  unfold pairV
  go_enter Tryz.func111, Tryz.ntmps111
  go_wp2
  go_ret
  exact ⟨rfl, rfl⟩
def besL (A B : List Int) : List (Nat × Int × Int) := (A.zip B).zipIdx.map fun x => (x.2, x.1)
def besV (x : Nat × Int × Int) : Array Value := #[.int .i64 x.1, pairV x.2.1 x.2.2]
theorem besL_len (A B : List Int) (h : A.length ≤ B.length) : (besL A B).length = A.length := by unfold besL; simp; omega
theorem besL_succ (A B : List Int) (h : A.length ≤ B.length) (k : Nat) (hk : k < A.length) : (besL A B).take (k + 1) = (besL A B).take k ++ [(k, A[k], B[k])] := by
  have hl : k < (besL A B).length := by rw [besL_len A B h]; exact hk
  rw [List.take_succ_eq_append_getElem hl]
  simp [besL]
theorem row_cell {w : World} {base : Nat} {o : Option Addr} {n c : Nat} {l : List Int} (h : w.ownsRow base 3 1 (.slice o n c) l.length (l.map (.int .i64))) (k : Nat) (hk : k < l.length) :
    ∃ g, o = some ⟨g, 0, none⟩ ∧ n = l.length ∧ w.cell? ⟨g, k, none⟩ = some (.int .i64 l[k]) := by
  have h' := h
  rcases h.2 with ⟨h0, h1⟩ | ⟨g, cap, cur, h0, _⟩
  · omega
  · cases h0
    refine ⟨g, rfl, rfl, ?_⟩
    rw [Row1.cells h' k hk]
    simp [List.getElem?_eq_getElem hk]
set_option maxRecDepth 100000 in
set_option maxHeartbeats 8000000 in
theorem besides_in (l gb pb : Nat) (gv : Value) (G : List TyD) (i j : Nat) (hi : i < G.length) (hj : j < G.length) (hAB : (refsOf G[i]).length ≤ (refsOf G[j]).length) (hBl : (refsOf G[j]).length ≤ 100000)
    (J Jx : List (Nat × Int × Int) → World → Prop)
    (hJ : ∀ p W, J p W → W.cell? ⟨gb, 0, none⟩ = some gv ∧ W.cell? ⟨pb, 0, none⟩ = some (.int .i64 i) ∧ W.cell? ⟨pb, 1, none⟩ = some (.int .i64 j) ∧ GrAt W gv G)
    (hJb : ∀ p W W', J p W → Below W.heap.size W W' → J p W')
    (hY : ∀ p x W, p ++ [x] <+: besL (refsOf G[i]) (refsOf G[j]) → J p W → YieldAt Fence.wide 0 Tryz.prog l (besV x) W fun e W' => (e = .returned (.bool true) ∧ J (p ++ [x]) W' ∧ KInts W W') ∨ (e = .returned (.bool false) ∧ Jx (p ++ [x]) W'))
    (W : World) (h0 : J [] W) :
    CallsIn Fence.wide 1 Tryz.prog 160 #[.func (.yield l) #[] #[], .pointer (some ⟨gb, 0, none⟩), .pointer (some ⟨pb, 0, none⟩)] W fun e W' => (∃ v, e = .returned v) ∧ (J (besL (refsOf G[i]) (refsOf G[j])) W' ∨ ∃ p, p <+: besL (refsOf G[i]) (refsOf G[j]) ∧ Jx p W') := by
  refine callsIn_of_wp Tryz.func160 rfl trivial ?_ rfl
  simp only [Tryz.ntmps160, List.size_toArray, List.length_cons, List.length_nil, Nat.reduceAdd, Nat.reduceSub, Array.replicate_succ, Array.replicate_zero, List.push_toArray, List.append_toArray, List.nil_append, List.cons_append]
  obtain ⟨c0, c1, c2, hG⟩ := hJ _ _ h0
  obtain ⟨o, cap, rfl⟩ := hG.form
  obtain ⟨-, -, -, hat⟩ := hG.at
  obtain ⟨b, off, rfl, hTj⟩ := hat j G[j] (List.getElem?_eq_getElem hj)
  obtain ⟨b', off', e', hTi⟩ := hat i G[i] (List.getElem?_eq_getElem hi)
  cases e'
  have hi' : (i : Int) < G.length := by omega
  have hj' : (j : Int) < G.length := by omega
  have HB := hide (references_any b (off + j * 10) G[j] W hTj hBl)
  have HA := hide (fun W1 (h : Below W.heap.size W W1) => references_any b (off + i * 10) G[i] W1 (hTi.go (.below h)) (Nat.le_trans hAB hBl))
  have HL := hide (besL_succ _ _ hAB)
  have HN := Lib.hid (besL_len _ _ hAB)
  have HY := hide hY
  have HJB := hide hJb
  have HJ := hide hJ
  clear hY hJb hJ hat hTi hTj hG
  generalize refsOf G[i] = A at *
  generalize refsOf G[j] = B at *
  gi_wp2_with (refine ⟨trivial, ?_⟩; gi_at_call 104; first
    | (refine (callsIn_wide.2 (unhide HB)).mono ?_; clear HB; rintro e w1 ⟨vB, rfl, rB, hb1⟩; obtain ⟨oB, cB, rfl⟩ := row_form rB; have hJ1 := unhide HJB _ _ _ h0 hb1; obtain ⟨d0, d1, d2, -⟩ := unhide HJ _ _ hJ1)
    | (refine (callsIn_wide.2 (unhide HA w1 hb1)).mono ?_; clear HA; rintro e w2 ⟨vA, rfl, rA, hb2⟩; obtain ⟨oA, cA, rfl⟩ := row_form rA; have hJ2 := unhide HJB _ _ _ hJ1 hb2; have rB2 := Row.below rB hb2))
  gi_loopw [18] (fun q wr => ∃ k : Nat, k ≤ A.length ∧ q = .int .i64 k ∧ J ((besL A B).take k) wr ∧ wr.ownsRow w1.heap.size 3 1 (.slice oA A.length cA) A.length (A.map (.int .i64)) ∧ wr.ownsRow W.heap.size 3 1 (.slice oB B.length cB) B.length (B.map (.int .i64))) (fun q _ => A.length - (intOf q).toNat)
  case atStart => exact ⟨0, Nat.zero_le _, rfl, by simpa using hJ2, rA, rB2⟩
  case round =>
    obtain ⟨k, hk, rfl, hJk, rAk, rBk⟩ := hrel
    by_cases hlt : k < A.length
    · have hlt' : (k : Int) < A.length := by omega
      have hltB' : (k : Int) < B.length := by omega
      have hltB : k < B.length := by omega
      obtain ⟨gA, rfl, -, cA1⟩ := row_cell rAk k hlt
      obtain ⟨gB, rfl, -, cB1⟩ := row_cell rBk k hltB
      have hs := unhide HL k hlt
      obtain ⟨fn, tmps, assign, body, hy, hR⟩ := unhide HY _ (k, A[k], B[k]) wr (by rw [← hs]; exact List.take_prefix _ _) hJk
      unfold besV pairV at hy
      dsimp only at hy
      have HS := Lib.hid hs
      clear hs
      generalize A[k] = x at *
      generalize B[k] = y at *
      gi_wp2
      refine hR.mono ?_
      rintro e W3 (⟨rfl, hJ3, hk3⟩ | ⟨rfl, hJx3⟩)
      · gi_wp2
        go_roundw
        case rel => exact ⟨k + 1, by omega, by go_num, by rw [HS.out]; exact hJ3, hk3.row rAk, hk3.row rBk⟩
        case measure => simp [intOf]; omega
      · gi_wp2
        refine bodyPost_ret (results_none rfl _ _ _) rfl ?_
        exact ⟨⟨_, rfl⟩, .inr ⟨_, by rw [← HS.out]; exact List.take_prefix _ _, hJx3⟩⟩
    · obtain rfl : k = A.length := by omega
      rw [List.take_of_length_le (by rw [HN.out]; exact Nat.le_refl _)] at hJk
      gi_wp2
      go_end0
      exact ⟨⟨_, rfl⟩, .inl hJk⟩
end Go.Proofs.YteaokkaidcbdlaaGreatDoor

namespace Go.Proofs.YteaokkaidcbdlaaGreatDoor
open Go Go.RowKit Go.Shelf
def agB (G : List TyD) (p : Nat × Nat) : Bool := agreeB (G.getD p.1 default) (G.getD p.2 default)
def besG (G : List TyD) (p : Nat × Nat) : List (Nat × Int × Int) := besL (refsOf (G.getD p.1 default)) (refsOf (G.getD p.2 default))
abbrev SSt := Came × List (Nat × Nat)
def nxP (x : Nat × Int × Int) : Nat × Nat := (x.2.1.toNat, x.2.2.toNat)
def inStep (ag : Nat × Nat → Bool) (cl : Nat → Nat) (a : Nat × Nat) (st : SSt) (x : Nat × Int × Int) : SSt × Option (Nat × Nat) :=
  if nxP x ∈ st.1.map (·.1) ∨ cl (nxP x).1 = cl (nxP x).2 then (st, none)
  else if ag (nxP x) then ((st.1 ++ [(nxP x, a, x.1)], st.2 ++ [nxP x]), none) else ((st.1 ++ [(nxP x, a, x.1)], st.2), some (nxP x))
def inRun (ag : Nat × Nat → Bool) (cl : Nat → Nat) (a : Nat × Nat) : List (Nat × Int × Int) → SSt → SSt × Option (Nat × Nat)
  | [], st => (st, none)
  | x :: xs, st => match inStep ag cl a st x with | (st', none) => inRun ag cl a xs st' | r => r
theorem inRun_append (ag : Nat × Nat → Bool) (cl : Nat → Nat) (a : Nat × Nat) (q : List (Nat × Int × Int)) : ∀ (p : List (Nat × Int × Int)) (st : SSt), inRun ag cl a (p ++ q) st = match inRun ag cl a p st with | (st', none) => inRun ag cl a q st' | r => r
  | [], st => rfl
  | x :: p, st => by
    rw [List.cons_append, inRun, inRun]
    obtain ⟨s', o⟩ := inStep ag cl a st x
    cases o with
    | none => exact inRun_append ag cl a q p s'
    | some n => rfl
theorem inRun_snoc {ag : Nat × Nat → Bool} {cl : Nat → Nat} {a : Nat × Nat} {p : List (Nat × Int × Int)} {x : Nat × Int × Int} {st st' : SSt} (h : inRun ag cl a p st = (st', none)) : inRun ag cl a (p ++ [x]) st = inStep ag cl a st' x := by
  rw [inRun_append, h]
  simp only [inRun]
  obtain ⟨s', o⟩ := inStep ag cl a st' x
  cases o <;> rfl
theorem inRun_stop {ag : Nat × Nat → Bool} {cl : Nat → Nat} {a : Nat × Nat} {p L : List (Nat × Int × Int)} {st st' : SSt} {n : Nat × Nat} (hp : p <+: L) (h : inRun ag cl a p st = (st', some n)) : inRun ag cl a L st = (st', some n) := by
  obtain ⟨q, rfl⟩ := hp
  rw [inRun_append, h]
def outRun (ag : Nat × Nat → Bool) (cl : Nat → Nat) (bes : Nat × Nat → List (Nat × Int × Int)) : Nat → Nat → SSt → Came × Option (Nat × Nat)
  | 0, _, st => (st.1, none)
  | f + 1, k, st => match st.2[k]? with
    | none => (st.1, none)
    | some a => match inRun ag cl a (bes a) st with
      | (st', none) => outRun ag cl bes f (k + 1) st'
      | (st', some n) => (st'.1, some n)
def tellL (G : List TyD) (cl : Nat → Nat) (first : Nat × Nat) : List Int :=
  if agB G first then wayL (outRun (agB G) cl (besG G) (G.length * G.length + 1) 0 ([(first, (0, 0), 0)], [first])).1 first ((outRun (agB G) cl (besG G) (G.length * G.length + 1) 0 ([(first, (0, 0), 0)], [first])).2.getD first) else []
structure SInv (G : List TyD) (first : Nat × Nat) (st : SSt) (s : Option (Nat × Nat)) : Prop where
  keys : st.1.map (·.1) = st.2 ++ s.toList
  nodup : (st.2 ++ s.toList).Nodup
  bnd : ∀ c ∈ st.1, c.1.1 < G.length ∧ c.1.2 < G.length
  ag : ∀ q ∈ st.2, agB G q = true
  chain : Chain st.1 first
  head : ∃ h : 0 < st.1.length, st.1[0].1 = first
theorem SInv.start {G : List TyD} {first : Nat × Nat} (h1 : first.1 < G.length) (h2 : first.2 < G.length) (ha : agB G first = true) : SInv G first ([(first, (0, 0), 0)], [first]) none :=
  ⟨rfl, by simp, fun c hc => by simp at hc; subst hc; exact ⟨h1, h2⟩, fun q hq => by simp at hq; subst hq; exact ha, fun m h => .inl (by simp at h; subst h; rfl), ⟨by simp, rfl⟩⟩
theorem SInv.len {G : List TyD} {first : Nat × Nat} {st : SSt} (h : SInv G first st none) : st.1.length = st.2.length := by
  have := congrArg List.length h.keys; simpa using this
theorem chain_snoc {C : Came} {first nx a : Nat × Nat} {k : Nat} (h : Chain C first) (ha : ∃ q, ∃ h : q < C.length, C[q].1 = a) : Chain (C ++ [(nx, a, k)]) first := by
  intro m hm
  by_cases hlt : m < C.length
  · rw [List.getElem_append_left hlt]
    rcases h m hlt with h | ⟨q, hq, e⟩
    · exact .inl h
    · exact .inr ⟨q, hq, by rw [List.getElem_append_left (by omega)]; exact e⟩
  · have hme : m = C.length := by simp at hm; omega
    subst hme
    obtain ⟨q, hq, e⟩ := ha
    refine .inr ⟨q, hq, ?_⟩
    rw [List.getElem_append_left hq, List.getElem_append_right (Nat.le_refl _)]
    simpa using e
theorem SInv.step {G : List TyD} {first a : Nat × Nat} {cl : Nat → Nat} {st : SSt} (h : SInv G first st none) (x : Nat × Int × Int) (hb : (nxP x).1 < G.length ∧ (nxP x).2 < G.length) (hk : ∃ k : Nat, st.2[k]? = some a) :
    SInv G first (inStep (agB G) cl a st x).1 (inStep (agB G) cl a st x).2 ∧ (∃ k : Nat, (inStep (agB G) cl a st x).1.2[k]? = some a) ∧ st.2 <+: (inStep (agB G) cl a st x).1.2 := by
  have hkeys : st.1.map (·.1) = st.2 := by have := h.keys; simpa using this
  have hnd : st.2.Nodup := by have := h.nodup; simpa using this
  obtain ⟨k, hk⟩ := hk
  have ha : ∃ q, ∃ h : q < st.1.length, st.1[q].1 = a := by
    have hl := h.len
    obtain ⟨hkl, e⟩ := List.getElem?_eq_some_iff.1 hk
    refine ⟨k, by omega, ?_⟩
    have h1 : (st.1.map (·.1))[k]'(by simp; omega) = st.2[k] := by simp [hkeys]
    rw [← e, ← h1]; simp
  unfold inStep
  split
  · exact ⟨h, ⟨k, hk⟩, List.prefix_refl _⟩
  · rename_i hno
    rw [hkeys] at hno
    have hnew : nxP x ∉ st.2 := fun e => hno (.inl e)
    have hnd' : (st.2 ++ [nxP x]).Nodup := by
      rw [List.nodup_append]
      exact ⟨hnd, by simp, fun p hp q hq e => by simp at hq; subst hq; exact hnew (e ▸ hp)⟩
    have hbnd : ∀ c ∈ st.1 ++ [(nxP x, a, x.1)], c.1.1 < G.length ∧ c.1.2 < G.length := fun c hc => by
      rw [List.mem_append, List.mem_singleton] at hc
      rcases hc with hc | rfl
      · exact h.bnd c hc
      · exact hb
    have hhead : ∃ h : 0 < (st.1 ++ [(nxP x, a, x.1)]).length, (st.1 ++ [(nxP x, a, x.1)])[0].1 = first := by
      obtain ⟨h0, e⟩ := h.head
      exact ⟨by simp, by rw [List.getElem_append_left h0]; exact e⟩
    have hks : ((st.1 ++ [(nxP x, a, x.1)]).map (·.1)) = st.2 ++ [nxP x] := by rw [List.map_append, hkeys]; rfl
    split
    · rename_i hag
      refine ⟨⟨by simpa using hks, by simpa using hnd', hbnd, fun q hq => ?_, chain_snoc h.chain ha, hhead⟩, ⟨k, ?_⟩, List.prefix_append _ _⟩
      · rw [List.mem_append, List.mem_singleton] at hq
        rcases hq with hq | rfl
        · exact h.ag q hq
        · exact hag
      · have := (List.getElem?_eq_some_iff.1 hk).1
        show (st.2 ++ [nxP x])[k]? = _
        rw [List.getElem?_append_left this]; exact hk
    · exact ⟨⟨by simpa using hks, by simpa using hnd', hbnd, h.ag, chain_snoc h.chain ha, hhead⟩, ⟨k, hk⟩, List.prefix_refl _⟩
theorem nodup_le : ∀ (m : Nat) (l : List Nat), l.Nodup → (∀ x ∈ l, x < m) → l.length ≤ m
  | 0, l, _, h => by
    cases l with
    | nil => simp
    | cons x l => have := h x (by simp); omega
  | m + 1, l, hn, h => by
    have h1 := nodup_le m (l.filter (fun x => decide (x ≠ m))) (hn.filter _) (fun x hx => by
      rw [List.mem_filter, decide_eq_true_eq] at hx
      have := h x hx.1; omega)
    have h2 : l.length ≤ (l.filter (fun x => decide (x ≠ m))).length + 1 := by
      clear h1 h
      induction l with
      | nil => simp
      | cons x l ih =>
        rw [List.nodup_cons] at hn
        rw [List.filter_cons]
        by_cases hx : x = m
        · subst hx
          have : l.filter (fun y => decide (y ≠ x)) = l := by
            rw [List.filter_eq_self]
            intro y hy
            simp only [decide_eq_true_eq]
            rintro rfl; exact hn.1 hy
          rw [this]
          simp
        · have hd : decide (x ≠ m) = true := by simpa using hx
          rw [if_pos hd, List.length_cons, List.length_cons]
          have := ih hn.2
          omega
    omega
theorem SInv.small {G : List TyD} {first : Nat × Nat} {st : SSt} {s : Option (Nat × Nat)} (h : SInv G first st s) : st.1.length ≤ G.length * G.length := by
  have hnd : (st.1.map (·.1)).Nodup := by rw [h.keys]; exact h.nodup
  have h1 := nodup_le (G.length * G.length) ((st.1.map (·.1)).map fun p => p.1 * G.length + p.2) (by
    rw [List.Nodup, List.pairwise_map]
    refine List.Pairwise.imp_of_mem (fun {a b} ha hb hne e => hne ?_) hnd
    obtain ⟨c, hc, rfl⟩ := List.mem_map.1 ha
    obtain ⟨d, hd, rfl⟩ := List.mem_map.1 hb
    obtain ⟨a1, a2⟩ := h.bnd c hc
    obtain ⟨b1, b2⟩ := h.bnd d hd
    have e1 : c.1.1 = d.1.1 := by
      rcases Nat.lt_trichotomy c.1.1 d.1.1 with hl | he | hg
      · have := Nat.mul_le_mul_right G.length (show c.1.1 + 1 ≤ d.1.1 from hl)
        rw [Nat.add_mul] at this; omega
      · exact he
      · have := Nat.mul_le_mul_right G.length (show d.1.1 + 1 ≤ c.1.1 from hg)
        rw [Nat.add_mul] at this; omega
    rw [e1] at e
    exact Prod.ext e1 (by omega)) (fun x hx => by
    obtain ⟨p, hp, rfl⟩ := List.mem_map.1 hx
    obtain ⟨c, hc, rfl⟩ := List.mem_map.1 hp
    obtain ⟨a1, a2⟩ := h.bnd c hc
    have := Nat.mul_le_mul_right G.length (show c.1.1 + 1 ≤ G.length from a1)
    rw [Nat.add_mul] at this; omega)
  simpa using h1
end Go.Proofs.YteaokkaidcbdlaaGreatDoor

namespace Go.Proofs.YteaokkaidcbdlaaGreatDoor
open Go Go.RowKit Go.Shelf
attribute [local go_sem] Oper.semAt_some
theorem besL_mem {A B : List Int} {x : Nat × Int × Int} (h : x ∈ besL A B) : x.2.1 ∈ A ∧ x.2.2 ∈ B := by
  unfold besL at h
  obtain ⟨⟨⟨p, q⟩, k⟩, hy, rfl⟩ := List.mem_map.1 h
  have := List.fst_mem_of_mem_zipIdx hy
  exact ⟨(List.of_mem_zip this).1, (List.of_mem_zip this).2⟩
theorem GrAt.cells {W : World} {o : Option Addr} {cap : Nat} {G : List TyD} (h : GrAt W (.slice o G.length cap) G) {i : Nat} (hi : i < G.length) :
    ∃ b off u1 u2 u3, o = some ⟨b, off, none⟩ ∧ TyL W u1 u2 u3 G[i] ∧ ∀ W', Holds W W' → ∀ j u, (tyC G[i] u1 u2 u3)[j]? = some u → W'.cell? ⟨b, off + i * 10 + j, none⟩ = some u := by
  obtain ⟨-, -, -, hat⟩ := h.at
  obtain ⟨b, off, rfl, u1, u2, u3, gl, k0, k1, k2, k3, k4, k5, k6, k7, k8, k9⟩ := hat i G[i] (List.getElem?_eq_getElem hi)
  refine ⟨b, off, u1, u2, u3, rfl, gl, fun W' hb j u hu => hb _ _ ?_⟩
  match j with
  | 0 => simp [tyC] at hu; subst hu; exact k0
  | 1 => simp [tyC] at hu; subst hu; exact k1
  | 2 => simp [tyC] at hu; subst hu; exact k2
  | 3 => simp [tyC] at hu; subst hu; exact k3
  | 4 => simp [tyC] at hu; subst hu; exact k4
  | 5 => simp [tyC] at hu; subst hu; exact k5
  | 6 => simp [tyC] at hu; subst hu; exact k6
  | 7 => simp [tyC] at hu; subst hu; exact k7
  | 8 => simp [tyC] at hu; subst hu; exact k8
  | 9 => simp [tyC] at hu; subst hu; exact k9
  | j + 10 => simp [tyC] at hu
theorem build141z (w : World) : (Instr.build 141 #[]).run Tryz.prog w = .ok (.agg #[.int .i64 0, .int .i64 0, .int .i64 0]) w := run_build w 141 _ _ (by kernel_rfl)
def pairCells (l : List (Nat × Nat)) : List Value := l.flatMap fun p => [.int .i64 p.1, .int .i64 p.2]
structure TI (W wr : World) (gv cv : Value) (first last : Nat × Nat) (N mbk b7 b8 b9 : Nat) (C : Came) (Q : List (Nat × Nat)) (qv : Value) (ms : List Nat) : Prop where
  bel : Below W.heap.size W wr
  hN : W.heap.size + 3 ≤ N
  ge : N ≤ mbk ∧ N ≤ b7 ∧ N ≤ b8 ∧ N ≤ b9
  g : Boxed wr W.heap.size 23 gv
  c : Boxed wr (W.heap.size + 1) 37 cv
  f : Blk wr (W.heap.size + 2) [.int .i64 first.1, .int .i64 first.2] 64
  mb : Boxed wr b7 142 (.map (some mbk))
  mp : MapC wr mbk C
  qb : Boxed wr b8 33 qv
  row : wr.ownsRow N 64 2 qv Q.length (pairCells Q)
  lb : Blk wr b9 [.int .i64 last.1, .int .i64 last.2] 64
  op : Open' wr N ms
  ap : some b9 ≠ qv.ownBlock
theorem TI.below {W wr w' : World} {gv cv qv : Value} {first last : Nat × Nat} {N mbk b7 b8 b9 : Nat} {C : Came} {Q : List (Nat × Nat)} {ms : List Nat} (h : TI W wr gv cv first last N mbk b7 b8 b9 C Q qv ms) (hb : Below wr.heap.size wr w') : TI W w' gv cv first last N mbk b7 b8 b9 C Q qv ms :=
  ⟨h.bel.trans (hb.mono h.bel.size), h.hN, h.ge, (hb.block _ h.g.lt).trans h.g, (hb.block _ h.c.lt).trans h.c, h.f.below hb h.f.lt, (hb.block _ h.mb.lt).trans h.mb, h.mp.below hb h.mp.lt, (hb.block _ h.qb.lt).trans h.qb, Row.below h.row hb, h.lb.below hb h.lb.lt, h.op.below hb, h.ap⟩
theorem TI.put {W wr : World} {gv cv qv : Value} {first last : Nat × Nat} {N mbk b7 b8 b9 : Nat} {C : Came} {Q : List (Nat × Nat)} {ms : List Nat} (h : TI W wr gv cv first last N mbk b7 b8 b9 C Q qv ms) {l : Nat} {o : Obj} (o' : Obj) (hl : wr.heap[l]? = some o) (ho : o.isCells = false) (hlN : mbk < l) (hms : ∀ D ∈ ms, D < l) :
    TI W (wr.putObj l o') gv cv first last N mbk b7 b8 b9 C Q qv ms := by
  have hot : ∀ b x, wr.heap[b]? = some x → b ≠ l → (wr.putObj l o').heap[b]? = some x := fun b x hb hne => (World.putObj_heap_other (by omega)).trans hb
  have hN := h.hN
  have hge := h.ge
  refine ⟨h.bel.grown (grownBy_putObj' wr l o') h.bel.size (fun j e => by cases e; omega), h.hN, h.ge, hot _ _ h.g (by omega), hot _ _ h.c (by omega), hot _ _ h.f (by omega), hot _ _ h.mb ?_, h.mp.block ((World.putObj_heap_other (by omega))), hot _ _ h.qb ?_, ownsRow_putObj h.row o' hl ho, hot _ _ h.lb ?_, h.op.keeps fun D hD => World.putObj_heap_other (by have := hms D hD; omega), h.ap⟩
  · rintro rfl; rw [h.mb] at hl; cases hl; cases ho
  · rintro rfl; rw [h.qb] at hl; cases hl; cases ho
  · rintro rfl; have := h.lb; unfold Blk at this; rw [this] at hl; cases hl; cases ho
theorem AMap.ne_cells {w : World} {m b : Nat} {kt : TypeId} {K : Type} {enc : K → Value} {L : List (K × Value)} (h : AMap w m kt enc L) {cs : Array Value} {t : TypeId} {f : Nat × Nat} (hb : w.heap[b]? = some (.cells cs t f)) : b ≠ m := by
  rintro rfl
  obtain ⟨es, clock, hm, _⟩ := h.at'
  rw [hb] at hm; cases hm
theorem row_ne_map {w : World} {m base : Nat} {kt e : TypeId} {sz n : Nat} {K : Type} {enc : K → Value} {L : List (K × Value)} {v : Value} {xs : List Value} (h : AMap w m kt enc L) (hr : w.ownsRow base e sz v n xs) : some m ≠ v.ownBlock := by
  rcases hr.2 with ⟨rfl, _⟩ | ⟨g, cap, cur, rfl, _, hgb, _⟩
  · simp [Value.ownBlock]
  · simp only [Value.ownBlock, ne_eq, Option.some.injEq]
    exact fun e => h.ne_cells hgb e.symm
theorem TI.putm {W wr w' : World} {gv cv qv : Value} {first last : Nat × Nat} {N mbk b7 b8 b9 : Nat} {C : Came} {Q : List (Nat × Nat)} {ms : List Nat} (h : TI W wr gv cv first last N mbk b7 b8 b9 C Q qv ms) (hg : wr.grownBy w' (some mbk)) {C' : Came} (hM : MapC w' mbk C') : TI W w' gv cv first last N mbk b7 b8 b9 C' Q qv ms := by
  have hk : ∀ b x, wr.heap[b]? = some x → b ≠ mbk → w'.heap[b]? = some x := fun b x hb hne => (hg.block b (Array.getElem?_eq_some_iff.1 hb).1 (by simpa using hne)).trans hb
  have hge := h.ge
  have hN := h.hN
  refine ⟨h.bel.grown hg h.bel.size (fun j e => by cases e; omega), h.hN, h.ge, hk _ _ h.g (h.mp.ne_cells h.g), hk _ _ h.c (h.mp.ne_cells h.c), hk _ _ h.f (h.mp.ne_cells h.f), hk _ _ h.mb (h.mp.ne_cells h.mb), hM, hk _ _ h.qb (h.mp.ne_cells h.qb), ?_, hk _ _ h.lb (h.mp.ne_cells h.lb), ?_, h.ap⟩
  · refine h.row.kept hg (.inr ?_)
    exact fun e => row_ne_map h.mp h.row e.symm
  · refine h.op.grown hg (fun r e => ?_)
    cases e
    obtain ⟨es, clock, hm, _⟩ := h.mp.at'
    exact ⟨_, hm, fun ds e => by cases e⟩
theorem grownBy_setN (w : World) (b i : Nat) (v : Value) : w.grownBy (w.setCell ⟨b, i, none⟩ v) (some b) := by
  refine ⟨rfl, rfl, rfl, by simp, fun k _ hne => ?_⟩
  show (w.heap.modify b _)[k]? = _
  rw [Array.getElem?_modify, if_neg (fun e => hne (by rw [e]))]
theorem TI.setl {W wr : World} {gv cv qv : Value} {first last : Nat × Nat} {N mbk b7 b8 b9 : Nat} {C : Came} {Q : List (Nat × Nat)} {ms : List Nat} (h : TI W wr gv cv first last N mbk b7 b8 b9 C Q qv ms) (nx : Nat × Nat) : TI W ((wr.setCell ⟨b9, 0, none⟩ (.int .i64 nx.1)).setCell ⟨b9, 1, none⟩ (.int .i64 nx.2)) gv cv first nx N mbk b7 b8 b9 C Q qv ms := by
  have hg : wr.grownBy ((wr.setCell ⟨b9, 0, none⟩ (.int .i64 nx.1)).setCell ⟨b9, 1, none⟩ (.int .i64 nx.2)) (some b9) := by
    have g1 := grownBy_setN wr b9 0 (.int .i64 nx.1)
    have g2 := grownBy_setN (wr.setCell ⟨b9, 0, none⟩ (.int .i64 nx.1)) b9 1 (.int .i64 nx.2)
    exact ⟨g2.os.trans g1.os, g2.tape.trans g1.tape, g2.output.trans g1.output, Nat.le_trans g1.size g2.size, fun i hi hne => (g2.block i (Nat.lt_of_lt_of_le hi g1.size) hne).trans (g1.block i hi hne)⟩
  have hk : ∀ b x, wr.heap[b]? = some x → b ≠ b9 → ((wr.setCell ⟨b9, 0, none⟩ (.int .i64 nx.1)).setCell ⟨b9, 1, none⟩ (.int .i64 nx.2)).heap[b]? = some x := fun b x hb hne => (hg.block b (Array.getElem?_eq_some_iff.1 hb).1 (by simpa using hne)).trans hb
  have hge := h.ge
  have hN := h.hN
  have hty : ∀ b v t, Boxed wr b t v → b ≠ b9 := by
    rintro b v t hb rfl
    have := h.lb
    unfold Blk at this
    unfold Boxed at hb
    rw [hb] at this; cases this
  refine ⟨h.bel.grown hg h.bel.size (fun j e => by cases e; omega), h.hN, h.ge, hk _ _ h.g (hty _ _ _ h.g), hk _ _ h.c (hty _ _ _ h.c), hk _ _ h.f (by omega), hk _ _ h.mb (hty _ _ _ h.mb), h.mp.block (hg.block _ h.mp.lt (fun e => h.mp.ne_cells h.lb (by cases e; rfl))), hk _ _ h.qb (hty _ _ _ h.qb), h.row.kept hg (.inr fun e => h.ap e.symm), (h.lb.set 0 _).set 1 _, h.op.grown hg (fun r e => by
    cases e
    exact ⟨_, h.lb, fun ds e => by cases e⟩), h.ap⟩
theorem pairCells_snoc (l : List (Nat × Nat)) (p : Nat × Nat) : pairCells (l ++ [p]) = pairCells l ++ [.int .i64 p.1, .int .i64 p.2] := by unfold pairCells; simp
theorem TI.app {W wr w' : World} {gv cv qv : Value} {first last : Nat × Nat} {N mbk b7 b8 b9 : Nat} {C : Came} {Q : List (Nat × Nat)} {ms : List Nat} (h : TI W wr gv cv first last N mbk b7 b8 b9 C Q qv ms) (tmp : Obj) (nx : Nat × Nat) {qv' : Value} (hown : w'.ownsRow N 64 2 qv' (Q.length + 1) (pairCells Q ++ [.int .i64 nx.1, .int .i64 nx.2])) (hg : (wr.alloc tmp).grownBy w' qv.ownBlock) (hap : some b9 ≠ qv'.ownBlock) :
    TI W (w'.setCell ⟨b8, 0, none⟩ qv') gv cv first last N mbk b7 b8 b9 C (Q ++ [nx]) qv' ms := by
  have hrA := h.row.alloc tmp
  have hge := h.ge
  have hN := h.hN
  have hk : ∀ b x, wr.heap[b]? = some x → some b ≠ qv.ownBlock → w'.heap[b]? = some x := fun b x hb hne => by
    have hlt := (Array.getElem?_eq_some_iff.1 hb).1
    exact (hg.block b (by simp; omega) hne).trans ((Below.heap_alloc _ _ _ hlt).trans hb)
  have hbx : ∀ b v t, Boxed wr b t v → t ≠ 64 → some b ≠ qv.ownBlock := fun b v t hb ht => hb.not_row ht h.row
  have hlo : ∀ b, b < N → some b ≠ qv.ownBlock := fun b hb e => by have := (h.row.lt b e.symm).1; omega
  have hsz : wr.heap.size ≤ w'.heap.size := Nat.le_trans (by simp) hg.size
  have q8 : Boxed w' b8 33 qv := hk _ _ h.qb (hbx _ _ _ h.qb (by decide))
  have hty : ∀ b v t, Boxed wr b t v → t ≠ 33 → b ≠ b8 := by
    rintro b v t hb ht rfl
    have := h.qb
    unfold Boxed at this hb
    rw [hb] at this; cases this; exact ht rfl
  have hset : ∀ b x, w'.heap[b]? = some x → b ≠ b8 → (w'.setCell ⟨b8, 0, none⟩ qv').heap[b]? = some x := fun b x hb hne => by
    show (w'.heap.modify b8 _)[b]? = _
    rw [Array.getElem?_modify, if_neg (by omega)]; exact hb
  have hb0 : Below W.heap.size W w' := (h.bel.alloc h.bel.size tmp).grown hg (by simp; have := h.bel.size; omega) (fun j e => by have := (h.row.lt j e).1; omega)
  have hM : MapC w' mbk C := (h.mp.alloc tmp).kept hg (row_ne_map (h.mp.alloc tmp) hrA)
  have hl9 : Blk w' b9 _ 64 := hk _ _ h.lb h.ap
  refine ⟨hb0.setCell (p := ⟨b8, 0, none⟩) (show W.heap.size ≤ b8 by omega) qv', hN, hge, hset _ _ (hk _ _ h.g (hlo _ (by omega))) (hty _ _ _ h.g (by decide)), hset _ _ (hk _ _ h.c (hlo _ (by omega))) (hty _ _ _ h.c (by decide)), hset _ _ (hk _ _ h.f (hlo _ (by omega))) (by omega), hset _ _ (hk _ _ h.mb (hbx _ _ _ h.mb (by decide))) (hty _ _ _ h.mb (by decide)), hM.set qv' (fun e => ?_), q8.set qv', ?_, hset _ _ hl9 ?_, ?_, hap⟩
  · exact hM.ne_cells q8 e.symm
  · rw [pairCells_snoc, List.length_append]
    exact hown.kept (grownBy_setCell' w' b8 qv') (.inr fun e => q8.not_row (by decide) hown e.symm)
  · rintro rfl
    unfold Blk at hl9
    unfold Boxed at q8
    rw [hl9] at q8; cases q8
  · have h1 := (h.op.below ((Below.refl _ _).alloc (Nat.le_refl _) tmp)).grown hg (fun r e => by
      rcases hrA.2 with ⟨rfl, _⟩ | ⟨g, cap, cur, rfl, _, hgb, _⟩
      · simp [Value.ownBlock] at e
      · simp only [Value.ownBlock, Option.some.injEq] at e
        subst e
        exact ⟨_, hgb, fun ds e => by cases e⟩)
    exact h1.grown (grownBy_setCell' w' b8 qv') (fun r e => by cases e; exact ⟨_, q8, fun ds e => by cases e⟩)
theorem row2_cell {w : World} {base : Nat} {o : Option Addr} {n c : Nat} {l : List (Nat × Nat)} (h : w.ownsRow base 64 2 (.slice o n c) l.length (pairCells l)) (k : Nat) (hk : k < l.length) :
    ∃ g, o = some ⟨g, 0, none⟩ ∧ n = l.length ∧ w.cell? ⟨g, k * 2, none⟩ = some (.int .i64 l[k].1) ∧ w.cell? ⟨g, k * 2 + 1, none⟩ = some (.int .i64 l[k].2) := by
  have h' := h
  have hp : ∀ (l : List (Nat × Nat)) (k : Nat) (hk : k < l.length), (pairCells l)[k * 2]? = some (.int .i64 l[k].1) ∧ (pairCells l)[k * 2 + 1]? = some (.int .i64 l[k].2) := by
    intro l
    induction l with
    | nil => intro k hk; simp at hk
    | cons p l ih =>
      intro k hk
      cases k with
      | zero => exact ⟨rfl, rfl⟩
      | succ k =>
        obtain ⟨e1, e2⟩ := ih k (by simpa using hk)
        unfold pairCells at e1 e2 ⊢
        rw [List.flatMap_cons, show (k + 1) * 2 = k * 2 + 2 by omega]
        exact ⟨e1, e2⟩
  obtain ⟨e1, e2⟩ := hp l k hk
  rcases h.2 with ⟨h0, h1⟩ | ⟨g, cap, cur, h0, _⟩
  · omega
  · cases h0
    refine ⟨g, rfl, rfl, ?_, ?_⟩
    · rw [World.ownsRow.cellAt h' (k * 2) (by omega), e1]
    · rw [World.ownsRow.cellAt h' (k * 2 + 1) (by omega), e2]
end Go.Proofs.YteaokkaidcbdlaaGreatDoor

