/- Pieces: what it hands back for every source: its pieces, or its fault; strings.asciiSpace is taken as laid, and of bytealg.MaxLen only that it holds an int. -/
import Derived.Test.YteknngncnbfbnaaGreatDoorPi
import Derived.Test.YteknngncnbfbnaaGreatDoorGa
import Derived.RangeFuncNested
import Derived.RangeFuncBound
import Derived.RangeFuncCalls
import Derived.RangeFuncLeaves
import Derived.RangeFuncBox
import Derived.Shelf.Abstract
import Derived.WalkKit
import Derived.OwnWalkIn
import Derived.TacticsInMore
import Derived.LoopNIn
import Derived.LoopIn
import Derived.RecoverIn
import Derived.Maps.AppendAt
import Derived.Outline
import Derived.Handy
namespace Go.Proofs.YteknngncnbfbnaaGreatDoor
open Go Go.RowKit Go.Shelf
attribute [local go_sem] Oper.semAt_some


/-- How pieces lie in memory. -/
def flatB (xs : List Bit) : List Value := xs.flatMap fun x => [.int .u8 x.1, .string x.2]
def Held (w : World) (base : Nat) (v : Value) (xs : List Bit) : Prop := w.ownsRow base 38 2 v xs.length (flatB xs) ∧ (v = .slice none 0 0 ↔ xs = [])
/-- What Pieces hands back, told the pieces, the error and its line. -/
def PcsPost (w : World) (xs : List Bit) (x l : Nat) (e : Ending) (w' : World) : Prop :=
  ∃ v, e = .returned (.tuple #[v, .agg #[.int .i64 x, .int .i64 l]]) ∧ Held w' w.heap.size v xs ∧ Below w.heap.size w w'
set_option maxRecDepth 100000 in
set_option maxHeartbeats 2000000 in
theorem pieces_long (s : ByteArray) (hs : 20000 < s.size) (w : World) : Calls Tryz.prog 29 #[.string s] w (PcsPost w [] 2 0) := by
  refine (callsIn_wide (n := 2)).1 ?_
  refine callsIn_of_wp_marks Tryz.func29 rfl trivial ?_ rfl
  simp only [Tryz.ntmps29, List.size_toArray, List.length_cons, List.length_nil, Nat.reduceAdd, Nat.reduceSub, Array.replicate_succ, Array.replicate_zero, List.push_toArray, List.append_toArray, List.nil_append, List.cons_append]
  gi_wp2
  refine ⟨.tuple #[.slice none 0 0, .agg #[.int .i64 2, .int .i64 0]], ?_, .slice none 0 0, rfl, ⟨World.ownsRow_nil _ _ _ _, by simp⟩, (Below.refl _ _).alloc (Nat.le_refl _) _⟩
  simp [results, Tryz.results29, go_sem]
theorem info38 : (Tryz.prog.info? 38).map (fun i => (i.zero, i.size, i.bytes)) = some (some (.agg #[.int .u8 0, .string ⟨#[]⟩]), 2, 24) := by kernel_rfl
theorem grownBy_setCell1 (W : World) (b i : Nat) (v : Value) : W.grownBy (W.setCell ⟨b, i, none⟩ v) (some b) :=
  ⟨rfl, rfl, rfl, by simp, fun k _ hk => Below.heap_setCell _ _ _ k (fun e => hk (by rw [e]))⟩
theorem add_zero_addr (g j : Nat) : (⟨g, 0, none⟩ : Addr).add j = ⟨g, j, none⟩ := by
  unfold Addr.add; split <;> simp_all
theorem row_ne {W : World} {base c size n : Nat} {cs : List Value} {t : TypeId} {v : Value} {xs : List Value} (hc : Blk W c cs t) (ht : t ≠ 38) (hr : W.ownsRow base 38 size v n xs) : some c ≠ v.ownBlock := by
  rcases hr.2 with ⟨rfl, _⟩ | ⟨g, cap, cur, rfl, _, hgb, _⟩
  · simp [Value.ownBlock]
  · intro e'
    obtain rfl : c = g := by simpa [Value.ownBlock] using e'
    unfold Blk at hc
    rw [hgb] at hc
    injection hc with hc
    injection hc with _ h2
    exact ht h2.symm
/-- What holds between two rounds of Pieces: what has been found; the fault is none; nothing older has turned. -/
def PcsI (w : World) (pre : List Bit) (W : World) : Prop :=
  (∃ v, Boxed W (w.heap.size + 1) 32 v ∧ W.ownsRow w.heap.size 38 2 v pre.length (flatB pre) ∧ (v = .slice none 0 0 ↔ pre = [])) ∧ Blk W w.heap.size [.int .i64 0, .int .i64 0] 34 ∧ Below w.heap.size w W
/-- The activation in which a round's body runs: the piece lies in a block of its own. -/
def PcsA (N : Nat) (s : ByteArray) (b : Nat) (x : Bit) (a : Act) (W : World) : Prop :=
  ∃ Bx, Blk W Bx [.int .u8 x.1, .string x.2] 38 ∧ a = ⟨#[.string s, undef, .slice none 0 0, .pointer (some ⟨N, 0, none⟩), .pointer (some ⟨N + 1, 0, none⟩), .pointer (some ⟨b, 0, none⟩), .pointer (some ⟨Bx, 0, none⟩), .string s, .int .i64 s.size,
    .bool (decide (20000 < (s.size : Int))), undef, .func (.func 63) #[] #[.pointer (some ⟨N, 0, none⟩)], .string s, .pointer (some ⟨b, 0, none⟩), .pointer (some ⟨b, 0, none⟩), .func (.func 65) #[.pointer (some ⟨b, 0, none⟩)] #[], encB x, undef, undef, undef, undef, undef, undef], []⟩
set_option maxRecDepth 100000 in
set_option maxHeartbeats 2000000 in
theorem pieces_any (s : ByteArray) (hs : s.size ≤ 20000) (w : World) (hE : Env w) : Calls Tryz.prog 29 #[.string s] w fun e w' =>
    (∃ xs, Run s s.size xs ∧ PcsPost w xs 0 0 e w') ∨ (∃ x k pre, k < s.size ∧ Run s k pre ∧ firstL ((bs s).drop k) = .bad x ∧ PcsPost w [] x (1 + nl ((bs s).take k)) e w') := by
  refine (callsIn_wide (n := 2)).1 ?_
  refine callsIn_of_wp_marks Tryz.func29 rfl trivial ?_ rfl
  have hmf : ∀ (fn : Fn) (first cap : Array Value) (w : World), (Instr.makeFunc fn first cap).run Tryz.prog w = .ok (.func fn first cap) w := fun _ _ _ _ => rfl
  simp only [Tryz.ntmps29, List.size_toArray, List.length_cons, List.length_nil, Nat.reduceAdd, Nat.reduceSub, Array.replicate_succ, Array.replicate_zero, List.push_toArray, List.append_toArray, List.nil_append, List.cons_append]
  have hE2 : Env ((w.alloc (.cells #[.int .i64 0, .int .i64 0] 34)).alloc (.cells #[.slice none 0 0] 32)) := (hE.alloc _).alloc _
  gi_wp2_with (refine ⟨trivial, ?_⟩; gi_at_call 64; refine (callsIn_wide.2 (newScanner_any s _ hE2)).mono ?_; rintro e w1 ⟨b, bm, bg, rfl, hb, hS, hB⟩)
  have hsz1 : w.heap.size + 2 ≤ w1.heap.size := by have := hB.size; simpa using this
  have hIb : b ≠ w.heap.size + 1 := by have := hb; simp at this; omega
  have hbN : w.heap.size + 2 ≤ b := by simpa using hb
  have hbB : b < w1.heap.size := Blk.lt hS.sc
  refine wpIn_rangePieces hs rfl rfl hS (PcsI w) ?i0 ?ia ?ip ?is (PcsA w.heap.size s b) ?ax ?assign ?body ?done ?fail
  case i0 =>
    refine ⟨⟨.slice none 0 0, ?_, World.ownsRow_nil _ _ _ _, by simp⟩, ?_, ?_⟩
    · have h1 : Boxed ((w.alloc (.cells #[.int .i64 0, .int .i64 0] 34)).alloc (.cells #[.slice none 0 0] 32)) (w.heap.size + 1) 32 (.slice none 0 0) := by
        have := Boxed.new (w.alloc (.cells #[.int .i64 0, .int .i64 0] 34)) 32 (.slice none 0 0)
        simpa using this
      exact (hB.block _ (by simp)).trans h1
    · have h1 : Blk ((w.alloc (.cells #[.int .i64 0, .int .i64 0] 34)).alloc (.cells #[.slice none 0 0] 32)) w.heap.size [.int .i64 0, .int .i64 0] 34 := (Blk.new w [.int .i64 0, .int .i64 0] 34).alloc _
      exact h1.below hB (by simp; omega)
    · exact (((Below.refl _ w).alloc (Nat.le_refl _) _).alloc (by simp) _).trans (hB.mono (by simp; omega))
  case ia =>
    rintro pre W o ⟨⟨v, hv, hr, hn⟩, hF, hBl⟩
    exact ⟨⟨v, hv.alloc o, hr.alloc o, hn⟩, hF.alloc o, hBl.alloc hBl.size o⟩
  case ip =>
    rintro pre W l o o' ⟨⟨v, hv, hr, hn⟩, hF, hBl⟩ hl ho hoc
    refine ⟨⟨v, ?_, ownsRow_putObj hr _ ho hoc, hn⟩, ?_, ?_⟩
    · exact (World.putObj_heap_other (by omega)).trans hv
    · exact (World.putObj_heap_other (by omega)).trans hF
    · exact hBl.grown (grownBy_putObj' W l o') hBl.size (fun j e => by cases e; omega)
  case is =>
    rintro pre W W' k fr ⟨⟨v, hv, hr, hn⟩, hF, hBl⟩ hsc hsk
    have hgb : W.grownBy W' (some b) := ⟨hsk.os, hsk.tape, hsk.output, hsk.size, fun i hi hne => hsk.block i hi (fun e => hne (by rw [e]))⟩
    refine ⟨⟨v, hv.kept hgb (by simp; omega), hr.kept hgb ?_, hn⟩, hF.sk hsk (by omega), hBl.trans ⟨hsk.os, hsk.tape, hsk.output, hsk.size, fun i hi => hsk.block i (by have := hBl.size; omega) (by omega)⟩⟩
    rcases hr.2 with ⟨rfl, _⟩ | ⟨g, cap, cur, rfl, _, hgb', _⟩
    · exact .inl rfl
    · refine .inr fun e' => ?_
      obtain rfl : g = b := by simpa [Value.ownBlock] using e'
      have := hsc.sc
      unfold Sc Blk at this
      rw [hgb'] at this
      simp at this
  case ax =>
    rintro x a' W l o o' ⟨Bx, hX, rfl⟩ hl ho hoc
    refine ⟨Bx, (World.putObj_heap_other (fun e => ?_)).trans hX, rfl⟩
    subst e
    unfold Blk at hX
    rw [ho] at hX
    cases hX
    cases hoc
  case assign =>
    intro l pre x W k fr K hi hsc hK
    unfold encB
    gi_wp2
    refine hK _ _ ((KeepsOthers.alloc _ _).from _) ?_ (hsc.alloc _) ⟨W.heap.size, Blk.new W [.int .u8 x.1, .string x.2] 38, rfl⟩
    obtain ⟨⟨v, hv, hr, hn⟩, hF, hBl⟩ := hi
    exact ⟨⟨v, hv.alloc _, hr.alloc _, hn⟩, hF.alloc _, hBl.alloc hBl.size _⟩
  case body =>
    rintro l pre x a' W k fr ⟨⟨v, hv, hr, hn⟩, hF, hBl⟩ hsc ⟨Bx, hX, rfl⟩ hlen
    have hvc := hv.cell
    have hvz := hv.frozen
    have hx0 := hX.cell 0
    have hx1 := hX.cell 1
    have HN := Lib.hid hn
    clear hn
    obtain ⟨i0, hi, hz0, hz1, hz2⟩ := info_parts info38
    gi_wp2_with (gi_at_builtin; refine wpListIn_append_own _ rfl _ _ 32 rfl w.heap.size 38 i0 (.agg #[.int .u8 0, .string ⟨#[]⟩]) 2 24 Tryz.underlying32 hi hz0 hz1 hz2 (by decide) (by decide) _ _ _ rfl (hr.alloc _) ⟨W.heap.size, 0, none⟩ 1 1 [.int .u8 x.1, .string x.2] rfl rfl ?c1 ?c2 (by unfold maxLen; omega) (by omega) (by have := hBl.size; simp; omega) ?_)
    case c1 =>
      intro j u hj
      rw [← hj, add_zero_addr]
      exact (Blk.new W [.int .u8 x.1, .string x.2] 38).cell j
    case c2 =>
      intro u hu
      simp at hu
      rcases hu with rfl | rfl <;> rfl
    intro v' W3 hown' hgrow _
    obtain ⟨g', cap', rfl⟩ := ownsRow_succ hown'
    obtain ⟨hv1, hv2, hr2, hk2, hb2⟩ := hv.appended (by decide) hr hBl.size (by omega) hown' hgrow
    have hc1 := hv1.cell
    have hf1 := hv1.frozen
    gi_wp2
    have hne : ∀ c cs t, Blk W c cs t → t ≠ 38 → some c ≠ v.ownBlock := fun c cs t hc ht => row_ne hc ht hr
    have heq : ∀ c, c < W.heap.size → some c ≠ v.ownBlock → c ≠ w.heap.size + 1 → (W3.setCell ⟨w.heap.size + 1, 0, none⟩ (.slice (some ⟨g', 0, none⟩) (pre.length + 1) cap')).heap[c]? = W.heap[c]? := fun c hc h1 h2 =>
      (Below.heap_setCell _ _ _ _ h2).trans ((hgrow.block c (by simp; omega) h1).trans (Below.heap_alloc _ _ _ hc))
    have hwm : some bm ≠ v.ownBlock := by
      rcases hr.2 with ⟨rfl, _⟩ | ⟨g, cap, cur, rfl, _, hgb', _⟩
      · simp [Value.ownBlock]
      · intro e'
        obtain rfl : bm = g := by simpa [Value.ownBlock] using e'
        obtain ⟨es, clock, hb0, _⟩ := hsc.ws
        rw [hgb'] at hb0
        cases hb0
    have hgN : bg ≠ w.heap.size + 1 := fun e => by
      have h1 := hsc.sg
      unfold Blk at h1
      rw [e, hv] at h1
      simp [signsL] at h1
    have hmN : bm ≠ w.heap.size + 1 := fun e => by
      obtain ⟨es, clock, hb0, _⟩ := hsc.ws
      rw [e, hv] at hb0
      cases hb0
    refine ⟨hk2.from _, ⟨⟨_, hv2, ?_, by simp⟩, ?_, hBl.trans hb2⟩, ⟨?_, hsc.ws.heap (heq bm hsc.ws.lt hwm hmN), ?_, hsc.nem, hsc.neg, hsc.env.below hb2 hE.sz, hsc.ten⟩⟩
    · have e1 : flatB (pre ++ [x]) = flatB pre ++ [.int .u8 x.1, .string x.2] := by simp [flatB]
      have e2 : (pre ++ [x]).length = pre.length + 1 := by simp
      rw [e1, e2]; exact hr2
    · exact (heq _ hF.lt (hne _ _ _ hF (by decide)) (by omega)).trans hF
    · exact (heq _ (Blk.lt hsc.sc) (hne _ _ _ hsc.sc (by decide)) hIb).trans hsc.sc
    · exact (heq _ hsc.sg.lt (hne _ _ _ hsc.sg (by decide)) hgN).trans hsc.sg
  case done =>
    rintro xs W hR ⟨⟨v, hv, hr, hn⟩, hF, hBl⟩ hD
    have hvc := hv.cell
    have HN := Lib.hid hn
    clear hn
    have hd0 := hF.cell 0
    have hd1 := hF.cell 1
    have hz0 := hF.frozen 0
    have hz1 := hF.frozen 1
    gi_wp2
    have hS0 := (hF.set 0 (.int .i64 0)).set 1 (.int .i64 0)
    have hD2 : ((W.setCell ⟨w.heap.size, 0, none⟩ (.int .i64 0)).setCell ⟨w.heap.size, 1, none⟩ (.int .i64 0)).heap[w1.heap.size]? = some (.deferred (some [])) :=
      (Below.heap_setCell _ _ _ _ (by simp; omega)).trans ((Below.heap_setCell _ _ _ _ (by simp; omega)).trans hD)
    have hr0 := (hr.kept (grownBy_setCell' W w.heap.size (.int .i64 0)) (.inr (row_ne hF (by decide) hr).symm))
    have hr1 : ((W.setCell ⟨w.heap.size, 0, none⟩ (.int .i64 0)).setCell ⟨w.heap.size, 1, none⟩ (.int .i64 0)).ownsRow w.heap.size 38 2 v xs.length (flatB xs) :=
      hr0.kept (grownBy_setCell1 _ w.heap.size 1 (.int .i64 0)) (.inr (row_ne hF (by decide) hr).symm)
    have hB1 : Below w.heap.size w ((W.setCell ⟨w.heap.size, 0, none⟩ (.int .i64 0)).setCell ⟨w.heap.size, 1, none⟩ (.int .i64 0)) := (hBl.setCell (Nat.le_refl _) _).setCell (Nat.le_refl _) _
    revert hS0 hD2 hr1 hB1
    generalize (W.setCell ⟨w.heap.size, 0, none⟩ (.int .i64 0)).setCell ⟨w.heap.size, 1, none⟩ (.int .i64 0) = Z
    intro hS0 hD2 hr1 hB1
    refine ⟨by simp, .inl ⟨_, _, rfl, run_takeDeferred hD2, ?_⟩⟩
    refine ⟨by simp, .inr ⟨(fun h => by cases h), .func 63, #[.pointer (some ⟨w.heap.size, 0, none⟩)], 63, #[.pointer (some ⟨w.heap.size, 0, none⟩)], rfl, by simp [invoke, go_sem], fun _ _ => trivial, ?_⟩⟩
    refine (gaveUp_idle ⟨w.heap.size, 0, none⟩ _).mono ?_
    rintro e u' W4 ⟨rfl, rfl, rfl⟩
    have hS2 : Blk ((Z.putObj w1.heap.size (.deferred none)).alloc (.cells #[.int .i64 0, .int .i64 0] 34)) w.heap.size [.int .i64 0, .int .i64 0] 34 := Blk.alloc ((World.putObj_heap_other (by omega)).trans hS0) _
    have hr2 : ((Z.putObj w1.heap.size (.deferred none)).alloc (.cells #[.int .i64 0, .int .i64 0] 34)).ownsRow w.heap.size 38 2 v xs.length (flatB xs) := (ownsRow_putObj hr1 _ hD2 rfl).alloc _
    have hB2 : Below w.heap.size w ((Z.putObj w1.heap.size (.deferred none)).alloc (.cells #[.int .i64 0, .int .i64 0] 34)) := by
      have h' := hB1.grown (grownBy_putObj' Z w1.heap.size (.deferred none)) hB1.size (fun j e => by cases e; omega)
      exact h'.alloc h'.size _
    revert hS2 hr2 hB2
    generalize (Z.putObj w1.heap.size (.deferred none)).alloc (.cells #[.int .i64 0, .int .i64 0] 34) = Y
    intro hS2 hr2 hB2
    have hc0 := hS2.cell 0
    have hc1 := hS2.cell 1
    refine ⟨.tuple #[v, .agg #[.int .i64 0, .int .i64 0]], ?_, .inl ⟨xs, hR, v, rfl, ⟨hr2, HN.out⟩, hB2⟩⟩
    simp [results, Tryz.results29, go_sem, hc0, hc1]
  case fail =>
    rintro x k pre W hlt hR hf ⟨_, hF, hBl⟩ hD
    obtain ⟨m, hm⟩ : ∃ m, 1 + nl ((bs s).take k) = m := ⟨_, rfl⟩
    rw [hm]
    have HM := Lib.hid hm
    clear hm
    gi_wp2
    refine ⟨by simp, .inl ⟨_, _, rfl, run_takeDeferred hD, ?_⟩⟩
    have hF2 : Blk (W.putObj w1.heap.size (.deferred none)) w.heap.size [.int .i64 0, .int .i64 0] 34 := (World.putObj_heap_other (by omega)).trans hF
    have hB2 : Below w.heap.size w (W.putObj w1.heap.size (.deferred none)) := hBl.grown (grownBy_putObj' W _ _) hBl.size (fun j e => by cases e; omega)
    refine ⟨by simp, .inr ⟨(fun h => by cases h), .func 63, #[.pointer (some ⟨w.heap.size, 0, none⟩)], 63, #[.pointer (some ⟨w.heap.size, 0, none⟩)], rfl, by simp [invoke, go_sem], fun _ _ => trivial, ?_⟩⟩
    refine (gaveUp_caught w.heap.size 0 0 x m _ hF2).mono ?_
    rintro e u' W4 ⟨rfl, rfl, rfl⟩
    have hS0 := ((hF2.alloc (.cells #[.int .i64 x, .int .i64 m] 34)).set 0 (.int .i64 x)).set 1 (.int .i64 m)
    have hB3 : Below w.heap.size w ((((W.putObj w1.heap.size (.deferred none)).alloc (.cells #[.int .i64 x, .int .i64 m] 34)).setCell ⟨w.heap.size, 0, none⟩ (.int .i64 x)).setCell ⟨w.heap.size, 1, none⟩ (.int .i64 m)) :=
      ((hB2.alloc hB2.size _).setCell (Nat.le_refl _) _).setCell (Nat.le_refl _) _
    revert hS0 hB3
    generalize (((W.putObj w1.heap.size (.deferred none)).alloc (.cells #[.int .i64 x, .int .i64 m] 34)).setCell ⟨w.heap.size, 0, none⟩ (.int .i64 x)).setCell ⟨w.heap.size, 1, none⟩ (.int .i64 m) = Y
    intro hS0 hB3
    have hc0 := hS0.cell 0
    have hc1 := hS0.cell 1
    refine ⟨.tuple #[.slice none 0 0, .agg #[.int .i64 x, .int .i64 m]], ?_, .inr ⟨x, k, pre, hlt, hR, hf, .slice none 0 0, by rw [HM.out], ⟨World.ownsRow_nil _ _ _ _, by simp⟩, hB3⟩⟩
    simp [results, Tryz.results29, go_sem, hc0, hc1]
end Go.Proofs.YteknngncnbfbnaaGreatDoor
