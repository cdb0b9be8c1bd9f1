/- The iterator over the pieces, and what a range over it does: it comes to the source's end, or gives up. -/
import Derived.Test.YteknngncnbfbnaaGreatDoorNe
import Derived.RangeFuncNested
import Derived.RangeFuncBound
import Derived.RangeFuncCalls
import Derived.RangeFuncLeaves
import Derived.RangeFuncBox
import Derived.Shelf.Abstract
import Derived.WalkKit
import Derived.OwnWalkIn
import Derived.TacticsInMore
import Derived.LoopNIn
import Derived.LoopIn
import Derived.RecoverIn
import Derived.Maps.AppendAt
import Derived.Outline
import Derived.Handy
namespace Go.Proofs.YteknngncnbfbnaaGreatDoor
open Go Go.RowKit Go.Shelf
attribute [local go_sem] Oper.semAt_some

abbrev Bit := Nat × ByteArray
def encB (x : Bit) : Value := .agg #[.int .u8 x.1, .string x.2]
/-- THE PIECES pre MAKE UP THE BYTES UP TO k. -/
inductive Run (s : ByteArray) : Nat → List Bit → Prop where
  | nil : Run s 0 []
  | snoc {k : Nat} {pre : List Bit} {kd n : Nat} (h : Run s k pre) (hf : firstL ((bs s).drop k) = .ok kd n) : Run s (k + n) (pre ++ [(kd, s.extract k (k + n))])
theorem Run.length_le {s : ByteArray} {k : Nat} {pre : List Bit} (h : Run s k pre) : pre.length ≤ k := by
  induction h with
  | nil => exact Nat.le_refl _
  | snoc _ hf ih => have := (firstL_ok hf).2.2.1; simp; omega
def leftS (b : Nat) (s : ByteArray) (w : World) : Nat := s.size - (match w.cell? ⟨b, 1, none⟩ with | some v => (intOf v).toNat | none => 0)
theorem leftS_eq {w : World} {b : Nat} {s : ByteArray} {k fr : Nat} {m g : Value} (h : Sc w b s k fr m g) : leftS b s w = s.size - k := by
  unfold leftS; rw [cell1 h]; simp [intOf]

/-- How the iterator ends: all have come, or it gives up. -/
def PcsEnd (s : ByteArray) (J : List Bit → World → Prop) (e : Ending) (W' : World) : Prop :=
  (∃ v xs, e = .returned v ∧ Run s s.size xs ∧ J xs W') ∨
  (∃ (x : Nat) (k : Nat) (pre : List Bit), isFault x (1 + nl ((bs s).take k)) e ∧ k < s.size ∧ Run s k pre ∧ firstL ((bs s).drop k) = .bad x ∧ J pre W')
set_option maxRecDepth 100000 in
set_option maxHeartbeats 2000000 in
theorem pieces_in (l : Nat) (b : Nat) (s : ByteArray) (bm bg : Nat) (hs : s.size ≤ 20000) (J : List Bit → World → Prop)
    (hJ : ∀ pre W W' k fr, J pre W → Scn W b s k fr bm bg → Sk b W W' → J pre W')
    (hY : ∀ pre x W k fr, J pre W → pre.length < 20000 → Scn W b s k fr bm bg → YieldAt Fence.wide 0 Tryz.prog l #[encB x] W fun e W' => e = .returned (.bool true) ∧ J (pre ++ [x]) W' ∧ Scn W' b s k fr bm bg)
    (W : World) (h0 : J [] W) (hS : Scn W b s 0 0 bm bg) :
    CallsIn Fence.wide 1 Tryz.prog 65 #[.pointer (some ⟨b, 0, none⟩), .func (.yield l) #[] #[]] W (PcsEnd s J) := by
  refine callsIn_of_wp Tryz.func65 rfl trivial ?_ rfl
  simp only [Tryz.ntmps65, List.size_toArray, List.length_cons, List.length_nil, Nat.reduceAdd, Nat.reduceSub, Array.replicate_succ, Array.replicate_zero, List.push_toArray, List.append_toArray, List.nil_append, List.cons_append]
  gi_wp2
  gi_loopw [] (fun wr => ∃ k fr pre, k ≤ s.size ∧ Scn wr b s k fr bm bg ∧ Run s k pre ∧ J pre wr) (fun wr => leftS b s wr)
  case atStart => exact ⟨0, 0, [], Nat.zero_le _, hS, .nil, h0⟩
  case round =>
    obtain ⟨k, fr, pre, hk, hS1, hR, hj⟩ := hrel
    have hd := done_any b s k
    by_cases hlt : k < s.size
    · have hf : endB k s.size = false := by unfold endB; simp; omega
      rw [hf] at hd
      clear hf
      have HD := hide hd
      clear hd
      have hn := fun w => next_any b s k fr bm bg hk hs w
      unfold NextPost at hn
      cases hfl : firstL ((bs s).drop k) with
      | bad x =>
        rw [hfl] at hn
        have HN := hide hn
        have HF := Lib.hid hfl
        clear hn hfl
        gi_wp2_with (first | (refine ⟨trivial, ?_⟩; gi_at_call 85; refine (callsIn_wide.2 (unhide HD _ (cell0 hS1.sc) (cell1 hS1.sc))).mono ?_; clear HD; rintro e w2 ⟨rfl, n, rfl⟩) | (refine ⟨trivial, ?_⟩; gi_at_call 86; refine (callsIn_wide.2 (unhide HN _ (hS1.drewN n))).mono ?_; clear HN; rintro e w3 ⟨rfl, hK⟩))
        exact ⟨rfl, .inr ⟨x, k, pre, rfl, hlt, hR, HF.out, hJ _ _ _ _ _ hj hS1 ((Sk.drewN _ _ _).trans hK)⟩⟩
      | ok kd n =>
        rw [hfl] at hn
        have HN := hide hn
        have HF := Lib.hid hfl
        obtain ⟨_, _, hn1, hnl⟩ := firstL_ok hfl
        rw [List.length_drop, bs_len] at hnl
        have hpl := hR.length_le
        clear hn hfl
        have hyy : ∀ W, J pre W → Scn W b s (k + n) k bm bg → YieldAt Fence.wide 0 Tryz.prog l #[.agg #[.int .u8 kd, .string (s.extract k (k + n))]] W fun e W' => e = .returned (.bool true) ∧ J (pre ++ [(kd, s.extract k (k + n))]) W' ∧ Scn W' b s (k + n) k bm bg :=
          fun W h1 h2 => hY pre (kd, s.extract k (k + n)) W (k + n) k h1 (by omega) h2
        gi_wp2_with (first | (refine ⟨trivial, ?_⟩; gi_at_call 85; refine (callsIn_wide.2 (unhide HD _ (cell0 hS1.sc) (cell1 hS1.sc))).mono ?_; clear HD; rintro e w2 ⟨rfl, n2, rfl⟩) | (refine ⟨trivial, ?_⟩; gi_at_call 86; refine (callsIn_wide.2 (unhide HN _ (hS1.drewN n2))).mono ?_; clear HN; rintro e w3 ⟨rfl, hS3, hK⟩; obtain ⟨fn, tmps, assign, body, hy, hRd⟩ := hyy w3 (hJ _ _ _ _ _ hj hS1 ((Sk.drewN _ _ _).trans hK)) hS3))
        refine hRd.mono ?_
        rintro e W4 ⟨rfl, hj4, hS4⟩
        gi_wp2
        go_roundw
        case rel => exact ⟨k + n, k, _, by omega, hS4, hR.snoc HF.out, hj4⟩
        case measure =>
          rw [leftS_eq hS4.sc, leftS_eq hS1.sc]; omega
    · obtain rfl : k = s.size := by omega
      have hf : endB s.size s.size = true := by unfold endB; simp
      rw [hf] at hd
      clear hf
      have HD := hide hd
      clear hd
      gi_wp2_with (refine ⟨trivial, ?_⟩; gi_at_call 85; refine (callsIn_wide.2 (unhide HD _ (cell0 hS1.sc) (cell1 hS1.sc))).mono ?_; clear HD; rintro e w2 ⟨rfl, n, rfl⟩)
      go_end0
      exact .inl ⟨_, pre, rfl, hR, hJ _ _ _ _ _ hj hS1 (Sk.drewN _ _ _)⟩


theorem Scn.putObj {W : World} {b : Nat} {s : ByteArray} {k fr bm bg : Nat} (h : Scn W b s k fr bm bg) (l : Nat) (o : Obj) (hb : b < l) (hm : bm < l) (hg : bg < l) (h10 : 10 ≤ l) : Scn (W.putObj l o) b s k fr bm bg :=
  ⟨(World.putObj_heap_other (by omega)).trans h.sc, h.ws.heap (World.putObj_heap_other (by omega)), (World.putObj_heap_other (by omega)).trans h.sg, h.nem, h.neg,
    h.env.mono (fun i hi => World.putObj_heap_other (by omega)) (by simp [World.putObj]), h.ten⟩
theorem Scn.alloc {W : World} {b : Nat} {s : ByteArray} {k fr bm bg : Nat} (h : Scn W b s k fr bm bg) (o : Obj) : Scn (W.alloc o) b s k fr bm bg := h.go (Sk.alloc _ _ _) (Blk.alloc h.sc o)

/-- A RANGE OVER THE PIECES: the scanner keeps its place in cells of its own, and may give up. -/
theorem wpIn_rangePieces {g : Operand} {ps : Array Tmp} {assign body : Code} {Q : Exit → Act → World → Prop} {a : Act} {w1 : World} {b : Nat} {s : ByteArray} {bm bg : Nat} (hs : s.size ≤ 20000)
    (hg : a.eval g = .func (.func 65) #[.pointer (some ⟨b, 0, none⟩)] #[]) (hps : ps.size = 1) (hS : Scn w1 b s 0 0 bm bg)
    (I : List Bit → World → Prop) (h0 : I [] w1)
    (hIa : ∀ pre W o, I pre W → I pre (W.alloc o))
    (hIp : ∀ pre W l o o', I pre W → w1.heap.size ≤ l → W.heap[l]? = some o → o.isCells = false → I pre (W.putObj l o'))
    (hIs : ∀ pre W W' k fr, I pre W → Scn W b s k fr bm bg → Sk b W W' → I pre W')
    (Ax : Bit → Act → World → Prop) (hAx : ∀ x a' W l o o', Ax x a' W → w1.heap.size ≤ l → W.heap[l]? = some o → o.isCells = false → Ax x a' (W.putObj l o'))
    (hassign : ∀ (l : Nat) (pre : List Bit) (x : Bit) (W : World) (k fr : Nat) (K : Act → World → Prop), I pre W → Scn W b s k fr bm bg →
      (∀ a' W', KeepsFrom w1.heap.size W W' → I pre W' → Scn W' b s k fr bm bg → Ax x a' W' → K a' W') →
      assign.wpIn (Fence.wide.inRound l) 0 Tryz.prog (Exit.then K (fun _ _ _ => False)) { tmps := (ps.zip #[encB x]).foldl (fun t (p, v) => t.setIfInBounds p v) a.tmps, defers := [] } W)
    (hbody : ∀ (l : Nat) (pre : List Bit) (x : Bit) (a' : Act) (W : World) (k fr : Nat), I pre W → Scn W b s k fr bm bg → Ax x a' W → pre.length < 20000 →
      body.wpIn (Fence.wide.inRound l) 0 Tryz.prog (fun e _ W3 => e = .normal ∧ KeepsFrom w1.heap.size W W3 ∧ I (pre ++ [x]) W3 ∧ Scn W3 b s k fr bm bg) a' W)
    (hdone : ∀ (xs : List Bit) (W : World), Run s s.size xs → I xs W → W.heap[w1.heap.size]? = some (.deferred (some [])) → Q .normal { a with defers := { target := .collected w1.heap.size, args := #[] } :: a.defers } W)
    (hfail : ∀ (x k : Nat) (pre : List Bit) (W : World), k < s.size → Run s k pre → firstL ((bs s).drop k) = .bad x → I pre W → W.heap[w1.heap.size]? = some (.deferred (some [])) →
      Q (.panic [{ v := .iface 34 (.agg #[.int .i64 x, .int .i64 (1 + nl ((bs s).take k) : Nat)]), recovered := false }]) { a with defers := { target := .collected w1.heap.size, args := #[] } :: a.defers } W) :
    (Code.rangeFunc g ps assign body).wpIn Fence.wide 2 Tryz.prog Q a w1 := by
  have hb : b < w1.heap.size := Blk.lt hS.sc
  have hm : bm < w1.heap.size := hS.ws.lt
  have hgl : bg < w1.heap.size := hS.sg.lt
  have h10 : 10 ≤ w1.heap.size := hS.env.sz
  refine wpIn_rangeFunc ?_
  intro fn hfn
  obtain ⟨rec, hrec⟩ : ∃ rec : LoopState → Option Code → Loop, rec = fun st pe => { state := st, pending := pe, fn, tmps := a.tmps, params := ps, assign, body, defers := w1.heap.size } := ⟨_, rfl⟩
  obtain ⟨W1, hW1⟩ : ∃ W1, (w1.alloc (.deferred (some []))).alloc (.loop (rec .ready none)) = W1 := ⟨_, rfl⟩
  have hL1 : W1.heap[w1.heap.size + 1]? = some (.loop (rec .ready none)) := by
    rw [← hW1]; have := World.alloc_heap_new (w1.alloc (.deferred (some []))) (.loop (rec .ready none)); rwa [World.size_alloc] at this
  have hK1 : W1.heap[w1.heap.size]? = some (.deferred (some [])) := by
    rw [← hW1]; exact (Below.heap_alloc _ _ _ (by simp)).trans (World.alloc_heap_new w1 _)
  have hI1 : I [] W1 := by rw [← hW1]; exact hIa _ _ _ (hIa _ _ _ h0)
  have hS1 : Scn W1 b s 0 0 bm bg := by rw [← hW1]; exact (hS.alloc _).alloc _
  refine ⟨w1.heap.size + 1, [{ target := .collected w1.heap.size, args := #[] }], W1, { target := .fn (.func 65) #[], args := #[.pointer (some ⟨b, 0, none⟩), .func (.yield (w1.heap.size + 1)) #[] #[]] }, W1, 65,
    #[.pointer (some ⟨b, 0, none⟩), .func (.yield (w1.heap.size + 1)) #[] #[]], W1, ?_, ?_, ?_, ?_, (fun h => by cases h), ?_⟩
  · rw [← hW1, hrec]; exact run_enterLoop_outer _ _ _ _ _
  · simp only [resolve, hg]
    simp [go_sem]
  · intro _ _; trivial
  · simp [invoke, go_sem]
  · refine (pieces_in (w1.heap.size + 1) b s bm bg hs (fun pre W => I pre W ∧ W.heap[w1.heap.size + 1]? = some (.loop (rec .ready none)) ∧ W.heap[w1.heap.size]? = some (.deferred (some [])))
      (fun pre W W' k fr hi hsc hsk => ⟨hIs _ _ _ _ _ hi.1 hsc hsk, (hsk.block _ (Array.getElem?_eq_some_iff.1 hi.2.1).1 (by omega)).trans hi.2.1, (hsk.block _ (Array.getElem?_eq_some_iff.1 hi.2.2).1 (by omega)).trans hi.2.2⟩)
      ?_ W1 ⟨hI1, hL1, hK1⟩ hS1).mono ?_
    · -- ONE ROUND
      rintro pre x W k fr ⟨hi, hl, hk⟩ hlen hsc
      have hlt : w1.heap.size + 1 < W.heap.size := (Array.getElem?_eq_some_iff.1 hl).1
      have hy := run_yield (P := Tryz.prog) (args := #[encB x]) hl (by rw [hrec]; exact hps.symm)
      rw [hrec] at hy
      refine ⟨fn, _, assign, body, hy, roundIn_of_wpIn hfn (hassign _ pre x W k fr _ hi hsc ?_)⟩
      clear hy
      intro a' Wa hkfa hia hsa hax
      have hla := hkfa.same _ _ (by omega) hl rfl
      have hka := hkfa.same _ _ (Nat.le_refl _) hk rfl
      have hlta : w1.heap.size + 1 < Wa.heap.size := (Array.getElem?_eq_some_iff.1 hla).1
      refine ⟨_, run_beginRound hla (by rw [hrec]), ?_⟩
      have hl2 : (Wa.putObj (w1.heap.size + 1) (.loop { rec .ready none with state := .busy })).heap[w1.heap.size + 1]? = some (.loop { rec .ready none with state := .busy }) := World.putObj_heap_same hlta
      have hk2 : (Wa.putObj (w1.heap.size + 1) (.loop { rec .ready none with state := .busy })).heap[w1.heap.size]? = some (.deferred (some [])) := (World.putObj_heap_other (by omega)).trans hka
      refine wpIn_mono (hbody _ pre x a' _ k fr (hIp _ _ _ _ _ hia (by omega) hla rfl) (hsa.putObj _ _ (by omega) (by omega) (by omega) (by omega)) (hAx _ _ _ _ _ _ hax (by omega) hla rfl) hlen) ?_
      rintro e a3 W3 ⟨rfl, hk3, hi3, hs3⟩
      have hl3 := hk3.same _ _ (by omega) hl2 rfl
      have hr := run_endRound (P := Tryz.prog) none hl3
      rw [hrec] at hr
      have hl3' := hl3
      rw [hrec] at hl3'
      refine ⟨_, _, hr, rfl, ⟨hIp _ _ _ _ _ hi3 (by omega) hl3' rfl, ?_, ?_⟩, hs3.putObj _ _ (by omega) (by omega) (by omega) (by omega)⟩
      · rw [hrec]; exact World.putObj_heap_same (Array.getElem?_eq_some_iff.1 hl3).1
      · exact (World.putObj_heap_other (by omega)).trans (hk3.same _ _ (Nat.le_refl _) hk2 rfl)
    · -- BEHIND THE ITERATOR
      rintro e W2 (⟨v, xs, rfl, hR, hi, hl, hk⟩ | ⟨x, k, pre, rfl, hlt, hR, hf, hi, hl, hk⟩)
      · exact ⟨none, _, by have := run_endLoop (P := Tryz.prog) hl (by rw [hrec]; simp); rw [hrec] at this; exact this, hdone xs _ hR (hIp _ _ _ _ _ hi (by omega) hl rfl) ((World.putObj_heap_other (by omega)).trans hk)⟩
      · exact hfail x k pre W2 hlt hR hf hi hk
end Go.Proofs.YteknngncnbfbnaaGreatDoor
