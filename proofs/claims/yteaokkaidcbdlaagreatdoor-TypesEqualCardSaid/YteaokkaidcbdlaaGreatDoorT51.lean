/- Part 51 of 53: the texts Zb, Zc, one behind the other. -/
import Derived.Test.YteaokkaidcbdlaaGreatDoorT29
import Derived.Test.YteaokkaidcbdlaaGreatDoorT26
import Derived.Tactics
import Derived.Tactics2
import Derived.WalkKit
import Derived.LoopTactic
import Derived.Outline
import Derived.Lib.Hide
import Derived.Handy
import Derived.KernelRfl
import Derived.Deep.LoopGhost
import Derived.CallsIn
import Derived.Deep.QuietTactic
import Derived.BigQuiet
import Derived.Deep.Draws
import Derived.WalkSpells
import Derived.Lib.Walk
import Derived.Lib.Strings
import Derived.Maps.OwnOps
import Derived.Maps.OwnSet
import Derived.Deep.RegionWith
import Derived.StillTailTactics
import Derived.WalkMore
import Derived.RangeFuncNested
import Derived.RangeFuncBound
import Derived.RangeFuncCalls
import Derived.RangeFuncLeaves
import Derived.RangeFuncBox
import Derived.Shelf.Abstract
import Derived.OwnWalkIn
import Derived.TacticsInMore
import Derived.LoopNIn
import Derived.LoopIn
import Derived.RecoverIn
import Derived.Maps.AppendAt
import Derived.RegionTactic
import Derived.ChangeAlike
import Derived.OwnWalk
import Derived.Deep.AppendLies
import Derived.Deep.DeepCutAuto
import Derived.Deep.RegionLaw
import Derived.Deep.RegionHeld3
import Derived.Laws.EntriesVeiled
import Derived.Test.YteaokkaidcbdlaaGreatDoorT28
namespace Go.Proofs.YteaokkaidcbdlaaGreatDoor
open Go Go.RowKit Go.Shelf
attribute [local go_sem] Oper.semAt_some
set_option maxRecDepth 100000 in
theorem pack66 (t : Array Value) (d : List Deferred) (hs : t.size = 64) (v0 : Value) (v1 : Value) (v4 : Value) (v5 : Value) (v22 : Value) (v23 : Value) (v24 : Value) (h0 : t.getD 0 undef = v0) (h1 : t.getD 1 undef = v1) (h4 : t.getD 4 undef = v4) (h5 : t.getD 5 undef = v5) (h22 : t.getD 22 undef = v22) (h23 : t.getD 23 undef = v23) (h24 : t.getD 24 undef = v24) :
    ∃ u : Nat → Value, (Act.mk t d) = { tmps := #[v0, v1, u 2, u 3, v4, v5, u 6, u 7, u 8, u 9, u 10, u 11, u 12, u 13, u 14, u 15, u 16, u 17, u 18, u 19, u 20, u 21, v22, v23, v24, u 25, u 26, u 27, u 28, u 29, u 30, u 31, u 32, u 33, u 34, u 35, u 36, u 37, u 38, u 39, u 40, u 41, u 42, u 43, u 44, u 45, u 46, u 47, u 48, u 49, u 50, u 51, u 52, u 53, u 54, u 55, u 56, u 57, u 58, u 59, u 60, u 61, u 62, u 63], defers := d } := by
  refine ⟨fun i => t.getD i undef, ?_⟩
  have e1 := arr_eq t 64 hs
  have e2 : ∀ f : Nat → Value, ((List.range 64).map f).toArray = #[f 0, f 1, f 2, f 3, f 4, f 5, f 6, f 7, f 8, f 9, f 10, f 11, f 12, f 13, f 14, f 15, f 16, f 17, f 18, f 19, f 20, f 21, f 22, f 23, f 24, f 25, f 26, f 27, f 28, f 29, f 30, f 31, f 32, f 33, f 34, f 35, f 36, f 37, f 38, f 39, f 40, f 41, f 42, f 43, f 44, f 45, f 46, f 47, f 48, f 49, f 50, f 51, f 52, f 53, f 54, f 55, f 56, f 57, f 58, f 59, f 60, f 61, f 62, f 63] := fun f => rfl
  rw [e2] at e1
  rw [h0, h1, h4, h5, h22, h23, h24] at e1
  rw [← e1]
set_option maxRecDepth 100000 in
theorem pack66b (t : Array Value) (d : List Deferred) (hs : t.size = 64) (v0 : Value) (v1 : Value) (v4 : Value) (v5 : Value) (v11 : Value) (v22 : Value) (v23 : Value) (v24 : Value) (h0 : t.getD 0 undef = v0) (h1 : t.getD 1 undef = v1) (h4 : t.getD 4 undef = v4) (h5 : t.getD 5 undef = v5) (h11 : t.getD 11 undef = v11) (h22 : t.getD 22 undef = v22) (h23 : t.getD 23 undef = v23) (h24 : t.getD 24 undef = v24) :
    ∃ u : Nat → Value, (Act.mk t d) = { tmps := #[v0, v1, u 2, u 3, v4, v5, u 6, u 7, u 8, u 9, u 10, v11, u 12, u 13, u 14, u 15, u 16, u 17, u 18, u 19, u 20, u 21, v22, v23, v24, u 25, u 26, u 27, u 28, u 29, u 30, u 31, u 32, u 33, u 34, u 35, u 36, u 37, u 38, u 39, u 40, u 41, u 42, u 43, u 44, u 45, u 46, u 47, u 48, u 49, u 50, u 51, u 52, u 53, u 54, u 55, u 56, u 57, u 58, u 59, u 60, u 61, u 62, u 63], defers := d } := by
  refine ⟨fun i => t.getD i undef, ?_⟩
  have e1 := arr_eq t 64 hs
  have e2 : ∀ f : Nat → Value, ((List.range 64).map f).toArray = #[f 0, f 1, f 2, f 3, f 4, f 5, f 6, f 7, f 8, f 9, f 10, f 11, f 12, f 13, f 14, f 15, f 16, f 17, f 18, f 19, f 20, f 21, f 22, f 23, f 24, f 25, f 26, f 27, f 28, f 29, f 30, f 31, f 32, f 33, f 34, f 35, f 36, f 37, f 38, f 39, f 40, f 41, f 42, f 43, f 44, f 45, f 46, f 47, f 48, f 49, f 50, f 51, f 52, f 53, f 54, f 55, f 56, f 57, f 58, f 59, f 60, f 61, f 62, f 63] := fun f => rfl
  rw [e2] at e1
  rw [h0, h1, h4, h5, h11, h22, h23, h24] at e1
  rw [← e1]
theorem results_box {fn : Func} {p : Tmp} (h : fn.results = #[.cell p 4]) (tmps : Array Value) (w : World) (g : Nat) (v : Value) (hp : tmps.getD p undef = .pointer (some ⟨g, 0, none⟩)) (hg : Boxed w g 4 v) :
    (results fn tmps).run Tryz.prog w = .ok v w := by
  have hp' : tmps[p]?.getD undef = .pointer (some ⟨g, 0, none⟩) := by simpa using hp
  have hc := hg.cell
  simp [results, h, hp', asAddr, hc, go_sem]
structure CI (W wr : World) (N rb mb m : Nat) (r : Bool) (L : List ((Int × Int) × Value)) (ms : List Nat) : Prop where
  bel : Below W.heap.size W wr
  ge : W.heap.size ≤ rb ∧ W.heap.size ≤ mb ∧ W.heap.size ≤ m ∧ rb < N ∧ mb < N ∧ m < N
  rb' : Boxed wr rb 4 (.bool r)
  mb' : Boxed wr mb 136 (.map (some m))
  mp : AMap wr m 64 prI L
  op : Open' wr N ms
  sz : N ≤ wr.heap.size
theorem CI.below {W wr w' : World} {N rb mb m : Nat} {r : Bool} {L : List ((Int × Int) × Value)} {ms : List Nat} (h : CI W wr N rb mb m r L ms) (hb : Below wr.heap.size wr w') : CI W w' N rb mb m r L ms :=
  ⟨h.bel.trans (hb.mono h.bel.size), h.ge, (hb.block _ h.rb'.lt).trans h.rb', (hb.block _ h.mb'.lt).trans h.mb', h.mp.below hb h.mp.lt, h.op.below hb, Nat.le_trans h.sz hb.size⟩
theorem CI.put {W wr : World} {N rb mb m : Nat} {r : Bool} {L : List ((Int × Int) × Value)} {ms : List Nat} (h : CI W wr N rb mb m r L ms) {l : Nat} {o : Obj} (o' : Obj) (_hl : wr.heap[l]? = some o) (_ho : o.isCells = false) (hlN : N ≤ l) (hms : ∀ D ∈ ms, D < l) : CI W (wr.putObj l o') N rb mb m r L ms := by
  have hot : ∀ b x, wr.heap[b]? = some x → b ≠ l → (wr.putObj l o').heap[b]? = some x := fun b x hb hne => (World.putObj_heap_other (by omega)).trans hb
  have hge := h.ge
  exact ⟨h.bel.grown (grownBy_putObj' wr l o') h.bel.size (fun j e => by cases e; omega), h.ge, hot _ _ h.rb' (by omega), hot _ _ h.mb' (by omega), h.mp.block ((World.putObj_heap_other (by omega))), h.op.keeps fun D hD => World.putObj_heap_other (by have := hms D hD; omega), by have := h.sz; simpa [World.putObj] using this⟩
theorem CI.setr {W wr : World} {N rb mb m : Nat} {r : Bool} {L : List ((Int × Int) × Value)} {ms : List Nat} (h : CI W wr N rb mb m r L ms) (x : Bool) : CI W (wr.setCell ⟨rb, 0, none⟩ (.bool x)) N rb mb m x L ms := by
  have hg := grownBy_setN wr rb 0 (.bool x)
  have hk : ∀ b y, wr.heap[b]? = some y → b ≠ rb → (wr.setCell ⟨rb, 0, none⟩ (.bool x)).heap[b]? = some y := fun b y hb hne => (hg.block b (Array.getElem?_eq_some_iff.1 hb).1 (by simpa using hne)).trans hb
  have hge := h.ge
  refine ⟨h.bel.grown hg h.bel.size (fun j e => by cases e; omega), h.ge, h.rb'.set _, hk _ _ h.mb' ?_, h.mp.set _ ?_, h.op.grown hg (fun r e => by cases e; exact ⟨_, h.rb', fun ds e => by cases e⟩), Nat.le_trans h.sz hg.size⟩
  · rintro rfl
    have h1 := h.rb'
    have h2 := h.mb'
    unfold Boxed at h1 h2
    rw [h1] at h2; cases h2
  · exact fun e => h.mp.ne_cells h.rb' e.symm
theorem CI.putm {W wr w' : World} {N rb mb m : Nat} {r : Bool} {L L' : List ((Int × Int) × Value)} {ms : List Nat} (h : CI W wr N rb mb m r L ms) (hg : wr.grownBy w' (some m)) (hM : AMap w' m 64 prI L') : CI W w' N rb mb m r L' ms := by
  have hk : ∀ b x, wr.heap[b]? = some x → b ≠ m → w'.heap[b]? = some x := fun b x hb hne => (hg.block b (Array.getElem?_eq_some_iff.1 hb).1 (by simpa using hne)).trans hb
  have hge := h.ge
  refine ⟨h.bel.grown hg h.bel.size (fun j e => by cases e; omega), h.ge, hk _ _ h.rb' (h.mp.ne_cells h.rb'), hk _ _ h.mb' (h.mp.ne_cells h.mb'), hM, h.op.grown hg (fun r e => ?_), Nat.le_trans h.sz hg.size⟩
  cases e
  obtain ⟨es, clock, hm, _⟩ := h.mp.at'
  exact ⟨_, hm, fun ds e => by cases e⟩
theorem CI.setc {W wr : World} {N rb mb m : Nat} {r : Bool} {L : List ((Int × Int) × Value)} {ms : List Nat} (h : CI W wr N rb mb m r L ms) : Boxed wr rb 4 (.bool r) := h.rb'
theorem CI.cons {W wr : World} {N rb mb m D : Nat} {r : Bool} {L : List ((Int × Int) × Value)} {ms : List Nat} (h : CI W wr N rb mb m r L ms) (hD : wr.heap[D]? = some (.deferred (some []))) (hN : N ≤ D) (hn : D ∉ ms) : CI W wr N rb mb m r L (D :: ms) :=
  ⟨h.bel, h.ge, h.rb', h.mb', h.mp, h.op.cons hD hN hn, h.sz⟩
structure RJ (W W' : World) (N rb mb m gb : Nat) (gv : Value) (i j : Nat) (L : List ((Int × Int) × Value)) (ms : List Nat) (l : List (Int × Int)) (p : List (Nat × Int × Int)) : Prop where
  ci : CI W W' N rb mb m false L ms
  gb' : Boxed W' gb 23 gv
  pb' : Blk W' (gb + 1) [.int .i64 i, .int .i64 j] 64
  all : ∀ x ∈ p, x.2 ∈ l
theorem RJ.below {W W' w'' : World} {N rb mb m gb i j : Nat} {gv : Value} {L : List ((Int × Int) × Value)} {ms : List Nat} {l : List (Int × Int)} {p : List (Nat × Int × Int)} (h : RJ W W' N rb mb m gb gv i j L ms l p) (hb : Below W'.heap.size W' w'') : RJ W w'' N rb mb m gb gv i j L ms l p :=
  ⟨h.ci.below hb, (hb.block _ h.gb'.lt).trans h.gb', h.pb'.below hb h.pb'.lt, h.all⟩
theorem RJ.put {W W' : World} {N rb mb m gb i j : Nat} {gv : Value} {L : List ((Int × Int) × Value)} {ms : List Nat} {l : List (Int × Int)} {p : List (Nat × Int × Int)} (h : RJ W W' N rb mb m gb gv i j L ms l p) {q : Nat} {o : Obj} (o' : Obj) (hl : W'.heap[q]? = some o) (ho : o.isCells = false) (hlN : N ≤ q) (hms : ∀ D ∈ ms, D < q) : RJ W (W'.putObj q o') N rb mb m gb gv i j L ms l p := by
  have hot : ∀ b x, W'.heap[b]? = some x → b ≠ q → (W'.putObj q o').heap[b]? = some x := fun b x hb hne => (World.putObj_heap_other (by omega)).trans hb
  refine ⟨h.ci.put o' hl ho hlN hms, hot _ _ h.gb' ?_, hot _ _ h.pb' ?_, h.all⟩
  · rintro rfl; rw [h.gb'] at hl; cases hl; cases ho
  · rintro rfl; have := h.pb'; unfold Blk at this; rw [this] at hl; cases hl; cases ho
theorem oneP_no {G : List TyD} {l : List (Int × Int)} {p : Int × Int} (h : idxB G.length p.1 = false ∨ idxB G.length p.2 = false ∨ agP G p = false ∨ ∃ q ∈ refP G p, q ∉ l) : oneP G l p = false := by
  rw [Bool.eq_false_iff]
  intro e
  obtain ⟨h1, h2, h3, h4⟩ := oneP_iff.1 e
  rcases h with h | h | h | ⟨q, hq, hn⟩
  · rw [h1] at h; cases h
  · rw [h2] at h; cases h
  · rw [h3] at h; cases h
  · exact hn (h4 q hq)
theorem closed_leave {W wr : World} {N rb mb m : Nat} {r : Bool} {L : List ((Int × Int) × Value)} {ms : List Nat} {tmps : Array Value} {R : Ending → World → Prop} (h : CI W wr N rb mb m r L ms) (hp : tmps.getD 4 undef = .pointer (some ⟨rb, 0, none⟩)) (hN : W.heap.size ≤ N)
    (hR : ∀ w', Below W.heap.size W w' → R (.returned (.bool r)) w') : LeavesInM Fence.wide 2 Tryz.prog Tryz.f66 tmps R (marks ms) .returning wr := by
  refine leaves_marks ms _ h.op.at' h.op.nodup ?_
  have hsz : ∀ (ms : List Nat) (w : World), (∀ D ∈ ms, N ≤ D) → Boxed w rb 4 (.bool r) → Boxed (shut w ms) rb 4 (.bool r) := by
    intro ms
    induction ms with
    | nil => intro w _ h; exact h
    | cons D ms ih =>
      intro w hD hb
      refine ih _ (fun E hE => hD E (by simp [hE])) ?_
      exact (World.putObj_heap_other (by have := hD D (by simp); have := h.ge; omega)).trans hb
  refine ⟨_, results_box rfl _ _ rb (.bool r) hp (hsz ms wr h.op.ge h.rb'), hR _ ?_⟩
  exact shut_below (Nat.le_refl _) ms _ (fun D hD => Nat.le_trans hN (h.op.ge D hD)) h.bel.size h.bel
set_option maxRecDepth 100000 in
set_option maxHeartbeats 16000000 in
theorem isClosed_any (og : Option Addr) (cap : Nat) (G : List TyD) (vl : Value) (l : List (Int × Int)) (W : World) (hG : GrAt W (.slice og G.length cap) G) (hl : SliceOf 2 (PairAt W) vl l) (hok : ∀ p ∈ l, okI p.1 ∧ okI p.2) (hlen : G.length ≤ 410) (hR : ∀ t ∈ G, (refsOf t).length ≤ 100000) (hz : ∀ t ∈ G, ∀ x ∈ refsOf t, 0 ≤ x ∧ x < G.length) (hll : l.length ≤ 2000)
    (hag : ∀ p : Nat × Nat, p.1 < G.length → p.2 < G.length → agB G p = true → (refsOf (G.getD p.1 default)).length ≤ (refsOf (G.getD p.2 default)).length) :
    Calls Tryz.prog 66 #[.slice og G.length cap, vl] W fun e w' => e = .returned (.bool (closedB G l)) ∧ Below W.heap.size W w' := by
  obtain ⟨ol, cl, rfl⟩ := hl.form
  obtain ⟨-, -, -, hat⟩ := hl.at
  refine (callsIn_wide (n := 2)).1 ?_
  refine callsIn_of_wp_marks Tryz.func66 rfl trivial ?_ rfl
  simp only [Tryz.ntmps66, List.size_toArray, List.length_cons, List.length_nil, Nat.reduceAdd, Nat.reduceSub, Array.replicate_succ, Array.replicate_zero, List.push_toArray, List.append_toArray, List.nil_append, List.cons_append]
  have hmm := @run_makeMap Tryz.prog
  gi_wp2
  obtain ⟨W1, hW1⟩ : ∃ W1, (((W.alloc (.cells #[.bool false] 4)).alloc (.map #[] 0)).alloc (.cells #[.map (some (W.heap.size + 1))] 136)) = W1 := ⟨_, rfl⟩
  have hC0 : CI W W1 (W.heap.size + 3) W.heap.size (W.heap.size + 1 + 1) (W.heap.size + 1) false [] [] := by
    rw [← hW1]
    refine ⟨(((Below.refl _ _).alloc (Nat.le_refl _) _).alloc (by simp) _).alloc (by simp; omega) _, ⟨by omega, by omega, by omega, by omega, by omega, by omega⟩, ?_, ?_, ?_, Open'.nil _ _, by simp⟩
    · exact ((Boxed.new W 4 (.bool false)).alloc _).alloc _
    · have := Boxed.new ((W.alloc (.cells #[.bool false] 4)).alloc (.map #[] 0)) 136 (.map (some (W.heap.size + 1)))
      simpa using this
    · have := (AMap.made (W.alloc (.cells #[.bool false] 4)) 64 prI).alloc (.cells #[.map (some (W.heap.size + 1))] 136)
      simpa using this
  rw [hW1]
  clear hmm hW1
  have hNle : W.heap.size ≤ W.heap.size + 3 := by omega
  generalize W.heap.size + 3 = N at hC0 hNle
  generalize W.heap.size + 1 + 1 = mb at hC0 ⊢
  generalize W.heap.size + 1 = m at hC0 ⊢
  have HC0 : Below W.heap.size W W1 := hC0.bel
  have h63 : l.length ≤ 9223372036854775807 := by omega
  gi_loopw [15] (fun q wr => ∃ (k : Nat) (L : List ((Int × Int) × Value)), k ≤ l.length ∧ q = .int .i64 k ∧ CI W wr N W.heap.size mb m false L [] ∧ Listed (l.take k) L) (fun q _ => l.length - (intOf q).toNat)
  case atStart => exact ⟨0, [], Nat.zero_le _, rfl, hC0, by simpa using Listed.none⟩
  case round =>
    obtain ⟨k, L, hk, rfl, hC, hL⟩ := hrel
    by_cases hlt : k < l.length
    · have hlt' : (k : Int) < l.length := by omega
      obtain ⟨b, off, rfl, e0, e1⟩ := hat k l[k] (List.getElem?_eq_getElem hlt)
      replace e0 := Holds.below hC.bel _ _ e0
      replace e1 := Holds.below hC.bel _ _ e1
      have hLn := Lib.hid (show Listed (l.take (k + 1)) (putA L l[k] (.bool true)) by rw [List.take_succ_eq_append_getElem hlt]; exact hL.put _)
      obtain ⟨kl, hkl⟩ := key_prI (hok _ (List.getElem_mem hlt))
      obtain ⟨p, hp⟩ : ∃ p, l[k] = p := ⟨_, rfl⟩
      rw [hp] at e0 e1 hLn hkl
      obtain ⟨x, y⟩ := p
      simp only at e0 e1
      have hbA : Below wr.heap.size wr (wr.alloc (.cells #[.int .i64 x, .int .i64 y] 64)) := (Below.refl _ _).alloc (Nat.le_refl _) _
      have hCA := hC.below hbA
      have hnp := Blk.new wr [.int .i64 x, .int .i64 y] 64
      change Blk (wr.alloc (.cells #[.int .i64 x, .int .i64 y] 64)) _ _ _ at hnp
      obtain ⟨w2, hrun, hM2, hg2⟩ := hCA.mp.update law64 prI_inj Tryz.underlying136 hkl (.bool true)
      unfold prI pairV at hrun
      dsimp only at hrun
      have hcm := hCA.mb'.cell
      have hn0 : (wr.alloc (.cells #[.int .i64 x, .int .i64 y] 64)).cell? ⟨wr.heap.size, 0, none⟩ = some (.int .i64 x) := hnp.cell 0
      have hn1 : (wr.alloc (.cells #[.int .i64 x, .int .i64 y] 64)).cell? ⟨wr.heap.size, 1, none⟩ = some (.int .i64 y) := hnp.cell 1
      have hC2 := hCA.putm hg2 hM2
      have HC2 := hide hC2
      clear hp hkl hbA hCA hnp hM2 hg2 hC2 hat hC hL HC0 hC0
      gi_wp2
      go_roundw
      case rel => exact ⟨k + 1, _, by omega, by go_num, unhide HC2, hLn.out⟩
      case measure => simp [intOf]; omega
    · have hlt' : ¬ (k : Int) < l.length := by omega
      obtain rfl : k = l.length := by omega
      rw [List.take_of_length_le (Nat.le_refl _)] at hL
      clear hC0 HC0
      gi_wp2
      clear hlt' hlt hk
      refine wpIn_loop (fun a' wr2 => ∃ (ms : List Nat), (ms.length ≤ l.length ∧ CI W wr2 N W.heap.size mb m false L ms ∧ Hid ((l.take ms.length).all (oneP G l) = true)) ∧
        ∃ u : Nat → Value, a' = { tmps := #[.slice og G.length cap, .slice ol l.length cl, u 2, u 3, .pointer (some ⟨W.heap.size, 0, none⟩), .pointer (some ⟨mb, 0, none⟩), u 6, u 7, u 8, u 9, u 10, u 11, u 12, u 13, u 14, u 15, u 16, u 17, u 18, u 19, u 20, u 21, .slice ol l.length cl, .int .i64 l.length, .int .i64 ms.length, u 25, u 26, u 27, u 28, u 29, u 30, u 31, u 32, u 33, u 34, u 35, u 36, u 37, u 38, u 39, u 40, u 41, u 42, u 43, u 44, u 45, u 46, u 47, u 48, u 49, u 50, u 51, u 52, u 53, u 54, u 55, u 56, u 57, u 58, u 59, u 60, u 61, u 62, u 63], defers := marks ms }) (fun a' _ => l.length - a'.defers.length) ?start ?round
      case start => exact ⟨[], ⟨Nat.zero_le _, hC, Lib.hid rfl⟩, pack66 _ _ rfl _ _ _ _ _ _ _ rfl rfl rfl rfl rfl rfl rfl⟩
      case round =>
        clear hC
        rintro a' wr2 ⟨ms, ⟨hle, hC, HT⟩, u, rfl⟩
        by_cases hlt : ms.length < l.length
        · have hlt' : (ms.length : Int) < l.length := by omega
          obtain ⟨b0, off0, rfl, e0, e1⟩ := hat ms.length l[ms.length] (List.getElem?_eq_getElem hlt)
          replace e0 := Holds.below hC.bel _ _ e0
          replace e1 := Holds.below hC.bel _ _ e1
          have HNO := fun (h : oneP G l l[ms.length] = false) => Lib.hid (closedB_no hlt h)
          have HYES := fun (h : oneP G l l[ms.length] = true) => Lib.hid (take_all_next hlt HT.out h)
          have hokk := hok _ (List.getElem_mem hlt)
          obtain ⟨p, hp⟩ : ∃ p, l[ms.length] = p := ⟨_, rfl⟩
          rw [hp] at e0 e1 HNO HYES hokk
          obtain ⟨x, y⟩ := p
          simp only at e0 e1
          clear hp
          have hbA : Below wr2.heap.size wr2 (wr2.alloc (.cells #[.int .i64 x, .int .i64 y] 64)) := (Below.refl _ _).alloc (Nat.le_refl _) _
          have hCA := hC.below hbA
          have hnp := Blk.new wr2 [.int .i64 x, .int .i64 y] 64
          change Blk (wr2.alloc (.cells #[.int .i64 x, .int .i64 y] 64)) _ _ _ at hnp
          gi_wp2
          generalize wr2.alloc (.cells #[.int .i64 x, .int .i64 y] 64) = W2 at hbA hCA hnp ⊢
          have hP0 : ∀ W', Below W2.heap.size W2 W' → W'.cell? ⟨wr2.heap.size, 0, none⟩ = some (.int .i64 x) := fun W' hb => (hnp.below hb hnp.lt).cell 0
          have hP1 : ∀ W', Below W2.heap.size W2 W' → W'.cell? ⟨wr2.heap.size, 1, none⟩ = some (.int .i64 y) := fun W' hb => (hnp.below hb hnp.lt).cell 1
          have HCA := hide hCA
          have hLV : ∀ (w3 : World), Below W2.heap.size W2 w3 → oneP G l (x, y) = false → ∀ tmps : Array Value, tmps.getD 4 undef = .pointer (some ⟨W.heap.size, 0, none⟩) →
              LeavesInM Fence.wide 2 Tryz.prog Tryz.f66 tmps (fun e w' => e = .returned (.bool (closedB G l)) ∧ Below W.heap.size W w') (marks ms) .returning (w3.setCell ⟨W.heap.size, 0, none⟩ (.bool false)) := fun w3 hb h tmps ht =>
            closed_leave (((unhide HCA).below hb).setr false) ht hNle (fun w' hb' => ⟨by rw [(HNO h).out], hb'⟩)
          have HLV := hide hLV
          have hcr : ∀ w3, Below W2.heap.size W2 w3 → w3.cell? ⟨W.heap.size, 0, none⟩ = some (.bool false) ∧ w3.frozen? ⟨W.heap.size, 0, none⟩ = false := fun w3 hb => ⟨((unhide HCA).below hb).rb'.cell, ((unhide HCA).below hb).rb'.frozen⟩
          have HCR := hide hcr
          have hI0 := hide (fun w => isIndex_any og G.length cap x w)
          have hI1 := hide (fun w => isIndex_any og G.length cap y w)
          clear hLV hcr hCA hC hat e0 e1
          rcases hbx : idxB G.length x with _ | _
          · have HF := Lib.hid (oneP_no (l := l) (p := (x, y)) (.inl hbx))
            rw [hbx] at hI0
            clear hbx
            refine wpIn_wide.2 ?_
            refine wp_region_quiet (C := fun w' => Below W2.heap.size W2 w') (by kernel_rfl) (by kernel_rfl) (below_drewN' (Below.refl _ _) 1) ?_
            simp only []
            repeat (first
              | go_big_quiet_skip
              | (go_big_quiet_want; go_big_quiet_op; first
                | go_big_quiet_on
                | (refine ⟨_, fun _ _ => rfl, ?_⟩; go_big_quiet_on)
                | (refine ⟨.int .i64 x, ?_, ?_⟩
                   · intro w1 hb
                     have e := hP0 w1 hb
                     simp [e, go_sem]
                     done
                   go_big_quiet_on)
                | (refine ⟨.int .i64 y, ?_, ?_⟩
                   · intro w1 hb
                     have e := hP1 w1 hb
                     simp [e, go_sem]
                     done
                   go_big_quiet_on)
                | (apply Exists.intro
                   refine ⟨fun w1 hb => ?_, ?_⟩
                   · with_reducible refine (unhide hI0 w1).mono ?_
                     rintro e w2 ⟨rfl, rfl⟩
                     exact ⟨rfl, hb⟩
                   go_big_quiet_on)
                | (apply Exists.intro
                   refine ⟨fun w1 hb => ?_, ?_⟩
                   · with_reducible refine (unhide hI1 w1).mono ?_
                     rintro e w2 ⟨rfl, rfl⟩
                     exact ⟨rfl, hb⟩
                   go_big_quiet_on)))
            refine wpQuiet_nil ?_
            rintro w3 hb3
            obtain ⟨c3, z3⟩ := unhide HCR w3 hb3
            clear hP0 hP1 hI0 hI1
            gi_wp2
            exact unhide HLV w3 hb3 HF.out _ rfl
          rcases hby : idxB G.length y with _ | _
          · have HF := Lib.hid (oneP_no (l := l) (p := (x, y)) (.inr (.inl hby)))
            rw [hbx] at hI0
            rw [hby] at hI1
            clear hbx hby
            refine wpIn_wide.2 ?_
            refine wp_region_quiet (C := fun w' => Below W2.heap.size W2 w') (by kernel_rfl) (by kernel_rfl) (below_drewN' (Below.refl _ _) 1) ?_
            simp only []
            repeat (first
              | go_big_quiet_skip
              | (go_big_quiet_want; go_big_quiet_op; first
                | go_big_quiet_on
                | (refine ⟨_, fun _ _ => rfl, ?_⟩; go_big_quiet_on)
                | (refine ⟨.int .i64 x, ?_, ?_⟩
                   · intro w1 hb
                     have e := hP0 w1 hb
                     simp [e, go_sem]
                     done
                   go_big_quiet_on)
                | (refine ⟨.int .i64 y, ?_, ?_⟩
                   · intro w1 hb
                     have e := hP1 w1 hb
                     simp [e, go_sem]
                     done
                   go_big_quiet_on)
                | (apply Exists.intro
                   refine ⟨fun w1 hb => ?_, ?_⟩
                   · with_reducible refine (unhide hI0 w1).mono ?_
                     rintro e w2 ⟨rfl, rfl⟩
                     exact ⟨rfl, hb⟩
                   go_big_quiet_on)
                | (apply Exists.intro
                   refine ⟨fun w1 hb => ?_, ?_⟩
                   · with_reducible refine (unhide hI1 w1).mono ?_
                     rintro e w2 ⟨rfl, rfl⟩
                     exact ⟨rfl, hb⟩
                   go_big_quiet_on)))
            refine wpQuiet_nil ?_
            rintro w3 hb3
            obtain ⟨c3, z3⟩ := unhide HCR w3 hb3
            clear hP0 hP1 hI0 hI1
            gi_wp2
            exact unhide HLV w3 hb3 HF.out _ rfl
          have ix := idxB_iff.1 hbx
          have iy := idxB_iff.1 hby
          obtain ⟨i, rfl⟩ := Int.eq_ofNat_of_zero_le ix.1
          obtain ⟨j, rfl⟩ := Int.eq_ofNat_of_zero_le iy.1
          have hi : i < G.length := by omega
          have hj : j < G.length := by omega
          rw [hbx] at hI0
          rw [hby] at hI1
          obtain ⟨b, off, u1, u2, u3, rfl, gl1, hc1⟩ := hG.cells hi
          obtain ⟨b', off', v1, v2, v3, e', gl2, hc2⟩ := hG.cells hj
          cases e'
          have hbW2 := (unhide HCA).bel
          have hA := hide (fun W' (hb : Below W2.heap.size W2 W') => agree_any G[i] G[j] u1 u2 u3 v1 v2 v3 W' (gl1.go (.below (hbW2.trans (hb.mono hbW2.size)))) (gl2.go (.below (hbW2.trans (hb.mono hbW2.size)))))
          have hK1 : ∀ W', Below W2.heap.size W2 W' → ∀ j u, (tyC G[i] u1 u2 u3)[j]? = some u → W'.cell? ⟨b, off + i * 10 + j, none⟩ = some u := fun W' hb => hc1 W' (.below (hbW2.trans (hb.mono hbW2.size)))
          have hK2 : ∀ W', Below W2.heap.size W2 W' → ∀ k u, (tyC G[j] v1 v2 v3)[k]? = some u → W'.cell? ⟨b, off + j * 10 + k, none⟩ = some u := fun W' hb => hc2 W' (.below (hbW2.trans (hb.mono hbW2.size)))
          have hgd1 : G.getD i default = G[i] := by simp [List.getD_eq_getElem?_getD, hi]
          have hgd2 : G.getD j default = G[j] := by simp [List.getD_eq_getElem?_getD, hj]
          have hagd : agP G ((i : Int), (j : Int)) = agreeB G[i] G[j] := by unfold agP; rw [Int.toNat_natCast, Int.toNat_natCast, hgd1, hgd2]
          have HREF := Lib.hid (show refP G ((i : Int), (j : Int)) = (refsOf G[i]).zip (refsOf G[j]) by unfold refP; rw [Int.toNat_natCast, Int.toNat_natCast, hgd1, hgd2])
          have HAGG := Lib.hid (hag (i, j) hi hj)
          have HIDX := Lib.hid (show idxB G.length (i : Int) = true ∧ idxB G.length (j : Int) = true from ⟨hbx, hby⟩)
          have HG1 := Lib.hid hgd1
          have HG2 := Lib.hid hgd2
          have i1 : (i : Int) < G.length := by omega
          have i2 : (j : Int) < G.length := by omega
          obtain ⟨bx, hbb⟩ : ∃ bx, agreeB G[i] G[j] = bx := ⟨_, rfl⟩
          rw [hbb] at hA hagd
          have HAGD := Lib.hid hagd
          clear hbb hgd1 hgd2 hagd hbx hby ix iy hc1 hc2 gl1 gl2
          generalize hgi : G[i] = t1 at hA hK1
          generalize hgj : G[j] = t2 at hA hK2
          have HGI := Lib.hid hgi
          have HGJ := Lib.hid hgj
          clear hgi hgj
          refine wpIn_wide.2 ?_
          refine wp_region_quiet (C := fun w' => Below W2.heap.size W2 w') (by kernel_rfl) (by kernel_rfl) (below_drewN' (Below.refl _ _) 1) ?_
          simp only []
          repeat (first
            | go_big_quiet_skip
            | (go_big_quiet_want; go_big_quiet_op; first
              | go_big_quiet_on
              | (refine ⟨_, fun _ _ => rfl, ?_⟩; go_big_quiet_on)
              | (refine ⟨.int .i64 i, ?_, ?_⟩
                 · intro w1 hb
                   have e := hP0 w1 hb
                   simp [e, go_sem]
                   done
                 go_big_quiet_on)
              | (refine ⟨.int .i64 j, ?_, ?_⟩
                 · intro w1 hb
                   have e := hP1 w1 hb
                   simp [e, go_sem]
                   done
                 go_big_quiet_on)
              | (refine ⟨tyVal t1 u1 u2 u3, ?_, ?_⟩
                 · intro w1 hb
                   have e0 := hK1 w1 hb 0 _ rfl
                   have e1 := hK1 w1 hb 1 _ rfl
                   have e2 := hK1 w1 hb 2 _ rfl
                   have e3 := hK1 w1 hb 3 _ rfl
                   have e4 := hK1 w1 hb 4 _ rfl
                   have e5 := hK1 w1 hb 5 _ rfl
                   have e6 := hK1 w1 hb 6 _ rfl
                   have e7 := hK1 w1 hb 7 _ rfl
                   have e8 := hK1 w1 hb 8 _ rfl
                   have e9 := hK1 w1 hb 9 _ rfl
                   rw [Nat.add_zero] at e0
                   simp [e0, e1, e2, e3, e4, e5, e6, e7, e8, e9, tyVal, go_sem]
                   done
                 go_big_quiet_on)
              | (refine ⟨tyVal t2 v1 v2 v3, ?_, ?_⟩
                 · intro w1 hb
                   have e0 := hK2 w1 hb 0 _ rfl
                   have e1 := hK2 w1 hb 1 _ rfl
                   have e2 := hK2 w1 hb 2 _ rfl
                   have e3 := hK2 w1 hb 3 _ rfl
                   have e4 := hK2 w1 hb 4 _ rfl
                   have e5 := hK2 w1 hb 5 _ rfl
                   have e6 := hK2 w1 hb 6 _ rfl
                   have e7 := hK2 w1 hb 7 _ rfl
                   have e8 := hK2 w1 hb 8 _ rfl
                   have e9 := hK2 w1 hb 9 _ rfl
                   rw [Nat.add_zero] at e0
                   simp [e0, e1, e2, e3, e4, e5, e6, e7, e8, e9, tyVal, go_sem]
                   done
                 go_big_quiet_on)
              | (apply Exists.intro
                 refine ⟨fun w1 hb => ?_, ?_⟩
                 · with_reducible refine (unhide hA w1 hb).mono ?_
                   rintro e w2 ⟨rfl, hb2⟩
                   exact ⟨rfl, hb.trans (hb2.mono hb.size)⟩
                 go_big_quiet_on)
              | (apply Exists.intro
                 refine ⟨fun w1 hb => ?_, ?_⟩
                 · with_reducible refine (unhide hI0 w1).mono ?_
                   rintro e w2 ⟨rfl, rfl⟩
                   exact ⟨rfl, hb⟩
                 go_big_quiet_on)
              | (apply Exists.intro
                 refine ⟨fun w1 hb => ?_, ?_⟩
                 · with_reducible refine (unhide hI1 w1).mono ?_
                   rintro e w2 ⟨rfl, rfl⟩
                   exact ⟨rfl, hb⟩
                 go_big_quiet_on)))
          refine wpQuiet_nil ?_
          rintro w3 hb3
          obtain ⟨c3, z3⟩ := unhide HCR w3 hb3
          cases bx
          · have HF := Lib.hid (oneP_no (l := l) (p := ((i : Int), (j : Int))) (.inr (.inr (.inl HAGD.out))))
            clear hP0 hP1 hI0 hI1 hA hK1 hK2
            gi_wp2
            exact unhide HLV w3 hb3 HF.out _ rfl
          have hC3 := (unhide HCA).below hb3
          have hG3 : GrAt w3 (.slice (some ⟨b, off, none⟩) G.length cap) G := hG.below hC3.bel
          have n0 := hP0 w3 hb3
          have n1 := hP1 w3 hb3
          have hDlt : ∀ D ∈ ms, D < w3.heap.size := fun D hD => (Array.getElem?_eq_some_iff.1 (hC3.op.at' D hD)).1
          have hbw : Below w3.heap.size w3 ((w3.alloc (.cells #[.slice (some ⟨b, off, none⟩) G.length cap] 23)).alloc (.cells #[.int .i64 i, .int .i64 j] 64)) := ((Below.refl _ _).alloc (Nat.le_refl _) _).alloc (by simp) _
          have bgb := (Boxed.new w3 23 (.slice (some ⟨b, off, none⟩) G.length cap)).alloc (.cells #[.int .i64 i, .int .i64 j] 64)
          have bpb := Blk.new (w3.alloc (.cells #[.slice (some ⟨b, off, none⟩) G.length cap] 23)) [.int .i64 i, .int .i64 j] 64
          rw [World.size_alloc] at bpb
          have hR0 : RJ W ((w3.alloc (.cells #[.slice (some ⟨b, off, none⟩) G.length cap] 23)).alloc (.cells #[.int .i64 i, .int .i64 j] 64)) N W.heap.size mb m w3.heap.size (.slice (some ⟨b, off, none⟩) G.length cap) i j L ms l [] := ⟨hC3.below hbw, bgb, bpb, fun x hx => by simp at hx⟩
          have HR0 := hide hR0
          have HBS := hide (fun w => besides_any (some ⟨b, off, none⟩) G.length cap i j w)
          unfold pairV at HBS
          have HIN := hide (fun (q : Nat) (J Jx : List (Nat × Int × Int) → World → Prop) hJ hJb hY W' h0 => besides_in q w3.heap.size (w3.heap.size + 1) (.slice (some ⟨b, off, none⟩) G.length cap) G i j hi hj (by
            have h := HAGG.out (by
              have := HAGD.out
              unfold agP at this
              unfold agB
              simpa using this)
            simp only at h
            rw [HG1.out, HG2.out] at h
            exact h) (hR _ (List.getElem_mem hj)) J Jx hJ hJb hY W' h0)
          rw [HGI.out, HGJ.out] at HIN
          rw [HGI.out, HGJ.out] at HREF
          have hNw := hC3.sz
          clear hP0 hP1 hI0 hI1 hA hK1 hK2 hnp hbA HCA hC3 hR0 bgb bpb c3 z3 HLV HCR
          gi_wp2_with (refine ⟨trivial, ?_⟩; gi_at_call 111; refine (callsIn_wide.2 (unhide HBS _)).mono ?_; rintro e w5 ⟨rfl, rfl⟩)
          have hR5 := unhide HR0
          have hw5 := hbw.size
          clear HBS HR0 n0 n1
          generalize (w3.alloc (.cells #[.slice (some ⟨b, off, none⟩) G.length cap] 23)).alloc (.cells #[.int .i64 i, .int .i64 j] 64) = w5 at hbw hw5 hR5 ⊢
          refine wpIn_rangeGivesX (gf := 160) (lb := #[.pointer (some ⟨w3.heap.size, 0, none⟩), .pointer (some ⟨w3.heap.size + 1, 0, none⟩)]) besV (besL (refsOf t1) (refsOf t2)) (by simp [go_sem]) (enters_of Tryz.func160 (by kernel_rfl) rfl) (fun _ => rfl)
            KInts (fun _ _ _ h k => h.trans k) (fun W l _ o' _ hl ho => KInts.put o' hl ho)
            (fun p W' => RJ W W' N W.heap.size mb m w3.heap.size (.slice (some ⟨b, off, none⟩) G.length cap) i j L ms l p)
            (fun c p W' => c = .ret ∧ CI W W' N W.heap.size mb m false L ms ∧ Hid (oneP G l ((i : Int), (j : Int)) = false))
            hR5 ?it ?ib ?ip ?ix
            (fun x a' W' => ∃ nb, Blk W' nb [.int .i64 x.2.1, .int .i64 x.2.2] 64 ∧ ∃ u : Nat → Value, a' = { tmps := #[.slice (some ⟨b, off, none⟩) G.length cap, .slice (some ⟨b0, off0, none⟩) l.length cl, u 2, u 3, .pointer (some ⟨W.heap.size, 0, none⟩), .pointer (some ⟨mb, 0, none⟩), u 6, u 7, u 8, u 9, u 10, .pointer (some ⟨nb, 0, none⟩), u 12, u 13, u 14, u 15, u 16, u 17, u 18, u 19, u 20, u 21, .slice (some ⟨b0, off0, none⟩) l.length cl, .int .i64 l.length, .int .i64 ms.length, u 25, u 26, u 27, u 28, u 29, u 30, u 31, u 32, u 33, u 34, u 35, u 36, u 37, u 38, u 39, u 40, u 41, u 42, u 43, u 44, u 45, u 46, u 47, u 48, u 49, u 50, u 51, u 52, u 53, u 54, u 55, u 56, u 57, u 58, u 59, u 60, u 61, u 62, u 63], defers := [] })
            ?ax ?assign ?body ?done ?stop
          case it =>
            intro q J Jx hJI hJb hY W' h0
            refine unhide HIN q J Jx (fun p W' h => ?_) hJb hY W' h0
            have hr := hJI p W' h
            exact ⟨hr.gb'.cell, hr.pb'.cell 0, hr.pb'.cell 1, hG.below hr.ci.bel⟩
          case ib => exact fun p W1 W2 hr hb => hr.below hb
          case ip => exact fun p W1 l o o' hr hl ho hoc => hr.put o' ho hoc (by omega) (fun D hD => by have := hDlt D hD; omega)
          case ix =>
            rintro c p W1 l o o' ⟨rfl, h1', h2'⟩ hl ho hoc
            exact ⟨rfl, h1'.put o' ho hoc (by omega) (fun D hD => by have := hDlt D hD; omega), h2'⟩
          case ax =>
            rintro x a' W1 l o o' ⟨nb, hnb, hu⟩ hl ho hoc
            refine ⟨nb, ?_, hu⟩
            have hne : nb ≠ l := by
              rintro rfl; unfold Blk at hnb; rw [hnb] at ho; cases ho; cases hoc
            exact (World.putObj_heap_other (by omega)).trans hnb
          case assign =>
            rintro q pre x W1 K hpx hr hK
            unfold besV pairV
            gi_wp2
            exact hK _ _ ((Below.refl _ _).alloc (Nat.le_refl _) _) (KInts.below ((Below.refl _ _).alloc (Nat.le_refl _) _)) (hr.below ((Below.refl _ _).alloc (Nat.le_refl _) _)) ⟨W1.heap.size, Blk.new W1 _ 64, pack66b _ _ rfl _ _ _ _ _ _ _ _ rfl rfl rfl rfl rfl rfl rfl rfl⟩
          case body =>
            rintro q pre x a' W1 hpx hr ⟨nb, hnb, u', rfl⟩
            obtain ⟨x0, x1, x2⟩ := x
            have hxm : (x0, x1, x2) ∈ besL (refsOf t1) (refsOf t2) := hpx.subset (by simp)
            obtain ⟨m1, m2⟩ := besL_mem hxm
            rw [← HGI.out] at m1
            rw [← HGJ.out] at m2
            have r1 := hz _ (List.getElem_mem hi) _ m1
            have r2 := hz _ (List.getElem_mem hj) _ m2
            dsimp only at r1 r2
            obtain ⟨kl2, hkl2⟩ := key_prI (p := (x1, x2)) (by unfold okI; simp only; omega)
            have hlook := hr.ci.mp.lookup law64 prI_inj Tryz.underlying136 (Tryz.zeroValue4 W1) false hkl2
            rw [if_neg (by simp), hL.look] at hlook
            unfold prI pairV at hlook
            dsimp only at hlook
            have hmem : (x1, x2) ∈ refP G ((i : Int), (j : Int)) := by
              rw [HREF.out, ← besL_pairs]
              exact List.mem_map.2 ⟨_, hxm, rfl⟩
            have cm := hr.ci.mb'.cell
            have hn0 : W1.cell? ⟨nb, 0, none⟩ = some (.int .i64 x1) := hnb.cell 0
            have hn1 : W1.cell? ⟨nb, 1, none⟩ = some (.int .i64 x2) := hnb.cell 1
            have HRr := hide hr
            by_cases hin : (x1, x2) ∈ l
            · rw [decide_eq_true hin] at hlook
              have HN2 := hide (show RJ W W1 N W.heap.size mb m w3.heap.size (.slice (some ⟨b, off, none⟩) G.length cap) i j L ms l (pre ++ [(x0, x1, x2)]) from ⟨hr.ci, hr.gb', hr.pb', fun z hz => by
                rcases List.mem_append.1 hz with h | h
                · exact hr.all z h
                · rw [List.mem_singleton.1 h]; exact hin⟩)
              clear hr hin hmem hkl2 r1 r2 m1 m2 hxm hpx
              gi_wp2
              exact ⟨keepsFrom_below (Below.refl _ _), KInts.refl _, unhide HN2⟩
            · have HF := Lib.hid (oneP_no (l := l) (p := ((i : Int), (j : Int))) (.inr (.inr (.inr ⟨_, hmem, hin⟩))))
              rw [decide_eq_false hin] at hlook
              have c3 := hr.ci.rb'.cell
              have z3 := hr.ci.rb'.frozen
              clear hr hin hmem hkl2 r1 r2 m1 m2 hxm hpx
              gi_wp2
              exact ⟨(KeepsOthers.setCell _ _ _).from _, rfl, (unhide HRr).ci.setr false⟩
          case done =>
            intro W6 hr hK6
            have hCn := hr.ci.cons hK6 (by omega) (fun h => by have := hDlt _ h; omega)
            have HY := HYES (oneP_iff.2 ⟨HIDX.out.1, HIDX.out.2, HAGD.out, fun q hq => by
              rw [HREF.out, ← besL_pairs] at hq
              obtain ⟨x, hx, rfl⟩ := List.mem_map.1 hq
              exact hr.all x hx⟩)
            have HCn := hide hCn
            clear hr hCn
            gi_wp2
            refine ⟨⟨w5.heap.size :: ms, ⟨by simp; omega, unhide HCn, HY⟩, pack66 _ _ rfl _ _ _ _ _ _ _ rfl rfl rfl rfl rfl rfl rfl⟩, ?_⟩
            simp [marks]; omega
          case stop =>
            rintro c pre W6 hpre ⟨rfl, hC6, HF⟩ hK6
            have hCn := hide (hC6.cons hK6 (by omega) (fun h => by have := hDlt _ h; omega))
            clear hC6
            gi_wp2
            exact closed_leave (unhide hCn) rfl hNle (fun w' hb => ⟨by rw [(HNO HF.out).out], hb⟩)
        · have hlt' : ¬ (ms.length : Int) < l.length := by omega
          have hme : ms.length = l.length := by omega
          have HX := Lib.hid (closedB_all (by rw [← hme]; exact HT.out))
          have c3 := hC.rb'.cell
          have z3 := hC.rb'.frozen
          have hCn := hide (hC.setr true)
          clear hC hme
          gi_wp2
          exact closed_leave (unhide hCn) rfl hNle (fun w' hb => ⟨by rw [HX.out], hb⟩)
end Go.Proofs.YteaokkaidcbdlaaGreatDoor

namespace Go.Proofs.YteaokkaidcbdlaaGreatDoor
open Go Go.RowKit Go.Shelf
theorem checked_none (gv : Value) (G : List TyD) (W : World) (hG0 : GrAt W gv G) (hz : GrZ G) :
    Calls Tryz.prog 57 #[gv, .slice none 0 0] W fun e w' => e = .returned (.int .i64 (checkedR G [])) ∧ Below W.heap.size W w' :=
  checked_any gv G W hG0 hz _ [] ⟨none, 0, rfl, Nat.le_refl _, by decide, fun q x hx => by simp at hx⟩
theorem PairAt.sl {W W' : World} {vl : Value} {l : List (Int × Int)} (hl : SliceOf 2 (PairAt W) vl l) (h : Below W.heap.size W W') : SliceOf 2 (PairAt W') vl l := hl.mono fun _ _ _ _ => PairAt.go (.below h)
set_option maxRecDepth 100000 in
set_option maxHeartbeats 8000000 in
theorem checkEqual_all (gv vl : Value) (G : List TyD) (l : List (Int × Int)) (W : World) (hG0 : GrAt W gv G) (hz : GrZ G) (hl : SliceOf 2 (PairAt W) vl l) (hok : ∀ p ∈ l, okI p.1 ∧ okI p.2) :
    Calls Tryz.prog 25 #[gv, vl] W fun e w' => e = .returned (.tuple #[.bool (ckEqualL G l).1, .int .i64 (ckEqualL G l).2]) ∧ Below W.heap.size W w' := by
  obtain ⟨o, cap, rfl⟩ := hG0.form
  obtain ⟨ow, cw, rfl⟩ := hl.form
  have HC := hide (checked_none _ G W hG0 hz)
  by_cases h0 : checkedR G [] = 0
  · obtain ⟨h1, h2, h3⟩ := checked_fit hz h0
    rw [h0] at HC
    by_cases hbig : 2000 < l.length
    · have HX := Lib.hid (show ckEqualL G l = (false, 2) by unfold ckEqualL; rw [if_neg (by simp [h0]), if_pos hbig])
      have hb' : (2000 : Int) < l.length := by omega
      clear h0 h1 h2 h3 hz hG0 hl hok hbig
      generalize l.length = n at hb' ⊢
      go_enter Tryz.func25, Tryz.ntmps25
      go_wp2_with (first | (go_at_call 57; refine (unhide HC).mono ?_; clear HC; rintro e w1 ⟨rfl, hb1⟩))
      go_ret2
      exact ⟨by rw [HX.out]; rfl, hb1⟩
    · have HX := Lib.hid (show ckEqualL G l = (closedB G l, 0) by unfold ckEqualL; rw [if_neg (by simp [h0]), if_neg hbig])
      have hb' : ¬ (2000 : Int) < l.length := by omega
      have HTA := hide (fun (w1 : World) (h : Below W.heap.size W w1) => isClosed_any o cap G (.slice ow l.length cw) l w1 (hG0.below h) (PairAt.sl hl h) hok h1 h2 h3 (by omega) agB_refs)
      clear h0 h1 h2 h3 hz hG0 hl hok hbig
      generalize l.length = n at hb' HTA ⊢
      go_enter Tryz.func25, Tryz.ntmps25
      go_wp2_with (first | (go_at_call 57; refine (unhide HC).mono ?_; clear HC; rintro e w1 ⟨rfl, hb1⟩) | (go_at_call 66; refine (unhide HTA w1 hb1).mono ?_; clear HTA; rintro e w2 ⟨rfl, hb2⟩))
      go_ret2
      exact ⟨by rw [HX.out]; rfl, hb1.trans (hb2.mono hb1.size)⟩
  · have HX := Lib.hid (show ckEqualL G l = (false, checkedR G []) by unfold ckEqualL; rw [if_pos h0])
    clear hG0 hz hl hok
    generalize checkedR G [] = ck at h0 HC HX
    go_enter Tryz.func25, Tryz.ntmps25
    go_wp2_with (first | (go_at_call 57; refine (unhide HC).mono ?_; clear HC; rintro e w1 ⟨rfl, hb1⟩))
    go_ret2
    exact ⟨by rw [HX.out]; rfl, hb1⟩
end Go.Proofs.YteaokkaidcbdlaaGreatDoor

