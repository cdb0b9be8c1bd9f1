/- Part 18 of 51: the texts Wb, Rx, one behind the other. -/
import Derived.Test.YteaokkaidcbdlaaGreatDoorQ14
import Derived.Test.YteaokkaidcbdlaaGreatDoorQ15
import Derived.Test.YteaokkaidcbdlaaGreatDoorQ17
import Derived.Test.YteaokkaidcbdlaaGreatDoorQ2
import Derived.Sort.OwnSortedInts
import Derived.Tactics
import Derived.Tactics2
import Derived.WalkKit
import Derived.LoopTactic
import Derived.Outline
import Derived.Lib.Hide
import Derived.Handy
import Derived.KernelRfl
import Derived.Deep.LoopGhost
import Derived.CallsIn
import Derived.Deep.QuietTactic
import Derived.BigQuiet
import Derived.Deep.Draws
import Derived.WalkSpells
import Derived.Lib.Walk
import Derived.Lib.Strings
import Derived.Maps.OwnOps
import Derived.Maps.OwnSet
import Derived.Deep.RegionWith
import Derived.StillTailTactics
import Derived.WalkMore
import Derived.RangeFuncNested
import Derived.RangeFuncBound
import Derived.RangeFuncCalls
import Derived.RangeFuncLeaves
import Derived.RangeFuncBox
import Derived.Shelf.Abstract
import Derived.OwnWalkIn
import Derived.TacticsInMore
import Derived.LoopNIn
import Derived.LoopIn
import Derived.RecoverIn
import Derived.Maps.AppendAt
import Derived.RegionTactic
import Derived.ChangeAlike
import Derived.OwnWalk
import Derived.Deep.AppendLies
import Derived.Deep.DeepCutAuto
import Derived.Deep.RegionLaw
import Derived.Deep.RegionHeld3
import Derived.Laws.EntriesVeiled
import Derived.Test.YteaokkaidcbdlaaGreatDoorQ0
/- slices.Reverse (161) of a row of one's own; wayBack (112) -/
namespace Go.Proofs.YteaokkaidcbdlaaGreatDoor
open Go Go.RowKit Go.Shelf
/-! ### slices.Reverse (161) of a row of one's own; wayBack (112) -/
theorem reverse_row {base : Nat} {v : Value} (l : List Int) (w : World) (h : w.ownsRow base 3 1 v l.length (l.map (.int .i64))) (hl : l.length ≤ 1000000) :
    Calls Tryz.prog 161 #[v] w fun e w' => e = .returned (.tuple #[]) ∧ w'.ownsRow base 3 1 v l.length (l.reverse.map (.int .i64)) ∧ w.grownBy w' v.ownBlock := by
  rcases h.2 with ⟨rfl, h0⟩ | ⟨g, cap, cur, rfl, hg, hgb, hn, hcap, hsz, htk⟩
  · obtain rfl := List.eq_nil_of_length_eq_zero h0
    refine (Tryz.slices_Reverse_int_empty none 0 w).mono ?_
    rintro e w' ⟨rfl, rfl⟩
    exact ⟨rfl, h, ⟨rfl, rfl, rfl, Nat.le_refl _, fun _ _ _ => rfl⟩⟩
  · rw [Nat.mul_one] at htk hsz
    refine (Tryz.slices_Reverse_int g 0 cap l w (holds_of_blockI hgb htk) (by omega)).mono ?_
    rintro e w' ⟨rfl, n, rfl⟩
    have := ownsRow_sortedI (os := #[]) (n := n) (ss := l) (ts := l.reverse) (by simp) hg hgb hn hcap (by omega)
    have h2 := grownBy_sortedI (w := w) (g := g) (n := n) (os := #[]) l.reverse.toArray
    rw [Sort.grow_empty] at this h2
    exact ⟨rfl, this, h2⟩
/-- How a pair was come upon: its key, the pair that it came from, and the number. -/
abbrev Came := List ((Nat × Nat) × (Nat × Nat) × Nat)
def strideV (s : (Nat × Nat) × Nat) : Value := .agg #[.int .i64 s.1.1, .int .i64 s.1.2, .int .i64 s.2]
def cameA (C : Came) : List ((Nat × Nat) × Value) := C.map fun c => (c.1, strideV c.2)
abbrev MapC (w : World) (b : Nat) (C : Came) : Prop := AMap w b 64 prV (cameA C)
/-- The numbers on the way back. -/
def backL (C : Came) (first : Nat × Nat) : Nat → Nat × Nat → List Nat
  | 0, _ => []
  | n + 1, a => if a = first then [] else match C.find? (fun c => decide (c.1 = a)) with | some c => c.2.2 :: backL C first n c.2.1 | none => []
/-- Each pair but the first came from one that was come upon before it. -/
def Chain (C : Came) (first : Nat × Nat) : Prop := ∀ m (h : m < C.length), C[m].1 = first ∨ ∃ q, ∃ h2 : q < m, C[q].1 = C[m].2.1
theorem find_key {C : Came} (hn : (C.map (·.1)).Nodup) {m : Nat} (h : m < C.length) : C.find? (fun c => decide (c.1 = C[m].1)) = some C[m] := by
  rw [List.find?_eq_some_iff_getElem]
  refine ⟨by simp, m, h, rfl, fun j hj => ?_⟩
  simp only [Bool.not_eq_eq_eq_not, Bool.not_true, decide_eq_false_iff_not]
  have := List.pairwise_iff_getElem.1 hn j m (by simp; omega) (by simpa using h) hj
  simpa using this
theorem lookA_came {C : Came} (hn : (C.map (·.1)).Nodup) {m : Nat} (h : m < C.length) : lookA (cameA C) C[m].1 = some (strideV C[m].2) := by
  apply lookA_mem
  · unfold cameA; rw [List.map_map]; exact hn
  · unfold cameA; exact List.mem_map.2 ⟨C[m], List.getElem_mem h, rfl⟩
theorem came_keys (C : Came) : (cameA C).map (·.1) = C.map (·.1) := by unfold cameA; rw [List.map_map]; rfl
def sliceLen : Value → Nat | .slice _ n _ => n | _ => 0
theorem prV_cells (p : Nat × Nat) : (prV p) = .agg #[.int .i64 p.1, .int .i64 p.2] := rfl
/-- The way back, as numbers, the first one first. -/
def wayL (C : Came) (first last : Nat × Nat) : List Int := ((backL C first (C.length + 1) last).map Int.ofNat).reverse
structure WbI (w wr : World) (mb : Nat) (C : Came) (first last : Nat × Nat) (m0 : Nat) (vW vA : Value) (a : Nat × Nat) (m fuel ab : Nat) (pre : List Nat) : Prop where
  va : vA = .pointer (some ⟨ab, 0, none⟩)
  ba : Blk wr ab [.int .i64 a.1, .int .i64 a.2] 64
  ge : w.heap.size + 2 ≤ ab
  key : ∃ h : m < C.length, C[m].1 = a
  fu : m < fuel
  bk : backL C first (C.length + 1) last = pre ++ backL C first fuel a
  le : pre.length + m ≤ m0
  row : wr.ownsRow (w.heap.size + 2) 3 1 vW pre.length (natsV pre)
  bel : Below w.heap.size w wr
  mp : MapC wr mb C
  bf : Blk wr w.heap.size [.int .i64 first.1, .int .i64 first.2] 64
set_option maxRecDepth 100000 in
set_option maxHeartbeats 8000000 in
theorem wayBack_any (mb : Nat) (C : Came) (first last : Nat × Nat) (w : World) (hM : MapC w mb C) (hC : Chain C first) (hl : ∃ m, ∃ h : m < C.length, C[m].1 = last) (hlen : C.length ≤ 200000)
    (hsm : ∀ c ∈ C, c.1.1 < 1000 ∧ c.1.2 < 1000) :
    Calls Tryz.prog 112 #[.map (some mb), prV first, prV last] w fun e w' => ∃ v, e = .returned v ∧ w'.ownsRow w.heap.size 3 1 v (wayL C first last).length ((wayL C first last).map (.int .i64)) ∧ Below w.heap.size w w' := by
  have hnd : (C.map (·.1)).Nodup := by have := hM.nodup; rwa [came_keys] at this
  obtain ⟨m0, hm0, hl0⟩ := hl
  have hmb := hM.lt
  unfold prV pairV
  go_enter Tryz.func112, Tryz.ntmps112
  go_wp2
  go_loopw [7, 8] (fun vW vA wr => ∃ a m fuel ab pre, WbI w wr mb C first last m0 vW vA a m fuel ab pre) (fun vW _ _ => C.length - sliceLen vW)
  case atStart =>
    have hbl : Below w.heap.size w (((w.alloc (.cells #[.int .i64 first.1, .int .i64 first.2] 64)).alloc (.cells #[.int .i64 last.1, .int .i64 last.2] 64)).alloc (.cells #[.int .i64 last.1, .int .i64 last.2] 64)) :=
      (((Below.refl _ _).alloc (Nat.le_refl _) _).alloc (by simp) _).alloc (by simp; omega) _
    refine ⟨last, m0, C.length + 1, _, [], rfl, ?ba, (by omega), ⟨hm0, hl0⟩, by omega, rfl, by simp, World.ownsRow_nil _ _ _ _, hbl, hM.below hbl hmb, ?bf⟩
    case ba =>
      have := Blk.new ((w.alloc (.cells #[.int .i64 first.1, .int .i64 first.2] 64)).alloc (.cells #[.int .i64 last.1, .int .i64 last.2] 64)) [.int .i64 last.1, .int .i64 last.2] 64
      simpa using this
    case bf => exact ((Blk.new w [.int .i64 first.1, .int .i64 first.2] 64).alloc _).alloc _
  case round =>
    obtain ⟨a, m, fuel, ab, pre, hI⟩ := hrel
    obtain ⟨rfl, ba, hge, ⟨hm, hk⟩, hfu, hbk, hle, hrow, hbel, hmp, hbf⟩ := hI
    obtain ⟨ov, cv, rfl⟩ : ∃ o c, u7 = .slice o pre.length c := by
      rcases hrow.2 with ⟨rfl, h0⟩ | ⟨g, c2, cur, rfl, _⟩
      · exact ⟨_, _, by rw [h0]⟩
      · exact ⟨_, _, rfl⟩
    have ca0 := ba.cell 0
    have ca1 := ba.cell 1
    have cf0 := hbf.cell 0
    have cf1 := hbf.cell 1
    simp only [List.getElem?_cons_zero, List.getElem?_cons_succ] at ca0 ca1 cf0 cf1
    have e64 := eqP64 a.1 a.2 first.1 first.2
    by_cases haf : a = first
    · subst haf
      have hb : (((a.1 : Int) == a.1) && ((a.2 : Int) == a.2)) = true := by simp
      rw [hb] at e64
      have hbl : backL C a fuel a = [] := by cases fuel <;> simp [backL]
      rw [hbl, List.append_nil] at hbk
      have HBK := Lib.hid hbk
      have HR := hide (reverse_row (pre.map Int.ofNat) wr (by rw [← natsV_ints]; simpa using hrow) (by simp; omega))
      have hlr : (pre.map Int.ofNat).length = pre.length := by simp
      clear hbk
      go_wp2_with (first | (go_at_call 161; refine (unhide HR).mono ?_; clear HR; rintro e w2 ⟨rfl, hrow2, hg2⟩))
      go_ret
      have hwl : wayL C a last = (pre.map Int.ofNat).reverse := by unfold wayL; rw [HBK.out]
      rw [hwl, List.length_reverse, hlr]
      rw [hlr] at hrow2
      exact ⟨_, rfl, Row.mono hrow2 (by omega), hbel.grown hg2 hbel.size (fun j e => by have := (hrow.lt j e).1; omega)⟩
    · have hb : (((a.1 : Int) == first.1) && ((a.2 : Int) == first.2)) = false := by
        rw [Bool.eq_false_iff]; intro h; simp at h; exact haf (Prod.ext (by omega) (by omega))
      rw [hb] at e64
      obtain ⟨s1, s2⟩ := hsm C[m] (List.getElem_mem hm)
      rw [hk] at s1 s2
      obtain ⟨kl, hkl⟩ := key_pr (p := a) (by omega) (by omega)
      have hlook := hmp.lookup law64 prV_inj Tryz.underlying142 (Tryz.zeroValue141 wr) false hkl
      have hla := lookA_came hnd hm
      rw [hk] at hla
      rw [hla] at hlook
      unfold prV pairV strideV at hlook
      simp only [Option.getD_some, Bool.false_eq_true, if_false] at hlook
      obtain ⟨q, hqm, hq⟩ : ∃ q, ∃ h2 : q < m, C[q].1 = C[m].2.1 := by
        rcases hC m hm with h | h
        · exact absurd (hk ▸ h) haf
        · exact h
      obtain ⟨fu', rfl⟩ : ∃ f, fuel = f + 1 := ⟨fuel - 1, by omega⟩
      have hstep : backL C first (fu' + 1) a = C[m].2.2 :: backL C first fu' C[m].2.1 := by
        have := find_key hnd hm
        rw [hk] at this
        simp [backL, haf, this]
      rw [hstep] at hbk
      have hla2 := hla
      clear hstep hla
      generalize C[m].2 = nb at hq hlook hbk hla2
      obtain ⟨nx, by_⟩ := nb
      simp only at hq hlook hbk hla2
      have f0 := field141_0 nx.1 nx.2 by_
      have f1 := field141_1 nx.1 nx.2 by_
      have HBK := Lib.hid hbk
      have hrl := natsV_len pre
      clear hbk
      go_wp2_with (first | (at_builtin; refine app_lies _ _ 37 3 (.int .i64 0) 8 info3 Tryz.underlying37 rfl (by decide) rfl rfl (w.heap.size + 2) _ (natsV pre) rfl (by rw [hrl]; exact hrow.alloc _) _ (.int .i64 by_) rfl ?c1 rfl (by rw [hrl]; omega) ?c2 ?_))
      case c1 => exact (Blk.new wr [.int .i64 by_] 3).cell 0
      case c2 => have := ba.lt; simp; omega
      intro g cap2 w2 hown' hgrow hg hbl
      rw [show (Value.int .i64 by_) = natI by_ from rfl, ← natsV_snoc] at hown'
      have ba2 := (ba.alloc (.cells #[.int .i64 by_] 3)).kept hgrow ((ba.alloc (.cells #[.int .i64 by_] 3)).not_row (by decide) (hrow.alloc (.cells #[.int .i64 by_] 3)))
      have hb2 : Below w.heap.size w w2 := hbl _ _ (hbel.alloc hbel.size _) (by omega)
      have bf2 := (hbf.alloc (.cells #[.int .i64 by_] 3)).kept hgrow ((hbf.alloc (.cells #[.int .i64 by_] 3)).not_row (by decide) (hrow.alloc (.cells #[.int .i64 by_] 3)))
      have mp2 : MapC w2 mb C := hM.below hb2 hmb
      have ca0 := ba2.cell 0
      have ca1 := ba2.cell 1
      simp only [List.getElem?_cons_zero, List.getElem?_cons_succ] at ca0 ca1
      have hl2 := fun o => ((mp2.alloc o).lookup law64 prV_inj Tryz.underlying142 (Tryz.zeroValue141 (w2.alloc o)) false hkl)
      rw [hla2] at hl2
      unfold prV pairV strideV at hl2
      simp only [Option.getD_some, Bool.false_eq_true, if_false] at hl2
      have hsz2 : w.heap.size + 2 ≤ w2.heap.size := by have := ba2.lt; omega
      clear hlook hmp hbf ba hbel
      go_wp2
      refine ⟨⟨nx, q, fu', _, pre ++ [by_], ⟨rfl, Blk.new w2 _ 64, hsz2, ⟨by omega, hq⟩, by omega, by rw [HBK.out]; simp, by simp; omega, by simpa using hown'.alloc _, hb2.alloc hb2.size _, mp2.alloc _, bf2.alloc _⟩⟩, ?_⟩
      simp only [sliceLen]; omega
end Go.Proofs.YteaokkaidcbdlaaGreatDoor
/- a range over an iterator that gives a list known ahead, by a body that may leave -/
namespace Go.Proofs.YteaokkaidcbdlaaGreatDoor
open Go Go.RowKit Go.Shelf
attribute [local go_sem] Oper.semAt_some
/-! ### A range over an iterator that gives a list known ahead, by a body that may leave -/
/-- How a round ends: it goes on, or it leaves by a jump. -/
def xPost {α : Type} (B : Nat) (Kp : World → World → Prop) (I : List α → World → Prop) (Ix : Code → List α → World → Prop) (p : List α) (W : World) (e : Exit) (W' : World) : Prop :=
  match e with
  | .normal => KeepsFrom B W W' ∧ Kp W W' ∧ I p W'
  | .ret => KeepsFrom B W W' ∧ Ix .ret p W'
  | .exit id => KeepsFrom B W W' ∧ Ix (.exit id) p W'
  | _ => False
theorem wpIn_rangeGivesX {α : Type} {g : Operand} {ps : Array Tmp} {assign body : Code} {Q : Exit → Act → World → Prop} {a : Act} {w1 : World} {gf : Nat} {lb : Array Value} (encs : α → Array Value) (L : List α)
    (hg : a.eval g = .func (.func gf) #[] lb) (eg : ∀ args w, (callFunc gf args).run Tryz.prog w = .ok (.enter gf args) w) (hps : ∀ x, (encs x).size = ps.size)
    (Kp : World → World → Prop) (hKt : ∀ A B C, Kp A B → Kp B C → Kp A C) (hKp : ∀ W l o o', w1.heap.size ≤ l → W.heap[l]? = some o → o.isCells = false → Kp W (W.putObj l o'))
    (I : List α → World → Prop) (Ix : Code → List α → World → Prop) (h0 : I [] w1)
    (hIt : ∀ (l : Nat) (J Jx : List α → World → Prop), (∀ p W, J p W → I p W) → (∀ p W W', J p W → Below W.heap.size W W' → J p W') →
      (∀ p x W, p ++ [x] <+: L → J p W → YieldAt Fence.wide 0 Tryz.prog l (encs x) W fun e W' => (e = .returned (.bool true) ∧ J (p ++ [x]) W' ∧ Kp W W') ∨ (e = .returned (.bool false) ∧ Jx (p ++ [x]) W')) →
      ∀ W, J [] W → CallsIn Fence.wide 1 Tryz.prog gf (#[.func (.yield l) #[] #[]] ++ lb) W fun e W' => (∃ v, e = .returned v) ∧ (J L W' ∨ ∃ p, p <+: L ∧ Jx p W'))
    (hIb : ∀ pre W W', I pre W → Below W.heap.size W W' → I pre W')
    (hIp : ∀ pre W l o o', I pre W → w1.heap.size ≤ l → W.heap[l]? = some o → o.isCells = false → I pre (W.putObj l o'))
    (hIx : ∀ c pre W l o o', Ix c pre W → w1.heap.size ≤ l → W.heap[l]? = some o → o.isCells = false → Ix c pre (W.putObj l o'))
    (Ax : α → Act → World → Prop) (hAx : ∀ x a' W l o o', Ax x a' W → w1.heap.size ≤ l → W.heap[l]? = some o → o.isCells = false → Ax x a' (W.putObj l o'))
    (hassign : ∀ (l : Nat) (pre : List α) (x : α) (W : World) (K : Act → World → Prop), pre ++ [x] <+: L → I pre W → (∀ a' W', Below W.heap.size W W' → Kp W W' → I pre W' → Ax x a' W' → K a' W') →
      assign.wpIn (Fence.wide.inRound l) 0 Tryz.prog (Exit.then K (fun _ _ _ => False)) { tmps := (ps.zip (encs x)).foldl (fun t (p, v) => t.setIfInBounds p v) a.tmps, defers := [] } W)
    (hbody : ∀ (l : Nat) (pre : List α) (x : α) (a' : Act) (W : World), pre ++ [x] <+: L → I pre W → Ax x a' W →
      body.wpIn (Fence.wide.inRound l) 0 Tryz.prog (fun e _ W3 => xPost w1.heap.size Kp I Ix (pre ++ [x]) W e W3) a' W)
    (hdone : ∀ (W : World), I L W → W.heap[w1.heap.size]? = some (.deferred (some [])) → Q .normal { a with defers := { target := .collected w1.heap.size, args := #[] } :: a.defers } W)
    (hstop : ∀ (c : Code) (pre : List α) (W : World), pre <+: L → Ix c pre W → W.heap[w1.heap.size]? = some (.deferred (some [])) → c.wpIn Fence.wide 2 Tryz.prog Q { a with defers := { target := .collected w1.heap.size, args := #[] } :: a.defers } W) :
    (Code.rangeFunc g ps assign body).wpIn Fence.wide 2 Tryz.prog Q a w1 := by
  refine wpIn_rangeFunc ?_
  intro fn hfn
  obtain ⟨rec, hrec⟩ : ∃ rec : LoopState → Option Code → Loop, rec = fun st pe => { state := st, pending := pe, fn, tmps := a.tmps, params := ps, assign, body, defers := w1.heap.size } := ⟨_, rfl⟩
  obtain ⟨W1, hW1⟩ : ∃ W1, (w1.alloc (.deferred (some []))).alloc (.loop (rec .ready none)) = W1 := ⟨_, rfl⟩
  have hL1 : W1.heap[w1.heap.size + 1]? = some (.loop (rec .ready none)) := by
    rw [← hW1]; have := World.alloc_heap_new (w1.alloc (.deferred (some []))) (.loop (rec .ready none)); rwa [World.size_alloc] at this
  have hK1 : W1.heap[w1.heap.size]? = some (.deferred (some [])) := by
    rw [← hW1]; exact (Below.heap_alloc _ _ _ (by simp)).trans (World.alloc_heap_new w1 _)
  have hI1 : I [] W1 := by rw [← hW1]; exact hIb _ _ _ h0 (((Below.refl _ _).alloc (Nat.le_refl _) _).alloc (by simp) _)
  refine ⟨w1.heap.size + 1, [{ target := .collected w1.heap.size, args := #[] }], W1, { target := .fn (.func gf) lb, args := #[.func (.yield (w1.heap.size + 1)) #[] #[]] }, W1, gf,
    #[.func (.yield (w1.heap.size + 1)) #[] #[]] ++ lb, W1, ?_, ?_, ?_, ?_, (fun h => by cases h), ?_⟩
  · rw [← hW1, hrec]; exact run_enterLoop_outer _ _ _ _ _
  · simp only [resolve, hg]
    simp [go_sem]
  · intro _ _; trivial
  · simp [invoke, go_sem, eg]
  · refine (hIt (w1.heap.size + 1) (fun pre W => I pre W ∧ W.heap[w1.heap.size + 1]? = some (.loop (rec .ready none)) ∧ W.heap[w1.heap.size]? = some (.deferred (some [])))
      (fun pre W => ∃ c, Ix c pre W ∧ W.heap[w1.heap.size + 1]? = some (.loop (rec .done (some c))) ∧ W.heap[w1.heap.size]? = some (.deferred (some [])))
      (fun _ _ h => h.1) (fun p W W' h hb => ⟨hIb _ _ _ h.1 hb, (hb.block _ (Array.getElem?_eq_some_iff.1 h.2.1).1).trans h.2.1, (hb.block _ (Array.getElem?_eq_some_iff.1 h.2.2).1).trans h.2.2⟩) ?_ W1 ⟨hI1, hL1, hK1⟩).mono ?_
    · -- ONE ROUND
      rintro pre x W hpx ⟨hi, hl, hk⟩
      have hy := run_yield (P := Tryz.prog) (args := encs x) hl (by rw [hrec]; exact hps x)
      rw [hrec] at hy
      refine ⟨fn, _, assign, body, hy, roundIn_of_wpIn hfn (hassign _ pre x W _ hpx hi ?_)⟩
      clear hy
      intro a' Wa hba hkpa hia hax
      replace hl := (hba.block _ (Array.getElem?_eq_some_iff.1 hl).1).trans hl
      replace hk := (hba.block _ (Array.getElem?_eq_some_iff.1 hk).1).trans hk
      have hlt : w1.heap.size + 1 < Wa.heap.size := (Array.getElem?_eq_some_iff.1 hl).1
      refine ⟨_, run_beginRound hl (by rw [hrec]), ?_⟩
      have hl2 : (Wa.putObj (w1.heap.size + 1) (.loop { rec .ready none with state := .busy })).heap[w1.heap.size + 1]? = some (.loop { rec .ready none with state := .busy }) := World.putObj_heap_same hlt
      have hk2 : (Wa.putObj (w1.heap.size + 1) (.loop { rec .ready none with state := .busy })).heap[w1.heap.size]? = some (.deferred (some [])) := (World.putObj_heap_other (by omega)).trans hk
      have hw2 : Kp Wa (Wa.putObj (w1.heap.size + 1) (.loop { rec .ready none with state := .busy })) := hKp _ _ _ _ (by omega) hl rfl
      refine wpIn_mono (hbody _ pre x a' _ hpx (hIp _ _ _ _ _ hia (by omega) hl rfl) (hAx _ _ _ _ _ _ hax (by omega) hl rfl)) ?_
      have fin : ∀ (jump : Option Code) (W3 : World), KeepsFrom w1.heap.size (Wa.putObj (w1.heap.size + 1) (.loop { rec .ready none with state := .busy })) W3 →
          (Instr.endRound (w1.heap.size + 1) jump).run Tryz.prog W3 = .ok (.bool jump.isNone) (W3.putObj (w1.heap.size + 1) (.loop (rec (if jump.isNone then .ready else .done) jump))) ∧
          W3.heap[w1.heap.size + 1]? = some (.loop { rec .ready none with state := .busy }) ∧
          (W3.putObj (w1.heap.size + 1) (.loop (rec (if jump.isNone then .ready else .done) jump))).heap[w1.heap.size + 1]? = some (.loop (rec (if jump.isNone then .ready else .done) jump)) ∧
          (W3.putObj (w1.heap.size + 1) (.loop (rec (if jump.isNone then .ready else .done) jump))).heap[w1.heap.size]? = some (.deferred (some [])) := fun jump W3 hk3 => by
        have hl3 := hk3.same _ _ (by omega) hl2 rfl
        have := run_endRound (P := Tryz.prog) jump hl3
        rw [hrec] at this ⊢
        exact ⟨this, by rw [hrec] at hl3; exact hl3, World.putObj_heap_same (Array.getElem?_eq_some_iff.1 hl3).1, (World.putObj_heap_other (by omega)).trans (hk3.same _ _ (Nat.le_refl _) hk2 rfl)⟩
      rintro e a3 W3 hp
      cases e with
      | normal =>
        obtain ⟨hk3, hkp3, hi3⟩ := hp
        obtain ⟨hr, hl3, hl4, hk4⟩ := fin none W3 hk3
        exact ⟨_, _, hr, .inl ⟨rfl, ⟨hIp _ _ _ _ _ hi3 (by omega) hl3 rfl, hl4, hk4⟩, hKt _ _ _ hkpa (hKt _ _ _ (hKt _ _ _ hw2 hkp3) (hKp _ _ _ _ (by omega) hl3 rfl))⟩⟩
      | ret =>
        obtain ⟨hk3, hi3⟩ := hp
        obtain ⟨hr, hl3, hl4, hk4⟩ := fin (some .ret) W3 hk3
        exact ⟨_, _, hr, .inr ⟨rfl, .ret, hIx _ _ _ _ _ _ hi3 (by omega) hl3 rfl, hl4, hk4⟩⟩
      | exit id =>
        obtain ⟨hk3, hi3⟩ := hp
        obtain ⟨hr, hl3, hl4, hk4⟩ := fin (some (.exit id)) W3 hk3
        exact ⟨_, _, hr, .inr ⟨rfl, .exit id, hIx _ _ _ _ _ _ hi3 (by omega) hl3 rfl, hl4, hk4⟩⟩
      | goto t => exact hp.elim
      | panic ch => exact hp.elim
      | outgrown => exact hp.elim
    · -- BEHIND THE ITERATOR
      rintro e W2 ⟨⟨v, rfl⟩, (⟨hi, hl, hk⟩ | ⟨pre, hSp, c, hi, hl, hk⟩)⟩
      · exact ⟨none, _, by have := run_endLoop (P := Tryz.prog) hl (by rw [hrec]; simp); rw [hrec] at this; exact this, hdone _ (hIp _ _ _ _ _ hi (by omega) hl rfl) ((World.putObj_heap_other (by omega)).trans hk)⟩
      · exact ⟨some c, _, by have := run_endLoop (P := Tryz.prog) hl (by rw [hrec]; simp); rw [hrec] at this; exact this, hstop c pre _ hSp (hIx _ _ _ _ _ _ hi (by omega) hl rfl) ((World.putObj_heap_other (by omega)).trans hk)⟩
end Go.Proofs.YteaokkaidcbdlaaGreatDoor
