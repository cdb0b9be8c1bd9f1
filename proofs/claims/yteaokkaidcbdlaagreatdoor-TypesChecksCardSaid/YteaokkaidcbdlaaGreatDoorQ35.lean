/- Part 35 of 51: the texts Re, Pk, one behind the other. -/
import Derived.Test.YteaokkaidcbdlaaGreatDoorQ8
import Derived.Tactics
import Derived.Tactics2
import Derived.WalkKit
import Derived.LoopTactic
import Derived.Outline
import Derived.Lib.Hide
import Derived.Handy
import Derived.KernelRfl
import Derived.Deep.LoopGhost
import Derived.CallsIn
import Derived.Deep.QuietTactic
import Derived.BigQuiet
import Derived.Deep.Draws
import Derived.WalkSpells
import Derived.Lib.Walk
import Derived.Lib.Strings
import Derived.Maps.OwnOps
import Derived.Maps.OwnSet
import Derived.Deep.RegionWith
import Derived.StillTailTactics
import Derived.WalkMore
import Derived.RangeFuncNested
import Derived.RangeFuncBound
import Derived.RangeFuncCalls
import Derived.RangeFuncLeaves
import Derived.RangeFuncBox
import Derived.Shelf.Abstract
import Derived.OwnWalkIn
import Derived.TacticsInMore
import Derived.LoopNIn
import Derived.LoopIn
import Derived.RecoverIn
import Derived.Maps.AppendAt
import Derived.RegionTactic
import Derived.ChangeAlike
import Derived.OwnWalk
import Derived.Deep.AppendLies
import Derived.Deep.DeepCutAuto
import Derived.Deep.RegionLaw
import Derived.Deep.RegionHeld3
import Derived.Laws.EntriesVeiled
import Derived.Test.YteaokkaidcbdlaaGreatDoorQ34
/- The graph of the chapter's examples, as the law lays it. -/
namespace Go.Proofs.YteaokkaidcbdlaaGreatDoor
open Go Go.RowKit Go.Shelf
theorem flat_at {α β : Type} {f : α → List β} {n : Nat} (h : ∀ a, (f a).length = n) : ∀ (l : List α) (i : Nat) (a : α) (j : Nat), l[i]? = some a → j < n → (l.flatMap f)[i * n + j]? = (f a)[j]?
  | [], i, a, j, hi, hj => by simp at hi
  | b :: l, 0, a, j, hi, hj => by
    simp at hi
    subst hi
    rw [List.flatMap_cons, Nat.zero_mul, Nat.zero_add, List.getElem?_append_left (by rw [h]; exact hj)]
  | b :: l, i + 1, a, j, hi, hj => by
    have hi' : l[i]? = some a := by simpa using hi
    rw [List.flatMap_cons, List.getElem?_append_right (by rw [h, Nat.succ_mul]; omega), h, show (i + 1) * n + j - n = i * n + j by rw [Nat.succ_mul]; omega]
    exact flat_at h l i a j hi' hj
/-- A type and the values of its three lists. -/
structure Ent where
  t : TyD
  p : Value
  m : Value
  o : Value
def Ent.cells (e : Ent) : List Value := tyC e.t e.p e.m e.o
theorem gr_of {w : World} {g cap : Nat} (es : List Ent) (hc : ∀ j u, (es.flatMap Ent.cells)[j]? = some u → w.cell? ⟨g, j, none⟩ = some u) (hl : ∀ e ∈ es, TyL w e.p e.m e.o e.t) (hlc : es.length ≤ cap) (hcm : cap ≤ maxLen) :
    GrAt w (.slice (some ⟨g, 0, none⟩) es.length cap) (es.map Ent.t) := by
  refine ⟨some ⟨g, 0, none⟩, cap, by simp, by simpa using hlc, hcm, fun i x hx => ⟨g, 0, rfl, ?_⟩⟩
  rw [List.getElem?_map] at hx
  cases he : es[i]? with
  | none => rw [he] at hx; cases hx
  | some e =>
    rw [he] at hx
    simp at hx
    subst hx
    have hf := fun j (hj : j < 10) => flat_at (f := Ent.cells) (n := 10) (fun a => rfl) es i e j he hj
    have hk : ∀ j (hj : j < 10) u, (tyC e.t e.p e.m e.o)[j]? = some u → w.cell? ⟨g, 0 + i * 10 + j, none⟩ = some u := fun j hj u hu => by
      rw [Nat.zero_add]; exact hc _ _ ((hf j hj).trans hu)
    exact ⟨e.p, e.m, e.o, hl e (List.mem_of_getElem? he), hk 0 (by decide) _ rfl, hk 1 (by decide) _ rfl, hk 2 (by decide) _ rfl, hk 3 (by decide) _ rfl, hk 4 (by decide) _ rfl, hk 5 (by decide) _ rfl, hk 6 (by decide) _ rfl, hk 7 (by decide) _ rfl, hk 8 (by decide) _ rfl, hk 9 (by decide) _ rfl⟩
def headS : ByteArray := ⟨#[104, 101, 97, 100]⟩
def tailS : ByteArray := ⟨#[116, 97, 105, 108]⟩
def emptyS : ByteArray := ⟨#[]⟩
def recT (h t : Int) : TyD := ⟨10, 0, 0, false, emptyS, emptyS, 0, [⟨headS, h⟩, ⟨tailS, t⟩], [], []⟩
set_option maxHeartbeats 4000000 in
theorem record_any (h t : Int) (w : World) : Calls Tryz.prog 90 #[.int .i64 h, .int .i64 t] w fun e w' => ∃ vp, e = .returned (.agg (tyC (recT h t) vp (.slice none 0 0) (.slice none 0 0)).toArray) ∧ TyL w' vp (.slice none 0 0) (.slice none 0 0) (recT h t) ∧ Below w.heap.size w w' := by
  go_enter Tryz.func90, Tryz.ntmps90
  go_wp2
  refine bodyPost_ret (v := .agg (tyC (recT h t) (.slice (some ⟨w.heap.size + 1, 0, none⟩) 2 2) (.slice none 0 0) (.slice none 0 0)).toArray) ?_ rfl ⟨_, rfl, ⟨?_, .none', .none'⟩, ((Below.refl _ _).alloc (Nat.le_refl _) _).alloc (by simp) _⟩
  · simp [results, Tryz.results90, go_sem, tyC, recT, emptyS]
  · refine ⟨_, _, rfl, Nat.le_refl _, by unfold maxLen; omega, fun i x hx => ⟨w.heap.size + 1, 0, rfl, ?_⟩⟩
    have hb := Blk.new (w.alloc (.cells #[.int .u8 10, .int .i64 0, .int .i64 0, .bool false, .string ⟨#[]⟩, .string ⟨#[]⟩, .int .i64 0, .slice (some ⟨w.heap.size + 1, 0, none⟩) 2 2, .slice none 0 0, .slice none 0 0] 62)) [.string ⟨#[104, 101, 97, 100]⟩, .int .i64 h, .string ⟨#[116, 97, 105, 108]⟩, .int .i64 t] 93
    rw [World.size_alloc] at hb
    match i with
    | 0 => simp [recT] at hx; subst hx; exact ⟨hb.cell 0, hb.cell 1⟩
    | 1 => simp [recT] at hx; subst hx; exact ⟨hb.cell 2, hb.cell 3⟩
    | i + 2 => simp [recT] at hx
def intT : TyD := ⟨1, 0, 0, false, emptyS, emptyS, 0, [], [], []⟩
def refT : TyD := ⟨9, 0, 0, false, emptyS, emptyS, 0, [⟨emptyS, 1⟩], [], []⟩
def rngT : TyD := ⟨3, 0, 9, false, emptyS, emptyS, 0, [], [], []⟩
/-- The graph of the chapter's examples. -/
def listsG : List TyD := [intT, recT 0 1, recT 0 3, recT 0 2, refT, rngT, recT 5 6]
set_option maxRecDepth 100000 in
set_option maxHeartbeats 8000000 in
theorem lists_any (w : World) : Calls Tryz.prog 53 #[] w fun e w' => ∃ gv, e = .returned gv ∧ GrAt w' gv listsG ∧ Below w.heap.size w w' := by
  have H1 := hide (fun w => record_any 0 1 w)
  have H2 := hide (fun w => record_any 0 3 w)
  have H3 := hide (fun w => record_any 0 2 w)
  have H4 := hide (fun w => record_any 5 6 w)
  unfold tyC recT emptyS at H1 H2 H3 H4
  go_enter Tryz.func53, Tryz.ntmps53
  go_wp2_with (first
    | (go_at_call 90; with_reducible refine (unhide H1 _).mono ?_; clear H1; rintro e w1 ⟨v1, rfl, l1, b1⟩)
    | (go_at_call 90; with_reducible refine (unhide H2 _).mono ?_; clear H2; rintro e w2 ⟨v2, rfl, l2, b2⟩)
    | (go_at_call 90; with_reducible refine (unhide H3 _).mono ?_; clear H3; rintro e w3 ⟨v3, rfl, l3, b3⟩)
    | (go_at_call 90; with_reducible refine (unhide H4 _).mono ?_; clear H4; rintro e w4 ⟨v4, rfl, l4, b4⟩))
  have hb3 : Below w3.heap.size w3 (w3.alloc (.cells #[.string ⟨#[]⟩, .int .i64 1] 93)) := (Below.refl _ _).alloc (Nat.le_refl _) _
  have r3 := Blk.new w3 [.string ⟨#[]⟩, .int .i64 1] 93
  change Blk (w3.alloc (.cells #[.string ⟨#[]⟩, .int .i64 1] 93)) _ _ _ at r3
  generalize w3.alloc (.cells #[.string ⟨#[]⟩, .int .i64 1] 93) = w3' at hb3 b4 r3
  have B34 := hb3.trans (b4.mono hb3.size)
  have B24 := b3.trans (B34.mono b3.size)
  have B14 := b2.trans (B24.mono b2.size)
  have B04 := b1.trans (B14.mono b1.size)
  have hx := (Below.refl w4.heap.size w4).alloc (Nat.le_refl _) (.cells (([⟨intT, .slice none 0 0, .slice none 0 0, .slice none 0 0⟩, ⟨recT 0 1, v1, .slice none 0 0, .slice none 0 0⟩, ⟨recT 0 3, v2, .slice none 0 0, .slice none 0 0⟩, ⟨recT 0 2, v3, .slice none 0 0, .slice none 0 0⟩, ⟨refT, .slice (some ⟨w3.heap.size, 0, none⟩) 1 1, .slice none 0 0, .slice none 0 0⟩, ⟨rngT, .slice none 0 0, .slice none 0 0, .slice none 0 0⟩, ⟨recT 5 6, v4, .slice none 0 0, .slice none 0 0⟩] : List Ent).flatMap Ent.cells).toArray 62)
  have hh := Holds.below hx
  have hnew := Blk.new w4 (([⟨intT, .slice none 0 0, .slice none 0 0, .slice none 0 0⟩, ⟨recT 0 1, v1, .slice none 0 0, .slice none 0 0⟩, ⟨recT 0 3, v2, .slice none 0 0, .slice none 0 0⟩, ⟨recT 0 2, v3, .slice none 0 0, .slice none 0 0⟩, ⟨refT, .slice (some ⟨w3.heap.size, 0, none⟩) 1 1, .slice none 0 0, .slice none 0 0⟩, ⟨rngT, .slice none 0 0, .slice none 0 0, .slice none 0 0⟩, ⟨recT 5 6, v4, .slice none 0 0, .slice none 0 0⟩] : List Ent).flatMap Ent.cells) 62
  have r4 := r3.below b4 r3.lt
  go_ret
  refine ⟨_, rfl, gr_of (g := w4.heap.size) [⟨intT, .slice none 0 0, .slice none 0 0, .slice none 0 0⟩, ⟨recT 0 1, v1, .slice none 0 0, .slice none 0 0⟩, ⟨recT 0 3, v2, .slice none 0 0, .slice none 0 0⟩, ⟨recT 0 2, v3, .slice none 0 0, .slice none 0 0⟩, ⟨refT, .slice (some ⟨w3.heap.size, 0, none⟩) 1 1, .slice none 0 0, .slice none 0 0⟩, ⟨rngT, .slice none 0 0, .slice none 0 0, .slice none 0 0⟩, ⟨recT 5 6, v4, .slice none 0 0, .slice none 0 0⟩] (fun j u h => (hnew.cell j).trans h) ?_ (Nat.le_refl _) (by unfold maxLen; decide), B04.trans (hx.mono B04.size)⟩
  intro e he
  simp only [List.mem_cons, List.not_mem_nil, or_false] at he
  rcases he with rfl | rfl | rfl | rfl | rfl | rfl | rfl
  · exact ⟨.none', .none', .none'⟩
  · exact (l1.go (.below B14)).go hh
  · exact (l2.go (.below B24)).go hh
  · exact (l3.go (.below B34)).go hh
  · refine TyL.go hh ⟨⟨_, _, rfl, Nat.le_refl _, by unfold maxLen; decide, fun i x hx => ⟨w3.heap.size, 0, rfl, ?_⟩⟩, .none', .none'⟩
    match i with
    | 0 => simp [refT] at hx; subst hx; exact ⟨r4.cell 0, r4.cell 1⟩
    | i + 1 => simp [refT] at hx
  · exact ⟨.none', .none', .none'⟩
  · exact l4.go hh
end Go.Proofs.YteaokkaidcbdlaaGreatDoor
/- picked (70): copies of some types of a graph, with other numbers. -/
namespace Go.Proofs.YteaokkaidcbdlaaGreatDoor
open Go Go.RowKit Go.Shelf
attribute [local go_sem] Oper.semAt_some
/-! ### picked (70): copies of some types of a graph, with other numbers -/
/-- The number that a row has for a number. -/
def toF (tt : List Int) (x : Int) : Int := tt.getD x.toNat 0
theorem pick113 {W : World} {b : Nat} {o : Option Addr} {c : Nat} {tt : List Int} (hb : Boxed W b 37 (.slice o tt.length c)) (h : SliceOf 1 (IntAt W) (.slice o tt.length c) tt) {x : Int} (h0 : 0 ≤ x) (h1 : x < tt.length) :
    Calls Tryz.prog 113 #[.int .i64 x, .pointer (some ⟨b, 0, none⟩)] W fun e w' => e = .returned (.int .i64 (toF tt x)) ∧ w' = W := by
  obtain ⟨i, rfl⟩ := Int.eq_ofNat_of_zero_le h0
  have hi : i < tt.length := by omega
  obtain ⟨-, -, -, hat⟩ := h.at
  obtain ⟨b', off, rfl, hc⟩ := hat i tt[i] (List.getElem?_eq_getElem hi)
  have hv : toF tt (i : Int) = tt[i] := by unfold toF; simp [List.getD_eq_getElem?_getD, hi]
  rw [hv]
  generalize tt[i] = y at hc ⊢
  unfold IntAt at hc
  rw [Nat.mul_one] at hc
  have hbc := hb.cell
  clear hat
  go_enter Tryz.func113, Tryz.ntmps113
  go_wp2
  go_ret
  exact ⟨rfl, rfl⟩
theorem info62 : (Tryz.prog.info? 62).map (fun i => (i.zero, i.size, i.bytes)) = some (some (.agg #[.int .u8 0, .int .i64 0, .int .i64 0, .bool false, .string ⟨#[]⟩, .string ⟨#[]⟩, .int .i64 0, .slice none 0 0, .slice none 0 0, .slice none 0 0]), 10, 144) := by kernel_rfl
/-- A graph that was made: its cells in a row of its own, each type's lists elsewhere. -/
structure GrOwn (base : Nat) (w : World) (v : Value) (es : List Ent) : Prop where
  row : w.ownsRow base 62 10 v es.length (es.flatMap Ent.cells)
  far : ∀ e ∈ es, ∃ S E, base ≤ S ∧ E ≤ w.heap.size ∧ Far S E w e.p e.m e.o e.t ∧ ∀ g, v.ownBlock = some g → g < S ∨ E ≤ g
theorem GrOwn.gr {base : Nat} {w : World} {v : Value} {es : List Ent} (h : GrOwn base w v es) : GrAt w v (es.map Ent.t) := by
  have hrow := h.row
  obtain ⟨o, c, rfl⟩ := row_form hrow
  obtain ⟨c1, c2⟩ := row_caps hrow
  by_cases h0 : 0 < es.length
  · obtain ⟨g, rfl⟩ := row_some hrow h0
    refine gr_of es (fun j u hj => ?_) (fun e he => ?_) c1 c2
    · rw [World.ownsRow.cellAt hrow j (by
        have h1 := (List.getElem?_eq_some_iff.1 hj).1
        have h2 := hrow.1
        omega)]
      exact hj
    · obtain ⟨S, E, _, _, hf, _⟩ := h.far e he
      exact hf.self
  · have : es = [] := List.eq_nil_of_length_eq_zero (by omega)
    subst this
    exact ⟨o, c, by simp, by simp, c2, fun i x hx => by simp at hx⟩
theorem GrOwn.below {base : Nat} {w w' : World} {v : Value} {es : List Ent} (h : GrOwn base w v es) (hb : Below w.heap.size w w') : GrOwn base w' v es :=
  ⟨Row.below h.row hb, fun e he => by
    obtain ⟨S, E, h1, h2, h3, h4⟩ := h.far e he
    exact ⟨S, E, h1, by have := hb.size; omega, h3.kept (fun b _ hlt => hb.block b (by omega)), h4⟩⟩
/-- One more type is appended. -/
theorem GrOwn.more {base : Nat} {w w1 w2 : World} {v v' : Value} {es : List Ent} {e : Ent} {tmp : Obj} (h : GrOwn base w v es) (hB : base ≤ w.heap.size) (hb : Below w.heap.size w w1) (hf : Far w.heap.size w1.heap.size w1 e.p e.m e.o e.t)
    (hown : w2.ownsRow base 62 10 v' (es.length + 1) (es.flatMap Ent.cells ++ e.cells)) (hg : (w1.alloc tmp).grownBy w2 v.ownBlock) (hv : v'.ownBlock = v.ownBlock ∨ v'.ownBlock = some (w1.alloc tmp).heap.size) : GrOwn base w2 v' (es ++ [e]) := by
  have hsz := hb.size
  have hs1 : (w1.alloc tmp).heap.size = w1.heap.size + 1 := by simp
  have hs2 := hg.size
  rw [hs1] at hv hs2
  have hkeep : ∀ b, b < w1.heap.size → some b ≠ v.ownBlock → w2.heap[b]? = w1.heap[b]? := fun b hlt hne => (hg.block b (by omega) hne).trans (Below.heap_alloc _ _ _ hlt)
  have hvb : ∀ g, v.ownBlock = some g → g < w.heap.size := fun g hg => (h.row.lt g hg).2
  refine ⟨by simpa using hown, fun x hx => ?_⟩
  rw [List.mem_append] at hx
  rcases hx with hx | hx
  · obtain ⟨S, E, h1, h2, h3, h4⟩ := (h.below hb).far x hx
    obtain ⟨S', E', h1', h2', h3', h4'⟩ := h.far x hx
    refine ⟨S', E', h1', by omega, h3'.kept (fun b ha hlt => ?_), fun g hg' => ?_⟩
    · refine (hkeep b (by omega) (fun e => ?_)).trans (hb.block b (by omega))
      rcases h4' b e.symm with h5 | h5 <;> omega
    · rcases hv with hv | hv
      · exact h4' g (hv ▸ hg')
      · rw [hv] at hg'; cases hg'
        right; omega
  · simp at hx; subst hx
    refine ⟨w.heap.size, w1.heap.size, hB, by omega, hf.kept (fun b ha hlt => hkeep b hlt (fun e => ?_)), fun g hg' => ?_⟩
    · have := hvb b e.symm; omega
    · rcases hv with hv | hv
      · have := hvb g (hv ▸ hg'); omega
      · rw [hv] at hg'; cases hg'
        right; omega
set_option maxRecDepth 100000 in
set_option maxHeartbeats 8000000 in
theorem picked_any (og : Option Addr) (cg : Nat) (G T : List TyD) (l : List Nat) (tt : List Int) (vl vt : Value) (W : World) (hG : GrAt W (.slice og G.length cg) G) (hl : SliceOf 1 (IntAt W) vl (l.map Int.ofNat)) (ht : SliceOf 1 (IntAt W) vt tt)
    (hll : l.length ≤ 1000) (hT : T.length = l.length) (hTl : ∀ j (h : j < l.length), ∃ h' : l[j] < G.length, T[j]? = some G[l[j]])
    (hb : ∀ t ∈ G, t.parts.length ≤ 1000 ∧ t.meths.length ≤ 1000 ∧ t.overs.length ≤ 1000 ∧ ∀ m ∈ t.meths, m.args.length ≤ 1000 ∧ m.raises.length ≤ 1000)
    (hz : ∀ t ∈ T, ∀ x ∈ refsOf t, 0 ≤ x ∧ x < tt.length) :
    Calls Tryz.prog 70 #[.slice og G.length cg, vl, vt] W fun e w' => ∃ v es, e = .returned v ∧ es.map Ent.t = T.map (mapTy (toF tt)) ∧ GrOwn W.heap.size w' v es ∧ Below W.heap.size W w' := by
  obtain ⟨ol, cl, rfl⟩ := hl.form
  obtain ⟨ot, ct, rfl⟩ := ht.form
  have hll' : (l.map Int.ofNat).length = l.length := by simp
  rw [hll'] at hl ⊢
  obtain ⟨i0, hi0, hz0, hz1, hz2⟩ := info_parts info62
  go_enter Tryz.func70, Tryz.ntmps70
  go_wp2
  have hb0 : Below W.heap.size W (W.alloc (.cells #[.slice ot tt.length ct] 37)) := (Below.refl _ _).alloc (Nat.le_refl _) _
  have bx0 := Boxed.new W 37 (.slice ot tt.length ct)
  have hs0 : (W.alloc (.cells #[.slice ot tt.length ct] 37)).heap.size = W.heap.size + 1 := by simp
  generalize W.alloc (.cells #[.slice ot tt.length ct] 37) = W0 at hb0 bx0 hs0 ⊢
  have HS0 := Lib.hid hs0
  clear hs0
  go_loopw [7, 12] (fun v i wr => ∃ (k : Nat) (es : List Ent), k ≤ l.length ∧ i = .int .i64 k ∧ es.length = k ∧ es.map Ent.t = (T.take k).map (mapTy (toF tt)) ∧ GrOwn W.heap.size wr v es ∧ Below W.heap.size W wr ∧ Boxed wr W.heap.size 37 (.slice ot tt.length ct)) (fun _ i _ => l.length - (intOf i).toNat)
  case atStart => exact ⟨0, [], Nat.zero_le _, rfl, rfl, by simp, ⟨World.ownsRow_nil _ _ _ _, fun e he => by simp at he⟩, hb0, bx0⟩
  case round =>
    clear hb0 bx0
    obtain ⟨k, es, hk, rfl, hek, hes, hO, hB, hX⟩ := hrel
    subst hek
    by_cases hlt : es.length < l.length
    · have hlt' : (es.length : Int) < l.length := by omega
      obtain ⟨-, -, -, hatl⟩ := hl.at
      obtain ⟨lb, loff, rfl, hlc⟩ := hatl es.length (l[es.length] : Int) (by simp [hlt])
      obtain ⟨hlG, hTk⟩ := hTl es.length hlt
      have hlG' : (l[es.length] : Int) < G.length := by omega
      obtain ⟨gb, goff, rfl, hTy⟩ := hG.at.2.2.2 l[es.length] G[l[es.length]] (List.getElem?_eq_getElem hlG)
      have hTy1 := hTy.go (.below hB)
      have hmem := List.getElem_mem hlG
      have hTm : G[l[es.length]] ∈ T := List.mem_of_getElem? hTk
      obtain ⟨ot', eot⟩ : ∃ t, G[l[es.length]] = t := ⟨_, rfl⟩
      rw [eot] at hTy1 hmem hTm hTk
      obtain ⟨hb1, hb2, hb3, hb4⟩ := hb _ hmem
      obtain ⟨vp, vm, vo, hTL, k0, k1, k2, k3, k4, k5, k6, k7, k8, k9⟩ := hTy1
      have hlc1 : wr.cell? ⟨lb, loff + es.length, none⟩ = some (.int .i64 l[es.length]) := by
        have := Holds.below hB _ _ hlc
        rwa [Nat.mul_one] at this
      have HR := hide (renumbered_any ot' vp vm vo 113 #[.pointer (some ⟨W.heap.size, 0, none⟩)] (toF tt) wr hTL hb1 hb2 hb3 hb4 (fun W' hbW x hx => by
        obtain ⟨x0, x1⟩ := hz _ hTm x hx
        exact pick113 ((hbW.block _ hX.lt).trans hX) (ht.mono fun _ _ _ _ => IntAt.go (.below (hB.trans (hbW.mono hB.size)))) x0 x1) (enters_of Tryz.func113 (by kernel_rfl) rfl))
      have hrow := hO.row
      obtain ⟨o1, c1, rfl⟩ := row_form hrow
      generalize l[es.length] = lk at hlG' hlG hlc1 k0 k1 k2 k3 k4 k5 k6 k7 k8 k9
      clear hatl hlc hTy hTL
      unfold tyVal at HR
      obtain ⟨U, hU⟩ : ∃ U, mapTy (toF tt) ot' = U := ⟨_, rfl⟩
      rw [hU] at HR
      go_wp2_with (first
        | (go_at_call 77; with_reducible refine (unhide HR).mono ?_; clear HR; rintro e w1 ⟨u1, u2, u3, rfl, hfar, hbw⟩)
        | (at_builtin; refine wpList_append_own_at _ rfl _ _ 23 rfl W.heap.size 62 i0 (.agg #[.int .u8 0, .int .i64 0, .int .i64 0, .bool false, .string ⟨#[]⟩, .string ⟨#[]⟩, .int .i64 0, .slice none 0 0, .slice none 0 0, .slice none 0 0]) 10 144 Tryz.underlying23 hi0 hz0 hz1 hz2 rfl (by decide) _ es.length (es.flatMap Ent.cells) rfl (World.ownsRow.alloc (Row.below hrow hbw) _) ⟨_, 0, none⟩ 1 1 (tyC U u1 u2 u3) rfl rfl ?c1 ?c2 ?c3 ?c4 ?c5 ?_))
      case c1 => intro j u hj; rw [add_zero_addr]; exact (Blk.new w1 (tyC U u1 u2 u3) 62).cell j |>.trans hj
      case c2 =>
        intro u hu
        have hs := hfar.self
        obtain ⟨_, _, rfl⟩ := hs.parts.form
        obtain ⟨_, _, rfl⟩ := hs.meths.form
        obtain ⟨_, _, rfl⟩ := hs.overs.form
        simp [tyC] at hu
        rcases hu with rfl | rfl | rfl | rfl | rfl | rfl | rfl | rfl | rfl | rfl <;> rfl
      case c3 => unfold maxLen; omega
      case c4 => omega
      case c5 => have := hB.size; have := hbw.size; simp; omega
      intro v' w2 hown' hgrow _ hv'
      have hO2 := hO.more (e := ⟨U, u1, u2, u3⟩) hB.size hbw hfar hown' hgrow (by simpa using hv')
      have hX1 : Boxed w1 W.heap.size 37 _ := (hbw.block _ hX.lt).trans hX
      have hX2 : Boxed w2 W.heap.size 37 _ := (hX1.alloc (.cells (tyC U u1 u2 u3).toArray 62)).kept hgrow ((hX1.alloc (.cells (tyC U u1 u2 u3).toArray 62)).not_row (by decide) ((Row.below hrow hbw).alloc (.cells (tyC U u1 u2 u3).toArray 62)))
      have hB2 : Below W.heap.size W w2 := ((hB.trans (hbw.mono hB.size)).alloc (by have := hB.size; have := hbw.size; omega) _).grown hgrow (by have := hB.size; have := hbw.size; simp; omega) (fun j e => (hrow.lt j e).1)
      have hes2 : (es ++ [(⟨U, u1, u2, u3⟩ : Ent)]).map Ent.t = (T.take (es.length + 1)).map (mapTy (toF tt)) := by
        have hlT : es.length < T.length := by omega
        rw [List.getElem?_eq_getElem hlT] at hTk
        injection hTk with hTk
        rw [List.take_succ_eq_append_getElem hlT, List.map_append, List.map_append, hes, hTk]
        simp [hU]
      clear hown' hgrow hrow hO hes hX hfar hbw
      go_wp2
      go_roundw
      case rel => exact ⟨es.length + 1, es ++ [⟨U, u1, u2, u3⟩], by omega, by go_num, by simp, hes2, hO2, hB2, hX2⟩
      case measure => simp [intOf]; omega
    · have hll2 : es.length = l.length := by omega
      have hge : ¬ ((es.length : Int) < l.length) := by omega
      rw [hll2, ← hT, List.take_length] at hes
      clear hX
      go_wp2
      go_ret
      exact ⟨_, rfl, es, hes, hO, hB⟩
end Go.Proofs.YteaokkaidcbdlaaGreatDoor
