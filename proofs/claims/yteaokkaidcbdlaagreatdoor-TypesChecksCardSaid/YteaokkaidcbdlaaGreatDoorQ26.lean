/- Part 26 of 51: the texts Ta, Ir, one behind the other. -/
import Derived.Test.YteaokkaidcbdlaaGreatDoorQ18
import Derived.Test.YteaokkaidcbdlaaGreatDoorQ25
import Derived.Tactics
import Derived.Tactics2
import Derived.WalkKit
import Derived.LoopTactic
import Derived.Outline
import Derived.Lib.Hide
import Derived.Handy
import Derived.KernelRfl
import Derived.Deep.LoopGhost
import Derived.CallsIn
import Derived.Deep.QuietTactic
import Derived.BigQuiet
import Derived.Deep.Draws
import Derived.WalkSpells
import Derived.Lib.Walk
import Derived.Lib.Strings
import Derived.Maps.OwnOps
import Derived.Maps.OwnSet
import Derived.Deep.RegionWith
import Derived.StillTailTactics
import Derived.WalkMore
import Derived.RangeFuncNested
import Derived.RangeFuncBound
import Derived.RangeFuncCalls
import Derived.RangeFuncLeaves
import Derived.RangeFuncBox
import Derived.Shelf.Abstract
import Derived.OwnWalkIn
import Derived.TacticsInMore
import Derived.LoopNIn
import Derived.LoopIn
import Derived.RecoverIn
import Derived.Maps.AppendAt
import Derived.RegionTactic
import Derived.ChangeAlike
import Derived.OwnWalk
import Derived.Deep.AppendLies
import Derived.Deep.DeepCutAuto
import Derived.Deep.RegionLaw
import Derived.Deep.RegionHeld3
import Derived.Laws.EntriesVeiled
import Derived.Test.YteaokkaidcbdlaaGreatDoorQ1
import Derived.Deep.Quiet
/- tellApart (68): the search, as plain data -/
namespace Go.Proofs.YteaokkaidcbdlaaGreatDoor
open Go Go.RowKit Go.Shelf
/-! ### tellApart (68): the search, as plain data -/
def agB (G : List TyD) (p : Nat × Nat) : Bool := agreeB (G.getD p.1 default) (G.getD p.2 default)
def besG (G : List TyD) (p : Nat × Nat) : List (Nat × Int × Int) := besL (refsOf (G.getD p.1 default)) (refsOf (G.getD p.2 default))
abbrev SSt := Came × List (Nat × Nat)
def nxP (x : Nat × Int × Int) : Nat × Nat := (x.2.1.toNat, x.2.2.toNat)
/-- One reference of a pair: it is passed over, or taken down; one that does not agree ends the search. -/
def inStep (ag : Nat × Nat → Bool) (cl : Nat → Nat) (a : Nat × Nat) (st : SSt) (x : Nat × Int × Int) : SSt × Option (Nat × Nat) :=
  if nxP x ∈ st.1.map (·.1) ∨ cl (nxP x).1 = cl (nxP x).2 then (st, none)
  else if ag (nxP x) then ((st.1 ++ [(nxP x, a, x.1)], st.2 ++ [nxP x]), none) else ((st.1 ++ [(nxP x, a, x.1)], st.2), some (nxP x))
def inRun (ag : Nat × Nat → Bool) (cl : Nat → Nat) (a : Nat × Nat) : List (Nat × Int × Int) → SSt → SSt × Option (Nat × Nat)
  | [], st => (st, none)
  | x :: xs, st => match inStep ag cl a st x with | (st', none) => inRun ag cl a xs st' | r => r
theorem inRun_append (ag : Nat × Nat → Bool) (cl : Nat → Nat) (a : Nat × Nat) (q : List (Nat × Int × Int)) : ∀ (p : List (Nat × Int × Int)) (st : SSt), inRun ag cl a (p ++ q) st = match inRun ag cl a p st with | (st', none) => inRun ag cl a q st' | r => r
  | [], st => rfl
  | x :: p, st => by
    rw [List.cons_append, inRun, inRun]
    obtain ⟨s', o⟩ := inStep ag cl a st x
    cases o with
    | none => exact inRun_append ag cl a q p s'
    | some n => rfl
theorem inRun_snoc {ag : Nat × Nat → Bool} {cl : Nat → Nat} {a : Nat × Nat} {p : List (Nat × Int × Int)} {x : Nat × Int × Int} {st st' : SSt} (h : inRun ag cl a p st = (st', none)) : inRun ag cl a (p ++ [x]) st = inStep ag cl a st' x := by
  rw [inRun_append, h]
  simp only [inRun]
  obtain ⟨s', o⟩ := inStep ag cl a st' x
  cases o <;> rfl
theorem inRun_stop {ag : Nat × Nat → Bool} {cl : Nat → Nat} {a : Nat × Nat} {p L : List (Nat × Int × Int)} {st st' : SSt} {n : Nat × Nat} (hp : p <+: L) (h : inRun ag cl a p st = (st', some n)) : inRun ag cl a L st = (st', some n) := by
  obtain ⟨q, rfl⟩ := hp
  rw [inRun_append, h]
def outRun (ag : Nat × Nat → Bool) (cl : Nat → Nat) (bes : Nat × Nat → List (Nat × Int × Int)) : Nat → Nat → SSt → Came × Option (Nat × Nat)
  | 0, _, st => (st.1, none)
  | f + 1, k, st => match st.2[k]? with
    | none => (st.1, none)
    | some a => match inRun ag cl a (bes a) st with
      | (st', none) => outRun ag cl bes f (k + 1) st'
      | (st', some n) => (st'.1, some n)
/-- The least of the shortest ways that tell a pair apart, whose classes are not the same. -/
def tellL (G : List TyD) (cl : Nat → Nat) (first : Nat × Nat) : List Int :=
  if agB G first then wayL (outRun (agB G) cl (besG G) (G.length * G.length + 1) 0 ([(first, (0, 0), 0)], [first])).1 first ((outRun (agB G) cl (besG G) (G.length * G.length + 1) 0 ([(first, (0, 0), 0)], [first])).2.getD first) else []
/-- What holds of a search, with what ended it. -/
structure SInv (G : List TyD) (first : Nat × Nat) (st : SSt) (s : Option (Nat × Nat)) : Prop where
  keys : st.1.map (·.1) = st.2 ++ s.toList
  nodup : (st.2 ++ s.toList).Nodup
  bnd : ∀ c ∈ st.1, c.1.1 < G.length ∧ c.1.2 < G.length
  ag : ∀ q ∈ st.2, agB G q = true
  chain : Chain st.1 first
  head : ∃ h : 0 < st.1.length, st.1[0].1 = first
theorem SInv.start {G : List TyD} {first : Nat × Nat} (h1 : first.1 < G.length) (h2 : first.2 < G.length) (ha : agB G first = true) : SInv G first ([(first, (0, 0), 0)], [first]) none :=
  ⟨rfl, by simp, fun c hc => by simp at hc; subst hc; exact ⟨h1, h2⟩, fun q hq => by simp at hq; subst hq; exact ha, fun m h => .inl (by simp at h; subst h; rfl), ⟨by simp, rfl⟩⟩
theorem SInv.len {G : List TyD} {first : Nat × Nat} {st : SSt} (h : SInv G first st none) : st.1.length = st.2.length := by
  have := congrArg List.length h.keys; simpa using this
theorem chain_snoc {C : Came} {first nx a : Nat × Nat} {k : Nat} (h : Chain C first) (ha : ∃ q, ∃ h : q < C.length, C[q].1 = a) : Chain (C ++ [(nx, a, k)]) first := by
  intro m hm
  by_cases hlt : m < C.length
  · rw [List.getElem_append_left hlt]
    rcases h m hlt with h | ⟨q, hq, e⟩
    · exact .inl h
    · exact .inr ⟨q, hq, by rw [List.getElem_append_left (by omega)]; exact e⟩
  · have hme : m = C.length := by simp at hm; omega
    subst hme
    obtain ⟨q, hq, e⟩ := ha
    refine .inr ⟨q, hq, ?_⟩
    rw [List.getElem_append_left hq, List.getElem_append_right (Nat.le_refl _)]
    simpa using e
theorem SInv.step {G : List TyD} {first a : Nat × Nat} {cl : Nat → Nat} {st : SSt} (h : SInv G first st none) (x : Nat × Int × Int) (hb : (nxP x).1 < G.length ∧ (nxP x).2 < G.length) (hk : ∃ k : Nat, st.2[k]? = some a) :
    SInv G first (inStep (agB G) cl a st x).1 (inStep (agB G) cl a st x).2 ∧ (∃ k : Nat, (inStep (agB G) cl a st x).1.2[k]? = some a) ∧ st.2 <+: (inStep (agB G) cl a st x).1.2 := by
  have hkeys : st.1.map (·.1) = st.2 := by have := h.keys; simpa using this
  have hnd : st.2.Nodup := by have := h.nodup; simpa using this
  obtain ⟨k, hk⟩ := hk
  have ha : ∃ q, ∃ h : q < st.1.length, st.1[q].1 = a := by
    have hl := h.len
    obtain ⟨hkl, e⟩ := List.getElem?_eq_some_iff.1 hk
    refine ⟨k, by omega, ?_⟩
    have h1 : (st.1.map (·.1))[k]'(by simp; omega) = st.2[k] := by simp [hkeys]
    rw [← e, ← h1]; simp
  unfold inStep
  split
  · exact ⟨h, ⟨k, hk⟩, List.prefix_refl _⟩
  · rename_i hno
    rw [hkeys] at hno
    have hnew : nxP x ∉ st.2 := fun e => hno (.inl e)
    have hnd' : (st.2 ++ [nxP x]).Nodup := by
      rw [List.nodup_append]
      exact ⟨hnd, by simp, fun p hp q hq e => by simp at hq; subst hq; exact hnew (e ▸ hp)⟩
    have hbnd : ∀ c ∈ st.1 ++ [(nxP x, a, x.1)], c.1.1 < G.length ∧ c.1.2 < G.length := fun c hc => by
      rw [List.mem_append, List.mem_singleton] at hc
      rcases hc with hc | rfl
      · exact h.bnd c hc
      · exact hb
    have hhead : ∃ h : 0 < (st.1 ++ [(nxP x, a, x.1)]).length, (st.1 ++ [(nxP x, a, x.1)])[0].1 = first := by
      obtain ⟨h0, e⟩ := h.head
      exact ⟨by simp, by rw [List.getElem_append_left h0]; exact e⟩
    have hks : ((st.1 ++ [(nxP x, a, x.1)]).map (·.1)) = st.2 ++ [nxP x] := by rw [List.map_append, hkeys]; rfl
    split
    · rename_i hag
      refine ⟨⟨by simpa using hks, by simpa using hnd', hbnd, fun q hq => ?_, chain_snoc h.chain ha, hhead⟩, ⟨k, ?_⟩, List.prefix_append _ _⟩
      · rw [List.mem_append, List.mem_singleton] at hq
        rcases hq with hq | rfl
        · exact h.ag q hq
        · exact hag
      · have := (List.getElem?_eq_some_iff.1 hk).1
        show (st.2 ++ [nxP x])[k]? = _
        rw [List.getElem?_append_left this]; exact hk
    · exact ⟨⟨by simpa using hks, by simpa using hnd', hbnd, h.ag, chain_snoc h.chain ha, hhead⟩, ⟨k, hk⟩, List.prefix_refl _⟩
/-- Different numbers below m are no more than m. -/
theorem nodup_le : ∀ (m : Nat) (l : List Nat), l.Nodup → (∀ x ∈ l, x < m) → l.length ≤ m
  | 0, l, _, h => by
    cases l with
    | nil => simp
    | cons x l => have := h x (by simp); omega
  | m + 1, l, hn, h => by
    have h1 := nodup_le m (l.filter (fun x => decide (x ≠ m))) (hn.filter _) (fun x hx => by
      rw [List.mem_filter, decide_eq_true_eq] at hx
      have := h x hx.1; omega)
    have h2 : l.length ≤ (l.filter (fun x => decide (x ≠ m))).length + 1 := by
      clear h1 h
      induction l with
      | nil => simp
      | cons x l ih =>
        rw [List.nodup_cons] at hn
        rw [List.filter_cons]
        by_cases hx : x = m
        · subst hx
          have : l.filter (fun y => decide (y ≠ x)) = l := by
            rw [List.filter_eq_self]
            intro y hy
            simp only [decide_eq_true_eq]
            rintro rfl; exact hn.1 hy
          rw [this]
          simp
        · have hd : decide (x ≠ m) = true := by simpa using hx
          rw [if_pos hd, List.length_cons, List.length_cons]
          have := ih hn.2
          omega
    omega
theorem SInv.small {G : List TyD} {first : Nat × Nat} {st : SSt} {s : Option (Nat × Nat)} (h : SInv G first st s) : st.1.length ≤ G.length * G.length := by
  have hnd : (st.1.map (·.1)).Nodup := by rw [h.keys]; exact h.nodup
  have h1 := nodup_le (G.length * G.length) ((st.1.map (·.1)).map fun p => p.1 * G.length + p.2) (by
    rw [List.Nodup, List.pairwise_map]
    refine List.Pairwise.imp_of_mem (fun {a b} ha hb hne e => hne ?_) hnd
    obtain ⟨c, hc, rfl⟩ := List.mem_map.1 ha
    obtain ⟨d, hd, rfl⟩ := List.mem_map.1 hb
    obtain ⟨a1, a2⟩ := h.bnd c hc
    obtain ⟨b1, b2⟩ := h.bnd d hd
    have e1 : c.1.1 = d.1.1 := by
      rcases Nat.lt_trichotomy c.1.1 d.1.1 with hl | he | hg
      · have := Nat.mul_le_mul_right G.length (show c.1.1 + 1 ≤ d.1.1 from hl)
        rw [Nat.add_mul] at this; omega
      · exact he
      · have := Nat.mul_le_mul_right G.length (show d.1.1 + 1 ≤ c.1.1 from hg)
        rw [Nat.add_mul] at this; omega
    rw [e1] at e
    exact Prod.ext e1 (by omega)) (fun x hx => by
    obtain ⟨p, hp, rfl⟩ := List.mem_map.1 hx
    obtain ⟨c, hc, rfl⟩ := List.mem_map.1 hp
    obtain ⟨a1, a2⟩ := h.bnd c hc
    have := Nat.mul_le_mul_right G.length (show c.1.1 + 1 ≤ G.length from a1)
    rw [Nat.add_mul] at this; omega)
  simpa using h1
end Go.Proofs.YteaokkaidcbdlaaGreatDoor
/- what holds of a region holds of it in a round, too -/
namespace Go.Proofs.YteaokkaidcbdlaaGreatDoor
open Go Go.RowKit Go.Shelf
/-! ### What holds of a region holds of it in a round, too -/
theorem rows_round {l n : Nat} {P : Program} {row : String} {args : Array Value} {w : World} {R : Value → World → Prop} (h : Rows P row args w R) : RowsIn (Fence.wide.inRound l) n P row args w R := fun c cs _ =>
  let ⟨v, w', r, s⟩ := h c cs
  ⟨v, w', r, (stepsIn_wide (P := P)).2 s⟩
theorem oper_round {l : Nat} {P : Program} {o : Oper} {a : Act} {w : World} {K : Act → World → Prop} {Q : Exit → Act → World → Prop} (hd : ∀ c, o.op ≠ .defer c) (h : o.wp P a w K Q) : o.wpIn (Fence.wide.inRound l) 0 P a w K Q := by
  refine ⟨fun _ _ => trivial, ?_⟩
  rw [Oper.semAt_plain _ _ _ hd]
  unfold Oper.wp at h
  generalize (execOp a.eval o).run P w = r at h
  cases r with
  | ok n w' =>
    cases n with
    | value v => exact h
    | skip => exact h
    | defer d => exact h
    | enter f args => exact ⟨fun h => (by cases h), CallsIn.inRound l (callsIn_wide.2 h)⟩
    | row row args => exact ⟨fun h => (by cases h), rows_round h⟩
    | _ => exact h.elim
  | halt e w' =>
    cases e with
    | panic v => exact h
    | _ => exact h.elim
def noDefer (ops : Array Oper) : Bool := ops.all fun o => match o.op with | .defer _ => false | _ => true
theorem noDefer_at {ops : Array Oper} (h : noDefer ops = true) {i : Nat} {o : Oper} (hi : ops[i]? = some o) : ∀ c, o.op ≠ .defer c := by
  intro c hc
  unfold noDefer at h
  rw [Array.all_eq_true] at h
  obtain ⟨h1, rfl⟩ := Array.getElem?_eq_some_iff.1 hi
  have := h i h1
  rw [hc] at this
  cases this
theorem any_round {l : Nat} {P : Program} {md : Region.Mode} {ops : Array Oper} {Q : Exit → Act → World → Prop} (hd : noDefer ops = true) (hQ : ¬ LetsOut Q) :
    ∀ (fuel : Nat) (done : Array Bool) (a : Act) (w : World), wpAny P md ops Q fuel done a w → wpAnyIn (Fence.wide.inRound l) 0 P md ops Q fuel done a w := by
  intro fuel
  induction fuel with
  | zero => exact fun _ _ _ h => h
  | succ fuel ih =>
    intro done a w h
    refine ⟨h.1, fun i hi => ?_⟩
    have h1 := h.2 i hi
    unfold wpOp at h1
    unfold wpOpIn
    cases ho : ops[i]? with
    | none => rw [ho] at h1; exact ih _ _ _ h1
    | some o =>
      rw [ho] at h1
      dsimp only at h1 ⊢
      split at h1
      · rename_i hw
        rw [if_pos hw]
        rcases h1 with h1 | h1
        · exact oper_round (noDefer_at hd ho) (Oper.wp_mono (fun a w h => ih _ a w h) h1)
        · exact absurd h1.2 hQ
      · rename_i hw
        rw [if_neg hw]
        exact ⟨fun _ _ => trivial, ih _ _ _ h1⟩
theorem region_round {l id : Nat} {P : Program} {ops : Array Oper} {Q : Exit → Act → World → Prop} {a : Act} {w : World} (hm : P.follows .mixedOrders = true) (hd : noDefer ops = true) (hQ : ¬ LetsOut Q)
    (h : wpAny P .any ops Q ops.size (Array.replicate ops.size false) a { w with drawn := w.drawn + 1 }) : (Code.region id ops true).wpIn (Fence.wide.inRound l) 0 P Q a w :=
  wpIn_region_any hm (any_round hd hQ _ _ _ _ h)
/-- A drawn region that only reads and calls, in a round: one walk in the text's order. -/
theorem quiet_round {l id : Nat} {P : Program} {ops : Array Oper} {C : World → Prop} {Q : Exit → Act → World → Prop} {a : Act} {w : World} (hm : P.follows .mixedOrders = true) (hB : Region.lexB .any ops = true) (hd : noDefer ops = true) (hQ : ¬ LetsOut Q) (hC : C { w with drawn := w.drawn + 1 })
    (h : wpQuiet P ops C (fun a' => ∀ w', C w' → Q .normal a' w') ops.toList a) : (Code.region id ops true).wpIn (Fence.wide.inRound l) 0 P Q a w := by
  simp only [Region.lexB, Bool.and_eq_true] at hB
  refine region_round hm hd hQ (wpAny_of_quiet (Q := fun a' => ∀ w', C w' → Q .normal a' w') (fun _ w' hw' h => h w' hw') _ _ _ _ hC ?_)
  have := wpAnyQ_lex (C := C) (md := .any) hB.1 ops.toList 0 (Array.replicate ops.size false) a (by simp) (by simpa using hB.2) h
  simpa using this
theorem list_round {l : Nat} {P : Program} {ops : Array Oper} {Q : Exit → Act → World → Prop} (hQ : ¬ LetsOut Q) : ∀ (rest : List Oper) (a : Act) (w : World), noDefer rest.toArray = true → wpList P ops Q rest a w → wpListIn (Fence.wide.inRound l) 0 P ops Q rest a w
  | [], _, _, _, h => h
  | o :: rest, a, w, hd, h => by
    have hd' : noDefer rest.toArray = true := by
      unfold noDefer at hd ⊢
      rw [Array.all_eq_true] at hd ⊢
      intro i hi
      have := hd (i + 1) (by simp at hi ⊢; omega)
      simpa using this
    unfold wpList at h
    unfold wpListIn
    split at h
    · rename_i hw
      rw [if_pos hw]
      rcases h with h | h
      · exact oper_round (noDefer_at hd (i := 0) (by simp)) (Oper.wp_mono (fun a w h => list_round hQ rest a w hd' h) h)
      · exact absurd h.2 hQ
    · rename_i hw
      rw [if_neg hw]
      exact ⟨fun _ _ => trivial, list_round hQ rest _ _ hd' h⟩
/-- A region in the text's order, in a round. -/
theorem lit_round {l id : Nat} {P : Program} {ops : List Oper} {Q : Exit → Act → World → Prop} {a : Act} {w : World} (hd : noDefer ops.toArray = true) (hQ : ¬ LetsOut Q)
    (h : wpList P ops.toArray Q ops a w) : (Code.region id ops.toArray false).wpIn (Fence.wide.inRound l) 0 P Q a w := wpIn_region_lit (list_round hQ _ _ _ hd h)
/-- A drawn region whose head is quiet and whose tail comes last, in a round. -/
theorem tail_round {l' id : Nat} {P : Program} {Q : Exit → Act → World → Prop} {a : Act} {w : World} {l : List Oper} (n : Nat) (hm : P.follows .mixedOrders = true) (hB : Region.lexTailB .any l.toArray n = true) (hd : noDefer l.toArray = true) (hQ : ¬ LetsOut Q)
    (h : wpQuiet P l.toArray (fun w' => ∃ n, w' = w.drewN n) (fun a' => ∀ w', (∃ n, w' = w.drewN n) → wpList P l.toArray Q (l.drop n) a' w') (l.take n) a) : (Code.region id l.toArray true).wpIn (Fence.wide.inRound l') 0 P Q a w := by
  simp only [Region.lexTailB, Bool.and_eq_true, decide_eq_true_eq] at hB
  obtain ⟨⟨⟨⟨hsel, hn⟩, hs⟩, hc⟩, hlex⟩ := hB
  have hn' : n < l.length := by simpa using hn
  have htl : (l.take n).length = n := by simp; omega
  have hdl : (l.drop n).length = l.toArray.size - n := by simp
  have inv0 : HeadInv .any l.toArray n (Array.replicate l.toArray.size false) :=
    ⟨by simp, fun j oj _ hl => (by rw [getD_replicate_false] at hl; cases hl), fun t _ ht => getD_in (by simpa using ht) (getD_replicate_false _ _)⟩
  have H := Headed.lex (P := P) (g := l.toArray.size - n) hsel hs hc hn (l.take n) 0 _ a (fun j hj => by
    rw [htl] at hj
    simp [hj]) (by simpa using htl) inv0 (by rw [htl]; exact hlex) h
  refine region_round hm hd hQ ?_
  have := Headed.any (Q := Q) (g := l.toArray.size - n) (fun done a' w' hw' hL => by
    have := wpAny_of_seq (md := .any) (Q' := Q) (l.drop n) n done a' w' (fun j => by simp [List.getElem?_drop]) (by rw [hdl]; exact hL.1) (hL.2 w' hw')
    rwa [hdl] at this) _ _ _ { w with drawn := w.drawn + 1 } ⟨1, rfl⟩ H
  rw [htl, show n + (l.toArray.size - n) = l.toArray.size by omega] at this
  exact this
end Go.Proofs.YteaokkaidcbdlaaGreatDoor
