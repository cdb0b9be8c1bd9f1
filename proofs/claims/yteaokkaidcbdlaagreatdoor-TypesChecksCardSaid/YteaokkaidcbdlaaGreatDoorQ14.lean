/- Part 14 of 51: the texts Ao, Kp, one behind the other. -/
import Derived.Test.YteaokkaidcbdlaaGreatDoorQ0
import Derived.Maps.Keyed
import Derived.Maps.Own
import Derived.Tactics
import Derived.Tactics2
import Derived.WalkKit
import Derived.LoopTactic
import Derived.Outline
import Derived.Lib.Hide
import Derived.Handy
import Derived.KernelRfl
import Derived.Deep.LoopGhost
import Derived.CallsIn
import Derived.Deep.QuietTactic
import Derived.BigQuiet
import Derived.Deep.Draws
import Derived.WalkSpells
import Derived.Lib.Walk
import Derived.Lib.Strings
import Derived.Maps.OwnOps
import Derived.Maps.OwnSet
import Derived.Deep.RegionWith
import Derived.StillTailTactics
import Derived.WalkMore
import Derived.RangeFuncNested
import Derived.RangeFuncBound
import Derived.RangeFuncCalls
import Derived.RangeFuncLeaves
import Derived.RangeFuncBox
import Derived.Shelf.Abstract
import Derived.OwnWalkIn
import Derived.TacticsInMore
import Derived.LoopNIn
import Derived.LoopIn
import Derived.RecoverIn
import Derived.Maps.AppendAt
import Derived.RegionTactic
import Derived.ChangeAlike
import Derived.OwnWalk
import Derived.Deep.AppendLies
import Derived.Deep.DeepCutAuto
import Derived.Deep.RegionLaw
import Derived.Deep.RegionHeld3
import Derived.Laws.EntriesVeiled
import Derived.Test.YteaokkaidcbdlaaGreatDoorQ13
import Derived.DeepKeys4
import Derived.WideKeyPair
import Derived.Laws.StructEq
import Derived.Laws.Cover2
import Derived.Laws.Small
/- maps of one's own, as lists of keys and values -/
namespace Go.Proofs.YteaokkaidcbdlaaGreatDoor
open Go Go.RowKit Go.Shelf
open Go.Maps (Keyed)
/-! ### A map of one's own, as a list of keys and values -/
section
variable {K : Type}
def lookA [DecidableEq K] (L : List (K × Value)) (k : K) : Option Value := (L.find? (fun p => decide (p.1 = k))).map (·.2)
def putA [DecidableEq K] (L : List (K × Value)) (k : K) (v : Value) : List (K × Value) := if k ∈ L.map (·.1) then L.map (fun p => if p.1 = k then (p.1, v) else p) else L ++ [(k, v)]
theorem lookA_none [DecidableEq K] {L : List (K × Value)} {k : K} (h : k ∉ L.map (·.1)) : lookA L k = none := by
  unfold lookA
  rw [Option.map_eq_none_iff, List.find?_eq_none]
  intro p hp
  simp only [decide_eq_true_eq]
  intro e; exact h (e ▸ List.mem_map_of_mem hp)
theorem lookA_mem [DecidableEq K] {L : List (K × Value)} {k : K} {v : Value} (hn : (L.map (·.1)).Nodup) (h : (k, v) ∈ L) : lookA L k = some v := by
  induction L with
  | nil => simp at h
  | cons p L ih =>
    rw [List.map_cons, List.nodup_cons] at hn
    unfold lookA
    rw [List.find?_cons]
    rcases List.mem_cons.1 h with rfl | h'
    · simp
    · have hne : p.1 ≠ k := fun e => hn.1 (e ▸ List.mem_map_of_mem (f := (·.1)) h')
      simp only [hne, decide_false]
      exact ih hn.2 h'
theorem lookA_isSome [DecidableEq K] {L : List (K × Value)} {k : K} : (lookA L k).isSome = decide (k ∈ L.map (·.1)) := by
  unfold lookA
  rw [Option.isSome_map, Bool.eq_iff_iff, List.find?_isSome]
  simp
theorem putA_new [DecidableEq K] {L : List (K × Value)} {k : K} {v : Value} (h : k ∉ L.map (·.1)) : putA L k v = L ++ [(k, v)] := by unfold putA; rw [if_neg h]
/-- Block b is a map with these keys and values. -/
structure AMap (w : World) (b : Nat) (kt : TypeId) (enc : K → Value) (L : List (K × Value)) : Prop where
  at' : ∃ es clock, w.heap[b]? = some (.map es clock) ∧ es.toList.map (fun e : MapEntry => (e.key, e.val)) = L.map (fun p : K × Value => (enc p.1, p.2))
  nodup : (L.map (·.1)).Nodup
  keys : ∀ p ∈ L, ∃ l, keyOf Tryz.prog kt (enc p.1) = some l
theorem AMap.lt {w : World} {b : Nat} {kt : TypeId} {enc : K → Value} {L : List (K × Value)} (h : AMap w b kt enc L) : b < w.heap.size := by
  obtain ⟨es, clock, hb, _⟩ := h.at'
  exact (Array.getElem?_eq_some_iff.1 hb).1
theorem AMap.made (w : World) (kt : TypeId) (enc : K → Value) : AMap (w.alloc (.map #[] 0)) w.heap.size kt enc [] :=
  ⟨⟨#[], 0, (MapKept.heap_alloc w _).1, rfl⟩, List.nodup_nil, fun p h => by simp at h⟩
theorem AMap.block {w w' : World} {b : Nat} {kt : TypeId} {enc : K → Value} {L : List (K × Value)} (h : AMap w b kt enc L) (hb : w'.heap[b]? = w.heap[b]?) : AMap w' b kt enc L := by
  obtain ⟨es, clock, h1, h2⟩ := h.at'
  exact ⟨⟨es, clock, hb.trans h1, h2⟩, h.nodup, h.keys⟩
theorem AMap.kept {w w' : World} {b : Nat} {kt : TypeId} {enc : K → Value} {L : List (K × Value)} {row : Option Nat} (h : AMap w b kt enc L) (hg : w.grownBy w' row) (hne : some b ≠ row) : AMap w' b kt enc L :=
  h.block (hg.block b h.lt hne)
theorem AMap.alloc {w : World} {b : Nat} {kt : TypeId} {enc : K → Value} {L : List (K × Value)} (h : AMap w b kt enc L) (o : Obj) : AMap (w.alloc o) b kt enc L := h.block (Below.heap_alloc _ _ _ h.lt)
theorem AMap.below {w w' : World} {b B : Nat} {kt : TypeId} {enc : K → Value} {L : List (K × Value)} (h : AMap w b kt enc L) (k : Below B w w') (hlt : b < B) : AMap w' b kt enc L := h.block (k.block b hlt)
theorem AMap.drew {w : World} {b : Nat} {kt : TypeId} {enc : K → Value} {L : List (K × Value)} (h : AMap w b kt enc L) : AMap w.drew b kt enc L := h.block rfl
theorem AMap.set {w : World} {b c i : Nat} {kt : TypeId} {enc : K → Value} {L : List (K × Value)} (h : AMap w b kt enc L) (v : Value) (hne : b ≠ c) : AMap (w.setCell ⟨c, i, none⟩ v) b kt enc L := by
  refine h.block ?_
  show (w.heap.modify c _)[b]? = _
  rw [Array.getElem?_modify, if_neg (by omega)]
theorem find_own {w : World} {kt : TypeId} (KK : Keyed Tryz.prog kt) {enc : K → Value} (hinj : ∀ x y, enc x = enc y → x = y) {L : List (K × Value)} (_hnd : (L.map (·.1)).Nodup) (hks : ∀ p ∈ L, ∃ l, keyOf Tryz.prog kt (enc p.1) = some l)
    {es : Array MapEntry} (he : es.toList.map (fun e : MapEntry => (e.key, e.val)) = L.map (fun p : K × Value => (enc p.1, p.2))) {k : K} {kl : Lit} (hk : keyOf Tryz.prog kt (enc k) = some kl) :
    ((Instr.findKey kt (enc k) es.toList).run Tryz.prog w = .ok none w ∧ k ∉ L.map (·.1)) ∨
    ∃ j v, (Instr.findKey kt (enc k) es.toList).run Tryz.prog w = .ok (some (j, v)) w ∧ L[j]? = some (k, v) ∧ (∃ e, es.toList[j]? = some e ∧ e.key = enc k ∧ e.val = v) := by
  have hlen : es.toList.length = L.length := by have := congrArg List.length he; simpa using this
  have hat : ∀ (j : Nat) (e : MapEntry), es.toList[j]? = some e → ∃ p, L[j]? = some p ∧ e.key = enc p.1 ∧ e.val = p.2 := by
    intro j e hj
    have h1 : (es.toList.map (fun e : MapEntry => (e.key, e.val)))[j]? = some (e.key, e.val) := by rw [List.getElem?_map, hj]; rfl
    rw [he, List.getElem?_map] at h1
    cases hp : L[j]? with
    | none => rw [hp] at h1; cases h1
    | some p =>
      rw [hp] at h1
      simp only [Option.map_some, Option.some.injEq, Prod.mk.injEq] at h1
      exact ⟨p, rfl, h1.1.symm, h1.2.symm⟩
  have hkeys : ∀ e ∈ es.toList, ∃ l, keyOf Tryz.prog kt e.key = some l := by
    intro e hm
    obtain ⟨j, hj⟩ := List.getElem?_of_mem hm
    obtain ⟨p, hp, h1, _⟩ := hat j e hj
    rw [h1]; exact hks p (List.mem_of_getElem? hp)
  rcases KK.find w hk es.toList hkeys with ⟨h1, h2⟩ | ⟨j, e0, h1, h2, h3⟩
  · refine .inl ⟨h1, fun hm => ?_⟩
    obtain ⟨p, hp, rfl⟩ := List.mem_map.1 hm
    obtain ⟨j, hj⟩ := List.getElem?_of_mem hp
    have hlt : j < es.toList.length := by rw [hlen]; exact (List.getElem?_eq_some_iff.1 hj).1
    obtain ⟨q, hq, a1, _⟩ := hat j _ (List.getElem?_eq_getElem hlt)
    rw [hj] at hq; cases hq
    exact h2 _ (List.getElem_mem hlt) a1
  · obtain ⟨q, hq, a1, a2⟩ := hat j e0 h2
    have hqk : q.1 = k := hinj _ _ (a1.symm.trans h3)
    refine .inr ⟨j, e0.val, h1, ?_, e0, h2, h3, rfl⟩
    rw [hq, a2, ← hqk]
theorem AMap.lookup [DecidableEq K] {w : World} {b t e : Nat} {kt : TypeId} {enc : K → Value} {L : List (K × Value)} (h : AMap w b kt enc L) (KK : Keyed Tryz.prog kt) (hinj : ∀ x y, enc x = enc y → x = y) (ht : Tryz.prog.underlying t = some (.map kt e))
    {z : Value} (hz : (zeroValue e).run Tryz.prog w = .ok z w) (c : Bool) {k : K} {kl : Lit} (hk : keyOf Tryz.prog kt (enc k) = some kl) :
    (Instr.lookup t (.map (some b)) (enc k) c).run Tryz.prog w = .ok (if c then .tuple #[(lookA L k).getD z, .bool (lookA L k).isSome] else (lookA L k).getD z) w := by
  obtain ⟨es, clock, hb, he⟩ := h.at'
  rcases find_own (w := w) KK hinj h.nodup h.keys he hk with ⟨h1, h2⟩ | ⟨j, v, h1, h2, _⟩
  · rw [lookA_none h2]
    simp [Instr.lookup, run_underlying ht, MapKept.run_getObj_map hb, KK.check w _ hk, h1, hz, Result.andThen]
  · rw [lookA_mem h.nodup (List.mem_of_getElem? h2)]
    simp [Instr.lookup, run_underlying ht, MapKept.run_getObj_map hb, KK.check w _ hk, h1, Result.andThen]
theorem putA_keys [DecidableEq K] {L : List (K × Value)} {k : K} {v : Value} : (putA L k v).map (·.1) = if k ∈ L.map (·.1) then L.map (·.1) else L.map (·.1) ++ [k] := by
  unfold putA
  split
  · rw [List.map_map]
    apply List.map_congr_left
    intro p _
    simp only [Function.comp]
    split <;> rfl
  · simp
theorem AMap.update [DecidableEq K] {w : World} {b t e : Nat} {kt : TypeId} {enc : K → Value} {L : List (K × Value)} (h : AMap w b kt enc L) (KK : Keyed Tryz.prog kt) (hinj : ∀ x y, enc x = enc y → x = y) (ht : Tryz.prog.underlying t = some (.map kt e))
    {k : K} {kl : Lit} (hk : keyOf Tryz.prog kt (enc k) = some kl) (v : Value) :
    ∃ w', (Instr.mapUpdate t (.map (some b)) (enc k) v).run Tryz.prog w = .ok () w' ∧ AMap w' b kt enc (putA L k v) ∧ w.grownBy w' (some b) := by
  obtain ⟨es, clock, hb, he⟩ := h.at'
  have hkeys' : ∀ p ∈ putA L k v, ∃ l, keyOf Tryz.prog kt (enc p.1) = some l := by
    intro p hp
    have h1 : p.1 ∈ (putA L k v).map (·.1) := List.mem_map_of_mem hp
    rw [putA_keys] at h1
    split at h1
    · obtain ⟨q, hq, e1⟩ := List.mem_map.1 h1
      rw [← e1]; exact h.keys q hq
    · rcases List.mem_append.1 h1 with h1 | h1
      · obtain ⟨q, hq, e1⟩ := List.mem_map.1 h1
        rw [← e1]; exact h.keys q hq
      · rw [List.mem_singleton.1 h1]; exact ⟨_, hk⟩
  have hnd' : ((putA L k v).map (·.1)).Nodup := by
    rw [putA_keys]
    split
    · exact h.nodup
    · rename_i hn
      rw [List.nodup_append]
      exact ⟨h.nodup, List.nodup_cons.2 ⟨by simp, List.nodup_nil⟩, fun a ha b hb e1 => by rw [List.mem_singleton.1 hb] at e1; exact hn (e1 ▸ ha)⟩
  have hgr : ∀ o, w.grownBy (ChangeMaps.setBlock w b o) (some b) := fun o => ⟨rfl, rfl, rfl, by simp [ChangeMaps.setBlock], fun i _ hi => ChangeMaps.heap_setBlock_other hb _ (fun e => hi (by rw [e]))⟩
  rcases find_own (w := w) KK hinj h.nodup h.keys he hk with ⟨h1, h2⟩ | ⟨j, u, h1, h2, e0, h3, h4, h5⟩
  · refine ⟨_, by simp [Instr.mapUpdate, run_underlying ht, MapKept.run_getObj_map hb, KK.check w false hk, h1, MapKept.run_setObj_map _ hb, Result.andThen]; rfl, ⟨⟨es.push ⟨enc k, v, clock⟩, clock + 1, ChangeMaps.heap_setBlock_same hb _, ?_⟩, hnd', hkeys'⟩, hgr _⟩
    rw [putA_new h2, Array.toList_push, List.map_append, he]; simp
  · have hj : j < es.size := by have := (List.getElem?_eq_some_iff.1 h3).1; simpa using this
    have hst := KK.stays w hk
    have hkj : ((es[j]?).map (·.key)).getD (enc k) = enc k := by
      have : es[j]? = some e0 := by simpa using h3
      rw [this]; exact h4
    refine ⟨_, by simp only [Instr.mapUpdate, Sem.run_bind, run_underlying ht, MapKept.run_getObj_map hb, KK.check w false hk, h1, Result.andThen, hkj, hst, MapKept.run_setObj_map _ hb]; rfl, ⟨⟨es.modify j fun e => { e with key := enc k, val := v }, clock, ChangeMaps.heap_setBlock_same hb _, ?_⟩, hnd', hkeys'⟩, hgr _⟩
    unfold putA
    have hmem : k ∈ L.map (·.1) := by
      have := List.mem_of_getElem? h2
      exact List.mem_map.2 ⟨_, this, rfl⟩
    rw [if_pos hmem]
    apply List.ext_getElem?
    intro i
    have hei : ∀ i : Nat, (es.toList[i]?).map (fun e : MapEntry => (e.key, e.val)) = (L[i]?).map (fun p : K × Value => (enc p.1, p.2)) := fun i => by
      have := congrArg (fun l : List (Value × Value) => l[i]?) he
      simpa using this
    rw [List.getElem?_map, List.getElem?_map, List.getElem?_map, Array.getElem?_toList, Array.getElem?_modify]
    by_cases hij : j = i
    · subst hij
      have : es[j]? = some e0 := by simpa using h3
      simp [this, h2]
    · rw [if_neg hij]
      have h6 := hei i
      rw [Array.getElem?_toList] at h6
      rw [h6]
      cases hLi : L[i]? with
      | none => rfl
      | some p =>
        have hpk : p.1 ≠ k := by
          intro e1
          obtain ⟨hjl, e2⟩ := List.getElem?_eq_some_iff.1 h2
          obtain ⟨hil, e3⟩ := List.getElem?_eq_some_iff.1 hLi
          have hpw := List.pairwise_iff_getElem.1 h.nodup
          rcases Nat.lt_or_ge i j with hlt | hge
          · exact hpw i j (by simpa using hil) (by simpa using hjl) hlt (by simp [e2, e3, e1])
          · exact hpw j i (by simpa using hjl) (by simpa using hil) (by omega) (by simp [e2, e3, e1])
        simp [hpk]
end
end Go.Proofs.YteaokkaidcbdlaaGreatDoor
/- pairs of numbers, and numbers, as keys; strides -/
namespace Go.Proofs.YteaokkaidcbdlaaGreatDoor
open Go Go.RowKit Go.Shelf
def pairV (i j : Int) : Value := .agg #[.int .i64 i, .int .i64 j]
/-! ### Pairs of numbers, and numbers, as keys of maps -/
theorem arr64 : Go.WideMaps.ArrKey Tryz.prog 64 3 2 := ⟨Tryz.underlying64, by kernel_rfl, by kernel_rfl, by kernel_rfl⟩
theorem law64 : Go.Maps.Keyed Tryz.prog 64 := Go.Maps.Keyed.of_law arr64.law
theorem types_some : 0 < Tryz.prog.types.size := of_decide_eq_true (by kernel_rfl)
theorem types_pos : ∃ m, Tryz.prog.types.size = m + 1 := ⟨Tryz.prog.types.size - 1, by have := types_some; omega⟩
theorem key_pair {i j : Int} (hi : (Lit.int .i64 i).wf = true) (hj : (Lit.int .i64 j).wf = true) : ∃ l, keyOf Tryz.prog 64 (pairV i j) = some l :=
  ⟨_, Go.WideMaps.keyOf_pair arr64 Tryz.underlying3 types_pos hi hj⟩
theorem wf_nat {n : Nat} (h : n < 9223372036854775808) : (Lit.int .i64 n).wf = true := by
  simp [Lit.wf, IntKind.min, IntKind.max, IntKind.signed, IntKind.bits]; omega
/-- A pair of types, as a value. -/
def prV (p : Nat × Nat) : Value := pairV p.1 p.2
theorem prV_inj (p q : Nat × Nat) (h : prV p = prV q) : p = q := by
  unfold prV pairV at h
  simp at h
  obtain ⟨h1, h2⟩ := h
  exact Prod.ext (by omega) (by omega)
theorem key_pr {p : Nat × Nat} (h1 : p.1 < 9223372036854775808) (h2 : p.2 < 9223372036854775808) : ∃ l, keyOf Tryz.prog 64 (prV p) = some l := key_pair (wf_nat h1) (wf_nat h2)
theorem law3 : Go.Maps.Keyed Tryz.prog 3 := Go.Maps.int_keyed Tryz.underlying3
theorem natI_inj (a b : Nat) (h : (Value.int .i64 a) = .int .i64 b) : a = b := by simp at h; omega
theorem key_nat {n : Nat} (h : n < 9223372036854775808) : ∃ l, keyOf Tryz.prog 3 (.int .i64 n) = some l := ⟨_, Go.Maps.keyOf_int_mk Tryz.underlying3 (wf_nat h)⟩
theorem build64 (a b : Int) (w : World) : (Instr.build 64 #[(0, .int .i64 a), (1, .int .i64 b)]).run Tryz.prog w = .ok (.agg #[.int .i64 a, .int .i64 b]) w := run_build w 64 _ _ (by kernel_rfl)
theorem eqP64 (a b c d : Int) (w : World) : (Op.equalIn 10000 64 (.agg #[.int .i64 a, .int .i64 b]) (.agg #[.int .i64 c, .int .i64 d])).run Tryz.prog w = .ok (a == c && b == d) w := by
  have u3 := Tryz.underlying3
  have a3 := Tryz.isAgg3
  have z3 := Tryz.sizeOf3
  rw [show (10000 : Nat) = 9999 + 1 from rfl, Op.equalIn]
  simp only [Sem.run_bind, run_underlying Tryz.underlying64, Result.andThen_ok]
  simp only [Std.Legacy.Range.forIn_eq_forIn_range', Std.Legacy.Range.size, Nat.sub_zero, Nat.add_sub_cancel, Nat.div_one, List.range'_succ, List.range'_zero, List.forIn_cons, List.forIn_nil]
  go_simp
  by_cases h1 : a = c <;> by_cases h2 : b = d <;> simp [h1, h2]
theorem field141_0 (a b c : Int) (w : World) : (Instr.field 141 (.agg #[.int .i64 a, .int .i64 b, .int .i64 c]) 0).run Tryz.prog w = .ok (.agg #[.int .i64 a, .int .i64 b]) w := by kernel_rfl
theorem field141_1 (a b c : Int) (w : World) : (Instr.field 141 (.agg #[.int .i64 a, .int .i64 b, .int .i64 c]) 1).run Tryz.prog w = .ok (.int .i64 c) w := by kernel_rfl
theorem build141 (a b c : Int) (w : World) : (Instr.build 141 #[(0, .agg #[.int .i64 a, .int .i64 b]), (1, .int .i64 c)]).run Tryz.prog w = .ok (.agg #[.int .i64 a, .int .i64 b, .int .i64 c]) w := run_build w 141 _ _ (by kernel_rfl)
theorem Blk.kept {w w' : World} {row : Option Nat} {b : Nat} {cs : List Value} {t : TypeId} (h : Blk w b cs t) (hg : w.grownBy w' row) (hne : some b ≠ row) : Blk w' b cs t := (hg.block b h.lt hne).trans h
theorem Blk.not_row {w : World} {b : Nat} {cs : List Value} {t e : TypeId} (h : Blk w b cs t) (hte : t ≠ e) {base sz n : Nat} {v : Value} {xs : List Value} (hr : w.ownsRow base e sz v n xs) : some b ≠ v.ownBlock := by
  rcases hr.2 with ⟨rfl, _⟩ | ⟨g, cap, cur, rfl, _, hgb, _⟩
  · simp [Value.ownBlock]
  · intro e1
    simp only [Value.ownBlock, Option.some.injEq] at e1
    subst e1
    unfold Blk at h
    rw [h] at hgb
    cases hgb
    exact hte rfl
end Go.Proofs.YteaokkaidcbdlaaGreatDoor
