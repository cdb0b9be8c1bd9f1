/- Part 9 of 51: the texts Rr, Ag, one behind the other. -/
import Derived.Test.YteaokkaidcbdlaaGreatDoorQ8
import Derived.Deep.Slices
import Derived.OpenShut
import Derived.ProofKit
import Derived.Tactics
import Derived.Tactics2
import Derived.WalkKit
import Derived.LoopTactic
import Derived.Outline
import Derived.Lib.Hide
import Derived.Handy
import Derived.KernelRfl
import Derived.Deep.LoopGhost
import Derived.CallsIn
import Derived.Deep.QuietTactic
import Derived.BigQuiet
import Derived.Deep.Draws
import Derived.WalkSpells
import Derived.Lib.Walk
import Derived.Lib.Strings
import Derived.Maps.OwnOps
import Derived.Maps.OwnSet
import Derived.Deep.RegionWith
import Derived.StillTailTactics
import Derived.WalkMore
import Derived.RangeFuncNested
import Derived.RangeFuncBound
import Derived.RangeFuncCalls
import Derived.RangeFuncLeaves
import Derived.RangeFuncBox
import Derived.Shelf.Abstract
import Derived.OwnWalkIn
import Derived.TacticsInMore
import Derived.LoopNIn
import Derived.LoopIn
import Derived.RecoverIn
import Derived.Maps.AppendAt
import Derived.RegionTactic
import Derived.ChangeAlike
import Derived.OwnWalk
import Derived.Deep.AppendLies
import Derived.Deep.DeepCutAuto
import Derived.Deep.RegionLaw
import Derived.Deep.RegionHeld3
import Derived.Laws.EntriesVeiled
import Derived.Test.YteaokkaidcbdlaaGreatDoorQ2
/- An argument that is a graph, as a row reads it, lies where it should. -/
namespace Go.Proofs.YteaokkaidcbdlaaGreatDoor
open Go Go.RowKit Go.Shelf
/-! ### An argument that is read gives where it lies -/
theorem cells_each {W : World} {b off n : Nat} {cs : List Value} (h : W.cells? 0 ⟨b, off, none⟩ n = some cs) : cs.length = n ∧ ∀ i v, cs[i]? = some v → W.cell? ⟨b, off + i, none⟩ = some v := by
  obtain ⟨_, hl, hc⟩ := World.cells?_some h
  refine ⟨hl, fun i v hv => ?_⟩
  have hi : i < n := by rw [← hl]; exact (List.getElem?_eq_some_iff.1 hv).1
  have := hc i hi
  rw [Go.WideShapes.add_plain] at this
  rw [this, hv]
theorem list_of_each {α : Type} {P : Nat → α → Prop} : ∀ n : Nat, (∀ i, i < n → ∃ z, P i z) → ∃ l : List α, l.length = n ∧ ∀ i z, l[i]? = some z → P i z
  | 0, _ => ⟨[], rfl, fun i z h => by simp at h⟩
  | n + 1, h => by
    obtain ⟨l, hl, hp⟩ := list_of_each n (fun i hi => h i (by omega))
    obtain ⟨z, hz⟩ := h n (by omega)
    refine ⟨l ++ [z], by simp [hl], fun i x hx => ?_⟩
    rcases Nat.lt_or_ge i n with hi | hi
    · rw [List.getElem?_append_left (by omega)] at hx; exact hp i x hx
    · rw [List.getElem?_append_right (by omega)] at hx
      have hi0 : i - l.length = 0 := by
        rcases Nat.eq_zero_or_pos (i - l.length) with h0 | h0
        · exact h0
        · rw [List.getElem?_eq_none (by simp; omega)] at hx; cases hx
      rw [hi0] at hx
      simp at hx
      subst hx
      have : i = n := by omega
      subst this; exact hz
theorem slice_read {H : Type} {enc : TypeId × Value → H} {W : World} {spare : Nat → Bool} {held : Bool} {t e : TypeId} {fuel : Nat} {v : Value} {x : DataW H × List MemPlace} {sz : Nat} {α : Type} {At : Nat → Nat → α → Prop} {Q : α → Prop}
    (ht : Tryz.prog.underlying t = some (.slice e)) (hsz : Tryz.prog.cellsOf e = sz) (hs : 0 < sz)
    (one : ∀ (b k n : Nat) (cs : List Value) y, W.cells? 0 ⟨b, k, none⟩ sz = some cs → DataW.trod enc Tryz.prog W 0 spare held n e cs = some y → ∃ z, At b k z ∧ Q z)
    (h : DataW.trod enc Tryz.prog W 0 spare held fuel t [v] = some x) : ∃ l, SliceOf sz At v l ∧ ∀ z ∈ l, Q z := by
  rcases Go.Deep.open_slice ht h with ⟨hcs, _⟩ | ⟨a, len, cap, m, n, D, Pl, hcs, _, hl, hm, hmm, _, hx⟩
  · simp only [List.cons.injEq, and_true] at hcs
    subst hcs
    exact ⟨[], ⟨none, 0, rfl, Nat.le_refl _, Nat.zero_le _, fun i x hx => by simp at hx⟩, by simp⟩
  · simp only [List.cons.injEq, and_true] at hcs
    subst hcs
    have hlm : len ≤ m := by rw [hmm]; split <;> omega
    rcases Nat.eq_zero_or_pos len with h0 | h0
    · subst h0
      exact ⟨[], ⟨some a, cap, rfl, Nat.zero_le _, hm, fun i x hx => by simp at hx⟩, by simp⟩
    · obtain ⟨b, off, spot⟩ := a
      have hsp : spot = none := by
        obtain ⟨cs', hc, _⟩ := hx 0 (by omega)
        obtain ⟨_, hl', hc'⟩ := World.cells?_some hc
        have h1 := hc' 0 (by rw [hsz]; exact hs)
        rw [List.getElem?_eq_getElem (by rw [hl', hsz]; exact hs)] at h1
        simpa [Addr.add] using World.cell?_spot h1
      subst hsp
      obtain ⟨l, hll, hlp⟩ := list_of_each (P := fun i z => At b (off + i * sz) z ∧ Q z) len (fun i hi => by
        obtain ⟨cs', hc, htr⟩ := hx i (by omega)
        rw [hsz, Go.WideShapes.add_plain] at hc
        exact one _ _ _ _ _ hc htr)
      refine ⟨l, ⟨some ⟨b, off, none⟩, cap, by rw [hll], by omega, hm, fun i z hz => ⟨b, off, rfl, (hlp i z hz).1⟩⟩, fun z hz => ?_⟩
      obtain ⟨i, hi, rfl⟩ := List.mem_iff_getElem.1 hz
      exact (hlp i _ (List.getElem?_eq_getElem hi)).2
theorem one_cell {cs : List Value} {n : Nat} (h : n < cs.length) : (cs.drop n).take 1 = [cs[n]] := by
  rw [List.drop_eq_getElem_cons h, List.take_succ_cons, List.take_zero]
set_option maxRecDepth 100000
section Reads
variable {H : Type} {enc : TypeId × Value → H} {W : World} {spare : Nat → Bool} {held : Bool}
theorem int_read {fuel : Nat} {v : Value} {x : DataW H × List MemPlace} (h : DataW.trod enc Tryz.prog W 0 spare held fuel 3 [v] = some x) : ∃ n, v = .int .i64 n := by
  obtain ⟨n, hc, _, _⟩ := DataW.trod_int Tryz.underlying3 h
  simp only [List.cons.injEq, and_true] at hc
  exact ⟨n, hc⟩
theorem str_read {fuel : Nat} {v : Value} {x : DataW H × List MemPlace} (h : DataW.trod enc Tryz.prog W 0 spare held fuel 9 [v] = some x) : ∃ s, v = .string s ∧ s.size ≤ maxLen := by
  obtain ⟨n, hc, _, hs⟩ := DataW.trod_string Tryz.underlying9 h
  simp only [List.cons.injEq, and_true] at hc
  exact ⟨n, hc, hs⟩
theorem ints_read {fuel : Nat} {v : Value} {x : DataW H × List MemPlace} (h : DataW.trod enc Tryz.prog W 0 spare held fuel 37 [v] = some x) : ∃ l : List Int, SliceOf 1 (IntAt W) v l := by
  obtain ⟨l, hl, _⟩ := slice_read (At := IntAt W) (Q := fun _ => True) Tryz.underlying37 (sz := 1) (by kernel_rfl) (by decide) (fun b k n cs y hc hy => by
    obtain ⟨hcl, hat⟩ := cells_each hc
    match cs, hcl with
    | [c], _ =>
      obtain ⟨z, rfl⟩ := int_read hy
      exact ⟨z, by have := hat 0 _ rfl; simpa [IntAt] using this, trivial⟩) h
  exact ⟨l, hl⟩
theorem strs_read {fuel : Nat} {v : Value} {x : DataW H × List MemPlace} (h : DataW.trod enc Tryz.prog W 0 spare held fuel 70 [v] = some x) : ∃ l : List ByteArray, SliceOf 1 (StrAt W) v l ∧ ∀ s ∈ l, s.size ≤ maxLen :=
  slice_read (At := StrAt W) (Q := fun s => s.size ≤ maxLen) Tryz.underlying70 (sz := 1) (by kernel_rfl) (by decide) (fun b k n cs y hc hy => by
    obtain ⟨hcl, hat⟩ := cells_each hc
    match cs, hcl with
    | [c], _ =>
      obtain ⟨z, rfl, hz⟩ := str_read hy
      exact ⟨z, by have := hat 0 _ rfl; simpa [StrAt] using this, hz⟩) h
theorem c1_3 : Tryz.prog.cellsOf 3 = 1 := by kernel_rfl
theorem c1_4 : Tryz.prog.cellsOf 4 = 1 := by kernel_rfl
theorem c1_5 : Tryz.prog.cellsOf 5 = 1 := by kernel_rfl
theorem c1_9 : Tryz.prog.cellsOf 9 = 1 := by kernel_rfl
theorem c1_37 : Tryz.prog.cellsOf 37 = 1 := by kernel_rfl
theorem c1_70 : Tryz.prog.cellsOf 70 = 1 := by kernel_rfl
theorem c1_58 : Tryz.prog.cellsOf 58 = 1 := by kernel_rfl
theorem c1_59 : Tryz.prog.cellsOf 59 = 1 := by kernel_rfl
theorem c1_60 : Tryz.prog.cellsOf 60 = 1 := by kernel_rfl
theorem c3_72 : Tryz.prog.cellsOf 72 = 3 := by kernel_rfl
theorem field_read {fs : Array Field} {t : TypeId} {fuel : Nat} {cs : List Value} {x : DataW H × List MemPlace} (ht : Tryz.prog.underlying t = some (.struct fs)) (h : DataW.trod enc Tryz.prog W 0 spare held fuel t cs = some x) :
    ∃ n, ∀ (i : Nat) (e : TypeId) (o : Nat), (fs[i]?).map (fun f => (f.type, f.offset)) = some (e, o) → ∃ y, DataW.trod enc Tryz.prog W 0 spare held n e ((cs.drop o).take (Tryz.prog.cellsOf e)) = some y := by
  obtain ⟨xs, n, _, _, _, hl, hf⟩ := DataW.trod_struct ht h
  refine ⟨n, fun i e o hi => ?_⟩
  cases hfi : fs[i]? with
  | none => rw [hfi] at hi; cases hi
  | some f =>
    rw [hfi] at hi
    simp only [Option.map_some, Option.some.injEq, Prod.mk.injEq] at hi
    obtain ⟨rfl, rfl⟩ := hi
    have hlt : i < xs.length := by rw [hl]; exact (Array.getElem?_eq_some_iff.1 hfi).1
    exact ⟨xs[i], by rw [hf i f hfi, List.getElem?_eq_getElem hlt]⟩
theorem parts_read {fuel : Nat} {v : Value} {x : DataW H × List MemPlace} (h : DataW.trod enc Tryz.prog W 0 spare held fuel 58 [v] = some x) : ∃ l : List PartD, SliceOf 2 (PartAt W) v l ∧ ∀ p ∈ l, p.name.size ≤ maxLen :=
  slice_read (At := PartAt W) (Q := fun p => p.name.size ≤ maxLen) Tryz.underlying58 (sz := 2) (by kernel_rfl) (by decide) (fun b k n cs y hc hy => by
    obtain ⟨hcl, hat⟩ := cells_each hc
    obtain ⟨m, hf⟩ := field_read Tryz.underlying93 hy
    match cs, hcl with
    | [c0, c1], _ =>
      obtain ⟨y0, h0⟩ := hf 0 9 0 rfl
      obtain ⟨y1, h1⟩ := hf 1 3 1 rfl
      simp only [c1_9, c1_3, List.drop_zero, List.drop_succ_cons, List.take_succ_cons, List.take_zero] at h0 h1
      obtain ⟨s, rfl, hs⟩ := str_read h0
      obtain ⟨z, rfl⟩ := int_read h1
      exact ⟨⟨s, z⟩, ⟨hat 0 _ rfl, hat 1 _ rfl⟩, hs⟩) h
theorem overs_read {fuel : Nat} {v : Value} {x : DataW H × List MemPlace} (h : DataW.trod enc Tryz.prog W 0 spare held fuel 60 [v] = some x) : ∃ l : List OverD, SliceOf 2 (OverAt W) v l ∧ ∀ p ∈ l, p.name.size ≤ maxLen ∧ p.proc.size ≤ maxLen :=
  slice_read (At := OverAt W) (Q := fun p => p.name.size ≤ maxLen ∧ p.proc.size ≤ maxLen) Tryz.underlying60 (sz := 2) (by kernel_rfl) (by decide) (fun b k n cs y hc hy => by
    obtain ⟨hcl, hat⟩ := cells_each hc
    obtain ⟨m, hf⟩ := field_read Tryz.underlying116 hy
    match cs, hcl with
    | [c0, c1], _ =>
      obtain ⟨y0, h0⟩ := hf 0 9 0 rfl
      obtain ⟨y1, h1⟩ := hf 1 9 1 rfl
      simp only [c1_9, List.drop_zero, List.drop_succ_cons, List.take_succ_cons, List.take_zero] at h0 h1
      obtain ⟨s, rfl, hs⟩ := str_read h0
      obtain ⟨z, rfl, hz⟩ := str_read h1
      exact ⟨⟨s, z⟩, ⟨hat 0 _ rfl, hat 1 _ rfl⟩, hs, hz⟩) h
theorem meths_read {fuel : Nat} {v : Value} {x : DataW H × List MemPlace} (h : DataW.trod enc Tryz.prog W 0 spare held fuel 59 [v] = some x) :
    ∃ l : List MethD, SliceOf 5 (MethAt W) v l ∧ ∀ p ∈ l, p.name.size ≤ maxLen ∧ p.proc.size ≤ maxLen ∧ ∀ r ∈ p.raises, r.size ≤ maxLen :=
  slice_read (At := MethAt W) (Q := fun p => p.name.size ≤ maxLen ∧ p.proc.size ≤ maxLen ∧ ∀ r ∈ p.raises, r.size ≤ maxLen) Tryz.underlying59 (sz := 5) (by kernel_rfl) (by decide) (fun b k n cs y hc hy => by
    obtain ⟨hcl, hat⟩ := cells_each hc
    obtain ⟨m, hf⟩ := field_read Tryz.underlying74 hy
    match cs, hcl with
    | [c0, c1, c2, c3, c4], _ =>
      obtain ⟨y0, h0⟩ := hf 0 9 0 rfl
      obtain ⟨y1, h1⟩ := hf 1 72 1 rfl
      obtain ⟨y2, h2⟩ := hf 2 9 4 rfl
      simp only [c1_9, c3_72, List.drop_zero, List.drop_succ_cons, List.take_succ_cons, List.take_zero] at h0 h1 h2
      obtain ⟨m', hg⟩ := field_read Tryz.underlying72 h1
      obtain ⟨z0, g0⟩ := hg 0 37 0 rfl
      obtain ⟨z1, g1⟩ := hg 1 3 1 rfl
      obtain ⟨z2, g2⟩ := hg 2 70 2 rfl
      simp only [c1_37, c1_3, c1_70, List.drop_zero, List.drop_succ_cons, List.take_succ_cons, List.take_zero] at g0 g1 g2
      obtain ⟨s, rfl, hs⟩ := str_read h0
      obtain ⟨q, rfl, hq⟩ := str_read h2
      obtain ⟨al, ha⟩ := ints_read g0
      obtain ⟨r, rfl⟩ := int_read g1
      obtain ⟨rs, hr, hrz⟩ := strs_read g2
      exact ⟨⟨s, al, r, rs, q⟩, ⟨c1, c3, ⟨ha, hr⟩, hat 0 _ rfl, hat 1 _ rfl, hat 2 _ rfl, hat 3 _ rfl, hat 4 _ rfl⟩, hs, hq, hrz⟩) h
/-- A graph that is read lies where it should, and its strings are such as Go has. -/
theorem graph_read {fuel : Nat} {v : Value} {x : DataW H × List MemPlace} (h : DataW.trod enc Tryz.prog W 0 spare held fuel 23 [v] = some x) : ∃ G : List TyD, GrAt W v G ∧ ∀ t ∈ G, TyZ t ∧ t.kind < 256 :=
  slice_read (At := TyAt W) (Q := fun t => TyZ t ∧ t.kind < 256) Tryz.underlying23 (sz := 10) (by kernel_rfl) (by decide) (fun b k n cs y hc hy => by
    obtain ⟨hcl, hat⟩ := cells_each hc
    obtain ⟨m, hf⟩ := field_read Tryz.underlying62 hy
    match cs, hcl with
    | [c0, c1, c2, c3, c4, c5, c6, c7, c8, c9], _ =>
      obtain ⟨y0, h0⟩ := hf 0 5 0 rfl
      obtain ⟨y1, h1⟩ := hf 1 3 1 rfl
      obtain ⟨y2, h2⟩ := hf 2 3 2 rfl
      obtain ⟨y3, h3⟩ := hf 3 4 3 rfl
      obtain ⟨y4, h4⟩ := hf 4 9 4 rfl
      obtain ⟨y5, h5⟩ := hf 5 9 5 rfl
      obtain ⟨y6, h6⟩ := hf 6 3 6 rfl
      obtain ⟨y7, h7⟩ := hf 7 58 7 rfl
      obtain ⟨y8, h8⟩ := hf 8 59 8 rfl
      obtain ⟨y9, h9⟩ := hf 9 60 9 rfl
      simp only [c1_9, c1_3, c1_4, c1_5, c1_58, c1_59, c1_60, List.drop_zero, List.drop_succ_cons, List.take_succ_cons, List.take_zero] at h0 h1 h2 h3 h4 h5 h6 h7 h8 h9
      obtain ⟨kd, hk0, _, hkw⟩ := DataW.trod_int Tryz.underlying5 h0
      simp only [List.cons.injEq, and_true] at hk0
      subst hk0
      have hkb := bounds_u8 hkw
      obtain ⟨lo, rfl⟩ := int_read h1
      obtain ⟨hi, rfl⟩ := int_read h2
      obtain ⟨br, hb0, _⟩ := DataW.trod_bool Tryz.underlying4 h3
      simp only [List.cons.injEq, and_true] at hb0
      subst hb0
      obtain ⟨bd, rfl, hbd⟩ := str_read h4
      obtain ⟨oq, rfl, hoq⟩ := str_read h5
      obtain ⟨su, rfl⟩ := int_read h6
      obtain ⟨ps, hps, hpz⟩ := parts_read h7
      obtain ⟨ms, hms, hmz⟩ := meths_read h8
      obtain ⟨os, hos, hoz⟩ := overs_read h9
      have hkn : ((kd.toNat : Nat) : Int) = kd := by omega
      exact ⟨⟨kd.toNat, lo, hi, br, bd, oq, su, ps, ms, os⟩, ⟨c7, c8, c9, ⟨hps, hms, hos⟩, by rw [hkn]; exact hat 0 _ rfl, hat 1 _ rfl, hat 2 _ rfl, hat 3 _ rfl, hat 4 _ rfl, hat 5 _ rfl, hat 6 _ rfl, hat 7 _ rfl, hat 8 _ rfl, hat 9 _ rfl⟩,
        ⟨hbd, hoq, hpz, hmz, hoz⟩, by show kd.toNat < 256; omega⟩) h
end Reads
/-- A graph that is light has few of each thing. -/
theorem light_z {G : List TyD} (h : ∀ t ∈ G, TyZ t ∧ t.kind < 256) (hl : lightB G = true) : GrZ G := by
  unfold lightB at hl
  simp only [Bool.and_eq_true, Bool.or_eq_true, decide_eq_true_eq, List.all_eq_true] at hl
  obtain ⟨ha, hn⟩ := hl
  have hlen : G.length ≤ 410 := by omega
  rw [List.take_of_length_le hlen] at ha
  refine ⟨hlen, fun t ht => ?_⟩
  have := ha t ht
  unfold tyLight at this
  simp only [Bool.and_eq_true, decide_eq_true_eq] at this
  refine ⟨(h t ht).1, ?_, ?_, ?_, (h t ht).2⟩ <;> omega
end Go.Proofs.YteaokkaidcbdlaaGreatDoor
/- How two lists are held together, element by element: of indices, of strings; parts. -/
namespace Go.Proofs.YteaokkaidcbdlaaGreatDoor
open Go Go.RowKit Go.Shelf
/-- Two lists, element by element. -/
def eqF {α : Type} (f : α → α → Bool) (l m : List α) : Bool := decide (l.length = m.length) && (l.zip m).all fun x => f x.1 x.2
def sameS (a b : ByteArray) : Bool := a.toList == b.toList
/-- Both are none, or neither is: how indices are held together where types agree. -/
def fitB (i j : Int) : Bool := (i == -1) == (j == -1)
theorem fit_any (i j : Int) (w : World) : Calls Tryz.prog 158 #[.int .i64 i, .int .i64 j] w fun e w' => e = .returned (.bool (fitB i j)) ∧ w' = w := by
  go_enter Tryz.func158, Tryz.ntmps158
  go_wp2
  go_ret
  exact ⟨rfl, rfl⟩
def fitV : Value := .func (.func 158) #[] #[]
theorem eqF_no {α : Type} {f : α → α → Bool} {l m : List α} (k : Nat) (h : k < l.length) (h2 : k < m.length) (hf : f l[k] m[k] = false) : eqF f l m = false := by
  unfold eqF
  rw [Bool.and_eq_false_iff]
  right
  rw [List.all_eq_false]
  exact ⟨(l[k], m[k]), by rw [List.mem_iff_getElem]; exact ⟨k, by simp; omega, by simp⟩, by simp [hf]⟩
theorem eqF_len {α : Type} {f : α → α → Bool} {l m : List α} (h : l.length ≠ m.length) : eqF f l m = false := by unfold eqF; simp [h]
theorem eqF_take {α : Type} {f : α → α → Bool} {l m : List α} (k : Nat) (h : k < l.length) (h2 : k < m.length) : ((l.zip m).take (k + 1)).all (fun x => f x.1 x.2) = (((l.zip m).take k).all (fun x => f x.1 x.2) && f l[k] m[k]) := by
  have hz : k < (l.zip m).length := by simp; omega
  rw [all_take _ _ _ hz, List.getElem_zip]
theorem eqF_yes {α : Type} {f : α → α → Bool} {l m : List α} (h : l.length = m.length) (ha : ((l.zip m).take l.length).all (fun x => f x.1 x.2) = true) : eqF f l m = true := by
  unfold eqF
  rw [List.take_of_length_le (by simp; omega)] at ha
  simp only [h, decide_true, Bool.true_and]
  exact ha
/-- slices.EqualFunc of indices, held together by agree's function. -/
theorem eqInts_any (v u : Value) (l m : List Int) (W : World) (hl : SliceOf 1 (IntAt W) v l) (hm : SliceOf 1 (IntAt W) u m) :
    Calls Tryz.prog 108 #[v, u, .func (.func 158) #[] #[]] W fun e w' => e = .returned (.bool (eqF fitB l m)) ∧ w' = W := by
  obtain ⟨o, cap, rfl⟩ := hl.form
  obtain ⟨p, cup, rfl⟩ := hm.form
  obtain ⟨_, hcm, hlc, hat⟩ := hl.at
  obtain ⟨_, hcm2, hlc2, hat2⟩ := hm.at
  have hl63 : l.length ≤ 9223372036854775807 := by unfold maxLen at hcm; omega
  clear hl hm hcm hcm2 hlc hlc2
  by_cases hlen : l.length = m.length
  · have hne : ((l.length : Int) != m.length) = false := by simp; omega
    go_enter Tryz.func108, Tryz.ntmps108
    go_wp2
    go_loopw [17] (fun i wr => ∃ k : Nat, k ≤ l.length ∧ i = .int .i64 k ∧ wr = W ∧ Hid (((l.zip m).take k).all (fun x => fitB x.1 x.2) = true)) (fun i _ => l.length - (intOf i).toNat)
    case atStart => exact ⟨0, Nat.zero_le _, rfl, rfl, Lib.hid rfl⟩
    case round =>
      obtain ⟨k, hk, rfl, rfl, HT⟩ := hrel
      by_cases hlt : k < l.length
      · have hlt2 : k < m.length := by omega
        have hlt' : (k : Int) < l.length := by omega
        have hlt2' : (k : Int) < m.length := by omega
        obtain ⟨b, off, rfl, e0⟩ := hat k l[k] (List.getElem?_eq_getElem hlt)
        obtain ⟨b2, off2, rfl, e1⟩ := hat2 k m[k] (List.getElem?_eq_getElem hlt2)
        have r0 : wr.cell? ⟨b, off + k, none⟩ = some (.int .i64 l[k]) := by simpa [IntAt] using e0
        have r1 : wr.cell? ⟨b2, off2 + k, none⟩ = some (.int .i64 m[k]) := by simpa [IntAt] using e1
        have hF := fit_any l[k] m[k]
        clear e0 e1 hat hat2 hlen hne
        cases hx : fitB l[k] m[k] with
        | false =>
          rw [hx] at hF
          have HF := hide hF
          have HX := Lib.hid (eqF_no k hlt hlt2 hx)
          clear hF hx
          go_wp2_with (first | (go_at_call 158; refine (unhide HF _).mono ?_; rintro e w4 ⟨rfl, rfl⟩))
          go_ret
          exact ⟨ret_bool HX.out.symm, rfl⟩
        | true =>
          rw [hx] at hF
          have HF := hide hF
          have HX := Lib.hid (show ((l.zip m).take (k + 1)).all (fun x => fitB x.1 x.2) = true by rw [eqF_take k hlt hlt2, HT.out, hx]; rfl)
          clear hF hx
          go_wp2_with (first | (go_at_call 158; refine (unhide HF _).mono ?_; rintro e w4 ⟨rfl, rfl⟩))
          go_roundw
          case rel => exact ⟨k + 1, by omega, by go_num, trivial, HX⟩
          case measure => simp [intOf]; omega
      · obtain rfl : k = l.length := by omega
        have HX := Lib.hid (eqF_yes hlen HT.out)
        go_wp2
        go_ret
        exact ⟨ret_bool HX.out.symm, rfl⟩
  · have hne : ((l.length : Int) != m.length) = true := by simp; omega
    have HX := Lib.hid (eqF_len (f := fitB) hlen)
    clear hlen hat hat2
    go_enter Tryz.func108, Tryz.ntmps108
    go_wp2
    go_ret
    exact ⟨ret_bool HX.out.symm, rfl⟩
theorem eqS_iff (a b : ByteArray) : sameS a b = decide (a = b) := by
  unfold sameS
  rw [toList_bs, toList_bs, Bool.eq_iff_iff, beq_iff_eq, decide_eq_true_iff]
  exact ⟨bs_ext, fun h => by rw [h]⟩
theorem eqF_eq (l m : List ByteArray) : eqF sameS l m = decide (l = m) := by
  by_cases h : l = m
  · subst h
    simp only [decide_true]
    refine eqF_yes rfl ?_
    rw [List.all_eq_true]
    intro x hx
    have hx' := List.mem_of_mem_take hx
    have : x.1 = x.2 := by
      obtain ⟨i, hi, rfl⟩ := List.mem_iff_getElem.1 hx'
      simp
    rw [eqS_iff]; simp [this]
  · rw [decide_eq_false h]
    by_cases hl : l.length = m.length
    · have : ∃ k, ∃ (h1 : k < l.length) (h2 : k < m.length), l[k] ≠ m[k] :=
        Classical.byContradiction fun hn => h (List.ext_getElem hl fun i h1 h2 => Classical.byContradiction fun hc => hn ⟨i, h1, h2, hc⟩)
      obtain ⟨k, h1, h2, hk⟩ := this
      exact eqF_no k h1 h2 (by rw [eqS_iff]; exact decide_eq_false hk)
    · exact eqF_len hl
theorem eqStrs_any (v u : Value) (l m : List ByteArray) (W : World) (hl : SliceOf 1 (StrAt W) v l) (hm : SliceOf 1 (StrAt W) u m) :
    Calls Tryz.prog 164 #[v, u] W fun e w' => e = .returned (.bool (eqF sameS l m)) ∧ ∃ n, w' = W.drewN n := by
  obtain ⟨o, cap, rfl⟩ := hl.form
  obtain ⟨p, cup, rfl⟩ := hm.form
  obtain ⟨_, hcm, hlc, hat⟩ := hl.at
  obtain ⟨_, hcm2, hlc2, hat2⟩ := hm.at
  unfold maxLen at hcm hcm2
  rw [eqF_eq]
  by_cases hlen : l.length = m.length
  · by_cases h0 : l.length = 0
    · have hl0 := List.length_eq_zero_iff.1 h0
      have hm0 := List.length_eq_zero_iff.1 (hlen ▸ h0)
      rw [h0]
      refine (Tryz.slices_Equal_string_empty o p cap m.length cup W (by omega)).mono ?_
      rintro e w' ⟨rfl, rfl⟩
      exact ⟨by rw [hl0, hm0]; rfl, 0, rfl⟩
    · obtain ⟨b, off, rfl, _⟩ := hat 0 l[0] (List.getElem?_eq_getElem (by omega))
      obtain ⟨b2, off2, rfl, _⟩ := hat2 0 m[0] (List.getElem?_eq_getElem (by omega))
      have := Tryz.slices_Equal_string b off l.length cap b2 off2 m.length cup l m W (Nat.le_refl _) (Nat.le_refl _) (by omega) (by omega) (fun j hj => by
        obtain ⟨b', off', hq, hc⟩ := hat j l[j] (List.getElem?_eq_getElem hj)
        cases hq
        have hc' : W.cell? ⟨b, off + j, none⟩ = some (.string l[j]) := by simpa [StrAt] using hc
        rw [hc', List.getD, List.getElem?_eq_getElem hj]; rfl) (fun j hj => by
        obtain ⟨b', off', hq, hc⟩ := hat2 j m[j] (List.getElem?_eq_getElem hj)
        cases hq
        have hc' : W.cell? ⟨b2, off2 + j, none⟩ = some (.string m[j]) := by simpa [StrAt] using hc
        rw [hc', List.getD, List.getElem?_eq_getElem hj]; rfl)
      rw [List.take_length, List.take_length] at this
      exact this
  · refine (Tryz.slices_Equal_string_lens o p l.length cap m.length cup W hlen).mono ?_
    rintro e w' ⟨rfl, rfl⟩
    exact ⟨ret_bool (by symm; exact decide_eq_false (fun h => hlen (by rw [h]))), 0, rfl⟩
set_option maxRecDepth 100000 in
set_option maxHeartbeats 4000000 in
theorem partFit_any (x y : ByteArray) (i j : Int) (fb : Nat) (W : World) (hf : W.cell? ⟨fb, 0, none⟩ = some fitV) :
    Calls Tryz.prog 162 #[.agg #[.string x, .int .i64 i], .agg #[.string y, .int .i64 j], .pointer (some ⟨fb, 0, none⟩)] W fun e w' => e = .returned (.bool (sameS x y && fitB i j)) ∧ Below W.heap.size W w' := by
  have hf2 : ∀ o1 o2, ((W.alloc o1).alloc o2).cell? ⟨fb, 0, none⟩ = some (.func (.func 158) #[] #[]) := fun o1 o2 => by
    have hl : fb < W.heap.size := cell_lt hf
    rw [World.cell?_alloc_lt _ _ _ (by simp only [World.size_alloc]; omega), World.cell?_alloc_lt _ _ _ hl]; exact hf
  have hs : (x.toList == y.toList) = sameS x y := rfl
  clear hf
  generalize sameS x y = s at hs ⊢
  cases s
  all_goals
    go_enter Tryz.func162, Tryz.ntmps162
    go_wp2_with (first | (go_at_call 158; refine (fit_any _ _ _).mono ?_; rintro e w4 ⟨rfl, rfl⟩))
    go_ret
    exact ⟨rfl, ((Below.refl _ _).alloc (Nat.le_refl _) _).alloc (by simp) _⟩
end Go.Proofs.YteaokkaidcbdlaaGreatDoor
