/- Part 20 of 53: the texts Rr, Kp, Ch, Oa, Om, one behind the other. -/
import Derived.Test.YteaokkaidcbdlaaGreatDoorM7
import Derived.Test.YteaokkaidcbdlaaGreatDoorM8
import Derived.Deep.Slices
import Derived.OpenShut
import Derived.ProofKit
import Derived.Test.YteaokkaidcbdlaaGreatDoorM14
import Derived.Test.YteaokkaidcbdlaaGreatDoorM4
import Derived.DeepKeys4
import Derived.WideKeyPair
import Derived.Laws.StructEq
import Derived.Laws.Cover2
import Derived.Laws.Small
import Derived.Test.YteaokkaidcbdlaaGreatDoorM19
import Derived.Test.YteaokkaidcbdlaaGreatDoorM15
import Derived.Test.YteaokkaidcbdlaaGreatDoorM13
namespace Go.Proofs.YteaokkaidcbdlaaGreatDoor
open Go Go.RowKit Go.Shelf
theorem cells_each {W : World} {b off n : Nat} {cs : List Value} (h : W.cells? 0 ⟨b, off, none⟩ n = some cs) : cs.length = n ∧ ∀ i v, cs[i]? = some v → W.cell? ⟨b, off + i, none⟩ = some v := by
 obtain ⟨_, hl, hc⟩ := World.cells?_some h
 refine ⟨hl, fun i v hv => ?_⟩
 have hi : i < n := by rw [← hl]; exact (List.getElem?_eq_some_iff.1 hv).1
 have := hc i hi
 rw [Go.WideShapes.add_plain] at this
 rw [this, hv]
theorem list_of_each {α : Type} {P : Nat → α → Prop} : ∀ n : Nat, (∀ i, i < n → ∃ z, P i z) → ∃ l : List α, l.length = n ∧ ∀ i z, l[i]? = some z → P i z
 | 0, _ => ⟨[], rfl, fun i z h => by simp at h⟩
 | n + 1, h => by
   obtain ⟨l, hl, hp⟩ := list_of_each n (fun i hi => h i (by omega))
   obtain ⟨z, hz⟩ := h n (by omega)
   refine ⟨l ++ [z], by simp [hl], fun i x hx => ?_⟩
   rcases Nat.lt_or_ge i n with hi | hi
   ·rw [List.getElem?_append_left (by omega)] at hx; exact hp i x hx
   ·rw [List.getElem?_append_right (by omega)] at hx
    have hi0 : i - l.length = 0 := by
     rcases Nat.eq_zero_or_pos (i - l.length) with h0 | h0
     ·exact h0
     ·rw [List.getElem?_eq_none (by simp; omega)] at hx; cases hx
    rw [hi0] at hx
    simp at hx
    subst hx
    have : i = n := by omega
    subst this; exact hz
theorem slice_read {H : Type} {enc : TypeId × Value → H} {W : World} {spare : Nat → Bool} {held : Bool} {t e : TypeId} {fuel : Nat} {v : Value} {x : DataW H × List MemPlace} {sz : Nat} {α : Type} {At : Nat → Nat → α → Prop} {Q : α → Prop}
    (ht : Tryz.prog.underlying t = some (.slice e)) (hsz : Tryz.prog.cellsOf e = sz) (hs : 0 < sz)
    (one : ∀ (b k n : Nat) (cs : List Value) y, W.cells? 0 ⟨b, k, none⟩ sz = some cs → DataW.trod enc Tryz.prog W 0 spare held n e cs = some y → ∃ z, At b k z ∧ Q z)
    (h : DataW.trod enc Tryz.prog W 0 spare held fuel t [v] = some x) : ∃ l, SliceOf sz At v l ∧ ∀ z ∈ l, Q z := by
  rcases Go.Deep.open_slice ht h with ⟨hcs, _⟩ | ⟨a, len, cap, m, n, D, Pl, hcs, _, hl, hm, hmm, _, hx⟩
  ·simp only [List.cons.injEq, and_true] at hcs
   subst hcs
   exact ⟨[], ⟨none, 0, rfl, Nat.le_refl _, Nat.zero_le _, fun i x hx => by simp at hx⟩, by simp⟩
  ·simp only [List.cons.injEq, and_true] at hcs
   subst hcs
   have hlm : len ≤ m := by rw [hmm]; split <;> omega
   rcases Nat.eq_zero_or_pos len with h0 | h0
   ·subst h0
    exact ⟨[], ⟨some a, cap, rfl, Nat.zero_le _, hm, fun i x hx => by simp at hx⟩, by simp⟩
   ·obtain ⟨b, off, spot⟩ := a
    have hsp : spot = none := by
     obtain ⟨cs', hc, _⟩ := hx 0 (by omega)
     obtain ⟨_, hl', hc'⟩ := World.cells?_some hc
     have h1 := hc' 0 (by rw [hsz]; exact hs)
     rw [List.getElem?_eq_getElem (by rw [hl', hsz]; exact hs)] at h1
     simpa [Addr.add] using World.cell?_spot h1
    subst hsp
    obtain ⟨l, hll, hlp⟩ := list_of_each (P := fun i z => At b (off + i * sz) z ∧ Q z) len (fun i hi => by
     obtain ⟨cs', hc, htr⟩ := hx i (by omega)
     rw [hsz, Go.WideShapes.add_plain] at hc
     exact one _ _ _ _ _ hc htr)
    refine ⟨l, ⟨some ⟨b, off, none⟩, cap, by rw [hll], by omega, hm, fun i z hz => ⟨b, off, rfl, (hlp i z hz).1⟩⟩, fun z hz => ?_⟩
    obtain ⟨i, hi, rfl⟩ := List.mem_iff_getElem.1 hz
    exact (hlp i _ (List.getElem?_eq_getElem hi)).2
set_option maxRecDepth 100000
section Reads
variable {H : Type} {enc : TypeId × Value → H} {W : World} {spare : Nat → Bool} {held : Bool}
theorem int_read {fuel : Nat} {v : Value} {x : DataW H × List MemPlace} (h : DataW.trod enc Tryz.prog W 0 spare held fuel 3 [v] = some x) : ∃ n, v = .int .i64 n := by
 obtain ⟨n, hc, _, _⟩ := DataW.trod_int Tryz.underlying3 h
 simp only [List.cons.injEq, and_true] at hc
 exact ⟨n, hc⟩
theorem str_read {fuel : Nat} {v : Value} {x : DataW H × List MemPlace} (h : DataW.trod enc Tryz.prog W 0 spare held fuel 9 [v] = some x) : ∃ s, v = .string s ∧ s.size ≤ maxLen := by
 obtain ⟨n, hc, _, hs⟩ := DataW.trod_string Tryz.underlying9 h
 simp only [List.cons.injEq, and_true] at hc
 exact ⟨n, hc, hs⟩
theorem ints_read {fuel : Nat} {v : Value} {x : DataW H × List MemPlace} (h : DataW.trod enc Tryz.prog W 0 spare held fuel 37 [v] = some x) : ∃ l : List Int, SliceOf 1 (IntAt W) v l := by
 obtain ⟨l, hl, _⟩ := slice_read (At := IntAt W) (Q := fun _ => True) Tryz.underlying37 (sz := 1) (by kernel_rfl) (by decide) (fun b k n cs y hc hy => by
  obtain ⟨hcl, hat⟩ := cells_each hc
  match cs, hcl with
  | [c], _ =>
    obtain ⟨z, rfl⟩ := int_read hy
    exact ⟨z, by have := hat 0 _ rfl; simpa [IntAt] using this, trivial⟩) h
 exact ⟨l, hl⟩
theorem strs_read {fuel : Nat} {v : Value} {x : DataW H × List MemPlace} (h : DataW.trod enc Tryz.prog W 0 spare held fuel 70 [v] = some x) : ∃ l : List ByteArray, SliceOf 1 (StrAt W) v l ∧ ∀ s ∈ l, s.size ≤ maxLen :=
 slice_read (At := StrAt W) (Q := fun s => s.size ≤ maxLen) Tryz.underlying70 (sz := 1) (by kernel_rfl) (by decide) (fun b k n cs y hc hy => by
  obtain ⟨hcl, hat⟩ := cells_each hc
  match cs, hcl with
  | [c], _ =>
    obtain ⟨z, rfl, hz⟩ := str_read hy
    exact ⟨z, by have := hat 0 _ rfl; simpa [StrAt] using this, hz⟩) h
theorem c1_3 : Tryz.prog.cellsOf 3 = 1 := by kernel_rfl
theorem c1_4 : Tryz.prog.cellsOf 4 = 1 := by kernel_rfl
theorem c1_5 : Tryz.prog.cellsOf 5 = 1 := by kernel_rfl
theorem c1_9 : Tryz.prog.cellsOf 9 = 1 := by kernel_rfl
theorem c1_37 : Tryz.prog.cellsOf 37 = 1 := by kernel_rfl
theorem c1_70 : Tryz.prog.cellsOf 70 = 1 := by kernel_rfl
theorem c1_58 : Tryz.prog.cellsOf 58 = 1 := by kernel_rfl
theorem c1_59 : Tryz.prog.cellsOf 59 = 1 := by kernel_rfl
theorem c1_60 : Tryz.prog.cellsOf 60 = 1 := by kernel_rfl
theorem c3_72 : Tryz.prog.cellsOf 72 = 3 := by kernel_rfl
theorem field_read {fs : Array Field} {t : TypeId} {fuel : Nat} {cs : List Value} {x : DataW H × List MemPlace} (ht : Tryz.prog.underlying t = some (.struct fs)) (h : DataW.trod enc Tryz.prog W 0 spare held fuel t cs = some x) :
    ∃ n, ∀ (i : Nat) (e : TypeId) (o : Nat), (fs[i]?).map (fun f => (f.type, f.offset)) = some (e, o) → ∃ y, DataW.trod enc Tryz.prog W 0 spare held n e ((cs.drop o).take (Tryz.prog.cellsOf e)) = some y := by
  obtain ⟨xs, n, _, _, _, hl, hf⟩ := DataW.trod_struct ht h
  refine ⟨n, fun i e o hi => ?_⟩
  cases hfi : fs[i]? with
  | none => rw [hfi] at hi; cases hi
  | some f =>
    rw [hfi] at hi
    simp only [Option.map_some, Option.some.injEq, Prod.mk.injEq] at hi
    obtain ⟨rfl, rfl⟩ := hi
    have hlt : i < xs.length := by rw [hl]; exact (Array.getElem?_eq_some_iff.1 hfi).1
    exact ⟨xs[i], by rw [hf i f hfi, List.getElem?_eq_getElem hlt]⟩
theorem parts_read {fuel : Nat} {v : Value} {x : DataW H × List MemPlace} (h : DataW.trod enc Tryz.prog W 0 spare held fuel 58 [v] = some x) : ∃ l : List PartD, SliceOf 2 (PartAt W) v l ∧ ∀ p ∈ l, p.name.size ≤ maxLen :=
 slice_read (At := PartAt W) (Q := fun p => p.name.size ≤ maxLen) Tryz.underlying58 (sz := 2) (by kernel_rfl) (by decide) (fun b k n cs y hc hy => by
  obtain ⟨hcl, hat⟩ := cells_each hc
  obtain ⟨m, hf⟩ := field_read Tryz.underlying93 hy
  match cs, hcl with
  | [c0, c1], _ =>
    obtain ⟨y0, h0⟩ := hf 0 9 0 rfl
    obtain ⟨y1, h1⟩ := hf 1 3 1 rfl
    simp only [c1_9, c1_3, List.drop_zero, List.drop_succ_cons, List.take_succ_cons, List.take_zero] at h0 h1
    obtain ⟨s, rfl, hs⟩ := str_read h0
    obtain ⟨z, rfl⟩ := int_read h1
    exact ⟨⟨s, z⟩, ⟨hat 0 _ rfl, hat 1 _ rfl⟩, hs⟩) h
theorem overs_read {fuel : Nat} {v : Value} {x : DataW H × List MemPlace} (h : DataW.trod enc Tryz.prog W 0 spare held fuel 60 [v] = some x) : ∃ l : List OverD, SliceOf 2 (OverAt W) v l ∧ ∀ p ∈ l, p.name.size ≤ maxLen ∧ p.proc.size ≤ maxLen :=
 slice_read (At := OverAt W) (Q := fun p => p.name.size ≤ maxLen ∧ p.proc.size ≤ maxLen) Tryz.underlying60 (sz := 2) (by kernel_rfl) (by decide) (fun b k n cs y hc hy => by
  obtain ⟨hcl, hat⟩ := cells_each hc
  obtain ⟨m, hf⟩ := field_read Tryz.underlying116 hy
  match cs, hcl with
  | [c0, c1], _ =>
    obtain ⟨y0, h0⟩ := hf 0 9 0 rfl
    obtain ⟨y1, h1⟩ := hf 1 9 1 rfl
    simp only [c1_9, List.drop_zero, List.drop_succ_cons, List.take_succ_cons, List.take_zero] at h0 h1
    obtain ⟨s, rfl, hs⟩ := str_read h0
    obtain ⟨z, rfl, hz⟩ := str_read h1
    exact ⟨⟨s, z⟩, ⟨hat 0 _ rfl, hat 1 _ rfl⟩, hs, hz⟩) h
theorem meths_read {fuel : Nat} {v : Value} {x : DataW H × List MemPlace} (h : DataW.trod enc Tryz.prog W 0 spare held fuel 59 [v] = some x) :
    ∃ l : List MethD, SliceOf 5 (MethAt W) v l ∧ ∀ p ∈ l, p.name.size ≤ maxLen ∧ p.proc.size ≤ maxLen ∧ ∀ r ∈ p.raises, r.size ≤ maxLen :=
  slice_read (At := MethAt W) (Q := fun p => p.name.size ≤ maxLen ∧ p.proc.size ≤ maxLen ∧ ∀ r ∈ p.raises, r.size ≤ maxLen) Tryz.underlying59 (sz := 5) (by kernel_rfl) (by decide) (fun b k n cs y hc hy => by
   obtain ⟨hcl, hat⟩ := cells_each hc
   obtain ⟨m, hf⟩ := field_read Tryz.underlying74 hy
   match cs, hcl with
   | [c0, c1, c2, c3, c4], _ =>
     obtain ⟨y0, h0⟩ := hf 0 9 0 rfl
     obtain ⟨y1, h1⟩ := hf 1 72 1 rfl
     obtain ⟨y2, h2⟩ := hf 2 9 4 rfl
     simp only [c1_9, c3_72, List.drop_zero, List.drop_succ_cons, List.take_succ_cons, List.take_zero] at h0 h1 h2
     obtain ⟨m', hg⟩ := field_read Tryz.underlying72 h1
     obtain ⟨z0, g0⟩ := hg 0 37 0 rfl
     obtain ⟨z1, g1⟩ := hg 1 3 1 rfl
     obtain ⟨z2, g2⟩ := hg 2 70 2 rfl
     simp only [c1_37, c1_3, c1_70, List.drop_zero, List.drop_succ_cons, List.take_succ_cons, List.take_zero] at g0 g1 g2
     obtain ⟨s, rfl, hs⟩ := str_read h0
     obtain ⟨q, rfl, hq⟩ := str_read h2
     obtain ⟨al, ha⟩ := ints_read g0
     obtain ⟨r, rfl⟩ := int_read g1
     obtain ⟨rs, hr, hrz⟩ := strs_read g2
     exact ⟨⟨s, al, r, rs, q⟩, ⟨c1, c3, ⟨ha, hr⟩, hat 0 _ rfl, hat 1 _ rfl, hat 2 _ rfl, hat 3 _ rfl, hat 4 _ rfl⟩, hs, hq, hrz⟩) h
theorem graph_read {fuel : Nat} {v : Value} {x : DataW H × List MemPlace} (h : DataW.trod enc Tryz.prog W 0 spare held fuel 23 [v] = some x) : ∃ G : List TyD, GrAt W v G ∧ ∀ t ∈ G, TyZ t ∧ t.kind < 256 :=
 slice_read (At := TyAt W) (Q := fun t => TyZ t ∧ t.kind < 256) Tryz.underlying23 (sz := 10) (by kernel_rfl) (by decide) (fun b k n cs y hc hy => by
  obtain ⟨hcl, hat⟩ := cells_each hc
  obtain ⟨m, hf⟩ := field_read Tryz.underlying62 hy
  match cs, hcl with
  | [c0, c1, c2, c3, c4, c5, c6, c7, c8, c9], _ =>
    obtain ⟨y0, h0⟩ := hf 0 5 0 rfl
    obtain ⟨y1, h1⟩ := hf 1 3 1 rfl
    obtain ⟨y2, h2⟩ := hf 2 3 2 rfl
    obtain ⟨y3, h3⟩ := hf 3 4 3 rfl
    obtain ⟨y4, h4⟩ := hf 4 9 4 rfl
    obtain ⟨y5, h5⟩ := hf 5 9 5 rfl
    obtain ⟨y6, h6⟩ := hf 6 3 6 rfl
    obtain ⟨y7, h7⟩ := hf 7 58 7 rfl
    obtain ⟨y8, h8⟩ := hf 8 59 8 rfl
    obtain ⟨y9, h9⟩ := hf 9 60 9 rfl
    simp only [c1_9, c1_3, c1_4, c1_5, c1_58, c1_59, c1_60, List.drop_zero, List.drop_succ_cons, List.take_succ_cons, List.take_zero] at h0 h1 h2 h3 h4 h5 h6 h7 h8 h9
    obtain ⟨kd, hk0, _, hkw⟩ := DataW.trod_int Tryz.underlying5 h0
    simp only [List.cons.injEq, and_true] at hk0
    subst hk0
    have hkb := bounds_u8 hkw
    obtain ⟨lo, rfl⟩ := int_read h1
    obtain ⟨hi, rfl⟩ := int_read h2
    obtain ⟨br, hb0, _⟩ := DataW.trod_bool Tryz.underlying4 h3
    simp only [List.cons.injEq, and_true] at hb0
    subst hb0
    obtain ⟨bd, rfl, hbd⟩ := str_read h4
    obtain ⟨oq, rfl, hoq⟩ := str_read h5
    obtain ⟨su, rfl⟩ := int_read h6
    obtain ⟨ps, hps, hpz⟩ := parts_read h7
    obtain ⟨ms, hms, hmz⟩ := meths_read h8
    obtain ⟨os, hos, hoz⟩ := overs_read h9
    have hkn : ((kd.toNat : Nat) : Int) = kd := by omega
    exact ⟨⟨kd.toNat, lo, hi, br, bd, oq, su, ps, ms, os⟩, ⟨c7, c8, c9, ⟨hps, hms, hos⟩, by rw [hkn]; exact hat 0 _ rfl, hat 1 _ rfl, hat 2 _ rfl, hat 3 _ rfl, hat 4 _ rfl, hat 5 _ rfl, hat 6 _ rfl, hat 7 _ rfl, hat 8 _ rfl, hat 9 _ rfl⟩,
     ⟨hbd, hoq, hpz, hmz, hoz⟩, by show kd.toNat < 256; omega⟩) h
end Reads
theorem light_z {G : List TyD} (h : ∀ t ∈ G, TyZ t ∧ t.kind < 256) (hl : lightB G = true) : GrZ G := by
 unfold lightB at hl
 simp only [Bool.and_eq_true, Bool.or_eq_true, decide_eq_true_eq, List.all_eq_true] at hl
 obtain ⟨ha, hn⟩ := hl
 have hlen : G.length ≤ 410 := by omega
 rw [List.take_of_length_le hlen] at ha
 refine ⟨hlen, fun t ht => ?_⟩
 have := ha t ht
 unfold tyLight at this
 simp only [Bool.and_eq_true, decide_eq_true_eq] at this
 refine ⟨(h t ht).1, ?_, ?_, ?_, (h t ht).2⟩ <;> omega
end Go.Proofs.YteaokkaidcbdlaaGreatDoor

namespace Go.Proofs.YteaokkaidcbdlaaGreatDoor
open Go Go.RowKit Go.Shelf
def pairV (i j : Int) : Value := .agg #[.int .i64 i, .int .i64 j]
theorem arr64 : Go.WideMaps.ArrKey Tryz.prog 64 3 2 := ⟨Tryz.underlying64, by kernel_rfl, by kernel_rfl, by kernel_rfl⟩
theorem law64 : Go.Maps.Keyed Tryz.prog 64 := Go.Maps.Keyed.of_law arr64.law
theorem types_some : 0 < Tryz.prog.types.size := of_decide_eq_true (by kernel_rfl)
theorem types_pos : ∃ m, Tryz.prog.types.size = m + 1 := ⟨Tryz.prog.types.size - 1, by have := types_some; omega⟩
theorem key_pair {i j : Int} (hi : (Lit.int .i64 i).wf = true) (hj : (Lit.int .i64 j).wf = true) : ∃ l, keyOf Tryz.prog 64 (pairV i j) = some l :=
 ⟨_, Go.WideMaps.keyOf_pair arr64 Tryz.underlying3 types_pos hi hj⟩
theorem wf_nat {n : Nat} (h : n < 9223372036854775808) : (Lit.int .i64 n).wf = true := by
 simp [Lit.wf, IntKind.min, IntKind.max, IntKind.signed, IntKind.bits]; omega
def prV (p : Nat × Nat) : Value := pairV p.1 p.2
theorem prV_inj (p q : Nat × Nat) (h : prV p = prV q) : p = q := by
 unfold prV pairV at h
 simp at h
 obtain ⟨h1, h2⟩ := h
 exact Prod.ext (by omega) (by omega)
theorem key_pr {p : Nat × Nat} (h1 : p.1 < 9223372036854775808) (h2 : p.2 < 9223372036854775808) : ∃ l, keyOf Tryz.prog 64 (prV p) = some l := key_pair (wf_nat h1) (wf_nat h2)
theorem law3 : Go.Maps.Keyed Tryz.prog 3 := Go.Maps.int_keyed Tryz.underlying3
theorem key_nat {n : Nat} (h : n < 9223372036854775808) : ∃ l, keyOf Tryz.prog 3 (.int .i64 n) = some l := ⟨_, Go.Maps.keyOf_int_mk Tryz.underlying3 (wf_nat h)⟩
theorem eqP64 (a b c d : Int) (w : World) : (Op.equalIn 10000 64 (.agg #[.int .i64 a, .int .i64 b]) (.agg #[.int .i64 c, .int .i64 d])).run Tryz.prog w = .ok (a == c && b == d) w := by
 have u3 := Tryz.underlying3
 have a3 := Tryz.isAgg3
 have z3 := Tryz.sizeOf3
 rw [show (10000 : Nat) = 9999 + 1 from rfl, Op.equalIn]
 simp only [Sem.run_bind, run_underlying Tryz.underlying64, Result.andThen_ok]
 simp only [Std.Legacy.Range.forIn_eq_forIn_range', Std.Legacy.Range.size, Nat.sub_zero, Nat.add_sub_cancel, Nat.div_one, List.range'_succ, List.range'_zero, List.forIn_cons, List.forIn_nil]
 go_simp
 by_cases h1 : a = c <;> by_cases h2 : b = d <;> simp [h1, h2]
theorem field141_0 (a b c : Int) (w : World) : (Instr.field 141 (.agg #[.int .i64 a, .int .i64 b, .int .i64 c]) 0).run Tryz.prog w = .ok (.agg #[.int .i64 a, .int .i64 b]) w := by kernel_rfl
theorem field141_1 (a b c : Int) (w : World) : (Instr.field 141 (.agg #[.int .i64 a, .int .i64 b, .int .i64 c]) 1).run Tryz.prog w = .ok (.int .i64 c) w := by kernel_rfl
theorem build141 (a b c : Int) (w : World) : (Instr.build 141 #[(0, .agg #[.int .i64 a, .int .i64 b]), (1, .int .i64 c)]).run Tryz.prog w = .ok (.agg #[.int .i64 a, .int .i64 b, .int .i64 c]) w := run_build w 141 _ _ (by kernel_rfl)
theorem Blk.kept {w w' : World} {row : Option Nat} {b : Nat} {cs : List Value} {t : TypeId} (h : Blk w b cs t) (hg : w.grownBy w' row) (hne : some b ≠ row) : Blk w' b cs t := (hg.block b h.lt hne).trans h
theorem Blk.not_row {w : World} {b : Nat} {cs : List Value} {t e : TypeId} (h : Blk w b cs t) (hte : t ≠ e) {base sz n : Nat} {v : Value} {xs : List Value} (hr : w.ownsRow base e sz v n xs) : some b ≠ v.ownBlock := by
 rcases hr.2 with ⟨rfl, _⟩ | ⟨g, cap, cur, rfl, _, hgb, _⟩
 ·simp [Value.ownBlock]
 ·intro e1
  simp only [Value.ownBlock, Option.some.injEq] at e1
  subst e1
  unfold Blk at h
  rw [h] at hgb
  cases hgb
  exact hte rfl
end Go.Proofs.YteaokkaidcbdlaaGreatDoor

namespace Go.Proofs.YteaokkaidcbdlaaGreatDoor
open Go Go.RowKit Go.Shelf
def checkR (G : List TyD) : Int × Int :=
 if 400 < G.length then (400, 30) else if 0 ≤ firstNo (tyB G) G then (firstNo (tyB G) G, 30) else if 0 ≤ firstNo (aboveNo G) (List.range G.length) then (firstNo (aboveNo G) (List.range G.length), 30) else (0, 0)
theorem firstNo_ge {α : Type} (p : α → Bool) (l : List α) : firstNo p l = -1 ∨ 0 ≤ firstNo p l := by
 unfold firstNo
 split
 ·right; omega
 ·left; rfl
theorem firstNo_all {α : Type} {p : α → Bool} {l : List α} (h : firstNo p l = -1) : ∀ x ∈ l, p x = true := by
 unfold firstNo at h
 split at h
 ·omega
 ·rename_i hn
  rw [List.findIdx?_eq_none_iff] at hn
  intro x hx
  have := hn x hx
  simpa using this
theorem check_any (gv : Value) (G : List TyD) (W : World) (hG0 : GrAt W gv G) (hz : GrZ G) :
    Calls Tryz.prog 15 #[gv] W fun e w' => e = .returned (.tuple #[.int .i64 (checkR G).1, .int .i64 (checkR G).2]) ∧ Below W.heap.size W w' := by
  have hlen := hz.len
  by_cases h4 : 400 < G.length
  ·have HR := Lib.hid (show checkR G = (400, 30) from if_pos h4)
   obtain ⟨o, cap, rfl⟩ := hG0.form
   have h4' : (400 : Int) < G.length := by omega
   clear h4 hG0
   go_enter Tryz.func15, Tryz.ntmps15
   go_wp2
   go_ret2
   exact ⟨by rw [HR.out]; rfl, Below.refl _ _⟩
  ·have hU := firstUnfit_any gv G W hG0 hz
   rcases firstNo_ge (tyB G) G with hn | hn
   ·have hall := firstNo_all hn
    have hA := fun w h => firstAbove_any gv G w h hlen hall
    have hG1 := fun w (hb : Below W.heap.size W w) => hG0.below hb
    obtain ⟨o, cap, rfl⟩ := hG0.form
    have h4' : ¬ (400 : Int) < G.length := by omega
    rcases firstNo_ge (aboveNo G) (List.range G.length) with ha | ha
    ·have HR := Lib.hid (show checkR G = (0, 0) by unfold checkR; rw [if_neg h4, hn, if_neg (by omega), ha, if_neg (by omega)])
     rw [hn] at hU
     rw [ha] at hA
     have HU := hide hU
     have HA := hide hA
     have HG1 := hide hG1
     clear hU hA hn ha h4 hG0 hall hG1
     go_enter Tryz.func15, Tryz.ntmps15
     go_wp2_with (first | (go_at_call 54; refine (unhide HU).mono ?_; rintro e w1 ⟨rfl, hb1⟩) | (go_at_call 55; refine (unhide HA _ (unhide HG1 _ hb1)).mono ?_; rintro e w2 ⟨rfl, rfl⟩))
     go_ret2
     exact ⟨by rw [HR.out]; rfl, hb1⟩
    ·have HR := Lib.hid (show checkR G = (firstNo (aboveNo G) (List.range G.length), 30) by unfold checkR; rw [if_neg h4, hn, if_neg (by omega), if_pos ha])
     rw [hn] at hU
     revert HR hA ha
     generalize firstNo (aboveNo G) (List.range G.length) = q
     intro hA ha HR
     have HU := hide hU
     have HA := hide hA
     have HG1 := hide hG1
     clear hU hA hn h4 hG0 hall hG1
     go_enter Tryz.func15, Tryz.ntmps15
     go_wp2_with (first | (go_at_call 54; refine (unhide HU).mono ?_; rintro e w1 ⟨rfl, hb1⟩) | (go_at_call 55; refine (unhide HA _ (unhide HG1 _ hb1)).mono ?_; rintro e w2 ⟨rfl, rfl⟩))
     go_ret2
     exact ⟨by rw [HR.out]; rfl, hb1⟩
   ·have HR := Lib.hid (show checkR G = (firstNo (tyB G) G, 30) by unfold checkR; rw [if_neg h4, if_pos hn])
    revert HR hU hn
    generalize firstNo (tyB G) G = q
    intro hU hn HR
    obtain ⟨o, cap, rfl⟩ := hG0.form
    have h4' : ¬ (400 : Int) < G.length := by omega
    have HU := hide hU
    clear hU h4 hG0
    go_enter Tryz.func15, Tryz.ntmps15
    go_wp2_with (first | (go_at_call 54; refine (unhide HU).mono ?_; rintro e w1 ⟨rfl, hb1⟩))
    go_ret2
    exact ⟨by rw [HR.out]; rfl, hb1⟩
def checkedR (G : List TyD) (l : List Int) : Int := if (checkR G).2 ≠ 0 then (checkR G).2 else if l.all (idxB G.length) then 0 else 1
set_option maxHeartbeats 2000000 in
theorem checked_any (gv : Value) (G : List TyD) (W : World) (hG0 : GrAt W gv G) (hz : GrZ G) (lv : Value) (l : List Int) (hl : SliceOf 1 (IntAt W) lv l) :
    Calls Tryz.prog 57 #[gv, lv] W fun e w' => e = .returned (.int .i64 (checkedR G l)) ∧ Below W.heap.size W w' := by
  have hC := hide (check_any gv G W hG0 hz)
  obtain ⟨o, cap, rfl⟩ := hG0.form
  obtain ⟨lo, lc, rfl⟩ := hl.form
  obtain ⟨_, hlm, hlc, hat⟩ := hl.at
  have hl63 : l.length ≤ 9223372036854775807 := by unfold maxLen at hlm; omega
  clear hl hlm hlc hG0
  by_cases h0 : (checkR G).2 = 0
  ·rw [h0] at hC
   have HR := Lib.hid (show checkedR G l = if l.all (idxB G.length) then 0 else 1 by unfold checkedR; rw [if_neg (by simp [h0])])
   clear h0
   generalize (checkR G).1 = ci at hC
   go_enter Tryz.func57, Tryz.ntmps57
   go_wp2_with (first | (go_at_call 15; refine (unhide hC).mono ?_; clear hC; rintro e w1 ⟨rfl, hb1⟩))
   go_loopw [19] (fun i wr => ∃ k : Nat, k ≤ l.length ∧ i = .int .i64 k ∧ wr = w1 ∧ Hid ((l.take k).all (idxB G.length) = true)) (fun i _ => l.length - (intOf i).toNat)
   case atStart => exact ⟨0, Nat.zero_le _, rfl, rfl, Lib.hid rfl⟩
   case round =>
    obtain ⟨k, hk, rfl, rfl, HT⟩ := hrel
    by_cases hlt : k < l.length
    ·have hlt' : (k : Int) < l.length := by omega
     obtain ⟨b, off, rfl, e0⟩ := hat k l[k] (List.getElem?_eq_getElem hlt)
     have r0 : wr.cell? ⟨b, off + k, none⟩ = some (.int .i64 l[k]) := by have := Holds.below hb1 _ _ e0; simpa using this
     have hI := isIndex_any o G.length cap l[k]
     cases hx : idxB G.length l[k] with
     | false =>
       rw [hx] at hI
       have HI := hide hI
       have HX := Lib.hid (show checkedR G l = 1 by
        rw [HR.out, if_neg]
        rw [Bool.not_eq_true, List.all_eq_false]
        exact ⟨l[k], List.getElem_mem hlt, by simp [hx]⟩)
       clear hI hx hat e0
       go_wp2_with (first | (go_at_call 99; refine (unhide HI _).mono ?_; rintro e w4 ⟨rfl, rfl⟩))
       go_ret
       exact ⟨by rw [HX.out]; rfl, hb1⟩
     | true =>
       rw [hx] at hI
       have HI := hide hI
       have HX := Lib.hid (show (l.take (k + 1)).all (idxB G.length) = true by rw [all_take _ _ _ hlt, HT.out, hx]; rfl)
       clear hI hx hat e0
       go_wp2_with (first | (go_at_call 99; refine (unhide HI _).mono ?_; rintro e w4 ⟨rfl, rfl⟩))
       go_roundw
       case rel => exact ⟨k + 1, by omega, by go_num, trivial, HX⟩
       case measure => simp [intOf]; omega
    ·obtain rfl : k = l.length := by omega
     have HX := Lib.hid (show checkedR G l = 0 by
      have h := HT.out
      rw [List.take_length] at h
      rw [HR.out, if_pos h])
     go_wp2
     go_ret
     exact ⟨by rw [HX.out]; rfl, hb1⟩
  ·have HR := Lib.hid (show checkedR G l = (checkR G).2 by unfold checkedR; rw [if_pos h0])
   generalize (checkR G).1 = ci at hC
   have hne : ((checkR G).2 != 0) = true := by simpa using h0
   revert hC HR hne
   generalize (checkR G).2 = ce
   intro HR hC hne
   clear hat h0
   go_enter Tryz.func57, Tryz.ntmps57
   go_wp2_with (first | (go_at_call 15; refine (unhide hC).mono ?_; clear hC; rintro e w1 ⟨rfl, hb1⟩))
   go_ret
   exact ⟨by rw [HR.out]; rfl, hb1⟩
end Go.Proofs.YteaokkaidcbdlaaGreatDoor

namespace Go.Proofs.YteaokkaidcbdlaaGreatDoor
open Go Go.RowKit Go.Shelf
def oneB (i j : Int) : Bool := i == j
theorem one_any (i j : Int) (w : World) : Calls Tryz.prog 115 #[.int .i64 i, .int .i64 j] w fun e w' => e = .returned (.bool (oneB i j)) ∧ w' = w := by
 go_enter Tryz.func115, Tryz.ntmps115
 go_wp2
 go_ret
 exact ⟨rfl, rfl⟩
def oneV : Value := .func (.func 115) #[] #[]
theorem eqIntsO_any (v u : Value) (l m : List Int) (W : World) (hl : SliceOf 1 (IntAt W) v l) (hm : SliceOf 1 (IntAt W) u m) :
    Calls Tryz.prog 108 #[v, u, .func (.func 115) #[] #[]] W fun e w' => e = .returned (.bool (eqF oneB l m)) ∧ w' = W := by
  obtain ⟨o, cap, rfl⟩ := hl.form
  obtain ⟨p, cup, rfl⟩ := hm.form
  obtain ⟨_, hcm, hlc, hat⟩ := hl.at
  obtain ⟨_, hcm2, hlc2, hat2⟩ := hm.at
  have hl63 : l.length ≤ 9223372036854775807 := by unfold maxLen at hcm; omega
  clear hl hm hcm hcm2 hlc hlc2
  by_cases hlen : l.length = m.length
  ·have hne : ((l.length : Int) != m.length) = false := by simp; omega
   go_enter Tryz.func108, Tryz.ntmps108
   go_wp2
   go_loopw [17] (fun i wr => ∃ k : Nat, k ≤ l.length ∧ i = .int .i64 k ∧ wr = W ∧ Hid (((l.zip m).take k).all (fun x => oneB x.1 x.2) = true)) (fun i _ => l.length - (intOf i).toNat)
   case atStart => exact ⟨0, Nat.zero_le _, rfl, rfl, Lib.hid rfl⟩
   case round =>
    obtain ⟨k, hk, rfl, rfl, HT⟩ := hrel
    by_cases hlt : k < l.length
    ·have hlt2 : k < m.length := by omega
     have hlt' : (k : Int) < l.length := by omega
     have hlt2' : (k : Int) < m.length := by omega
     obtain ⟨b, off, rfl, e0⟩ := hat k l[k] (List.getElem?_eq_getElem hlt)
     obtain ⟨b2, off2, rfl, e1⟩ := hat2 k m[k] (List.getElem?_eq_getElem hlt2)
     have r0 : wr.cell? ⟨b, off + k, none⟩ = some (.int .i64 l[k]) := by simpa [IntAt] using e0
     have r1 : wr.cell? ⟨b2, off2 + k, none⟩ = some (.int .i64 m[k]) := by simpa [IntAt] using e1
     have hF := one_any l[k] m[k]
     clear e0 e1 hat hat2 hlen hne
     cases hx : oneB l[k] m[k] with
     | false =>
       rw [hx] at hF
       have HF := hide hF
       have HX := Lib.hid (eqF_no k hlt hlt2 hx)
       clear hF hx
       go_wp2_with (first | (go_at_call 115; refine (unhide HF _).mono ?_; rintro e w4 ⟨rfl, rfl⟩))
       go_ret
       exact ⟨ret_bool HX.out.symm, rfl⟩
     | true =>
       rw [hx] at hF
       have HF := hide hF
       have HX := Lib.hid (show ((l.zip m).take (k + 1)).all (fun x => oneB x.1 x.2) = true by rw [eqF_take k hlt hlt2, HT.out, hx]; rfl)
       clear hF hx
       go_wp2_with (first | (go_at_call 115; refine (unhide HF _).mono ?_; rintro e w4 ⟨rfl, rfl⟩))
       go_roundw
       case rel => exact ⟨k + 1, by omega, by go_num, trivial, HX⟩
       case measure => simp [intOf]; omega
    ·obtain rfl : k = l.length := by omega
     have HX := Lib.hid (eqF_yes hlen HT.out)
     go_wp2
     go_ret
     exact ⟨ret_bool HX.out.symm, rfl⟩
  ·have hne : ((l.length : Int) != m.length) = true := by simp; omega
   have HX := Lib.hid (eqF_len (f := oneB) hlen)
   clear hlen hat hat2
   go_enter Tryz.func108, Tryz.ntmps108
   go_wp2
   go_ret
   exact ⟨ret_bool HX.out.symm, rfl⟩
set_option maxRecDepth 100000 in
set_option maxHeartbeats 4000000 in
theorem partOne_any (x y : ByteArray) (i j : Int) (fb : Nat) (W : World) (hf : W.cell? ⟨fb, 0, none⟩ = some oneV) :
    Calls Tryz.prog 162 #[.agg #[.string x, .int .i64 i], .agg #[.string y, .int .i64 j], .pointer (some ⟨fb, 0, none⟩)] W fun e w' => e = .returned (.bool (sameS x y && oneB i j)) ∧ Below W.heap.size W w' := by
  have hf2 : ∀ o1 o2, ((W.alloc o1).alloc o2).cell? ⟨fb, 0, none⟩ = some (.func (.func 115) #[] #[]) := fun o1 o2 => by
   have hl : fb < W.heap.size := cell_lt hf
   rw [World.cell?_alloc_lt _ _ _ (by simp only [World.size_alloc]; omega), World.cell?_alloc_lt _ _ _ hl]; exact hf
  have hs : (x.toList == y.toList) = sameS x y := rfl
  clear hf
  generalize sameS x y = s at hs ⊢
  cases s
  all_goals
   go_enter Tryz.func162, Tryz.ntmps162
   go_wp2_with (first | (go_at_call 115; refine (one_any _ _ _).mono ?_; rintro e w4 ⟨rfl, rfl⟩))
   go_ret
   exact ⟨rfl, ((Below.refl _ _).alloc (Nat.le_refl _) _).alloc (by simp) _⟩
end Go.Proofs.YteaokkaidcbdlaaGreatDoor

namespace Go.Proofs.YteaokkaidcbdlaaGreatDoor
open Go Go.RowKit Go.Shelf
def partOneB (p q : PartD) : Bool := sameS p.name q.name && oneB p.type q.type
def methOneB (m n : MethD) : Bool := sameS m.name n.name && (sameS m.proc n.proc && (eqF oneB m.args n.args && (oneB m.result n.result && eqF sameS m.raises n.raises)))
set_option maxRecDepth 100000 in
set_option maxHeartbeats 8000000 in
theorem methOne_any (m n : MethD) (va vr ua ur : Value) (fb : Nat) (W : World) (hf : W.cell? ⟨fb, 0, none⟩ = some oneV) (hm : MethV W va vr m) (hn : MethV W ua ur n) :
    Calls Tryz.prog 163 #[.agg #[.string m.name, va, .int .i64 m.result, vr, .string m.proc], .agg #[.string n.name, ua, .int .i64 n.result, ur, .string n.proc], .pointer (some ⟨fb, 0, none⟩)] W fun e w' => e = .returned (.bool (methOneB m n)) ∧ Below W.heap.size W w' := by
  have hf2 : ∀ o1 o2, ((W.alloc o1).alloc o2).cell? ⟨fb, 0, none⟩ = some (.func (.func 115) #[] #[]) := fun o1 o2 => by
   have hl : fb < W.heap.size := cell_lt hf
   rw [World.cell?_alloc_lt _ _ _ (by simp only [World.size_alloc]; omega), World.cell?_alloc_lt _ _ _ hl]; exact hf
  have hb2 : ∀ o1 o2, Below W.heap.size W ((W.alloc o1).alloc o2) := fun o1 o2 => ((Below.refl _ _).alloc (Nat.le_refl _) _).alloc (by simp) _
  have h1 := hide (fun o1 o2 => eqIntsO_any va ua m.args n.args ((W.alloc o1).alloc o2) (hm.below (hb2 o1 o2)).args (hn.below (hb2 o1 o2)).args)
  have h2 := hide (fun o1 o2 => eqStrs_any vr ur m.raises n.raises ((W.alloc o1).alloc o2) (hm.below (hb2 o1 o2)).raises (hn.below (hb2 o1 o2)).raises)
  obtain ⟨oa, ca, rfl⟩ := hm.args.form
  obtain ⟨orr, cr, rfl⟩ := hm.raises.form
  obtain ⟨pa, da, rfl⟩ := hn.args.form
  obtain ⟨pr, dr, rfl⟩ := hn.raises.form
  have s1 : (m.name.toList == n.name.toList) = sameS m.name n.name := rfl
  have s2 : (m.proc.toList == n.proc.toList) = sameS m.proc n.proc := rfl
  have s3 := hide (fun w => one_any m.result n.result w)
  have HB := Lib.hid (show methOneB m n = (sameS m.name n.name && (sameS m.proc n.proc && (eqF oneB m.args n.args && (oneB m.result n.result && eqF sameS m.raises n.raises)))) from rfl)
  clear hm hn hf
  generalize sameS m.name n.name = a at s1 HB
  generalize sameS m.proc n.proc = b at s2 HB
  generalize eqF oneB m.args n.args = c at h1 HB
  generalize oneB m.result n.result = d at s3 HB
  generalize eqF sameS m.raises n.raises = x at h2 HB
  rcases (show a = false ∨ (a = true ∧ b = false) ∨ (a = true ∧ b = true ∧ c = false) ∨ (a = true ∧ b = true ∧ c = true ∧ d = false) ∨ (a = true ∧ b = true ∧ c = true ∧ d = true) by cases a <;> cases b <;> cases c <;> cases d <;> simp) with rfl | ⟨rfl, rfl⟩ | ⟨rfl, rfl, rfl⟩ | ⟨rfl, rfl, rfl, rfl⟩ | ⟨rfl, rfl, rfl, rfl⟩
  all_goals
   go_enter Tryz.func163, Tryz.ntmps163
   go_wp2_with (first | (go_at_call 108; refine (unhide h1 _ _).mono ?_; rintro e w4 ⟨rfl, rfl⟩) | (go_at_call 115; refine (unhide s3 _).mono ?_; rintro e w4 ⟨rfl, rfl⟩) | (go_at_call 164; refine (unhide h2 _ _).mono ?_; rintro e w4 ⟨rfl, nq, rfl⟩))
   go_ret
   first
    | exact ⟨ret_bool HB.out.symm, hb2 _ _⟩
    | exact ⟨ret_bool HB.out.symm, below_drewN' (hb2 _ _) nq⟩
end Go.Proofs.YteaokkaidcbdlaaGreatDoor

