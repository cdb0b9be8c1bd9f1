/- Part 44 of 51: the texts Tk, Fx, one behind the other. -/
import Derived.Test.YteaokkaidcbdlaaGreatDoorQ43
import Derived.Test.YteaokkaidcbdlaaGreatDoorQ28
import Derived.Tactics
import Derived.Tactics2
import Derived.WalkKit
import Derived.LoopTactic
import Derived.Outline
import Derived.Lib.Hide
import Derived.Handy
import Derived.KernelRfl
import Derived.Deep.LoopGhost
import Derived.CallsIn
import Derived.Deep.QuietTactic
import Derived.BigQuiet
import Derived.Deep.Draws
import Derived.WalkSpells
import Derived.Lib.Walk
import Derived.Lib.Strings
import Derived.Maps.OwnOps
import Derived.Maps.OwnSet
import Derived.Deep.RegionWith
import Derived.StillTailTactics
import Derived.WalkMore
import Derived.RangeFuncNested
import Derived.RangeFuncBound
import Derived.RangeFuncCalls
import Derived.RangeFuncLeaves
import Derived.RangeFuncBox
import Derived.Shelf.Abstract
import Derived.OwnWalkIn
import Derived.TacticsInMore
import Derived.LoopNIn
import Derived.LoopIn
import Derived.RecoverIn
import Derived.Maps.AppendAt
import Derived.RegionTactic
import Derived.ChangeAlike
import Derived.OwnWalk
import Derived.Deep.AppendLies
import Derived.Deep.DeepCutAuto
import Derived.Deep.RegionLaw
import Derived.Deep.RegionHeld3
import Derived.Laws.EntriesVeiled
import Derived.Test.YteaokkaidcbdlaaGreatDoorQ0
import Derived.Lib.Case
import Derived.Lib.Repeat
/- Text (42) of any graph that is light. -/
namespace Go.Proofs.YteaokkaidcbdlaaGreatDoor
open Go Go.RowKit Go.Shelf
/-! ### A type as the table of kinds says has a text that can be written -/
theorem name_size {s : ByteArray} (h : nameB (bs s) = true) : s.size ≤ 12 := by
  rw [← bs_len]
  unfold nameB at h
  split at h
  · cases h
  · rename_i hl
    rw [hl]
    simp only [Bool.and_eq_true, decide_eq_true_eq] at h
    rw [hl] at h
    exact h.1.1
theorem nameB_len {l : List UInt8} (h : nameB l = true) : l.length ≤ 12 := by
  unfold nameB at h
  split at h
  · cases h
  · simp only [Bool.and_eq_true, decide_eq_true_eq] at h
    exact h.1.1
theorem sym_size {s : ByteArray} (h : symB (bs s) = true) : s.size ≤ 30 := by
  rw [← bs_len]
  unfold symB at h
  simp only [Bool.and_eq_true, decide_eq_true_eq] at h
  have h1 := nameB_len h.2.1
  have h2 := nameB_len h.2.2
  rw [List.length_take] at h1
  rw [List.length_drop] at h2
  omega
theorem exc_size {s : ByteArray} (h : excB (bs s) = true) : s.size ≤ 30 := by
  unfold excB at h
  rw [Bool.or_eq_true] at h
  rcases h with h | h
  · have h1 := eq_of_beq h
    rw [← bs_len, h1]; decide
  · exact sym_size h
theorem brand_size {s : ByteArray} (h : brandB (bs s) = true) : s.size ≤ 20 := by
  rw [← bs_len]
  unfold brandB at h
  simp only [Bool.and_eq_true, decide_eq_true_eq] at h
  exact h.1
theorem empty_size {s : ByteArray} (h : (bs s).isEmpty = true) : s.size = 0 := by
  rw [← bs_len, List.isEmpty_iff.1 h]; rfl
theorem namedFrom_all : ∀ (l seen : List ByteArray), namedFrom seen l = true → ∀ x ∈ l, nameB (bs x) = true
  | [], _, _, x, hx => by simp at hx
  | y :: l, seen, h, x, hx => by
    rw [namedFrom_cons, Bool.and_eq_true, Bool.and_eq_true] at h
    rcases List.mem_cons.1 hx with rfl | hx
    · exact h.1
    · exact namedFrom_all l _ h.2.2 x hx
theorem named_sizes {l : List ByteArray} (h : namedB l = true) : l.length ≤ 8 ∧ ∀ x ∈ l, x.size ≤ 12 := by
  unfold namedB at h
  rw [Bool.and_eq_true, decide_eq_true_eq] at h
  exact ⟨h.1, fun x hx => name_size (namedFrom_all l [] h.2 x hx)⟩
theorem idx_i64 {n : Nat} (hn : n ≤ 410) {x : Int} (h : idxB n x = true) : I64 x := by
  have := idxB_iff.1 h
  exact ⟨by omega, by omega⟩
theorem joinTail_len : ∀ (r : List (List UInt8)), (∀ x ∈ r, x.length ≤ 30) → (Lib.joinTail [44] r).length ≤ r.length * 31
  | [], _ => by simp [Lib.joinTail]
  | x :: r, h => by
    have h1 := joinTail_len r (fun y hy => h y (by simp [hy]))
    have h2 := h x (by simp)
    unfold Lib.joinTail at h1 ⊢
    simp only [List.map_cons, List.flatten_cons, List.length_append, List.length_cons, List.length_nil]
    omega
theorem raises_len {rs : List ByteArray} (hn : rs.length ≤ 6) (h : ∀ r ∈ rs, r.size ≤ 30) : (raisesW rs).length ≤ 100000 := by
  unfold raisesW
  split
  · simp
  · cases rs with
    | nil => simp [Lib.join]
    | cons r rs =>
      have h1 := h r (by simp)
      have h2 := joinTail_len (rs.map (·.data.toList)) (fun x hx => by
        obtain ⟨y, hy, rfl⟩ := List.mem_map.1 hx
        have := h y (by simp [hy])
        rw [ba_size]; exact this)
      rw [List.map_cons, Lib.join_cons]
      rw [List.length_map] at h2
      simp only [List.length_cons, List.length_append, ba_size] at hn ⊢
      omega
theorem meth_ok {n : Nat} (hn : n ≤ 410) {m : MethD} (h : methB n m = true) (hname : m.name.size ≤ 12) : MethOk m := by
  unfold methB sigB at h
  simp only [Bool.and_eq_true, decide_eq_true_eq, Bool.or_eq_true, List.all_eq_true] at h
  obtain ⟨⟨⟨ha, hr⟩, hargs, hres, hrs⟩, hproc⟩ := h
  have hsz : ∀ r ∈ m.raises, r.size ≤ 30 := by
    intro r hrm
    obtain ⟨k, hk, rfl⟩ := List.mem_iff_getElem.1 hrm
    have := hrs k (List.mem_range.2 hk)
    unfold raisesAt at this
    rw [List.getElem?_eq_getElem hk] at this
    simp only [Bool.and_eq_true] at this
    exact exc_size this.1
  refine ⟨by omega, ?_, fun x hx => idx_i64 hn (hargs x hx), ?_, by omega, raises_len hr hsz, by omega⟩
  · rcases hproc with h | h
    · have := empty_size h; omega
    · have := sym_size h; omega
  · rcases hres with h | h
    · rw [h]; simp [I64]
    · exact idx_i64 hn h
structure BareOk (t : TyD) (n : Nat) : Prop where
  low : t.low = 0
  high : t.high = 0
  brand : t.brand.size = 0
  opq : t.opq.size = 0
  sup : t.super = 0
  n : n = 0
theorem bare_ok {t : TyD} {n : Nat} (h : bareB t n = true) : BareOk t n := by
  unfold bareB at h
  simp only [Bool.and_eq_true, decide_eq_true_eq] at h
  obtain ⟨⟨⟨⟨h1, h2⟩, _, h3, h4⟩, h5⟩, h6⟩ := h
  exact ⟨h1, h2, empty_size h3, empty_size h4, h5, h6⟩
theorem i64_zero : I64 0 := ⟨by decide, by decide⟩
theorem branded_size {t : TyD} (h : brandedB t = true) : t.brand.size ≤ 20 := by
  unfold brandedB at h
  rw [Bool.and_eq_true] at h
  exact brand_size h.1
theorem tyB_tx {G : List TyD} (hG : G.length ≤ 410) {t : TyD} (h : tyB G t = true) : 1 ≤ t.kind ∧ t.kind ≤ 13 ∧ TyTx t := by
  have hk : 1 ≤ t.kind ∧ t.kind ≤ 13 := Classical.byContradiction fun hc => by rw [tyB_no hc] at h; cases h
  have noP : ∀ {t : TyD}, t.parts.length = 0 → ∀ p ∈ t.parts, p.name.size ≤ 1000 ∧ I64 p.type := fun h0 p hp => by rw [parts_nil h0] at hp; simp at hp
  have noM : ∀ {t : TyD}, t.meths.length = 0 → ∀ m ∈ t.meths, MethOk m := fun h0 p hp => by rw [meths_nil h0] at hp; simp at hp
  have noO : ∀ {t : TyD}, t.overs.length = 0 → ∀ p ∈ t.overs, p.name.size ≤ 1000 ∧ p.proc.size ≤ 1000 := fun {t} h0 p hp => by rw [show t.overs = [] from List.eq_nil_of_length_eq_zero h0] at hp; simp at hp
  have fld : fieldsB G.length t = true → (∀ p ∈ t.parts, p.name.size ≤ 1000 ∧ I64 p.type) ∧ t.parts.length ≤ 10 := fun h => by
    unfold fieldsB at h
    simp only [Bool.and_eq_true, List.all_eq_true] at h
    obtain ⟨h1, h2⟩ := named_sizes h.2.1
    rw [List.length_map] at h1
    exact ⟨fun p hp => ⟨by have := h2 p.name (List.mem_map_of_mem hp); omega, idx_i64 hG (h.2.2 p hp)⟩, by omega⟩
  refine ⟨hk.1, hk.2, ?_⟩
  unfold tyB at h
  split at h
  case h_8 =>
    rw [Bool.and_eq_true] at h
    obtain ⟨hb, h⟩ := h
    have hb' := of_decide_eq_true hb
    obtain ⟨-, -, q3, q4, q5, q6⟩ := bare_ok h
    simp only at q3 q4 q5
    exact ⟨⟨by omega, by omega⟩, ⟨by omega, by omega⟩, by rw [q5]; exact i64_zero, by omega, by omega, noP (by omega), noM (by omega), noO (by omega), by omega, by omega, by omega⟩
  case h_9 =>
    simp only [Bool.and_eq_true] at h
    obtain ⟨⟨hbr, hp⟩, h⟩ := h
    obtain ⟨q1, q2, q3, q4, q5, q6⟩ := bare_ok h
    simp only at q1 q2 q4 q5
    have := branded_size hbr
    have hpp : (∀ p ∈ t.parts, p.name.size ≤ 1000 ∧ I64 p.type) ∧ t.parts.length ≤ 10 := by
      unfold partB at hp
      split at hp
      · rename_i p hpe
        rw [Bool.and_eq_true] at hp
        rw [hpe]
        exact ⟨fun x hx => by
          rw [List.mem_singleton] at hx; subst hx
          exact ⟨by have := empty_size hp.1; omega, idx_i64 hG hp.2⟩, by simp⟩
      · cases hp
    exact ⟨by rw [q1]; exact i64_zero, by rw [q2]; exact i64_zero, by rw [q5]; exact i64_zero, by omega, by omega, hpp.1, noM (by omega), noO (by omega), hpp.2, by omega, by omega⟩
  case h_10 =>
    simp only [Bool.and_eq_true] at h
    obtain ⟨⟨hbr, hp⟩, h⟩ := h
    obtain ⟨q1, q2, q3, q4, q5, q6⟩ := bare_ok h
    simp only at q1 q2 q4 q5
    have := branded_size hbr
    have hpp : (∀ p ∈ t.parts, p.name.size ≤ 1000 ∧ I64 p.type) ∧ t.parts.length ≤ 10 := by
      unfold partB at hp
      split at hp
      · rename_i p hpe
        rw [Bool.and_eq_true] at hp
        rw [hpe]
        exact ⟨fun x hx => by
          rw [List.mem_singleton] at hx; subst hx
          exact ⟨by have := empty_size hp.1; omega, idx_i64 hG hp.2⟩, by simp⟩
      · cases hp
    exact ⟨by rw [q1]; exact i64_zero, by rw [q2]; exact i64_zero, by rw [q5]; exact i64_zero, by omega, by omega, hpp.1, noM (by omega), noO (by omega), hpp.2, by omega, by omega⟩
  case h_11 =>
    simp only [Bool.and_eq_true] at h
    obtain ⟨⟨hbr, hp⟩, h⟩ := h
    obtain ⟨q1, q2, q3, q4, q5, q6⟩ := bare_ok h
    simp only at q1 q2 q4 q5
    have := branded_size hbr
    have hpp := fld hp
    exact ⟨by rw [q1]; exact i64_zero, by rw [q2]; exact i64_zero, by rw [q5]; exact i64_zero, by omega, by omega, hpp.1, noM (by omega), noO (by omega), hpp.2, by omega, by omega⟩
  case h_12 =>
    simp only [Bool.and_eq_true] at h
    obtain ⟨⟨⟨⟨⟨hbr, hsu⟩, hp⟩, hm⟩, ho⟩, h⟩ := h
    obtain ⟨q1, q2, q3, q4, q5, q6⟩ := bare_ok h
    simp only at q1 q2 q4
    have := branded_size hbr
    have hpp := fld hp
    have hsup : I64 t.super := by
      unfold superB at hsu
      rw [Bool.and_eq_true] at hsu
      exact idx_i64 hG hsu.1
    have hmm : (∀ m ∈ t.meths, MethOk m) ∧ t.meths.length ≤ 10 := by
      unfold methsB at hm
      simp only [Bool.and_eq_true, List.all_eq_true] at hm
      obtain ⟨h1, h2⟩ := named_sizes hm.1
      rw [List.length_map] at h1
      exact ⟨fun m hmm => meth_ok hG (hm.2 m hmm) (h2 _ (List.mem_map_of_mem hmm)), by omega⟩
    have hoo : (∀ p ∈ t.overs, p.name.size ≤ 1000 ∧ p.proc.size ≤ 1000) ∧ t.overs.length ≤ 10 := by
      unfold oversB at ho
      simp only [Bool.and_eq_true, List.all_eq_true] at ho
      obtain ⟨h1, h2⟩ := named_sizes ho.1
      rw [List.length_map] at h1
      exact ⟨fun p hpp => ⟨by have := h2 p.name (List.mem_map_of_mem hpp); omega, by have := sym_size (ho.2 p hpp); omega⟩, by omega⟩
    exact ⟨by rw [q1]; exact i64_zero, by rw [q2]; exact i64_zero, hsup, by omega, by omega, hpp.1, hmm.1, hoo.1, hpp.2, hmm.2, hoo.2⟩
  case h_13 =>
    simp only [Bool.and_eq_true] at h
    obtain ⟨⟨hop, hsu⟩, h⟩ := h
    obtain ⟨q1, q2, q3, q4, q5, q6⟩ := bare_ok h
    simp only at q1 q2 q3
    have := sym_size hop
    have hsup : I64 t.super := by
      unfold superB at hsu
      rw [Bool.and_eq_true] at hsu
      exact idx_i64 hG hsu.1
    exact ⟨by rw [q1]; exact i64_zero, by rw [q2]; exact i64_zero, hsup, by omega, by omega, noP (by omega), noM (by omega), noO (by omega), by omega, by omega, by omega⟩
  case h_14 => cases h
  all_goals
    obtain ⟨q1, q2, q3, q4, q5, q6⟩ := bare_ok h
    exact ⟨by rw [q1]; exact i64_zero, by rw [q2]; exact i64_zero, by rw [q5]; exact i64_zero, by omega, by omega, noP (by omega), noM (by omega), noO (by omega), by omega, by omega, by omega⟩
theorem check_tx {G : List TyD} (hz : GrZ G) (h : (checkR G).2 = 0) : ∀ t ∈ G, 1 ≤ t.kind ∧ t.kind ≤ 13 ∧ TyTx t := by
  have hlen := hz.len
  unfold checkR at h
  split at h
  · simp at h
  · rename_i h4
    split at h
    · simp at h
    · rename_i hn
      have hall := firstNo_all (p := tyB G) (l := G) (by
        rcases firstNo_ge (tyB G) G with h1 | h1
        · exact h1
        · exact absurd h1 hn)
      exact fun t ht => tyB_tx hlen (hall t ht)
/-- Text of any graph that is light. -/
theorem text_all (gv : Value) (G : List TyD) (i : Int) (W : World) (hG0 : GrAt W gv G) (hz : GrZ G) (hP : P10 W.heap.size W) :
    Calls Tryz.prog 42 #[gv, .int .i64 i] W fun e w' => e = .returned (.tuple #[.string (textL G i).1, .int .i64 (textL G i).2]) ∧ Below W.heap.size W w' :=
  text_any gv G i W hG0 hz (fun h => check_tx hz (checkedR_ok h).1) hP
end Go.Proofs.YteaokkaidcbdlaaGreatDoor
/- The digits of a number to the base 36, as strconv writes them. -/
namespace Go.Proofs.YteaokkaidcbdlaaGreatDoor
open Go Go.RowKit Go.Shelf
/-! ### The digits of a digest -/
def dgt (d : Nat) : UInt8 := if d < 10 then UInt8.ofNat (48 + d) else UInt8.ofNat (87 + d)
def dgU (d : Nat) : UInt8 := if d < 10 then UInt8.ofNat (48 + d) else UInt8.ofNat (55 + d)
/-- The digits of a number to a base (the first argument but one bounds how many). -/
def digL (b : Nat) : Nat → Nat → List UInt8
  | 0, n => [dgt n]
  | f + 1, n => if n < b then [dgt n] else digL b f (n / b) ++ [dgt (n % b)]
theorem digL_last {b f n : Nat} (h : n < b) : digL b f n = [dgt n] := by
  cases f with
  | zero => rfl
  | succ f => unfold digL; rw [if_pos h]
theorem digL_more {b f n : Nat} (h : ¬ n < b) : digL b (f + 1) n = digL b f (n / b) ++ [dgt (n % b)] := by
  conv => lhs; unfold digL
  rw [if_neg h]
/-- So many digits to the base 36. -/
def digN : Nat → Nat → List UInt8
  | 0, _ => []
  | k + 1, h => digN k (h / 36) ++ [dgU (h % 36)]
theorem digN_len : ∀ k h, (digN k h).length = k
  | 0, _ => rfl
  | k + 1, h => by unfold digN; simp [digN_len k]
theorem up_dgt : ∀ d : Fin 36, Lib.upperB (dgt d.val) = dgU d.val ∧ (dgt d.val).toNat < 128 := by decide
theorem digN_zero : ∀ k, digN k 0 = List.replicate k 48
  | 0 => rfl
  | k + 1 => by
    unfold digN
    rw [show 0 / 36 = 0 from rfl, digN_zero k, List.replicate_succ']
    rfl
theorem pad_digits : ∀ (f h k : Nat), h < 36 ^ (f + 1) → h < 36 ^ (k + 1) → (digL 36 f h).length ≤ k + 1 ∧ List.replicate (k + 1 - (digL 36 f h).length) 48 ++ (digL 36 f h).map Lib.upperB = digN (k + 1) h := by
  have one : ∀ (h k : Nat), h < 36 → [dgt h].length ≤ k + 1 ∧ List.replicate (k + 1 - [dgt h].length) 48 ++ [dgt h].map Lib.upperB = digN (k + 1) h := by
    intro h k hh
    refine ⟨by simp, ?_⟩
    unfold digN
    rw [show h / 36 = 0 by omega, digN_zero, show h % 36 = h by omega, List.map_cons, List.map_nil, (up_dgt ⟨h, hh⟩).1]
    simp
  intro f
  induction f with
  | zero => intro h k hf hk; exact one h k (by simpa using hf)
  | succ f ih =>
    intro h k hf hk
    by_cases hh : h < 36
    · rw [digL_last hh]; exact one h k hh
    · rw [digL_more hh]
      cases k with
      | zero => exact absurd (by simpa using hk) hh
      | succ k =>
        have h1 : h / 36 < 36 ^ (f + 1) := by rw [Nat.div_lt_iff_lt_mul (by decide)]; rw [Nat.pow_succ] at hf; exact hf
        have h2 : h / 36 < 36 ^ (k + 1) := by rw [Nat.div_lt_iff_lt_mul (by decide)]; rw [Nat.pow_succ] at hk; exact hk
        obtain ⟨a, b⟩ := ih (h / 36) k h1 h2
        refine ⟨by simp; omega, ?_⟩
        rw [List.length_append, List.map_append, ← List.append_assoc, show k + 1 + 1 - ((digL 36 f (h / 36)).length + [dgt (h % 36)].length) = k + 1 - (digL 36 f (h / 36)).length by simp, b]
        conv => rhs; unfold digN
        rw [List.map_cons, List.map_nil, (up_dgt ⟨h % 36, by omega⟩).1]
theorem digL_ascii : ∀ (f h : Nat), h < 36 ^ (f + 1) → ∀ b ∈ digL 36 f h, b.toNat < 128 := by
  intro f
  induction f with
  | zero => intro h hf b hb; simp [digL] at hb; subst hb; exact (up_dgt ⟨h, by simpa using hf⟩).2
  | succ f ih =>
    intro h hf b hb
    by_cases hh : h < 36
    · rw [digL_last hh] at hb; simp at hb; subst hb; exact (up_dgt ⟨h, hh⟩).2
    · rw [digL_more hh, List.mem_append, List.mem_singleton] at hb
      rcases hb with hb | rfl
      · exact ih _ (by rw [Nat.div_lt_iff_lt_mul (by decide)]; rw [Nat.pow_succ] at hf; exact hf) b hb
      · exact (up_dgt ⟨h % 36, by omega⟩).2
theorem repeat_zero : ∀ n, Lib.repeatL [48] n = List.replicate n 48
  | 0 => rfl
  | n + 1 => by unfold Lib.repeatL; rw [repeat_zero n, List.replicate_succ]; rfl
/-- One step of a digest. -/
def digStep (h : Nat) (c : UInt8) : Nat := (257 * h + c.toNat) % 9007199254740881
def digestN (l : List UInt8) : Nat := l.foldl digStep 5381
def digestL (l : List UInt8) : List UInt8 := 84 :: digN 12 (digestN l)
theorem digestN_lt : ∀ (l : List UInt8) (h : Nat), h < 9007199254740881 → l.foldl digStep h < 9007199254740881
  | [], h, hh => hh
  | c :: l, h, _ => digestN_lt l _ (Nat.mod_lt _ (by decide))
theorem digest_lt (l : List UInt8) : digestN l < 36 ^ 11 := Nat.lt_trans (digestN_lt l 5381 (by decide)) (by decide)
theorem digest_eq (l : List UInt8) : digestL l = [84] ++ (Lib.repeatL [48] (12 - (digL 36 10 (digestN l)).length) ++ Lib.toUpperA (digL 36 10 (digestN l))) := by
  have h := pad_digits 10 (digestN l) 11 (digest_lt l) (Nat.lt_trans (digest_lt l) (by decide))
  unfold digestL Lib.toUpperA
  rw [repeat_zero, h.2]; rfl
theorem digest_len (l : List UInt8) : (digL 36 10 (digestN l)).length ≤ 11 := (pad_digits 10 (digestN l) 10 (digest_lt l) (digest_lt l)).1
theorem ret_two {a a' b b' : Value} (h : a = a') (k : b = b') : Ending.returned (.tuple #[a, b]) = .returned (.tuple #[a', b']) := by rw [h, k]
theorem pow_no (b nb r : Int) (w : World) (hb : 2 ≤ b ∧ b ≤ 36) (h1 : b - 1 = nb) (h2 : bits BinOp.and .i64 b nb = r) (h3 : (r == 0) = false) : Calls Tryz.prog 220 #[.int .i64 b] w fun r w' => r = .returned (.bool false) ∧ w = w' := by
  go_enter Tryz.func220, Tryz.ntmps220
  go_wp2
  go_ret
  exact ⟨rfl, rfl⟩
theorem pow_not {b : Nat} (h : b = 36) (w : World) : Calls Tryz.prog 220 #[.int .i64 b] w fun r w' => r = .returned (.bool false) ∧ w = w' := by
  subst h
  exact pow_no _ _ _ w (by decide) rfl rfl (by kernel_rfl)
def z8 : Value := .int .u8 0
def rowL (out : List UInt8) : List Value := List.replicate (65 - out.length) z8 ++ out.map fun c => .int .u8 (c.toNat : Int)
theorem zeros248 : Tryz.zeroCells248 = (rowL []).toArray := by kernel_rfl
theorem rowL_len {out : List UInt8} (h : out.length ≤ 65) : (rowL out).length = 65 := by unfold rowL; simp; omega
theorem rowL_cons {out : List UInt8} (h : out.length < 65) (c : UInt8) : (rowL out).set (64 - out.length) (.int .u8 (c.toNat : Int)) = rowL (c :: out) := by
  unfold rowL
  rw [List.length_cons, show 65 - out.length = (64 - out.length) + 1 by omega, show 65 - (out.length + 1) = 64 - out.length by omega, List.replicate_succ', List.append_assoc, List.set_append_right _ _ (by simp)]
  simp
theorem rowL_at {out : List UInt8} (_h : out.length ≤ 65) (j : Nat) (hj : j < out.length) : (rowL out)[65 - out.length + j]? = some (.int .u8 (out[j].toNat : Int)) := by
  unfold rowL
  rw [List.getElem?_append_right (by simp)]
  simp [hj]
def digStr : ByteArray := ⟨#[48, 49, 50, 51, 52, 53, 54, 55, 56, 57, 97, 98, 99, 100, 101, 102, 103, 104, 105, 106, 107, 108, 109, 110, 111, 112, 113, 114, 115, 116, 117, 118, 119, 120, 121, 122]⟩
theorem digStr_fin : ∀ d : Fin 36, digStr[d.val]'(Nat.lt_of_lt_of_le d.isLt (by decide)) = dgt d.val := by decide
theorem digStr_at (d : Nat) (h : d < 36) (h' : d < digStr.size) : digStr[d] = dgt d := digStr_fin ⟨d, h⟩
theorem slice248 (N q : Nat) (hq : q < 65) (W : World) : (Instr.sliceAt 248 (.pointer (some ⟨N, 0, none⟩)) (some (.int .i64 q)) none none).run Tryz.prog W = .ok (.slice (some ⟨N, q, none⟩) (65 - q) (65 - q)) W := by
  have hu : Tryz.prog.underlying 248 = some (.array (Tryz.prog.arrayLen 248) (Tryz.prog.elem 248)) := by kernel_rfl
  have hl : Tryz.prog.arrayLen 248 = 65 := by kernel_rfl
  have he : Tryz.prog.elem 248 = 5 := by kernel_rfl
  rw [run_sliceAt_array_l W 248 ⟨N, 0, none⟩ hu .i64 q (by omega) (by rw [hl]; omega), hl, he, Tryz.sizeOf5 W]
  simp only [Result.andThen, slicedAt]
  rw [if_neg (by omega)]
  simp [Addr.add]; omega
theorem addr_add (N q j : Nat) : (⟨N, q, none⟩ : Addr).add j = ⟨N, q + j, none⟩ := by unfold Addr.add; split <;> simp_all
theorem quo_u64 (v b : Nat) (hb : b ≠ 0) (hv : v ≤ 9223372036854775807) (W : World) : (Op.intDiv .quo .u64 (v : Int) (b : Int)).run Tryz.prog W = .ok (.int .u64 ((v / b : Nat) : Int)) W := by
  unfold Op.intDiv
  rw [if_neg (by omega)]
  have h : (v : Int).tdiv (b : Int) = ((v / b : Nat) : Int) := by rw [Int.tdiv_eq_ediv_of_nonneg (by omega)]; simp
  have h2 : v / b ≤ v := Nat.div_le_self _ _
  have hw : IntKind.u64.wrap ((v / b : Nat) : Int) = ((v / b : Nat) : Int) := by
    generalize v / b = q at h2
    have : q < 18446744073709551616 := by omega
    rw [IntKind.wrap_u64]
    omega
  show (pure (Value.int .u64 (IntKind.u64.wrap ((v : Int).tdiv (b : Int)))) : Sem Value).run Tryz.prog W = _
  rw [h, hw]
  exact Sem.run_pure _ _ _
set_option maxRecDepth 100000 in
set_option maxHeartbeats 2000000 in
theorem bits_odd {b : Nat} (hp : b = 36) (n : Nat) (hn : n < 131621703842267136) (w : World) : Calls Tryz.prog 195 #[.slice none 0 0, .int .u64 n, .int .i64 b, .bool false, .bool false] w fun r w' => r = .returned (.tuple #[.slice none 0 0, .string (⟨(digL b 10 n).toArray⟩)]) ∧ Below w.heap.size w w' := by
  have hb : 2 ≤ b ∧ b ≤ 36 ∧ b ≠ 10 := by subst hp; decide
  have HP := hide (fun W => pow_not hp W)
  have e1 : ((b : Int) == 10) = false := by simp; omega
  have HB := Lib.hid hp
  clear hp
  have hB0 : Below w.heap.size w (w.alloc (.cells Tryz.zeroCells248 248)) := (Below.refl w.heap.size w).alloc (Nat.le_refl _) _
  have hR0 : Blk (w.alloc (.cells Tryz.zeroCells248 248)) w.heap.size (rowL []) 248 := by rw [zeros248]; exact Blk.new w (rowL []) 248
  go_enter Tryz.func195, Tryz.ntmps195
  go_wp2_with (first | (go_at_call 220; refine (unhide HP _).mono ?_; rintro r w' ⟨rfl, rfl⟩))
  clear HP
  generalize w.alloc (.cells Tryz.zeroCells248 248) = W1 at hB0 hR0 ⊢
  obtain ⟨N, hN⟩ : ∃ N, w.heap.size = N := ⟨_, rfl⟩
  rw [hN] at hB0 hR0 ⊢
  go_loopw [1, 13, 18] (fun u i _ wr => ∃ (v : Nat) (p : Nat) (out : List UInt8), u = .int .u64 v ∧ i = .int .i64 p ∧ p + out.length = 65 ∧ out.length ≤ 10 ∧ v * b ^ out.length ≤ n ∧ digL b 10 n = digL b (10 - out.length) v ++ out ∧ Blk wr N (rowL out) 248 ∧ Below N w wr) (fun u _ _ _ => (intOf u).toNat)
  case atStart => exact ⟨n, 65, [], rfl, rfl, rfl, by simp, by simp, by simp, hR0, hB0⟩
  case round =>
    obtain ⟨v, p, out, rfl, rfl, hpo, ho30, hv, hd, hr, hbl⟩ := hrel
    obtain ⟨q, rfl⟩ : ∃ q, p = q + 1 := ⟨p - 1, by omega⟩
    have hcq : wr.cell? ⟨N, q, none⟩ = some (.int .u8 0) := by
      rw [hr.cell q]; unfold rowL
      rw [List.getElem?_append_left (by simp; omega)]
      simp [List.getElem?_replicate, z8]; omega
    have hzq := hr.frozen q
    by_cases hvb : v < b
    · have hvb' : ¬ ((b : Int) ≤ v) := by omega
      have h36 : v < 36 := by omega
      have hsl := fun W => slice248 N q (by omega) W
      have hd1 := hd
      rw [digL_last hvb] at hd1
      have HD := Lib.hid hd1
      have hR := hr.set q (.int .u8 ((dgt v).toNat : Int))
      have eq : q = 64 - out.length := by omega
      have hRr : Blk (wr.setCell ⟨N, q, none⟩ (.int .u8 ((dgt v).toNat : Int))) N (rowL (dgt v :: out)) 248 := by
        rw [← rowL_cons (by omega), ← eq]; exact hR
      have hlen : (dgt v :: out).length = 65 - q := by simp; omega
      have hcv := run_convert_bytes_back (P := Tryz.prog) (wr.setCell ⟨N, q, none⟩ (.int .u8 ((dgt v).toNat : Int))) 160 9 5 ⟨N, q, none⟩ (65 - q) (dgt v :: out) Tryz.underlying160 Tryz.underlying5 Tryz.underlying9 (fun j hj => by
        have h1 := hRr.cell (q + j)
        have h2 := rowL_at (out := dgt v :: out) (by simp; omega) j hj
        rw [show 65 - (dgt v :: out).length + j = q + j by rw [hlen]; omega] at h2
        rw [addr_add]
        exact h1.trans h2)
      rw [hlen] at hcv
      have hdv : ∀ h', @getElem ByteArray Nat UInt8 _ _ (⟨#[48, 49, 50, 51, 52, 53, 54, 55, 56, 57, 97, 98, 99, 100, 101, 102, 103, 104, 105, 106, 107, 108, 109, 110, 111, 112, 113, 114, 115, 116, 117, 118, 119, 120, 121, 122]⟩ : ByteArray) v h' = dgt v := fun h' => digStr_at v (by omega) h'
      clear hr hR hRr hd hd1 eq hlen hv
      go_wp2
      go_ret2
      exact ⟨ret_two rfl (by rw [HD.out]; rfl), hbl.setCell (Nat.le_refl _) _⟩
    · have hol : out.length < 10 := by
        rcases Nat.lt_or_ge out.length 10 with h | h
        · exact h
        · have e : out.length = 10 := by omega
          have e36 := HB.out
          rw [e, e36] at hv
          have h1 : 36 * 36 ^ 10 ≤ v * 36 ^ 10 := Nat.mul_le_mul_right _ (by omega)
          have e2 : 36 * 36 ^ 10 = 131621703842267136 := by decide
          omega
      have hvn : v ≤ 9223372036854775807 := by
        have h1 : v * 1 ≤ v * b ^ out.length := Nat.mul_le_mul_left _ (Nat.pow_pos (by omega))
        omega
      have hq := fun W => quo_u64 v b (by omega) hvn W
      have hce : ((v / b : Nat) : Int) = (v : Int) / (b : Int) := by simp
      have hmb' : v / b * b ≤ v := Nat.div_mul_le_self v b
      have hdl : v / b ≤ v := Nat.div_le_self _ _
      have hw1 : IntKind.u64.wrap ((v : Int) / (b : Int)) = (v : Int) / (b : Int) := by
        rw [← hce, IntKind.wrap_u64]
        generalize v / b = X at hdl ⊢
        omega
      have hw2 : IntKind.u64.wrap ((v : Int) / (b : Int) * (b : Int)) = (v : Int) / (b : Int) * (b : Int) := by
        rw [← hce, ← Int.natCast_mul, IntKind.wrap_u64]
        generalize v / b * b = X at hmb' ⊢
        omega
      have hm : IntKind.u64.wrap ((v : Int) - (v : Int) / (b : Int) * (b : Int)) = (v % b : Nat) := by
        have h3 : v / b * b + v % b = v := by rw [Nat.mul_comm]; exact Nat.div_add_mod v b
        rw [← hce, ← Int.natCast_mul, IntKind.wrap_u64]
        generalize v / b * b = X at h3 ⊢
        generalize v % b = Y at h3 ⊢
        omega
      clear hce
      have hlt := Nat.mod_lt v (show 0 < b by omega)
      have hmore := digL_more (f := 9 - out.length) hvb
      rw [show 9 - out.length + 1 = 10 - out.length by omega] at hmore
      rw [hmore] at hd
      have hle : v / b * b ^ (out.length + 1) ≤ n := by
        have h4 : v / b * b * b ^ out.length ≤ v * b ^ out.length := Nat.mul_le_mul_right _ (Nat.div_mul_le_self v b)
        rw [Nat.pow_succ, Nat.mul_comm (b ^ out.length) b, ← Nat.mul_assoc]
        omega
      have hdec : v / b < v := Nat.div_lt_self (by omega) (by omega)
      have hR := hr.set q (.int .u8 ((dgt (v % b)).toNat : Int))
      have eq : q = 64 - out.length := by omega
      have hRr : Blk (wr.setCell ⟨N, q, none⟩ (.int .u8 ((dgt (v % b)).toNat : Int))) N (rowL (dgt (v % b) :: out)) 248 := by
        rw [← rowL_cons (by omega), ← eq]; exact hR
      have HR := Lib.hid hRr
      have HD := Lib.hid hd
      have hdv : ∀ h', @getElem ByteArray Nat UInt8 _ _ (⟨#[48, 49, 50, 51, 52, 53, 54, 55, 56, 57, 97, 98, 99, 100, 101, 102, 103, 104, 105, 106, 107, 108, 109, 110, 111, 112, 113, 114, 115, 116, 117, 118, 119, 120, 121, 122]⟩ : ByteArray) (v % b) h' = dgt (v % b) := fun h' => digStr_at (v % b) (by omega) h'
      clear hr hR hRr hmore hd eq
      obtain ⟨d, hdd⟩ : ∃ d, v % b = d := ⟨_, rfl⟩
      rw [hdd] at hm hlt HR HD hdv
      have h36 : d < 36 := by omega
      have hvb' : (b : Int) ≤ v := by omega
      go_wp2
      go_roundw
      case rel =>
        refine ⟨v / b, q, dgt d :: out, ?_, rfl, by simp; omega, by simp; omega, by simpa using hle, ?_, ?_, hbl.setCell (Nat.le_refl _) _⟩
        · simp
        · rw [HD.out]; simp
        · exact HR.out
      case measure =>
        have e0 : ((v : Int) / b) = ((v / b : Nat) : Int) := by simp
        rw [e0]
        simp only [intOf, Int.toNat_natCast]
        exact hdec
end Go.Proofs.YteaokkaidcbdlaaGreatDoor
