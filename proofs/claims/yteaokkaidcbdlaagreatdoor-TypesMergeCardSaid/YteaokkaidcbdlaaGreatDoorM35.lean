/- Part 35 of 53: the texts Tt, Tk, Lv, Av, one behind the other. -/
import Derived.Test.YteaokkaidcbdlaaGreatDoorM34
import Derived.Test.YteaokkaidcbdlaaGreatDoorM25
import Derived.Test.YteaokkaidcbdlaaGreatDoorM22
import Derived.Test.YteaokkaidcbdlaaGreatDoorM24
import Derived.Test.YteaokkaidcbdlaaGreatDoorM20
import Derived.Test.YteaokkaidcbdlaaGreatDoorM15
import Derived.Test.YteaokkaidcbdlaaGreatDoorM28
import Derived.Test.YteaokkaidcbdlaaGreatDoorM4
namespace Go.Proofs.YteaokkaidcbdlaaGreatDoor
open Go Go.RowKit Go.Shelf
attribute [local go_sem] Oper.semAt_some
def textL (G : List TyD) (i : Int) : ByteArray × Int := if checkedR G [i] = 0 then (⟨(textW (numT G i.toNat)).toArray⟩, 0) else (⟨#[]⟩, checkedR G [i])
theorem P10.at {W w : World} (h : P10 W.heap.size W) (hb : Below W.heap.size W w) : P10 w.heap.size w := by
 obtain ⟨ht, g, hg, hlt⟩ := h.below hb
 exact ⟨ht, g, hg, Nat.lt_of_lt_of_le hlt hb.size⟩
theorem numN_lt {R : List Nat} {n : Nat} (h : R.length ≤ n) (h0 : 0 < n) (c : Nat) : numN R c < n := by
 unfold numN
 split
 ·rename_i hc
  exact Nat.lt_of_lt_of_le (List.idxOf_lt_length_iff.2 hc) h
 ·exact h0
theorem toF_i64 {l : List Nat} (h : ∀ x ∈ l, x < 100000) (x : Int) : I64 (toF (l.map Int.ofNat) x) := by
 unfold toF
 rw [List.getD_eq_getElem?_getD, List.getElem?_map]
 cases hx : l[x.toNat]? with
 | none => simp [I64]
 | some y =>
   have := h y (List.mem_of_getElem? hx)
   simp [I64]; omega
theorem TyTx.map {t : TyD} (h : TyTx t) {f : Int → Int} (hf : ∀ x, I64 (f x)) : TyTx (mapTy f t) := by
 refine ⟨h.low, h.high, ?_, h.brand, h.opq, ?_, ?_, h.overs, by simpa [mapTy] using h.np, by simpa [mapTy] using h.nm, h.no⟩
 ·show I64 (if supB t.kind = true then f t.super else t.super)
  split
  ·exact hf _
  ·exact h.sup
 ·intro p hp
  obtain ⟨q, hq, rfl⟩ := List.mem_map.1 hp
  exact ⟨(h.parts q hq).1, hf _⟩
 ·intro m hm
  obtain ⟨q, hq, rfl⟩ := List.mem_map.1 hm
  have hk := h.meths q hq
  refine ⟨hk.name, hk.proc, ?_, ?_, by simpa [mapM] using hk.n, hk.raises⟩
  ·intro x hx
   obtain ⟨y, _, rfl⟩ := List.mem_map.1 hx
   exact hf _
  ·show I64 (if q.result = -1 then -1 else f q.result)
   split
   ·simp [I64]
   ·exact hf _
theorem addRs_len (sf : Nat → Nat) : ∀ (l : List Int) (R : List Nat), R.length ≤ (addRs sf R l).length
 | [], R => Nat.le_refl _
 | x :: l, R => by
   have h1 := addRs_len sf l (addR sf R x)
   have h2 : R.length ≤ (addR sf R x).length := by unfold addR; split <;> simp
   exact Nat.le_trans h2 h1
theorem reachF_len (sf : Nat → Nat) (G : List TyD) : ∀ (f k : Nat) (R : List Nat), R.length ≤ (reachF sf G f k R).length
 | 0, _, _ => Nat.le_refl _
 | f + 1, k, R => by
   unfold reachF
   split
   ·exact Nat.le_refl _
   ·exact Nat.le_trans (addRs_len sf _ R) (reachF_len sf G f _ _)
theorem addRs_inv {G : List TyD} {sf : Nat → Nat} (hsf : ∀ x, x < G.length → sf x < G.length) : ∀ (l : List Int) (R : List Nat), RInv G R → (∀ x ∈ l, 0 ≤ x ∧ x < G.length) → RInv G (addRs sf R l)
 | [], _, h, _ => h
 | x :: l, R, h, hl => addRs_inv hsf l _ (h.add hsf (hl x (by simp)).1 (hl x (by simp)).2) (fun y hy => hl y (by simp [hy]))
theorem reachF_inv {G : List TyD} {sf : Nat → Nat} (hsf : ∀ x, x < G.length → sf x < G.length) (hz : ∀ t ∈ G, ∀ x ∈ refsOf t, 0 ≤ x ∧ x < G.length) : ∀ (f k : Nat) (R : List Nat), RInv G R → RInv G (reachF sf G f k R)
 | 0, _, _, h => h
 | f + 1, k, R, h => by
   unfold reachF
   split
   ·exact h
   ·rename_i t ht
    have htn := h.bnd t (List.mem_of_getElem? ht)
    refine reachF_inv hsf hz f _ _ (addRs_inv hsf _ _ h (hz _ ?_))
    rw [List.getD_eq_getElem?_getD, List.getElem?_eq_getElem htn]; exact List.getElem_mem htn
theorem numR_inv {G : List TyD} (hf : Fit G) {a : Nat} (ha : a < G.length) : RInv G (numR G a) ∧ 0 < (numR G a).length := by
 have hsf : ∀ x, x < G.length → clF G x < G.length := fun x hx => Nat.lt_of_le_of_lt (clF_le G x hx) hx
 refine ⟨reachF_inv hsf hf.2.2 _ _ _ ⟨by simp, fun x hx => by simp at hx; subst hx; exact hsf a ha⟩, ?_⟩
 have := reachF_len (clF G) G (G.length + 1) 0 [clF G a]
 unfold numR reachL
 simp at this
 omega
theorem numT_tx {G : List TyD} (hf : Fit G) {a : Nat} (ha : a < G.length) (htx : ∀ t ∈ G, 1 ≤ t.kind ∧ t.kind ≤ 13 ∧ TyTx t) : (∀ t ∈ numT G a, 1 ≤ t.kind ∧ t.kind ≤ 13 ∧ TyTx t) ∧ 0 < (numT G a).length ∧ (numT G a).length ≤ 410 := by
 obtain ⟨hR, h0⟩ := numR_inv hf ha
 have hl := hR.len
 have h1 := hf.1
 refine ⟨fun t ht => ?_, by unfold numT; simpa using h0, by unfold numT; simp; omega⟩
 obtain ⟨j, hj, rfl⟩ := List.mem_map.1 ht
 have hj' := hR.bnd j hj
 have hm : G.getD j default ∈ G := by
  rw [List.getD_eq_getElem?_getD, List.getElem?_eq_getElem hj']; exact List.getElem_mem hj'
 obtain ⟨k1, k2, k3⟩ := htx _ hm
 refine ⟨k1, k2, k3.map (toF_i64 fun x hx => ?_)⟩
 unfold numTo at hx
 obtain ⟨c, _, rfl⟩ := List.mem_map.1 hx
 have := numN_lt hl (by omega) c
 omega
set_option maxHeartbeats 2000000 in
set_option maxRecDepth 100000 in
theorem text_any (gv : Value) (G : List TyD) (i : Int) (W : World) (hG0 : GrAt W gv G) (hz : GrZ G) (htx : checkedR G [i] = 0 → ∀ t ∈ G, 1 ≤ t.kind ∧ t.kind ≤ 13 ∧ TyTx t) (hP : P10 W.heap.size W) :
    Calls Tryz.prog 42 #[gv, .int .i64 i] W fun e w' => e = .returned (.tuple #[.string (textL G i).1, .int .i64 (textL G i).2]) ∧ Below W.heap.size W w' := by
  obtain ⟨o, cap, rfl⟩ := hG0.form
  have hbA := (Below.refl W.heap.size W).alloc (Nat.le_refl _) (.cells #[.int .i64 i] 3)
  have bA := Blk.new W [.int .i64 i] 3
  have hL : SliceOf 1 (IntAt (W.alloc (.cells #[.int .i64 i] 3))) (.slice (some ⟨W.heap.size, 0, none⟩) 1 1) [i] := by
   refine ⟨some ⟨W.heap.size, 0, none⟩, 1, rfl, Nat.le_refl _, by decide, fun q x hx => ⟨_, 0, rfl, ?_⟩⟩
   unfold IntAt
   match q with
   | 0 => simp at hx; subst hx; exact bA.cell 0
   | q + 1 => simp at hx
  have HC := hide (checked_any _ G (W.alloc (.cells #[.int .i64 i] 3)) (hG0.below hbA) hz _ [i] hL)
  clear bA hL
  by_cases h0 : checkedR G [i] = 0
  ·have hfit := checked_fit hz h0
   obtain ⟨hck, hbd⟩ := checkedR_ok h0
   obtain ⟨i0, i1⟩ := hbd i (by simp)
   obtain ⟨a, rfl⟩ := Int.eq_ofNat_of_zero_le i0
   have ha : a < G.length := by omega
   have htx' := htx h0
   have hsg := check_sigs hck
   have HN := hide (fun w1 (hb : Below W.heap.size W w1) => numbered_any o cap G a w1 (hG0.below hb) hfit ha (fun t ht => ⟨by have := (htx' t ht).2.2.np; omega, by have := (htx' t ht).2.2.nm; omega, by have := (htx' t ht).2.2.no; omega, hsg t ht⟩))
   obtain ⟨hTx, hT0, hT4⟩ := numT_tx hfit ha htx'
   have HX := Lib.hid (show textL G a = (⟨(textW (numT G a)).toArray⟩, 0) by unfold textL; rw [if_pos h0]; rfl)
   have HT := hide (fun w1 w2 (hb : Below W.heap.size W w2) (v : Value) (es : List Ent) (he : es.map Ent.t = numT G a) (hO : GrOwn w1 w2 v es) => show Calls Tryz.prog 80 #[v] w2 (fun e w' => e = .returned (.string ⟨(textW (numT G a)).toArray⟩) ∧ Below w2.heap.size w2 w') from by
    have hg := hO.gr
    rw [he] at hg
    obtain ⟨o2, c2, rfl⟩ := hg.form
    exact textOf_any o2 c2 (numT G a) w2 hg hT4 hT0 hTx (hP.at hb))
   rw [h0] at HC
   clear h0 hfit hck hbd htx htx' hsg hz hTx hT0 hT4 hG0 hP
   go_enter Tryz.func42, Tryz.ntmps42
   go_wp2_with (first | (go_at_call 57; refine (unhide HC).mono ?_; clear HC; rintro e w1 ⟨rfl, hb1⟩; have hb1' := hbA.trans (hb1.mono hbA.size)) | (go_at_call 81; refine (unhide HN w1 hb1').mono ?_; clear HN; rintro e w2 ⟨v, es, rfl, he, hO, hb2⟩; have hb2' := hb1'.trans (hb2.mono hb1'.size)) | (go_at_call 80; refine (unhide HT _ w2 hb2' v es he hO).mono ?_; clear HT; rintro e w3 ⟨rfl, hb3⟩))
   go_ret2
   exact ⟨by rw [HX.out]; rfl, hb2'.trans (hb3.mono hb2'.size)⟩
  ·have HX := Lib.hid (show textL G i = (⟨#[]⟩, checkedR G [i]) by unfold textL; rw [if_neg h0])
   clear hG0 hz htx hP
   generalize checkedR G [i] = ck at h0 HC HX
   go_enter Tryz.func42, Tryz.ntmps42
   go_wp2_with (first | (go_at_call 57; refine (unhide HC).mono ?_; clear HC; rintro e w1 ⟨rfl, hb1⟩; have hb1' := hbA.trans (hb1.mono hbA.size)))
   go_ret2
   exact ⟨by rw [HX.out]; rfl, hb1'⟩
end Go.Proofs.YteaokkaidcbdlaaGreatDoor

namespace Go.Proofs.YteaokkaidcbdlaaGreatDoor
open Go Go.RowKit Go.Shelf
theorem name_size {s : ByteArray} (h : nameB (bs s) = true) : s.size ≤ 12 := by
 rw [← bs_len]
 unfold nameB at h
 split at h
 ·cases h
 ·rename_i hl
  rw [hl]
  simp only [Bool.and_eq_true, decide_eq_true_eq] at h
  rw [hl] at h
  exact h.1.1
theorem nameB_len {l : List UInt8} (h : nameB l = true) : l.length ≤ 12 := by
 unfold nameB at h
 split at h
 ·cases h
 ·simp only [Bool.and_eq_true, decide_eq_true_eq] at h
  exact h.1.1
theorem sym_size {s : ByteArray} (h : symB (bs s) = true) : s.size ≤ 30 := by
 rw [← bs_len]
 unfold symB at h
 simp only [Bool.and_eq_true, decide_eq_true_eq] at h
 have h1 := nameB_len h.2.1
 have h2 := nameB_len h.2.2
 rw [List.length_take] at h1
 rw [List.length_drop] at h2
 omega
theorem exc_size {s : ByteArray} (h : excB (bs s) = true) : s.size ≤ 30 := by
 unfold excB at h
 rw [Bool.or_eq_true] at h
 rcases h with h | h
 ·have h1 := eq_of_beq h
  rw [← bs_len, h1]; decide
 ·exact sym_size h
theorem brand_size {s : ByteArray} (h : brandB (bs s) = true) : s.size ≤ 20 := by
 rw [← bs_len]
 unfold brandB at h
 simp only [Bool.and_eq_true, decide_eq_true_eq] at h
 exact h.1
theorem empty_size {s : ByteArray} (h : (bs s).isEmpty = true) : s.size = 0 := by
 rw [← bs_len, List.isEmpty_iff.1 h]; rfl
theorem namedFrom_all : ∀ (l seen : List ByteArray), namedFrom seen l = true → ∀ x ∈ l, nameB (bs x) = true
 | [], _, _, x, hx => by simp at hx
 | y :: l, seen, h, x, hx => by
   rw [namedFrom_cons, Bool.and_eq_true, Bool.and_eq_true] at h
   rcases List.mem_cons.1 hx with rfl | hx
   ·exact h.1
   ·exact namedFrom_all l _ h.2.2 x hx
theorem named_sizes {l : List ByteArray} (h : namedB l = true) : l.length ≤ 8 ∧ ∀ x ∈ l, x.size ≤ 12 := by
 unfold namedB at h
 rw [Bool.and_eq_true, decide_eq_true_eq] at h
 exact ⟨h.1, fun x hx => name_size (namedFrom_all l [] h.2 x hx)⟩
theorem idx_i64 {n : Nat} (hn : n ≤ 410) {x : Int} (h : idxB n x = true) : I64 x := by
 have := idxB_iff.1 h
 exact ⟨by omega, by omega⟩
theorem joinTail_len : ∀ (r : List (List UInt8)), (∀ x ∈ r, x.length ≤ 30) → (Lib.joinTail [44] r).length ≤ r.length * 31
 | [], _ => by simp [Lib.joinTail]
 | x :: r, h => by
   have h1 := joinTail_len r (fun y hy => h y (by simp [hy]))
   have h2 := h x (by simp)
   unfold Lib.joinTail at h1 ⊢
   simp only [List.map_cons, List.flatten_cons, List.length_append, List.length_cons, List.length_nil]
   omega
theorem raises_len {rs : List ByteArray} (hn : rs.length ≤ 6) (h : ∀ r ∈ rs, r.size ≤ 30) : (raisesW rs).length ≤ 100000 := by
 unfold raisesW
 split
 ·simp
 ·cases rs with
  | nil => simp [Lib.join]
  | cons r rs =>
    have h1 := h r (by simp)
    have h2 := joinTail_len (rs.map (·.data.toList)) (fun x hx => by
     obtain ⟨y, hy, rfl⟩ := List.mem_map.1 hx
     have := h y (by simp [hy])
     rw [ba_size]; exact this)
    rw [List.map_cons, Lib.join_cons]
    rw [List.length_map] at h2
    simp only [List.length_cons, List.length_append, ba_size] at hn ⊢
    omega
theorem meth_ok {n : Nat} (hn : n ≤ 410) {m : MethD} (h : methB n m = true) (hname : m.name.size ≤ 12) : MethOk m := by
 unfold methB sigB at h
 simp only [Bool.and_eq_true, decide_eq_true_eq, Bool.or_eq_true, List.all_eq_true] at h
 obtain ⟨⟨⟨ha, hr⟩, hargs, hres, hrs⟩, hproc⟩ := h
 have hsz : ∀ r ∈ m.raises, r.size ≤ 30 := by
  intro r hrm
  obtain ⟨k, hk, rfl⟩ := List.mem_iff_getElem.1 hrm
  have := hrs k (List.mem_range.2 hk)
  unfold raisesAt at this
  rw [List.getElem?_eq_getElem hk] at this
  simp only [Bool.and_eq_true] at this
  exact exc_size this.1
 refine ⟨by omega, ?_, fun x hx => idx_i64 hn (hargs x hx), ?_, by omega, raises_len hr hsz, by omega⟩
 ·rcases hproc with h | h
  ·have := empty_size h; omega
  ·have := sym_size h; omega
 ·rcases hres with h | h
  ·rw [h]; simp [I64]
  ·exact idx_i64 hn h
structure BareOk (t : TyD) (n : Nat) : Prop where
 low : t.low = 0
 high : t.high = 0
 brand : t.brand.size = 0
 opq : t.opq.size = 0
 sup : t.super = 0
 n : n = 0
theorem bare_ok {t : TyD} {n : Nat} (h : bareB t n = true) : BareOk t n := by
 unfold bareB at h
 simp only [Bool.and_eq_true, decide_eq_true_eq] at h
 obtain ⟨⟨⟨⟨h1, h2⟩, _, h3, h4⟩, h5⟩, h6⟩ := h
 exact ⟨h1, h2, empty_size h3, empty_size h4, h5, h6⟩
theorem i64_zero : I64 0 := ⟨by decide, by decide⟩
theorem branded_size {t : TyD} (h : brandedB t = true) : t.brand.size ≤ 20 := by
 unfold brandedB at h
 rw [Bool.and_eq_true] at h
 exact brand_size h.1
theorem tyB_tx {G : List TyD} (hG : G.length ≤ 410) {t : TyD} (h : tyB G t = true) : 1 ≤ t.kind ∧ t.kind ≤ 13 ∧ TyTx t := by
 have hk : 1 ≤ t.kind ∧ t.kind ≤ 13 := Classical.byContradiction fun hc => by rw [tyB_no hc] at h; cases h
 have noP : ∀ {t : TyD}, t.parts.length = 0 → ∀ p ∈ t.parts, p.name.size ≤ 1000 ∧ I64 p.type := fun h0 p hp => by rw [parts_nil h0] at hp; simp at hp
 have noM : ∀ {t : TyD}, t.meths.length = 0 → ∀ m ∈ t.meths, MethOk m := fun h0 p hp => by rw [meths_nil h0] at hp; simp at hp
 have noO : ∀ {t : TyD}, t.overs.length = 0 → ∀ p ∈ t.overs, p.name.size ≤ 1000 ∧ p.proc.size ≤ 1000 := fun {t} h0 p hp => by rw [show t.overs = [] from List.eq_nil_of_length_eq_zero h0] at hp; simp at hp
 have fld : fieldsB G.length t = true → (∀ p ∈ t.parts, p.name.size ≤ 1000 ∧ I64 p.type) ∧ t.parts.length ≤ 10 := fun h => by
  unfold fieldsB at h
  simp only [Bool.and_eq_true, List.all_eq_true] at h
  obtain ⟨h1, h2⟩ := named_sizes h.2.1
  rw [List.length_map] at h1
  exact ⟨fun p hp => ⟨by have := h2 p.name (List.mem_map_of_mem hp); omega, idx_i64 hG (h.2.2 p hp)⟩, by omega⟩
 refine ⟨hk.1, hk.2, ?_⟩
 unfold tyB at h
 split at h
 case h_8 =>
  rw [Bool.and_eq_true] at h
  obtain ⟨hb, h⟩ := h
  have hb' := of_decide_eq_true hb
  obtain ⟨-, -, q3, q4, q5, q6⟩ := bare_ok h
  simp only at q3 q4 q5
  exact ⟨⟨by omega, by omega⟩, ⟨by omega, by omega⟩, by rw [q5]; exact i64_zero, by omega, by omega, noP (by omega), noM (by omega), noO (by omega), by omega, by omega, by omega⟩
 case h_9 =>
  simp only [Bool.and_eq_true] at h
  obtain ⟨⟨hbr, hp⟩, h⟩ := h
  obtain ⟨q1, q2, q3, q4, q5, q6⟩ := bare_ok h
  simp only at q1 q2 q4 q5
  have := branded_size hbr
  have hpp : (∀ p ∈ t.parts, p.name.size ≤ 1000 ∧ I64 p.type) ∧ t.parts.length ≤ 10 := by
   unfold partB at hp
   split at hp
   ·rename_i p hpe
    rw [Bool.and_eq_true] at hp
    rw [hpe]
    exact ⟨fun x hx => by
     rw [List.mem_singleton] at hx; subst hx
     exact ⟨by have := empty_size hp.1; omega, idx_i64 hG hp.2⟩, by simp⟩
   ·cases hp
  exact ⟨by rw [q1]; exact i64_zero, by rw [q2]; exact i64_zero, by rw [q5]; exact i64_zero, by omega, by omega, hpp.1, noM (by omega), noO (by omega), hpp.2, by omega, by omega⟩
 case h_10 =>
  simp only [Bool.and_eq_true] at h
  obtain ⟨⟨hbr, hp⟩, h⟩ := h
  obtain ⟨q1, q2, q3, q4, q5, q6⟩ := bare_ok h
  simp only at q1 q2 q4 q5
  have := branded_size hbr
  have hpp : (∀ p ∈ t.parts, p.name.size ≤ 1000 ∧ I64 p.type) ∧ t.parts.length ≤ 10 := by
   unfold partB at hp
   split at hp
   ·rename_i p hpe
    rw [Bool.and_eq_true] at hp
    rw [hpe]
    exact ⟨fun x hx => by
     rw [List.mem_singleton] at hx; subst hx
     exact ⟨by have := empty_size hp.1; omega, idx_i64 hG hp.2⟩, by simp⟩
   ·cases hp
  exact ⟨by rw [q1]; exact i64_zero, by rw [q2]; exact i64_zero, by rw [q5]; exact i64_zero, by omega, by omega, hpp.1, noM (by omega), noO (by omega), hpp.2, by omega, by omega⟩
 case h_11 =>
  simp only [Bool.and_eq_true] at h
  obtain ⟨⟨hbr, hp⟩, h⟩ := h
  obtain ⟨q1, q2, q3, q4, q5, q6⟩ := bare_ok h
  simp only at q1 q2 q4 q5
  have := branded_size hbr
  have hpp := fld hp
  exact ⟨by rw [q1]; exact i64_zero, by rw [q2]; exact i64_zero, by rw [q5]; exact i64_zero, by omega, by omega, hpp.1, noM (by omega), noO (by omega), hpp.2, by omega, by omega⟩
 case h_12 =>
  simp only [Bool.and_eq_true] at h
  obtain ⟨⟨⟨⟨⟨hbr, hsu⟩, hp⟩, hm⟩, ho⟩, h⟩ := h
  obtain ⟨q1, q2, q3, q4, q5, q6⟩ := bare_ok h
  simp only at q1 q2 q4
  have := branded_size hbr
  have hpp := fld hp
  have hsup : I64 t.super := by
   unfold superB at hsu
   rw [Bool.and_eq_true] at hsu
   exact idx_i64 hG hsu.1
  have hmm : (∀ m ∈ t.meths, MethOk m) ∧ t.meths.length ≤ 10 := by
   unfold methsB at hm
   simp only [Bool.and_eq_true, List.all_eq_true] at hm
   obtain ⟨h1, h2⟩ := named_sizes hm.1
   rw [List.length_map] at h1
   exact ⟨fun m hmm => meth_ok hG (hm.2 m hmm) (h2 _ (List.mem_map_of_mem hmm)), by omega⟩
  have hoo : (∀ p ∈ t.overs, p.name.size ≤ 1000 ∧ p.proc.size ≤ 1000) ∧ t.overs.length ≤ 10 := by
   unfold oversB at ho
   simp only [Bool.and_eq_true, List.all_eq_true] at ho
   obtain ⟨h1, h2⟩ := named_sizes ho.1
   rw [List.length_map] at h1
   exact ⟨fun p hpp => ⟨by have := h2 p.name (List.mem_map_of_mem hpp); omega, by have := sym_size (ho.2 p hpp); omega⟩, by omega⟩
  exact ⟨by rw [q1]; exact i64_zero, by rw [q2]; exact i64_zero, hsup, by omega, by omega, hpp.1, hmm.1, hoo.1, hpp.2, hmm.2, hoo.2⟩
 case h_13 =>
  simp only [Bool.and_eq_true] at h
  obtain ⟨⟨hop, hsu⟩, h⟩ := h
  obtain ⟨q1, q2, q3, q4, q5, q6⟩ := bare_ok h
  simp only at q1 q2 q3
  have := sym_size hop
  have hsup : I64 t.super := by
   unfold superB at hsu
   rw [Bool.and_eq_true] at hsu
   exact idx_i64 hG hsu.1
  exact ⟨by rw [q1]; exact i64_zero, by rw [q2]; exact i64_zero, hsup, by omega, by omega, noP (by omega), noM (by omega), noO (by omega), by omega, by omega, by omega⟩
 case h_14 => cases h
 all_goals
  obtain ⟨q1, q2, q3, q4, q5, q6⟩ := bare_ok h
  exact ⟨by rw [q1]; exact i64_zero, by rw [q2]; exact i64_zero, by rw [q5]; exact i64_zero, by omega, by omega, noP (by omega), noM (by omega), noO (by omega), by omega, by omega, by omega⟩
theorem check_tx {G : List TyD} (hz : GrZ G) (h : (checkR G).2 = 0) : ∀ t ∈ G, 1 ≤ t.kind ∧ t.kind ≤ 13 ∧ TyTx t := by
 have hlen := hz.len
 unfold checkR at h
 split at h
 ·simp at h
 ·rename_i h4
  split at h
  ·simp at h
  ·rename_i hn
   have hall := firstNo_all (p := tyB G) (l := G) (by
    rcases firstNo_ge (tyB G) G with h1 | h1
    ·exact h1
    ·exact absurd h1 hn)
   exact fun t ht => tyB_tx hlen (hall t ht)
theorem text_all (gv : Value) (G : List TyD) (i : Int) (W : World) (hG0 : GrAt W gv G) (hz : GrZ G) (hP : P10 W.heap.size W) :
    Calls Tryz.prog 42 #[gv, .int .i64 i] W fun e w' => e = .returned (.tuple #[.string (textL G i).1, .int .i64 (textL G i).2]) ∧ Below W.heap.size W w' :=
  text_any gv G i W hG0 hz (fun h => check_tx hz (checkedR_ok h).1) hP
end Go.Proofs.YteaokkaidcbdlaaGreatDoor

namespace Go.Proofs.YteaokkaidcbdlaaGreatDoor
open Go Go.RowKit Go.Shelf
set_option maxRecDepth 100000
theorem lists_z : GrZ listsG := by
 refine ⟨by decide, fun t ht => ?_⟩
 simp only [listsG, List.mem_cons, List.not_mem_nil, or_false] at ht
 have hz : ∀ t : TyD, t.brand.size = 0 → t.opq.size = 0 → (∀ p ∈ t.parts, p.name.size ≤ 4) → t.meths = [] → t.overs = [] → TyZ t := fun t h1 h2 h3 h4 h5 =>
  ⟨by rw [h1]; exact Nat.zero_le _, by rw [h2]; exact Nat.zero_le _, fun p hp => Nat.le_trans (h3 p hp) (by unfold maxLen; omega), by rw [h4]; simp, by rw [h5]; simp⟩
 have hr : ∀ a b, ∀ p ∈ (recT a b).parts, p.name.size ≤ 4 := fun a b p hp => by
  simp only [recT, List.mem_cons, List.not_mem_nil, or_false] at hp
  rcases hp with rfl | rfl
  ·exact (show headS.size ≤ 4 by decide)
  ·exact (show tailS.size ≤ 4 by decide)
 rcases ht with rfl | rfl | rfl | rfl | rfl | rfl | rfl
 ·exact ⟨hz _ rfl rfl (by simp [intT]) rfl rfl, by decide, by decide, by decide, by decide⟩
 ·exact ⟨hz _ rfl rfl (hr _ _) rfl rfl, by decide, by decide, by decide, by decide⟩
 ·exact ⟨hz _ rfl rfl (hr _ _) rfl rfl, by decide, by decide, by decide, by decide⟩
 ·exact ⟨hz _ rfl rfl (hr _ _) rfl rfl, by decide, by decide, by decide, by decide⟩
 ·exact ⟨hz _ rfl rfl (fun p hp => by simp only [refT, List.mem_cons, List.not_mem_nil, or_false] at hp; subst hp; exact (show emptyS.size ≤ 4 by decide)) rfl rfl, by decide, by decide, by decide, by decide⟩
 ·exact ⟨hz _ rfl rfl (by simp [rngT]) rfl rfl, by decide, by decide, by decide, by decide⟩
 ·exact ⟨hz _ rfl rfl (hr _ _) rfl rfl, by decide, by decide, by decide, by decide⟩
theorem v_12 : equalL listsG 1 2 = (true, 0) := by kernel_rfl
theorem v_16 : equalL listsG 1 6 = (false, 0) := by kernel_rfl
theorem v_ap : apartL listsG 1 6 = ([0], true, 0) := by kernel_rfl
theorem v_ck : ckApartL listsG 1 6 [1, 0] = (true, 0) := by kernel_rfl
theorem v_ok : checkedR listsG [] = 0 := by kernel_rfl
theorem v_mt : (mergeT listsG).length = 5 := by kernel_rfl
theorem v_ml : natsV (mergeL listsG).2 = [.int .i64 0, .int .i64 1, .int .i64 1, .int .i64 1, .int .i64 2, .int .i64 3, .int .i64 4] := by kernel_rfl
theorem v_t3 : textL listsG 3 = (⟨#[49, 48, 32, 45, 32, 104, 101, 97, 100, 58, 49, 32, 116, 97, 105, 108, 58, 48, 10, 49, 10]⟩, 0) := by kernel_rfl
theorem v_t0 : textL listsG 0 = (⟨#[49, 10]⟩, 0) := by kernel_rfl
theorem v_d0 : digestL (bs ⟨#[]⟩) = [84, 48, 48, 48, 48, 48, 48, 48, 48, 48, 52, 53, 72] := by kernel_rfl
def printL (G : List TyD) (i : Int) : ByteArray × Int := if (textL G i).2 = 0 then (⟨(digestL (bs (textL G i).1)).toArray⟩, 0) else (⟨#[]⟩, (textL G i).2)
theorem print_any (gv : Value) (G : List TyD) (i : Int) (W : World) (hG0 : GrAt W gv G) (hz : GrZ G) (hP : P10 W.heap.size W) (hsz : (textL G i).1.size ≤ maxLen) :
    Calls Tryz.prog 44 #[gv, .int .i64 i] W fun e w' => e = .returned (.tuple #[.string (printL G i).1, .int .i64 (printL G i).2]) ∧ Below W.heap.size W w' := by
  have HT := hide (text_all gv G i W hG0 hz hP)
  have HD := hide (fun w => digest_any (textL G i).1 hsz w)
  obtain ⟨o, cap, rfl⟩ := hG0.form
  by_cases h0 : (textL G i).2 = 0
  ·have HR := Lib.hid (show printL G i = (⟨(digestL (bs (textL G i).1)).toArray⟩, 0) by unfold printL; rw [if_pos h0])
   rw [h0] at HT
   generalize (textL G i).1 = s at HT HD HR
   clear h0 hG0 hsz hP hz
   go_enter Tryz.func44, Tryz.ntmps44
   go_wp2_with (first | (go_at_call 42; with_reducible refine (unhide HT).mono ?_; rintro e w1 ⟨rfl, hb1⟩) | (go_at_call 48; with_reducible refine (unhide HD _).mono ?_; rintro e w2 ⟨rfl, hb2⟩))
   go_ret2
   exact ⟨by rw [HR.out]; rfl, hb1.trans (hb2.mono hb1.size)⟩
  ·have HR := Lib.hid (show printL G i = (⟨#[]⟩, (textL G i).2) by unfold printL; rw [if_neg h0])
   generalize (textL G i).1 = s at HT HD HR
   generalize (textL G i).2 = x at HT HR h0
   have hx : (x == 0) = false := by simpa using h0
   clear h0 hG0 hsz hP hz HD
   go_enter Tryz.func44, Tryz.ntmps44
   go_wp2_with (first | (go_at_call 42; with_reducible refine (unhide HT).mono ?_; rintro e w1 ⟨rfl, hb1⟩))
   go_ret2
   exact ⟨by rw [HR.out]; rfl, hb1⟩
end Go.Proofs.YteaokkaidcbdlaaGreatDoor

namespace Go.Proofs.YteaokkaidcbdlaaGreatDoor
open Go Go.RowKit Go.Shelf
set_option maxRecDepth 100000
theorem l_e12 (gv : Value) (w : World) (h : GrAt w gv listsG) : Calls Tryz.prog 23 #[gv, .int .i64 1, .int .i64 2] w fun e w' => e = .returned (.tuple #[.bool true, .int .i64 0]) ∧ Below w.heap.size w w' := by
 have := equal_all gv listsG 1 2 w h lists_z; rw [v_12] at this; exact this
theorem l_e16 (gv : Value) (w : World) (h : GrAt w gv listsG) : Calls Tryz.prog 23 #[gv, .int .i64 1, .int .i64 6] w fun e w' => e = .returned (.tuple #[.bool false, .int .i64 0]) ∧ Below w.heap.size w w' := by
 have := equal_all gv listsG 1 6 w h lists_z; rw [v_16] at this; exact this
theorem l_ap (gv : Value) (w : World) (h : GrAt w gv listsG) : Calls Tryz.prog 27 #[gv, .int .i64 1, .int .i64 6] w fun e w' =>
    ∃ g k, e = .returned (.tuple #[.slice (some ⟨g, 0, none⟩) 1 k, .bool true, .int .i64 0]) ∧ w'.cell? ⟨g, 0, none⟩ = some (.int .i64 0) ∧ Below w.heap.size w w' := by
  have := apart_all gv listsG 1 6 w h lists_z
  rw [v_ap] at this
  refine this.mono ?_
  rintro e w' ⟨v, he, hr, hb⟩
  change w'.ownsRow w.heap.size 3 1 v 1 [.int .i64 0] at hr
  obtain ⟨o, k, rfl⟩ := row_form hr
  obtain ⟨g, rfl⟩ := row_some hr (by decide)
  exact ⟨g, k, he, Row1.cells hr 0 (by decide), hb⟩
theorem l_ck (gv wv : Value) (w : World) (h : GrAt w gv listsG) (hw : SliceOf 1 (IntAt w) wv [1, 0]) : Calls Tryz.prog 29 #[gv, .int .i64 1, .int .i64 6, wv] w fun e w' => e = .returned (.tuple #[.bool true, .int .i64 0]) ∧ Below w.heap.size w w' := by
 have := checkApart_all gv wv listsG 1 6 [1, 0] w h lists_z hw; rw [v_ck] at this; exact this
theorem l_mg (gv : Value) (w : World) (h : GrAt w gv listsG) : Calls Tryz.prog 34 #[gv] w fun e w' =>
    ∃ o c g k, e = .returned (.tuple #[.slice o 5 c, .slice (some ⟨g, 0, none⟩) 7 k, .int .i64 0]) ∧ w'.cell? ⟨g, 3, none⟩ = some (.int .i64 1) ∧ Below w.heap.size w w' := by
  have := merge_any gv listsG w h lists_z
  rw [v_ok, v_ml] at this
  refine this.mono ?_
  rintro e w' ⟨v, m, he, hb, hc⟩
  obtain ⟨⟨es, hes, hown⟩, hr⟩ := (if_pos rfl ▸ hc : _)
  have hl : es.length = 5 := by rw [← v_mt, ← hes, List.length_map]
  have hrow := hown.row
  rw [hl] at hrow
  obtain ⟨o, c, rfl⟩ := row_form hrow
  change w'.ownsRow w.heap.size 3 1 m 7 _ at hr
  obtain ⟨o2, k, rfl⟩ := row_form hr
  obtain ⟨g, rfl⟩ := row_some hr (by decide)
  exact ⟨o, c, g, k, he, Row1.cells hr 3 (by decide), hb⟩
theorem l_t3 (gv : Value) (w : World) (h : GrAt w gv listsG) (hp : P10 w.heap.size w) : Calls Tryz.prog 42 #[gv, .int .i64 3] w fun e w' =>
    e = .returned (.tuple #[.string ⟨#[49, 48, 32, 45, 32, 104, 101, 97, 100, 58, 49, 32, 116, 97, 105, 108, 58, 48, 10, 49, 10]⟩, .int .i64 0]) ∧ Below w.heap.size w w' := by
  have := text_all gv listsG 3 w h lists_z hp; rw [v_t3] at this; exact this
theorem l_pr (gv : Value) (w : World) (h : GrAt w gv listsG) (hp : P10 w.heap.size w) : Calls Tryz.prog 44 #[gv, .int .i64 0] w fun e w' =>
    e = .returned (.tuple #[.string ⟨(digestL (bs ⟨#[49, 10]⟩)).toArray⟩, .int .i64 0]) ∧ Below w.heap.size w w' := by
  have := print_any gv listsG 0 w h lists_z hp (by rw [v_t0]; exact (show (2 : Nat) ≤ maxLen by unfold maxLen; omega))
  rw [show printL listsG 0 = (⟨(digestL (bs ⟨#[49, 10]⟩)).toArray⟩, 0) by unfold printL; rw [v_t0]; rfl] at this; exact this
theorem l_d1 (w : World) : Calls Tryz.prog 48 #[.string ⟨#[49, 10]⟩] w fun e w' => e = .returned (.string ⟨(digestL (bs ⟨#[49, 10]⟩)).toArray⟩) ∧ Below w.heap.size w w' :=
 digest_any ⟨#[49, 10]⟩ (show (2 : Nat) ≤ maxLen by unfold maxLen; omega) w
theorem l_d0 (w : World) : Calls Tryz.prog 48 #[.string ⟨#[]⟩] w fun e w' => e = .returned (.string ⟨#[84, 48, 48, 48, 48, 48, 48, 48, 48, 48, 52, 53, 72]⟩) ∧ Below w.heap.size w w' := by
 have := digest_any ⟨#[]⟩ (Nat.zero_le _) w; rw [v_d0] at this; exact this
theorem P10.more {w w' : World} (h : P10 w.heap.size w) (hb : Below w.heap.size w w') : P10 w'.heap.size w' := by
 obtain ⟨ht, g, hg, hlt⟩ := h.below hb
 exact ⟨ht, g, hg, Nat.lt_of_lt_of_le hlt hb.size⟩
set_option maxHeartbeats 8000000 in
theorem alive_any (W : World) (hP : P10 W.heap.size W) : Calls Tryz.prog 14 #[] W fun e w' => e = .returned (.bool true) ∧ Below W.heap.size W w' := by
 have HL := hide (lists_any W)
 have HP := hide hP
 clear hP
 go_enter Tryz.func14, Tryz.ntmps14
 go_wp2_with fail
 refine (unhide HL).mono ?_
 rintro e w1 ⟨gv, rfl, hg1, hb1⟩
 obtain ⟨o, cap, rfl⟩ := hg1.form
 have HG1 := hide hg1
 have HP1 := hide ((unhide HP).more hb1)
 clear hg1 HL
 go_wp2_with fail
 with_reducible refine (l_e12 _ _ (unhide HG1)).mono ?_
 rintro e w2 ⟨rfl, hb2⟩
 have HG2 := hide ((unhide HG1).below hb2)
 go_wp2_with fail
 with_reducible refine (l_e16 _ _ (unhide HG2)).mono ?_
 rintro e w3 ⟨rfl, hb3⟩
 have HG3 := hide ((unhide HG2).below hb3)
 go_wp2_with fail
 with_reducible refine (l_ap _ _ (unhide HG3)).mono ?_
 rintro e w4 ⟨gA, kA, rfl, hcA, hb4⟩
 have HG4 := hide ((unhide HG3).below hb4)
 have HP4 := hide ((((unhide HP1).more hb2).more hb3).more hb4)
 have L4 := hide (((hb1.trans (hb2.mono hb1.size)).trans (hb3.mono (Nat.le_trans hb1.size hb2.size))).trans (hb4.mono (Nat.le_trans (Nat.le_trans hb1.size hb2.size) hb3.size)))
 clear HG1 HG2 HG3 HP1 hb1 hb2 hb3 hb4
 go_wp2_with fail
 have b5 := Blk.new w4 [.int .i64 1, .int .i64 0] 3
 change Blk (w4.alloc (.cells #[.int .i64 1, .int .i64 0] 3)) _ _ _ at b5
 have l5 := (Below.refl w4.heap.size w4).alloc (Nat.le_refl _) (.cells #[.int .i64 1, .int .i64 0] 3)
 generalize w4.alloc (.cells #[.int .i64 1, .int .i64 0] 3) = w5 at b5 l5 ⊢
 have HG5 := hide ((unhide HG4).below l5)
 have HP5 := hide ((unhide HP4).more l5)
 have L5 := hide ((unhide L4).trans (l5.mono (unhide L4).size))
 have hw : SliceOf 1 (IntAt w5) (.slice (some ⟨w4.heap.size, 0, none⟩) 2 2) [1, 0] := by
  refine ⟨some ⟨w4.heap.size, 0, none⟩, 2, rfl, Nat.le_refl _, by decide, fun q x hx => ⟨_, 0, rfl, ?_⟩⟩
  unfold IntAt
  match q with
  | 0 => simp at hx; subst hx; exact b5.cell 0
  | 1 => simp at hx; subst hx; exact b5.cell 1
  | q + 2 => simp at hx
 have hcA5 : w5.cell? ⟨gA, 0, none⟩ = some (.int .i64 0) := Holds.below l5 _ _ hcA
 with_reducible refine (l_ck _ _ _ (unhide HG5) hw).mono ?_
 rintro e w6 ⟨rfl, hb6⟩
 have HG6 := hide ((unhide HG5).below hb6)
 have HP6 := hide ((unhide HP5).more hb6)
 have L6 := hide ((unhide L5).trans (hb6.mono (unhide L5).size))
 have hcA6 : w6.cell? ⟨gA, 0, none⟩ = some (.int .i64 0) := Holds.below hb6 _ _ hcA5
 clear hw b5 l5 HG4 HP4 L4 HG5 HP5 L5 hcA hcA5 hb6
 go_wp2_with fail
 with_reducible refine (l_mg _ _ (unhide HG6)).mono ?_
 rintro e w7 ⟨oM, cM, gM, kM, rfl, hcM, hb7⟩
 have HG7 := hide ((unhide HG6).below hb7)
 have HP7 := hide ((unhide HP6).more hb7)
 have L7 := hide ((unhide L6).trans (hb7.mono (unhide L6).size))
 have hcA7 : w7.cell? ⟨gA, 0, none⟩ = some (.int .i64 0) := Holds.below hb7 _ _ hcA6
 clear HG6 HP6 L6 hcA6 hb7
 go_wp2_with fail
 with_reducible refine (l_t3 _ _ (unhide HG7) (unhide HP7)).mono ?_
 rintro e w8 ⟨rfl, hb8⟩
 have HG8 := hide ((unhide HG7).below hb8)
 have HP8 := hide ((unhide HP7).more hb8)
 have L8 := hide ((unhide L7).trans (hb8.mono (unhide L7).size))
 have hcA8 : w8.cell? ⟨gA, 0, none⟩ = some (.int .i64 0) := Holds.below hb8 _ _ hcA7
 have hcM8 : w8.cell? ⟨gM, 3, none⟩ = some (.int .i64 1) := Holds.below hb8 _ _ hcM
 clear HG7 HP7 L7 hcA7 hcM hb8
 have HPR := hide (l_pr (.slice o listsG.length cap) w8 (unhide HG8) (unhide HP8))
 have HD1 := hide l_d1
 obtain ⟨D, hD⟩ : ∃ D, (⟨(digestL (bs ⟨#[49, 10]⟩)).toArray⟩ : ByteArray) = D := ⟨_, rfl⟩
 rw [hD] at HPR HD1
 clear hD
 go_wp2_with fail
 with_reducible refine (unhide HPR).mono ?_
 rintro e w9 ⟨rfl, hb9⟩
 have L9 := hide ((unhide L8).trans (hb9.mono (unhide L8).size))
 have hcA9 : w9.cell? ⟨gA, 0, none⟩ = some (.int .i64 0) := Holds.below hb9 _ _ hcA8
 have hcM9 : w9.cell? ⟨gM, 3, none⟩ = some (.int .i64 1) := Holds.below hb9 _ _ hcM8
 clear HG8 HP8 L8 hcA8 hcM8 hb9 HPR HP
 go_wp2_with fail
 with_reducible refine (unhide HD1 _).mono ?_
 rintro e w10 ⟨rfl, hb10⟩
 have L10 := hide ((unhide L9).trans (hb10.mono (unhide L9).size))
 clear L9 hb10 hcA9 hcM9
 go_wp2_with fail
 with_reducible refine (l_d0 _).mono ?_
 rintro e w11 ⟨rfl, hb11⟩
 have L11 := hide ((unhide L10).trans (hb11.mono (unhide L10).size))
 clear L10 hb11
 go_wp2
 go_ret
 exact ⟨rfl, unhide L11⟩
end Go.Proofs.YteaokkaidcbdlaaGreatDoor

