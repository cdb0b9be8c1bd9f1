/- Part 2 of 53: the texts Sy, Nd, one behind the other. -/
import Derived.Test.YteaokkaidcbdlaaGreatDoorM0
import Derived.Test.YteaokkaidcbdlaaGreatDoorM1
namespace Go.Proofs.YteaokkaidcbdlaaGreatDoor
open Go Go.RowKit Go.Shelf
def ndB (c : Int) : Bool := decide (c ≠ 46)
def symB (l : List UInt8) : Bool := decide (spn ndB l < l.length) && (nameB (l.take (spn ndB l)) && nameB (l.drop (spn ndB l + 1)))
theorem indexByte_spn (l : List UInt8) : Lib.indexByte l 46 = if spn ndB l < l.length then (spn ndB l : Int) else -1 := by
 induction l with
 | nil => rfl
 | cons c l ih =>
   have e : Lib.indexByte (c :: l) 46 = if c == 46 then 0 else if Lib.indexByte l 46 == -1 then -1 else Lib.indexByte l 46 + 1 := rfl
   have e2 : spn ndB (c :: l) = if ndB c.toNat then spn ndB l + 1 else 0 := rfl
   rw [e, e2, ih]
   by_cases hc : c = 46
   ·subst hc; simp [ndB]
   ·have hn : ndB c.toNat = true := by
      unfold ndB
      refine decide_eq_true fun h => hc ?_
      have h' : c.toNat = 46 := by exact_mod_cast h
      exact UInt8.toNat_inj.1 h'
    have hb : (c == 46) = false := by simpa using hc
    rw [hn, hb]
    by_cases hl : spn ndB l < l.length
    ·have h2 : spn ndB l + 1 < (c :: l).length := by simp; omega
     have h3 : ((spn ndB l : Int) == -1) = false := by simp
     simp [hl, h3]
    ·have h2 : ¬ spn ndB l + 1 < (c :: l).length := by simp; omega
     simp [hl]
theorem cutS_any (s : ByteArray) (hs : s.size ≤ maxLen) (w : World) :
    Calls Tryz.prog 101 #[.string s, .string ⟨#[46]⟩] w fun e w' => e = .returned (if spn ndB (bs s) < s.size then .tuple #[.string (s.extract 0 (spn ndB (bs s))), .string (s.extract (spn ndB (bs s) + 1) s.size), .bool true] else .tuple #[.string s, .string ⟨#[]⟩, .bool false]) ∧ ∃ n, w' = w.drewN n := by
  unfold maxLen at hs
  have hi := Tryz.stringslite_Index_one s 46
  rw [show s.data.toList = bs s from rfl, indexByte_spn, bs_len] at hi
  by_cases h : spn ndB (bs s) < s.size
  ·rw [if_pos h] at hi ⊢
   generalize spn ndB (bs s) = d at h hi ⊢
   have HI := hide hi
   clear hi
   have h0 : (0 : Int) ≤ (d : Int) := by omega
   have h1 : (d : Int) ≤ s.size := by omega
   have h2 : (d : Int) + 1 ≤ s.size := by omega
   go_enter Tryz.func101, Tryz.ntmps101
   go_wp2_with (first | (go_at_call 155; refine (unhide HI _).mono ?_; rintro e w' ⟨rfl, rfl⟩))
   go_quiet (fail)
   go_wp2
   go_ret3
   exact ⟨rfl, _, rfl⟩
  ·rw [if_neg h] at hi ⊢
   have HI := hide hi
   clear hi
   go_enter Tryz.func101, Tryz.ntmps101
   go_wp2_with (first | (go_at_call 155; refine (unhide HI _).mono ?_; rintro e w' ⟨rfl, rfl⟩))
   go_ret3
   exact ⟨rfl, 0, rfl⟩
theorem ext_drop (s : ByteArray) (k : Nat) : (s.extract k s.size).size = s.size - k := by
 have h := congrArg List.length (bs_drop s k)
 rwa [bs_len, List.length_drop, bs_len] at h
theorem ext_take (s : ByteArray) (k : Nat) : (s.extract 0 k).size = min k s.size := by
 have h := congrArg List.length (bs_take s k)
 rwa [bs_len, List.length_take, bs_len] at h
theorem cut_any (s : ByteArray) (hs : s.size ≤ maxLen) (w : World) :
    Calls Tryz.prog 63 #[.string s, .string ⟨#[46]⟩] w fun e w' => e = .returned (if spn ndB (bs s) < s.size then .tuple #[.string (s.extract 0 (spn ndB (bs s))), .string (s.extract (spn ndB (bs s) + 1) s.size), .bool true] else .tuple #[.string s, .string ⟨#[]⟩, .bool false]) ∧ ∃ n, w' = w.drewN n := by
  have hc := cutS_any s hs
  by_cases h : spn ndB (bs s) < s.size
  ·simp only [if_pos h] at hc ⊢
   have HC := hide hc
   clear hc
   go_enter Tryz.func63, Tryz.ntmps63
   go_wp2_with (first | (go_at_call 101; refine (unhide HC _).mono ?_; rintro e w' ⟨rfl, n, rfl⟩))
   go_ret3
   exact ⟨rfl, n, rfl⟩
  ·simp only [if_neg h] at hc ⊢
   have HC := hide hc
   clear hc
   go_enter Tryz.func63, Tryz.ntmps63
   go_wp2_with (first | (go_at_call 101; refine (unhide HC _).mono ?_; rintro e w' ⟨rfl, n, rfl⟩))
   go_ret3
   exact ⟨rfl, n, rfl⟩
theorem isSymbol_any (s : ByteArray) (hs : s.size ≤ maxLen) (w : World) :
    Calls Tryz.prog 21 #[.string s] w fun e w' => e = .returned (.bool (symB (bs s))) ∧ ∃ n, w' = w.drewN n := by
  have hc := cut_any s hs
  by_cases h : spn ndB (bs s) < s.size
  ·simp only [if_pos h] at hc
   have HB := Lib.hid (show symB (bs s) = (nameB ((bs s).take (spn ndB (bs s))) && nameB ((bs s).drop (spn ndB (bs s) + 1))) by unfold symB; rw [bs_len]; simp [h])
   have n1 := isName_any (s.extract 0 (spn ndB (bs s)))
   have n2 := isName_any (s.extract (spn ndB (bs s) + 1) s.size)
   have z1 : (s.extract 0 (spn ndB (bs s))).size ≤ maxLen := by rw [ext_take]; omega
   have z2 : (s.extract (spn ndB (bs s) + 1) s.size).size ≤ maxLen := by rw [ext_drop]; omega
   replace n1 := n1 z1
   replace n2 := n2 z2
   rw [bs_take] at n1
   rw [bs_drop] at n2
   clear z1 z2
   revert HB n1 n2 hc
   generalize nameB ((bs s).take (spn ndB (bs s))) = x
   generalize nameB ((bs s).drop (spn ndB (bs s) + 1)) = y
   generalize s.extract 0 (spn ndB (bs s)) = s1
   generalize s.extract (spn ndB (bs s) + 1) s.size = s2
   intro hc HB n1 n2
   have HC := hide hc
   have N1 := hide n1
   have N2 := hide n2
   clear hc n1 n2 h
   cases x
   all_goals
    go_enter Tryz.func21, Tryz.ntmps21
    go_wp2_with (first | (go_at_call 63; refine (unhide HC _).mono ?_; rintro e w' ⟨rfl, n, rfl⟩) | (go_at_call 19; refine (unhide N1 _).mono ?_; clear N1; rintro e w' ⟨rfl, rfl⟩) | (go_at_call 19; refine (unhide N2 _).mono ?_; rintro e w' ⟨rfl, rfl⟩))
    go_ret
    exact ⟨ret_bool (by rw [HB.out]; rfl), n, rfl⟩
  ·simp only [if_neg h] at hc
   have HB := Lib.hid (show symB (bs s) = false by unfold symB; rw [bs_len]; simp [h])
   have n1 := isName_any s hs
   have n2 := isName_any ⟨#[]⟩ (Nat.zero_le _)
   rw [show nameB (bs ⟨#[]⟩) = false from rfl] at n2
   have HC := hide hc
   have N2 := hide n2
   clear hc n2 h
   revert n1
   generalize nameB (bs s) = x
   intro n1
   have N1 := hide n1
   clear n1
   cases x
   all_goals
    go_enter Tryz.func21, Tryz.ntmps21
    go_wp2_with (first | (go_at_call 63; refine (unhide HC _).mono ?_; rintro e w' ⟨rfl, n, rfl⟩) | (go_at_call 19; refine (unhide N1 _).mono ?_; clear N1; rintro e w' ⟨rfl, rfl⟩) | (go_at_call 19; refine (unhide N2 _).mono ?_; rintro e w' ⟨rfl, rfl⟩))
    go_ret
    exact ⟨ret_bool (by rw [HB.out]), n, rfl⟩
theorem refSymbol_any (s : ByteArray) (hs : s.size ≤ maxLen) (w : World) :
    Calls Tryz.prog 22 #[.string s] w fun e w' => e = .returned (.bool (symB (bs s))) ∧ w' = w := by
  have hm := hs
  unfold maxLen at hs
  go_enter Tryz.func22, Tryz.ntmps22
  go_wp2
  go_loopw [3] (fun i wr => ∃ k : Nat, k ≤ s.size ∧ i = .int .i64 k ∧ wr = w ∧ spn ndB (bs s) = k + spn ndB ((bs s).drop k)) (fun i _ => s.size - (intOf i).toNat)
  case atStart => exact ⟨0, Nat.zero_le _, rfl, rfl, by simp⟩
  case round =>
   obtain ⟨k, hk, rfl, rfl, hf⟩ := hrel
   by_cases hlt : k < s.size
   ·by_cases hp : (s[k].toNat : Int) = 46
    ·have hf' : spn ndB (bs s) = k := by rw [hf, spn_off hlt (by unfold ndB; simp [hp])]; rfl
     have HB := Lib.hid (show symB (bs s) = (nameB ((bs s).take k) && nameB ((bs s).drop (k + 1))) by unfold symB; rw [bs_len, hf']; simp [hlt])
     have n1 := refName_any (s.extract 0 k) (by rw [ext_take]; omega)
     have n2 := refName_any (s.extract (k + 1) s.size) (by rw [ext_drop]; omega)
     rw [bs_take] at n1
     rw [bs_drop] at n2
     clear hf hf'
     revert HB n1 n2
     generalize nameB ((bs s).take k) = x
     generalize nameB ((bs s).drop (k + 1)) = y
     intro HB n1 n2
     have N1 := hide n1
     have N2 := hide n2
     clear n1 n2 hm
     cases x
     all_goals
      go_wp2_with (first | (go_at_call 20; refine (unhide N1 _).mono ?_; clear N1; rintro e w' ⟨rfl, rfl⟩) | (go_at_call 20; refine (unhide N2 _).mono ?_; rintro e w' ⟨rfl, rfl⟩))
      go_ret
      exact ⟨ret_bool (by rw [HB.out]; rfl), rfl⟩
    ·have HF := Lib.hid (show spn ndB (bs s) = (k + 1) + spn ndB ((bs s).drop (k + 1)) by rw [hf, spn_at hlt (by unfold ndB; simpa using hp)]; omega)
     have hne : ((s[k].toNat : Int) == 46) = false := by simpa using hp
     clear hf hp
     go_wp2
     go_roundw
     case rel => exact ⟨k + 1, by omega, by go_num, trivial, HF.out⟩
     case measure => simp [intOf]; omega
   ·obtain rfl : k = s.size := by omega
    have HB := Lib.hid (show symB (bs s) = false by
     have hf2 : spn ndB (bs s) = s.size := by rw [hf, List.drop_eq_nil_of_le (by rw [bs_len]; exact Nat.le_refl _)]; rfl
     unfold symB; rw [hf2, bs_len]; simp)
    go_wp2
    go_ret
    exact ⟨ret_bool (by rw [HB.out]), rfl⟩
def alertB : ByteArray := ⟨#[65, 76, 69, 82, 84, 69, 68]⟩
def excB (l : List UInt8) : Bool := l == bs alertB || symB l
theorem isException_any (s : ByteArray) (hs : s.size ≤ maxLen) (w : World) :
    Calls Tryz.prog 282 #[.string s] w fun e w' => e = .returned (.bool (excB (bs s))) ∧ ∃ n, w' = w.drewN n := by
  have he : (s.toList == [65, 76, 69, 82, 84, 69, 68]) = (bs s == bs alertB) := by rw [toList_bs]; rfl
  obtain ⟨x, HB, hx⟩ : ∃ x, Hid (excB (bs s) = (x || symB (bs s))) ∧ (bs s == bs alertB) = x := ⟨_, Lib.hid rfl, rfl⟩
  rw [hx] at he
  clear hx
  cases x
  ·go_enter Tryz.func282, Tryz.ntmps282
   go_wp2_with (first | (go_at_call 21; refine (isSymbol_any s hs _).mono ?_; rintro e w' ⟨rfl, n, rfl⟩))
   go_ret
   exact ⟨ret_bool (by rw [HB.out]; rfl), n, rfl⟩
  ·go_enter Tryz.func282, Tryz.ntmps282
   go_wp2_with (first | (go_at_call 21; refine (isSymbol_any s hs _).mono ?_; rintro e w' ⟨rfl, n, rfl⟩))
   go_ret
   exact ⟨ret_bool (by rw [HB.out]; rfl), 0, rfl⟩
theorem opaque_any {W0 W : World} {gv : Value} {bc bt : Nat} {f : Bool} {t : TyD} {vp vm vo : Value} (hs : t.opq.size ≤ maxLen) (h : Own2 W0 W gv bc bt f (tyC t vp vm vo)) :
    Calls Tryz.prog 267 #[.pointer (some ⟨bc, 0, none⟩), .pointer (some ⟨bt, 0, none⟩)] W fun e w' => e = .returned (.tuple #[]) ∧
     Own2 W0 w' gv bc bt (f && symB (bs t.opq)) (tyC { t with opq := ⟨#[]⟩ } vp vm vo) := by
  have t5 : W.cell? ⟨bt, 5, none⟩ = some (.string t.opq) := h.t.cell 5
  go_enter Tryz.func267, Tryz.ntmps267
  go_wp2_with (first | (go_at_call 21; refine (isSymbol_any _ hs _).mono ?_; rintro e w' ⟨rfl, nq, rfl⟩) | (go_at_call 271; refine (need_own (h.drewN nq) _).mono ?_; rintro e w1 ⟨rfl, h1⟩; have c5 : w1.cell? ⟨bt, 5, none⟩ = some (.string t.opq) := h1.t.cell 5; have z5 := h1.t.frozen 5))
  go_end0
  exact ⟨rfl, h1.setT 5 (.string ⟨#[]⟩)⟩
end Go.Proofs.YteaokkaidcbdlaaGreatDoor

namespace Go.Proofs.YteaokkaidcbdlaaGreatDoor
open Go Go.RowKit Go.Shelf
theorem info_parts {P : Program} {t : TypeId} {z : Value} {sz by_ : Nat} (h : (P.info? t).map (fun i => (i.zero, i.size, i.bytes)) = some (some z, sz, by_)) :
    ∃ i, P.info? t = some i ∧ i.zero = some z ∧ i.size = sz ∧ i.bytes = by_ := by
  cases hi : P.info? t with
  | none => rw [hi] at h; cases h
  | some i =>
    rw [hi] at h
    simp at h
    exact ⟨i, rfl, h.1, h.2.1, h.2.2⟩
theorem info9 : (Tryz.prog.info? 9).map (fun i => (i.zero, i.size, i.bytes)) = some (some (.string ⟨#[]⟩), 1, 16) := by kernel_rfl
theorem info3 : (Tryz.prog.info? 3).map (fun i => (i.zero, i.size, i.bytes)) = some (some (.int .i64 0), 1, 8) := by kernel_rfl
theorem add_zero_addr (h j : Nat) : ((⟨h, 0, none⟩ : Addr).add j) = ⟨h, j, none⟩ := by unfold Addr.add; split <;> simp_all
theorem app_one {ops : Array Oper} {rest : List Oper} {o : Oper} {a : Act} {Q : Exit → Act → World → Prop} {w : World} (s x : Operand) (t e : TypeId) (z : Value) (by_ : Nat)
    (hinfo : (Tryz.prog.info? e).map (fun i => (i.zero, i.size, i.bytes)) = some (some z, 1, by_)) (ht : Tryz.prog.underlying t = some (.slice e)) (hzs : z.cells.size = 1) (hby : by_ ≤ 16)
    (hgd : o.guard = none) (ho : o.op = .call { callee := .builtin .append, args := #[s, x], argTypes := #[t, t] }) (base : Nat) (v : Value) (xs : List Value) (hs : a.eval s = v) (hown : w.ownsRow base e 1 v xs.length xs)
    (h : Nat) (u : Value) (hx : a.eval x = .slice (some ⟨h, 0, none⟩) 1 1) (hc : w.cell? ⟨h, 0, none⟩ = some u) (hu : u.oneCell' = true) (hl : xs.length ≤ 1000000000) (hbase : base ≤ w.heap.size)
    (K : ∀ g cap w', w'.ownsRow base e 1 (.slice (some ⟨g, 0, none⟩) (xs.length + 1) cap) (xs.length + 1) (xs ++ [u]) → w.grownBy w' v.ownBlock → (∀ B w0, Below B w0 w → B ≤ base → Below B w0 w') →
     wpList Tryz.prog ops Q rest (a.put o.dst (.slice (some ⟨g, 0, none⟩) (xs.length + 1) cap)) w') : wpList Tryz.prog ops Q (o :: rest) a w := by
  obtain ⟨i0, hi, hz0, hz1, hz2⟩ := info_parts hinfo
  refine wpList_append_lies w hgd s x t ho base e i0 z 1 by_ ht hi hz0 hz1 hz2 hzs (by decide) v xs.length xs hs hown ⟨h, 0, none⟩ 1 1 [u] hx rfl ?_ ?_ (by decide) (by unfold maxLen; omega) ?_ hbase w.heap.size rfl ?_
  ·intro j u' hj
   match j with
   | 0 => simp at hj; subst hj; rw [add_zero_addr]; exact hc
   | j + 1 => simp at hj
  ·intro u' hu'; simp at hu'; subst hu'; exact hu
  ·refine Nat.le_trans (Nat.mul_le_mul (show xs.length + 1 ≤ 1000000001 by omega) hby) (by decide)
  ·intro g cap w' hown' hgrow _ _
   refine K g cap w' hown' hgrow (fun B w0 hB hle => hB.grown hgrow (Nat.le_trans hle hbase) (fun j hj => ?_))
   have := (hown.lt j hj).1
   omega
theorem Row1.cells {w : World} {base : Nat} {e : TypeId} {g cap n : Nat} {xs : List Value} (h : w.ownsRow base e 1 (.slice (some ⟨g, 0, none⟩) n cap) n xs) (j : Nat) (hj : j < n) : w.cell? ⟨g, j, none⟩ = xs[j]? :=
 h.cellAt j (by omega)
def namedFrom : List ByteArray → List ByteArray → Bool
 | _, [] => true
 | seen, x :: l => nameB (bs x) && (!Lib.containsS seen x && namedFrom (seen ++ [x]) l)
theorem namedFrom_cons (seen : List ByteArray) (x : ByteArray) (l : List ByteArray) : namedFrom seen (x :: l) = (nameB (bs x) && (!Lib.containsS seen x && namedFrom (seen ++ [x]) l)) := rfl
theorem strs_get (l : List ByteArray) (j : Nat) (h : j < l.length) : (l.map Value.string)[j]? = some (.string (l.getD j ByteArray.empty)) := by
 rw [List.getElem?_map, List.getElem?_eq_getElem h]; simp [List.getD, h]
def namedB (l : List ByteArray) : Bool := decide (l.length ≤ 8) && namedFrom [] l
theorem clo274 {x : ByteArray} {n : Int} (w : World) : Calls Tryz.prog 274 #[.agg #[.string x, .int .i64 n]] w fun e w' => e = .returned (.string x) ∧ w' = w.alloc (.cells #[.string x, .int .i64 n] 93) := by
 go_enter Tryz.func274, Tryz.ntmps274
 go_wp2
 go_ret
 exact ⟨rfl, rfl⟩
set_option maxRecDepth 100000 in
set_option maxHeartbeats 4000000 in
theorem namedP_any (v : Value) (ps : List PartD) (W0 : World) (hP : SliceOf 2 (PartAt W0) v ps) (hz : ∀ p ∈ ps, p.name.size ≤ maxLen) (W : World) (hB0 : Below W0.heap.size W0 W) :
    Calls Tryz.prog 273 #[v, .func (.func 274) #[] #[]] W fun e w' => e = .returned (.bool (namedB (ps.map (·.name)))) ∧ Below W.heap.size W w' := by
  obtain ⟨o, cap, rfl⟩ := hP.form
  obtain ⟨_, hcm, hlc, hat⟩ := hP.at
  by_cases h8 : ps.length ≤ 8
  ·have HN := Lib.hid (show namedB (ps.map (·.name)) = namedFrom [] (ps.map (·.name)) by unfold namedB; simp [h8])
   have hlm : ps.length ≤ 9223372036854775807 := by omega
   clear hP hcm hlc
   go_enter Tryz.func273, Tryz.ntmps273
   go_wp2
   go_loopw [5, 14] (fun vn i wr => ∃ k : Nat, k ≤ ps.length ∧ i = .int .i64 k ∧ wr.ownsRow W.heap.size 9 1 vn k ((ps.take k).map fun p => .string p.name) ∧ Below W.heap.size W wr ∧
    Hid (namedFrom [] (ps.map (·.name)) = namedFrom ((ps.take k).map (·.name)) ((ps.drop k).map (·.name)))) (fun _ i _ => ps.length - (intOf i).toNat)
   case atStart => exact ⟨0, Nat.zero_le _, rfl, World.ownsRow_nil _ _ _ _, Below.refl _ _, Lib.hid rfl⟩
   case round =>
    obtain ⟨k, hk, rfl, hown, hbw, HF⟩ := hrel
    by_cases hlt : k < ps.length
    ·have hpk : ps[k]? = some ps[k] := List.getElem?_eq_getElem hlt
     obtain ⟨b, off, rfl, hcell⟩ := hat k ps[k] hpk
     have hbel : Below W0.heap.size W0 wr := hB0.trans (hbw.mono hB0.size)
     have hhold := Holds.below hbel
     have HP := Lib.hid (show (ps.drop k).map (·.name) = ps[k].name :: (ps.drop (k + 1)).map (·.name) by rw [List.drop_eq_getElem_cons hlt]; rfl)
     have HT := Lib.hid (List.take_succ_eq_append_getElem hlt)
     have hsz := hz ps[k] (List.getElem_mem hlt)
     have hlt' : (k : Int) < ps.length := by omega
     have hbs := hbw.size
     skip
     have d0 : wr.cell? ⟨b, off + k * 2, none⟩ = some (.string ps[k].name) := hhold _ _ hcell.1
     have d1 : wr.cell? ⟨b, off + k * 2 + 1, none⟩ = some (.int .i64 ps[k].type) := hhold _ _ hcell.2
     have hnm := isName_any ps[k].name hsz
     clear hat hcell hbel hpk hhold hz hsz
     have BL := (hbw.alloc hbs (.cells #[.string ps[k].name, .int .i64 ps[k].type] 93)).alloc (Nat.le_trans hbs (by simp)) (.cells #[.string ps[k].name, .int .i64 ps[k].type] 93)
     have RO := (hown.alloc (.cells #[.string ps[k].name, .int .i64 ps[k].type] 93)).alloc (.cells #[.string ps[k].name, .int .i64 ps[k].type] 93)
     have hlen : ((ps.take k).map fun p => (Value.string p.name)).length = k := by simp; omega
     have hlen2 : ((ps.take k).map (·.name)).length = k := by simp; omega
     have hmap : ((ps.take k).map fun p => (Value.string p.name)) = ((ps.take k).map (·.name)).map Value.string := by rw [List.map_map]; rfl
     cases hnb : nameB (bs ps[k].name) with
     | false =>
       rw [hnb] at hnm
       have HM := hide hnm
       have HX := Lib.hid (show namedFrom [] (ps.map (·.name)) = false by rw [HF.out, HP.out]; rw [namedFrom_cons, hnb]; rfl)
       clear hnm hnb hown HF HP HT RO hmap hlen hlen2
       go_wp2_with (first | (go_at_call 274; refine (clo274 _).mono ?_; rintro e w4 ⟨rfl, rfl⟩) | (go_at_call 19; refine (unhide HM _).mono ?_; rintro e w4 ⟨rfl, rfl⟩))
       go_ret
       exact ⟨ret_bool (by rw [HN.out, HX.out]), BL⟩
     | true =>
       rw [hnb] at hnm
       have HM := hide hnm
       have HX := Lib.hid (show namedFrom [] (ps.map (·.name)) = (!Lib.containsS ((ps.take k).map (·.name)) ps[k].name && namedFrom ((ps.take k).map (·.name) ++ [ps[k].name]) ((ps.drop (k + 1)).map (·.name))) by
        rw [HF.out, HP.out]; rw [namedFrom_cons, hnb]; rfl)
       have HC : Hide (∀ w', w' = ((wr.alloc (.cells #[.string ps[k].name, .int .i64 ps[k].type] 93)).alloc (.cells #[.string ps[k].name, .int .i64 ps[k].type] 93)) → Calls Tryz.prog 281 #[u5, .string ps[k].name] w' fun e w2 => e = .returned (.bool (Lib.containsS ((ps.take k).map (·.name)) ps[k].name)) ∧ w2 = w') := by
        rintro w' rfl
        rcases hown.2 with ⟨rfl, hk0⟩ | ⟨g, cap2, cur, rfl, hg⟩
        ·subst hk0
         exact Tryz.slices_Contains_string_empty none 0 _ _
        ·have := Tryz.slices_Contains_string g 0 k cap2 ((ps.take k).map (·.name)) ps[k].name ((wr.alloc (.cells #[.string ps[k].name, .int .i64 ps[k].type] 93)).alloc (.cells #[.string ps[k].name, .int .i64 ps[k].type] 93)) (by omega) (by omega) (fun j hj => by
           rw [Nat.zero_add, Row1.cells RO j (by omega), hmap]; exact strs_get _ _ hj)
         rwa [List.take_of_length_le (by omega)] at this
       clear hnm hnb HF HP hmap
       generalize hcb : Lib.containsS ((ps.take k).map (·.name)) ps[k].name = cb at HX HC
       clear hcb
       cases cb with
       | true =>
         clear hown RO hlen hlen2 HT
         go_wp2_with (first | (go_at_call 274; refine (clo274 _).mono ?_; rintro e w4 ⟨rfl, rfl⟩) | (go_at_call 19; refine (unhide HM _).mono ?_; rintro e w4 ⟨rfl, rfl⟩) | (go_at_call 281; refine (unhide HC _ rfl).mono ?_; rintro e w4 ⟨rfl, rfl⟩))
         go_ret
         exact ⟨ret_bool (by rw [HN.out, HX.out]; rfl), BL⟩
       | false =>
         have RO2 := RO.alloc (.cells #[.string ps[k].name] 9)
         have BL2 := BL.alloc BL.size (.cells #[.string ps[k].name] 9)
         have HL := Lib.hid hlen
         clear hown RO BL hlen2 hlen
         go_wp2_with (first | (go_at_call 274; refine (clo274 _).mono ?_; rintro e w4 ⟨rfl, rfl⟩) | (go_at_call 19; refine (unhide HM _).mono ?_; rintro e w4 ⟨rfl, rfl⟩) | (go_at_call 281; refine (unhide HC _ rfl).mono ?_; rintro e w4 ⟨rfl, rfl⟩) | (at_builtin; refine app_one _ _ 70 9 (.string ⟨#[]⟩) 16 info9 Tryz.underlying70 rfl (by decide) rfl rfl W.heap.size _ ((ps.take k).map fun p => .string p.name) rfl (by rw [HL.out]; exact RO2) _ (.string ps[k].name) rfl ?c1 rfl (by rw [HL.out]; omega) BL2.size ?_))
         case c1 =>
          have hb := (Blk.new ((wr.alloc (.cells #[.string ps[k].name, .int .i64 ps[k].type] 93)).alloc (.cells #[.string ps[k].name, .int .i64 ps[k].type] 93)) [.string ps[k].name] 9).cell 0
          rw [World.size_alloc, World.size_alloc] at hb
          exact hb
         intro g cap2 w5 hown' _ hbl
         have BL3 := hbl _ _ BL2 (Nat.le_refl _)
         clear BL2 RO2 hbl
         go_wp2
         go_roundw
         case rel => exact ⟨k + 1, by omega, by go_num, by rw [HT.out, List.map_append, List.map_take]; exact hown', BL3, Lib.hid (by rw [HX.out, HT.out, List.map_append]; rfl)⟩
         case measure => simp [intOf]; omega
    ·obtain rfl : k = ps.length := by omega
     have HX := Lib.hid (show namedFrom [] (ps.map (·.name)) = true by rw [HF.out, List.drop_length]; rfl)
     go_wp2
     go_ret
     exact ⟨ret_bool (by rw [HN.out, HX.out]), hbw⟩
  ·have HN := Lib.hid (show namedB (ps.map (·.name)) = false by unfold namedB; simp [h8])
   have h8' : (8 : Int) < ps.length := by omega
   clear hP hat
   go_enter Tryz.func273, Tryz.ntmps273
   go_wp2
   go_ret
   exact ⟨ret_bool (by rw [HN.out]), Below.refl _ _⟩
end Go.Proofs.YteaokkaidcbdlaaGreatDoor

