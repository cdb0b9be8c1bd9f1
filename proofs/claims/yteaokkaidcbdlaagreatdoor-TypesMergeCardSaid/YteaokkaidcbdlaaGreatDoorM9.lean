/- Part 9 of 53: the texts Ag, Am, one behind the other. -/
import Derived.Test.YteaokkaidcbdlaaGreatDoorM7
import Derived.Test.YteaokkaidcbdlaaGreatDoorM1
namespace Go.Proofs.YteaokkaidcbdlaaGreatDoor
open Go Go.RowKit Go.Shelf
def eqF {α : Type} (f : α → α → Bool) (l m : List α) : Bool := decide (l.length = m.length) && (l.zip m).all fun x => f x.1 x.2
def sameS (a b : ByteArray) : Bool := a.toList == b.toList
def fitB (i j : Int) : Bool := (i == -1) == (j == -1)
theorem fit_any (i j : Int) (w : World) : Calls Tryz.prog 158 #[.int .i64 i, .int .i64 j] w fun e w' => e = .returned (.bool (fitB i j)) ∧ w' = w := by
 go_enter Tryz.func158, Tryz.ntmps158
 go_wp2
 go_ret
 exact ⟨rfl, rfl⟩
def fitV : Value := .func (.func 158) #[] #[]
theorem eqF_no {α : Type} {f : α → α → Bool} {l m : List α} (k : Nat) (h : k < l.length) (h2 : k < m.length) (hf : f l[k] m[k] = false) : eqF f l m = false := by
 unfold eqF
 rw [Bool.and_eq_false_iff]
 right
 rw [List.all_eq_false]
 exact ⟨(l[k], m[k]), by rw [List.mem_iff_getElem]; exact ⟨k, by simp; omega, by simp⟩, by simp [hf]⟩
theorem eqF_len {α : Type} {f : α → α → Bool} {l m : List α} (h : l.length ≠ m.length) : eqF f l m = false := by unfold eqF; simp [h]
theorem eqF_take {α : Type} {f : α → α → Bool} {l m : List α} (k : Nat) (h : k < l.length) (h2 : k < m.length) : ((l.zip m).take (k + 1)).all (fun x => f x.1 x.2) = (((l.zip m).take k).all (fun x => f x.1 x.2) && f l[k] m[k]) := by
 have hz : k < (l.zip m).length := by simp; omega
 rw [all_take _ _ _ hz, List.getElem_zip]
theorem eqF_yes {α : Type} {f : α → α → Bool} {l m : List α} (h : l.length = m.length) (ha : ((l.zip m).take l.length).all (fun x => f x.1 x.2) = true) : eqF f l m = true := by
 unfold eqF
 rw [List.take_of_length_le (by simp; omega)] at ha
 simp only [h, decide_true, Bool.true_and]
 exact ha
theorem eqInts_any (v u : Value) (l m : List Int) (W : World) (hl : SliceOf 1 (IntAt W) v l) (hm : SliceOf 1 (IntAt W) u m) :
    Calls Tryz.prog 108 #[v, u, .func (.func 158) #[] #[]] W fun e w' => e = .returned (.bool (eqF fitB l m)) ∧ w' = W := by
  obtain ⟨o, cap, rfl⟩ := hl.form
  obtain ⟨p, cup, rfl⟩ := hm.form
  obtain ⟨_, hcm, hlc, hat⟩ := hl.at
  obtain ⟨_, hcm2, hlc2, hat2⟩ := hm.at
  have hl63 : l.length ≤ 9223372036854775807 := by unfold maxLen at hcm; omega
  clear hl hm hcm hcm2 hlc hlc2
  by_cases hlen : l.length = m.length
  ·have hne : ((l.length : Int) != m.length) = false := by simp; omega
   go_enter Tryz.func108, Tryz.ntmps108
   go_wp2
   go_loopw [17] (fun i wr => ∃ k : Nat, k ≤ l.length ∧ i = .int .i64 k ∧ wr = W ∧ Hid (((l.zip m).take k).all (fun x => fitB x.1 x.2) = true)) (fun i _ => l.length - (intOf i).toNat)
   case atStart => exact ⟨0, Nat.zero_le _, rfl, rfl, Lib.hid rfl⟩
   case round =>
    obtain ⟨k, hk, rfl, rfl, HT⟩ := hrel
    by_cases hlt : k < l.length
    ·have hlt2 : k < m.length := by omega
     have hlt' : (k : Int) < l.length := by omega
     have hlt2' : (k : Int) < m.length := by omega
     obtain ⟨b, off, rfl, e0⟩ := hat k l[k] (List.getElem?_eq_getElem hlt)
     obtain ⟨b2, off2, rfl, e1⟩ := hat2 k m[k] (List.getElem?_eq_getElem hlt2)
     have r0 : wr.cell? ⟨b, off + k, none⟩ = some (.int .i64 l[k]) := by simpa [IntAt] using e0
     have r1 : wr.cell? ⟨b2, off2 + k, none⟩ = some (.int .i64 m[k]) := by simpa [IntAt] using e1
     have hF := fit_any l[k] m[k]
     clear e0 e1 hat hat2 hlen hne
     cases hx : fitB l[k] m[k] with
     | false =>
       rw [hx] at hF
       have HF := hide hF
       have HX := Lib.hid (eqF_no k hlt hlt2 hx)
       clear hF hx
       go_wp2_with (first | (go_at_call 158; refine (unhide HF _).mono ?_; rintro e w4 ⟨rfl, rfl⟩))
       go_ret
       exact ⟨ret_bool HX.out.symm, rfl⟩
     | true =>
       rw [hx] at hF
       have HF := hide hF
       have HX := Lib.hid (show ((l.zip m).take (k + 1)).all (fun x => fitB x.1 x.2) = true by rw [eqF_take k hlt hlt2, HT.out, hx]; rfl)
       clear hF hx
       go_wp2_with (first | (go_at_call 158; refine (unhide HF _).mono ?_; rintro e w4 ⟨rfl, rfl⟩))
       go_roundw
       case rel => exact ⟨k + 1, by omega, by go_num, trivial, HX⟩
       case measure => simp [intOf]; omega
    ·obtain rfl : k = l.length := by omega
     have HX := Lib.hid (eqF_yes hlen HT.out)
     go_wp2
     go_ret
     exact ⟨ret_bool HX.out.symm, rfl⟩
  ·have hne : ((l.length : Int) != m.length) = true := by simp; omega
   have HX := Lib.hid (eqF_len (f := fitB) hlen)
   clear hlen hat hat2
   go_enter Tryz.func108, Tryz.ntmps108
   go_wp2
   go_ret
   exact ⟨ret_bool HX.out.symm, rfl⟩
theorem eqS_iff (a b : ByteArray) : sameS a b = decide (a = b) := by
 unfold sameS
 rw [toList_bs, toList_bs, Bool.eq_iff_iff, beq_iff_eq, decide_eq_true_iff]
 exact ⟨bs_ext, fun h => by rw [h]⟩
theorem eqF_eq (l m : List ByteArray) : eqF sameS l m = decide (l = m) := by
 by_cases h : l = m
 ·subst h
  simp only [decide_true]
  refine eqF_yes rfl ?_
  rw [List.all_eq_true]
  intro x hx
  have hx' := List.mem_of_mem_take hx
  have : x.1 = x.2 := by
   obtain ⟨i, hi, rfl⟩ := List.mem_iff_getElem.1 hx'
   simp
  rw [eqS_iff]; simp [this]
 ·rw [decide_eq_false h]
  by_cases hl : l.length = m.length
  ·have : ∃ k, ∃ (h1 : k < l.length) (h2 : k < m.length), l[k] ≠ m[k] :=
     Classical.byContradiction fun hn => h (List.ext_getElem hl fun i h1 h2 => Classical.byContradiction fun hc => hn ⟨i, h1, h2, hc⟩)
   obtain ⟨k, h1, h2, hk⟩ := this
   exact eqF_no k h1 h2 (by rw [eqS_iff]; exact decide_eq_false hk)
  ·exact eqF_len hl
theorem eqStrs_any (v u : Value) (l m : List ByteArray) (W : World) (hl : SliceOf 1 (StrAt W) v l) (hm : SliceOf 1 (StrAt W) u m) :
    Calls Tryz.prog 164 #[v, u] W fun e w' => e = .returned (.bool (eqF sameS l m)) ∧ ∃ n, w' = W.drewN n := by
  obtain ⟨o, cap, rfl⟩ := hl.form
  obtain ⟨p, cup, rfl⟩ := hm.form
  obtain ⟨_, hcm, hlc, hat⟩ := hl.at
  obtain ⟨_, hcm2, hlc2, hat2⟩ := hm.at
  unfold maxLen at hcm hcm2
  rw [eqF_eq]
  by_cases hlen : l.length = m.length
  ·by_cases h0 : l.length = 0
   ·have hl0 := List.length_eq_zero_iff.1 h0
    have hm0 := List.length_eq_zero_iff.1 (hlen ▸ h0)
    rw [h0]
    refine (Tryz.slices_Equal_string_empty o p cap m.length cup W (by omega)).mono ?_
    rintro e w' ⟨rfl, rfl⟩
    exact ⟨by rw [hl0, hm0]; rfl, 0, rfl⟩
   ·obtain ⟨b, off, rfl, _⟩ := hat 0 l[0] (List.getElem?_eq_getElem (by omega))
    obtain ⟨b2, off2, rfl, _⟩ := hat2 0 m[0] (List.getElem?_eq_getElem (by omega))
    have := Tryz.slices_Equal_string b off l.length cap b2 off2 m.length cup l m W (Nat.le_refl _) (Nat.le_refl _) (by omega) (by omega) (fun j hj => by
     obtain ⟨b', off', hq, hc⟩ := hat j l[j] (List.getElem?_eq_getElem hj)
     cases hq
     have hc' : W.cell? ⟨b, off + j, none⟩ = some (.string l[j]) := by simpa [StrAt] using hc
     rw [hc', List.getD, List.getElem?_eq_getElem hj]; rfl) (fun j hj => by
     obtain ⟨b', off', hq, hc⟩ := hat2 j m[j] (List.getElem?_eq_getElem hj)
     cases hq
     have hc' : W.cell? ⟨b2, off2 + j, none⟩ = some (.string m[j]) := by simpa [StrAt] using hc
     rw [hc', List.getD, List.getElem?_eq_getElem hj]; rfl)
    rw [List.take_length, List.take_length] at this
    exact this
  ·refine (Tryz.slices_Equal_string_lens o p l.length cap m.length cup W hlen).mono ?_
   rintro e w' ⟨rfl, rfl⟩
   exact ⟨ret_bool (by symm; exact decide_eq_false (fun h => hlen (by rw [h]))), 0, rfl⟩
set_option maxRecDepth 100000 in
set_option maxHeartbeats 4000000 in
theorem partFit_any (x y : ByteArray) (i j : Int) (fb : Nat) (W : World) (hf : W.cell? ⟨fb, 0, none⟩ = some fitV) :
    Calls Tryz.prog 162 #[.agg #[.string x, .int .i64 i], .agg #[.string y, .int .i64 j], .pointer (some ⟨fb, 0, none⟩)] W fun e w' => e = .returned (.bool (sameS x y && fitB i j)) ∧ Below W.heap.size W w' := by
  have hf2 : ∀ o1 o2, ((W.alloc o1).alloc o2).cell? ⟨fb, 0, none⟩ = some (.func (.func 158) #[] #[]) := fun o1 o2 => by
   have hl : fb < W.heap.size := cell_lt hf
   rw [World.cell?_alloc_lt _ _ _ (by simp only [World.size_alloc]; omega), World.cell?_alloc_lt _ _ _ hl]; exact hf
  have hs : (x.toList == y.toList) = sameS x y := rfl
  clear hf
  generalize sameS x y = s at hs ⊢
  cases s
  all_goals
   go_enter Tryz.func162, Tryz.ntmps162
   go_wp2_with (first | (go_at_call 158; refine (fit_any _ _ _).mono ?_; rintro e w4 ⟨rfl, rfl⟩))
   go_ret
   exact ⟨rfl, ((Below.refl _ _).alloc (Nat.le_refl _) _).alloc (by simp) _⟩
end Go.Proofs.YteaokkaidcbdlaaGreatDoor

namespace Go.Proofs.YteaokkaidcbdlaaGreatDoor
open Go Go.RowKit Go.Shelf
def partFitB (p q : PartD) : Bool := sameS p.name q.name && fitB p.type q.type
def methFitB (m n : MethD) : Bool := sameS m.name n.name && (sameS m.proc n.proc && (eqF fitB m.args n.args && (fitB m.result n.result && eqF sameS m.raises n.raises)))
def overFitB (p q : OverD) : Bool := sameS p.name q.name && sameS p.proc q.proc
theorem MethV.below {W W' : World} {va vr : Value} {m : MethD} (h : MethV W va vr m) (hb : Below W.heap.size W W') : MethV W' va vr m := h.go (.below hb)
set_option maxRecDepth 100000 in
set_option maxHeartbeats 8000000 in
theorem methFit_any (m n : MethD) (va vr ua ur : Value) (fb : Nat) (W : World) (hf : W.cell? ⟨fb, 0, none⟩ = some fitV) (hm : MethV W va vr m) (hn : MethV W ua ur n) :
    Calls Tryz.prog 163 #[.agg #[.string m.name, va, .int .i64 m.result, vr, .string m.proc], .agg #[.string n.name, ua, .int .i64 n.result, ur, .string n.proc], .pointer (some ⟨fb, 0, none⟩)] W fun e w' => e = .returned (.bool (methFitB m n)) ∧ Below W.heap.size W w' := by
  have hf2 : ∀ o1 o2, ((W.alloc o1).alloc o2).cell? ⟨fb, 0, none⟩ = some (.func (.func 158) #[] #[]) := fun o1 o2 => by
   have hl : fb < W.heap.size := cell_lt hf
   rw [World.cell?_alloc_lt _ _ _ (by simp only [World.size_alloc]; omega), World.cell?_alloc_lt _ _ _ hl]; exact hf
  have hb2 : ∀ o1 o2, Below W.heap.size W ((W.alloc o1).alloc o2) := fun o1 o2 => ((Below.refl _ _).alloc (Nat.le_refl _) _).alloc (by simp) _
  have h1 := hide (fun o1 o2 => eqInts_any va ua m.args n.args ((W.alloc o1).alloc o2) (hm.below (hb2 o1 o2)).args (hn.below (hb2 o1 o2)).args)
  have h2 := hide (fun o1 o2 => eqStrs_any vr ur m.raises n.raises ((W.alloc o1).alloc o2) (hm.below (hb2 o1 o2)).raises (hn.below (hb2 o1 o2)).raises)
  obtain ⟨oa, ca, rfl⟩ := hm.args.form
  obtain ⟨orr, cr, rfl⟩ := hm.raises.form
  obtain ⟨pa, da, rfl⟩ := hn.args.form
  obtain ⟨pr, dr, rfl⟩ := hn.raises.form
  have s1 : (m.name.toList == n.name.toList) = sameS m.name n.name := rfl
  have s2 : (m.proc.toList == n.proc.toList) = sameS m.proc n.proc := rfl
  have s3 := hide (fun w => fit_any m.result n.result w)
  have HB := Lib.hid (show methFitB m n = (sameS m.name n.name && (sameS m.proc n.proc && (eqF fitB m.args n.args && (fitB m.result n.result && eqF sameS m.raises n.raises)))) from rfl)
  clear hm hn hf
  generalize sameS m.name n.name = a at s1 HB
  generalize sameS m.proc n.proc = b at s2 HB
  generalize eqF fitB m.args n.args = c at h1 HB
  generalize fitB m.result n.result = d at s3 HB
  generalize eqF sameS m.raises n.raises = x at h2 HB
  rcases (show a = false ∨ (a = true ∧ b = false) ∨ (a = true ∧ b = true ∧ c = false) ∨ (a = true ∧ b = true ∧ c = true ∧ d = false) ∨ (a = true ∧ b = true ∧ c = true ∧ d = true) by cases a <;> cases b <;> cases c <;> cases d <;> simp) with rfl | ⟨rfl, rfl⟩ | ⟨rfl, rfl, rfl⟩ | ⟨rfl, rfl, rfl, rfl⟩ | ⟨rfl, rfl, rfl, rfl⟩
  all_goals
   go_enter Tryz.func163, Tryz.ntmps163
   go_wp2_with (first | (go_at_call 108; refine (unhide h1 _ _).mono ?_; rintro e w4 ⟨rfl, rfl⟩) | (go_at_call 158; refine (unhide s3 _).mono ?_; rintro e w4 ⟨rfl, rfl⟩) | (go_at_call 164; refine (unhide h2 _ _).mono ?_; rintro e w4 ⟨rfl, nq, rfl⟩))
   go_ret
   first
    | exact ⟨ret_bool HB.out.symm, hb2 _ _⟩
    | exact ⟨ret_bool HB.out.symm, below_drewN' (hb2 _ _) nq⟩
end Go.Proofs.YteaokkaidcbdlaaGreatDoor

