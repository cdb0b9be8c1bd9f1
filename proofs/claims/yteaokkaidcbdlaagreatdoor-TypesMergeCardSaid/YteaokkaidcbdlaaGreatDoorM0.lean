/- Part 0 of 53: the texts Sp, Ba, Ck, Qt, Cm, one behind the other. -/
import Derived.Test.YteaokkaidcbdlaaGreatDoorProg
import Derived.Tactics
import Derived.Tactics2
import Derived.WalkKit
import Derived.LoopTactic
import Derived.Outline
import Derived.Lib.Hide
import Derived.Handy
import Derived.KernelRfl
import Derived.Deep.LoopGhost
import Derived.CallsIn
import Derived.Deep.QuietTactic
import Derived.BigQuiet
import Derived.Deep.Draws
import Derived.WalkSpells
import Derived.Lib.Walk
import Derived.Lib.Strings
import Derived.Maps.OwnOps
import Derived.Maps.OwnSet
import Derived.Deep.RegionWith
import Derived.StillTailTactics
import Derived.WalkMore
import Derived.RangeFuncNested
import Derived.RangeFuncBound
import Derived.RangeFuncCalls
import Derived.RangeFuncLeaves
import Derived.RangeFuncBox
import Derived.Shelf.Abstract
import Derived.OwnWalkIn
import Derived.TacticsInMore
import Derived.LoopNIn
import Derived.LoopIn
import Derived.RecoverIn
import Derived.Maps.AppendAt
import Derived.RegionTactic
import Derived.ChangeAlike
import Derived.OwnWalk
import Derived.Deep.AppendLies
import Derived.Deep.DeepCutAuto
import Derived.Deep.RegionLaw
import Derived.Deep.RegionHeld3
namespace Go.Proofs.YteaokkaidcbdlaaGreatDoor
open Go Go.RowKit Go.Shelf
structure PartD where
 name : ByteArray
 type : Int
structure MethD where
 name : ByteArray
 args : List Int
 result : Int
 raises : List ByteArray
 proc : ByteArray
structure OverD where
 name : ByteArray
 proc : ByteArray
structure TyD where
 kind : Nat
 low : Int
 high : Int
 branded : Bool
 brand : ByteArray
 opq : ByteArray
 super : Int
 parts : List PartD
 meths : List MethD
 overs : List OverD
instance : Inhabited PartD := ⟨⟨⟨#[]⟩, 0⟩⟩
instance : Inhabited MethD := ⟨⟨⟨#[]⟩, [], 0, [], ⟨#[]⟩⟩⟩
instance : Inhabited OverD := ⟨⟨⟨#[]⟩, ⟨#[]⟩⟩⟩
instance : Inhabited TyD := ⟨⟨0, 0, 0, false, ⟨#[]⟩, ⟨#[]⟩, 0, [], [], []⟩⟩
def SliceOf {α : Type} (sz : Nat) (At : Nat → Nat → α → Prop) (v : Value) (l : List α) : Prop :=
 ∃ (o : Option Addr) (cap : Nat), v = .slice o l.length cap ∧ l.length ≤ cap ∧ cap ≤ maxLen ∧ ∀ i x, l[i]? = some x → ∃ b off, o = some ⟨b, off, none⟩ ∧ At b (off + i * sz) x
def IntAt (W : World) (b k : Nat) (x : Int) : Prop := W.cell? ⟨b, k, none⟩ = some (.int .i64 x)
def StrAt (W : World) (b k : Nat) (x : ByteArray) : Prop := W.cell? ⟨b, k, none⟩ = some (.string x)
def PartAt (W : World) (b k : Nat) (p : PartD) : Prop := W.cell? ⟨b, k, none⟩ = some (.string p.name) ∧ W.cell? ⟨b, k + 1, none⟩ = some (.int .i64 p.type)
def OverAt (W : World) (b k : Nat) (p : OverD) : Prop := W.cell? ⟨b, k, none⟩ = some (.string p.name) ∧ W.cell? ⟨b, k + 1, none⟩ = some (.string p.proc)
structure MethV (W : World) (va vr : Value) (m : MethD) : Prop where
 args : SliceOf 1 (IntAt W) va m.args
 raises : SliceOf 1 (StrAt W) vr m.raises
def MethAt (W : World) (b k : Nat) (m : MethD) : Prop :=
 ∃ va vr, MethV W va vr m ∧ W.cell? ⟨b, k, none⟩ = some (.string m.name) ∧ W.cell? ⟨b, k + 1, none⟩ = some va ∧ W.cell? ⟨b, k + 2, none⟩ = some (.int .i64 m.result) ∧
  W.cell? ⟨b, k + 3, none⟩ = some vr ∧ W.cell? ⟨b, k + 4, none⟩ = some (.string m.proc)
structure TyL (W : World) (vp vm vo : Value) (t : TyD) : Prop where
 parts : SliceOf 2 (PartAt W) vp t.parts
 meths : SliceOf 5 (MethAt W) vm t.meths
 overs : SliceOf 2 (OverAt W) vo t.overs
def TyAt (W : World) (b k : Nat) (t : TyD) : Prop :=
 ∃ vp vm vo, TyL W vp vm vo t ∧ W.cell? ⟨b, k, none⟩ = some (.int .u8 t.kind) ∧ W.cell? ⟨b, k + 1, none⟩ = some (.int .i64 t.low) ∧ W.cell? ⟨b, k + 2, none⟩ = some (.int .i64 t.high) ∧
  W.cell? ⟨b, k + 3, none⟩ = some (.bool t.branded) ∧ W.cell? ⟨b, k + 4, none⟩ = some (.string t.brand) ∧ W.cell? ⟨b, k + 5, none⟩ = some (.string t.opq) ∧ W.cell? ⟨b, k + 6, none⟩ = some (.int .i64 t.super) ∧
  W.cell? ⟨b, k + 7, none⟩ = some vp ∧ W.cell? ⟨b, k + 8, none⟩ = some vm ∧ W.cell? ⟨b, k + 9, none⟩ = some vo
abbrev GrAt (W : World) (v : Value) (G : List TyD) : Prop := SliceOf 10 (TyAt W) v G
theorem SliceOf.mono {α : Type} {sz : Nat} {At At' : Nat → Nat → α → Prop} {v : Value} {l : List α} (hA : ∀ b k x, x ∈ l → At b k x → At' b k x) (h : SliceOf sz At v l) : SliceOf sz At' v l := by
 obtain ⟨o, cap, rfl, h1, h2, h3⟩ := h
 refine ⟨o, cap, rfl, h1, h2, fun i x hx => ?_⟩
 obtain ⟨b, off, ho, ha⟩ := h3 i x hx
 exact ⟨b, off, ho, hA _ _ _ (List.mem_of_getElem? hx) ha⟩
def Holds (W W' : World) : Prop := ∀ a v, W.cell? a = some v → W'.cell? a = some v
theorem Holds.refl (W : World) : Holds W W := fun _ _ h => h
theorem Holds.trans {A B C : World} (h : Holds A B) (k : Holds B C) : Holds A C := fun a v hv => k a v (h a v hv)
theorem cell_lt {W : World} {a : Addr} {v : Value} (h : W.cell? a = some v) : a.block < W.heap.size := World.block_lt_of_cell? W a h
theorem Holds.below {W W' : World} (h : Below W.heap.size W W') : Holds W W' := fun a v hv => by
 rw [h.cell (p := a) (cell_lt hv)]; exact hv
theorem IntAt.go {W W' : World} (h : Holds W W') {b k : Nat} {x : Int} (hx : IntAt W b k x) : IntAt W' b k x := h _ _ hx
theorem StrAt.go {W W' : World} (h : Holds W W') {b k : Nat} {x : ByteArray} (hx : StrAt W b k x) : StrAt W' b k x := h _ _ hx
theorem PartAt.go {W W' : World} (h : Holds W W') {b k : Nat} {x : PartD} (hx : PartAt W b k x) : PartAt W' b k x := ⟨h _ _ hx.1, h _ _ hx.2⟩
theorem OverAt.go {W W' : World} (h : Holds W W') {b k : Nat} {x : OverD} (hx : OverAt W b k x) : OverAt W' b k x := ⟨h _ _ hx.1, h _ _ hx.2⟩
theorem MethV.go {W W' : World} (h : Holds W W') {va vr : Value} {m : MethD} (hx : MethV W va vr m) : MethV W' va vr m := ⟨hx.args.mono fun _ _ _ _ => IntAt.go h, hx.raises.mono fun _ _ _ _ => StrAt.go h⟩
theorem MethAt.go {W W' : World} (h : Holds W W') {b k : Nat} {x : MethD} (hx : MethAt W b k x) : MethAt W' b k x := by
 obtain ⟨va, vr, hv, h0, h1, h2, h3, h4⟩ := hx
 exact ⟨va, vr, hv.go h, h _ _ h0, h _ _ h1, h _ _ h2, h _ _ h3, h _ _ h4⟩
theorem TyL.go {W W' : World} (h : Holds W W') {vp vm vo : Value} {t : TyD} (hx : TyL W vp vm vo t) : TyL W' vp vm vo t :=
 ⟨hx.parts.mono fun _ _ _ _ => PartAt.go h, hx.meths.mono fun _ _ _ _ => MethAt.go h, hx.overs.mono fun _ _ _ _ => OverAt.go h⟩
theorem TyAt.go {W W' : World} (h : Holds W W') {b k : Nat} {x : TyD} (hx : TyAt W b k x) : TyAt W' b k x := by
 obtain ⟨vp, vm, vo, hl, h0, h1, h2, h3, h4, h5, h6, h7, h8, h9⟩ := hx
 exact ⟨vp, vm, vo, hl.go h, h _ _ h0, h _ _ h1, h _ _ h2, h _ _ h3, h _ _ h4, h _ _ h5, h _ _ h6, h _ _ h7, h _ _ h8, h _ _ h9⟩
theorem GrAt.go {W W' : World} (h : Holds W W') {v : Value} {G : List TyD} (hx : GrAt W v G) : GrAt W' v G := hx.mono fun _ _ _ _ => TyAt.go h
theorem GrAt.below {W W' : World} (h : Below W.heap.size W W') {v : Value} {G : List TyD} (hx : GrAt W v G) : GrAt W' v G := hx.go (.below h)
def Blk (w : World) (b : Nat) (cs : List Value) (t : TypeId) : Prop := w.heap[b]? = some (.cells cs.toArray t (0, 0))
theorem Blk.cell {w : World} {b : Nat} {cs : List Value} {t : TypeId} (h : Blk w b cs t) (i : Nat) : w.cell? ⟨b, i, none⟩ = cs[i]? := by
 unfold Blk at h; simp [World.cell?, h]
theorem Blk.frozen {w : World} {b : Nat} {cs : List Value} {t : TypeId} (h : Blk w b cs t) (i : Nat) : w.frozen? ⟨b, i, none⟩ = false := by
 unfold Blk at h; simp [World.frozen?, h]
theorem Blk.lt {w : World} {b : Nat} {cs : List Value} {t : TypeId} (h : Blk w b cs t) : b < w.heap.size := (Array.getElem?_eq_some_iff.1 h).1
theorem Blk.set {w : World} {b : Nat} {cs : List Value} {t : TypeId} (h : Blk w b cs t) (i : Nat) (v : Value) : Blk (w.setCell ⟨b, i, none⟩ v) b (cs.set i v) t := by
 have hlt := h.lt
 unfold Blk at *
 have h' : w.heap[b] = .cells cs.toArray t (0, 0) := by simpa [Array.getElem?_eq_getElem hlt] using h
 show (w.heap.modify b _)[b]? = _
 rw [Array.getElem?_eq_getElem (by simpa using hlt), Array.getElem_modify_self, h']
 simp
theorem Blk.drewN {w : World} {b : Nat} {cs : List Value} {t : TypeId} (h : Blk w b cs t) (n : Nat) : Blk (w.drewN n) b cs t := h
theorem Blk.below {w w' : World} {b B : Nat} {cs : List Value} {t : TypeId} (h : Blk w b cs t) (k : Below B w w') (hlt : b < B) : Blk w' b cs t := (k.block b hlt).trans h
theorem Blk.alloc {w : World} {b : Nat} {cs : List Value} {t : TypeId} (h : Blk w b cs t) (o : Obj) : Blk (w.alloc o) b cs t := (Below.heap_alloc _ _ _ h.lt).trans h
theorem Blk.new (w : World) (cs : List Value) (t : TypeId) : Blk (w.alloc (.cells cs.toArray t)) w.heap.size cs t := by
 unfold Blk; show (w.heap.push _)[w.heap.size]? = _; simp
theorem Blk.other {w : World} {b c : Nat} {cs : List Value} {t : TypeId} (h : Blk w b cs t) (i : Nat) (v : Value) (hne : b ≠ c) : Blk (w.setCell ⟨c, i, none⟩ v) b cs t := by
 unfold Blk at *
 show (w.heap.modify c _)[b]? = _
 rw [Array.getElem?_modify, if_neg (by omega)]; exact h
theorem quiet_left {P : Program} {f : FuncId} {args : Array Value} {w : World} {n : Nat} {v : Value}
    (h : Calls P f args (w.drewN n) fun e w' => e = .returned v ∧ w.drewN n = w') : Calls P f args (w.drewN n) fun e w'' => e = .returned v ∧ ∃ m, w'' = w.drewN m :=
  h.mono fun _ _ ⟨he, hm⟩ => ⟨he, n, hm.symm⟩
theorem below_drewN' {B : Nat} {w w' : World} (h : Below B w w') (n : Nat) : Below B w (w'.drewN n) := ⟨h.os, h.tape, h.output, h.size, h.block⟩
def Hide (p : Prop) : Prop := p
theorem hide {p : Prop} (h : p) : Hide p := h
theorem unhide {p : Prop} (h : Hide p) : p := h
theorem ret_bool {a b : Bool} (h : a = b) : Ending.returned (.bool a) = .returned (.bool b) := by rw [h]
theorem ret_int {k : IntKind} {a b : Int} (h : a = b) : Ending.returned (.int k a) = .returned (.int k b) := by rw [h]
end Go.Proofs.YteaokkaidcbdlaaGreatDoor

namespace Go.Proofs.YteaokkaidcbdlaaGreatDoor
open Go Go.RowKit Go.Shelf
def bs (s : ByteArray) : List UInt8 := s.data.toList
def allB (p : Int → Bool) (l : List UInt8) : Bool := l.all fun b => p b.toNat
def letB (c : Int) : Bool := decide (65 ≤ c ∧ c ≤ 90 ∨ 97 ≤ c ∧ c ≤ 122)
def digB (c : Int) : Bool := decide (48 ≤ c ∧ c ≤ 57)
def alnB (c : Int) : Bool := letB c || digB c
def brnB (c : Int) : Bool := decide (32 ≤ c ∧ c ≤ 126 ∧ c ≠ 34)
theorem isLetter_any (c : Int) (w : World) :
    Calls Tryz.prog 59 #[.int .u8 c] w fun e w' => e = .returned (.bool (letB c)) ∧ w = w' := by
  rcases (show c < 65 ∨ (65 ≤ c ∧ c ≤ 90) ∨ (90 < c ∧ c < 97) ∨ (97 ≤ c ∧ c ≤ 122) ∨ 122 < c by omega) with h | ⟨h, h'⟩ | ⟨h, h'⟩ | ⟨h, h'⟩ | h
  all_goals
   go_enter Tryz.func59, Tryz.ntmps59
   go_wp2
   go_ret
   exact ⟨ret_bool (by unfold letB; first | (symm; exact decide_eq_true (by omega)) | (symm; exact decide_eq_false (by omega)) | (rw [Bool.eq_iff_iff]; simp; omega)), rfl⟩
theorem refLetter_any (c : Int) (w : World) :
    Calls Tryz.prog 61 #[.int .u8 c] w fun e w' => e = .returned (.bool (letB c)) ∧ w = w' := by
  rcases (show c < 65 ∨ (65 ≤ c ∧ c ≤ 90) ∨ (90 < c ∧ c < 97) ∨ (97 ≤ c ∧ c ≤ 122) ∨ 122 < c by omega) with h | ⟨h, h'⟩ | ⟨h, h'⟩ | ⟨h, h'⟩ | h
  all_goals
   go_enter Tryz.func61, Tryz.ntmps61
   go_wp2
   go_ret
   exact ⟨ret_bool (by unfold letB; first | (symm; exact decide_eq_true (by omega)) | (symm; exact decide_eq_false (by omega)) | (rw [Bool.eq_iff_iff]; simp; omega)), rfl⟩
theorem isDigit_any (c : Int) (w : World) :
    Calls Tryz.prog 100 #[.int .u8 c] w fun e w' => e = .returned (.bool (digB c)) ∧ w = w' := by
  rcases (show c < 48 ∨ (48 ≤ c ∧ c ≤ 57) ∨ 57 < c by omega) with h | ⟨h, h'⟩ | h
  all_goals
   go_enter Tryz.func100, Tryz.ntmps100
   go_wp2
   go_ret
   exact ⟨ret_bool (by unfold digB; first | (symm; exact decide_eq_true (by omega)) | (symm; exact decide_eq_false (by omega)) | (rw [Bool.eq_iff_iff]; simp; omega)), rfl⟩
theorem refDigit_any (c : Int) (w : World) :
    Calls Tryz.prog 62 #[.int .u8 c] w fun e w' => e = .returned (.bool (digB c)) ∧ w = w' := by
  rcases (show c < 48 ∨ (48 ≤ c ∧ c ≤ 57) ∨ 57 < c by omega) with h | ⟨h, h'⟩ | h
  all_goals
   go_enter Tryz.func62, Tryz.ntmps62
   go_wp2
   go_ret
   exact ⟨ret_bool (by unfold digB; first | (symm; exact decide_eq_true (by omega)) | (symm; exact decide_eq_false (by omega)) | (rw [Bool.eq_iff_iff]; simp; omega)), rfl⟩
theorem bs_len (s : ByteArray) : (bs s).length = s.size := by simp [bs]
theorem bs_get (s : ByteArray) (k : Nat) (h : k < s.size) : (bs s)[k]? = some s[k] := by
 unfold bs; rw [List.getElem?_eq_getElem (by simpa using h)]; rfl
theorem bs_snoc (s : ByteArray) (k : Nat) (h : k < s.size) : (bs s).take (k + 1) = (bs s).take k ++ [s[k]] := by
 unfold bs; rw [List.take_succ_eq_append_getElem (by simpa using h)]; rfl
theorem bs_all (s : ByteArray) : (bs s).take s.size = bs s := List.take_of_length_le (by simp [bs])
theorem bs_ext {s t : ByteArray} (h : bs s = bs t) : s = t := by
 cases s; cases t; simp only [bs] at h; congr 1; exact Array.toList_inj.1 h
theorem bs_at (s : ByteArray) (k : Nat) (h : k < s.size) : (bs s).drop k = s[k] :: (bs s).drop (k + 1) := by
 rw [List.drop_eq_getElem_cons (by rw [bs_len]; exact h)]
 congr 1
theorem size_list' (s : ByteArray) : s.data.toList.length = s.size := by simp
theorem bs_take (s : ByteArray) (n : Nat) : bs (s.extract 0 n) = (bs s).take n := by unfold bs; rw [Lib.extract_data]; simp
theorem bs_drop (s : ByteArray) (n : Nat) : bs (s.extract n s.size) = (bs s).drop n := by unfold bs; rw [Lib.extract_data, List.take_of_length_le]; rw [List.length_drop, size_list']; exact Nat.le_refl _
theorem toList_bs (s : ByteArray) : s.toList = bs s := by unfold bs; exact Lib.toList_data s
theorem allB_no {p : Int → Bool} {s : ByteArray} {k : Nat} (h : k < s.size) (hp : p s[k].toNat = false) : allB p (bs s) = false := by
 unfold allB; rw [List.all_eq_false]; exact ⟨s[k], List.mem_of_getElem? (bs_get s k h), by simp [hp]⟩
theorem allB_snoc {p : Int → Bool} {l : List UInt8} {c : UInt8} (hp : p c.toNat = true) (h : allB p l = true) : allB p (l ++ [c]) = true := by
 unfold allB at *; rw [List.all_append, h]; simp [hp]
def spn (p : Int → Bool) : List UInt8 → Nat
 | [] => 0
 | c :: l => if p c.toNat then spn p l + 1 else 0
theorem spn_le (p : Int → Bool) (l : List UInt8) : spn p l ≤ l.length := by
 induction l with
 | nil => exact Nat.le_refl _
 | cons c l ih => unfold spn; split <;> simp <;> omega
theorem spn_at {p : Int → Bool} {s : ByteArray} {k : Nat} (h : k < s.size) (hp : p s[k].toNat = true) : spn p ((bs s).drop k) = spn p ((bs s).drop (k + 1)) + 1 := by
 rw [bs_at s k h]; show (if _ then _ else _) = _; rw [if_pos hp]
theorem spn_off {p : Int → Bool} {s : ByteArray} {k : Nat} (h : k < s.size) (hp : p s[k].toNat = false) : spn p ((bs s).drop k) = 0 := by
 rw [bs_at s k h]; show (if _ then _ else _) = _; rw [if_neg (by simp [hp])]
theorem allB_spn (p : Int → Bool) (l : List UInt8) : allB p l = decide (spn p l = l.length) := by
 induction l with
 | nil => rfl
 | cons c l ih =>
   have h := spn_le p l
   have e : spn p (c :: l) = if p c.toNat then spn p l + 1 else 0 := rfl
   have e2 : allB p (c :: l) = (p c.toNat && allB p l) := rfl
   rw [e, e2, ih]
   by_cases hc : p c.toNat = true
   ·simp [hc]
   ·have hc' : p c.toNat = false := by simpa using hc
    simp [hc']
theorem bs_pre (s : ByteArray) : s.extract 0 s.size = s := by apply bs_ext; rw [bs_take, List.take_of_length_le]; rw [bs_len]; exact Nat.le_refl _
theorem letters_any (s : ByteArray) (hs : s.size ≤ maxLen) (w : World) :
    Calls Tryz.prog 60 #[.string s] w fun e w' => e = .returned (.string (s.extract 0 (spn alnB (bs s)))) ∧ w = w' := by
  unfold maxLen at hs
  go_enter Tryz.func60, Tryz.ntmps60
  go_wp2
  go_loopw [6] (fun i wr => ∃ k : Nat, k ≤ s.size ∧ i = .int .i64 k ∧ wr = w ∧ spn alnB (bs s) = k + spn alnB ((bs s).drop k)) (fun i _ => s.size - (intOf i).toNat)
  case atStart => exact ⟨0, Nat.zero_le _, rfl, rfl, by simp⟩
  case round =>
   obtain ⟨k, hk, rfl, rfl, hf⟩ := hrel
   by_cases hlt : k < s.size
   ·rcases hp : letB s[k].toNat with _ | _
    ·rcases hq : digB s[k].toNat with _ | _
     ·have HF := Lib.hid (show spn alnB (bs s) = k by rw [hf, spn_off hlt (by unfold alnB; rw [hp, hq]; rfl)]; rfl)
      clear hf
      go_wp2_with (first | (go_at_call 59; refine (isLetter_any _ _).mono ?_; rw [hp]; rintro e w' ⟨rfl, rfl⟩) | (go_at_call 100; refine (isDigit_any _ _).mono ?_; rw [hq]; rintro e w' ⟨rfl, rfl⟩))
      go_ret
      exact ⟨by rw [HF.out]; rfl, rfl⟩
     ·have HF := Lib.hid (show spn alnB (bs s) = (k + 1) + spn alnB ((bs s).drop (k + 1)) by rw [hf, spn_at hlt (by unfold alnB; rw [hp, hq]; rfl)]; omega)
      clear hf
      go_wp2_with (first | (go_at_call 59; refine (isLetter_any _ _).mono ?_; rw [hp]; rintro e w' ⟨rfl, rfl⟩) | (go_at_call 100; refine (isDigit_any _ _).mono ?_; rw [hq]; rintro e w' ⟨rfl, rfl⟩))
      go_roundw
      case rel => exact ⟨k + 1, by omega, by go_num, trivial, HF.out⟩
      case measure => simp [intOf]; omega
    ·have HF := Lib.hid (show spn alnB (bs s) = (k + 1) + spn alnB ((bs s).drop (k + 1)) by rw [hf, spn_at hlt (by unfold alnB; rw [hp]; rfl)]; omega)
     clear hf
     go_wp2_with (first | (go_at_call 59; refine (isLetter_any _ _).mono ?_; rw [hp]; rintro e w' ⟨rfl, rfl⟩) | (go_at_call 100; refine (isDigit_any _ _).mono ?_; rintro e w' ⟨rfl, rfl⟩))
     go_roundw
     case rel => exact ⟨k + 1, by omega, by go_num, trivial, HF.out⟩
     case measure => simp [intOf]; omega
   ·obtain rfl : k = s.size := by omega
    have HF := Lib.hid (show spn alnB (bs s) = s.size by rw [hf, List.drop_eq_nil_of_le (by rw [bs_len]; exact Nat.le_refl _)]; rfl)
    go_wp2
    go_ret
    exact ⟨by rw [HF.out, bs_pre]; rfl, rfl⟩
def nameB (l : List UInt8) : Bool := match l with | [] => false | c :: _ => decide (l.length ≤ 12) && letB c.toNat && allB alnB l
theorem nameB_at (s : ByteArray) (h : 0 < s.size) : nameB (bs s) = (decide (s.size ≤ 12) && letB s[0].toNat && allB alnB (bs s)) := by
 have hc := bs_at s 0 h
 rw [List.drop_zero] at hc
 have hl := bs_len s
 unfold nameB
 split
 ·rename_i he; rw [he] at hc; cases hc
 ·rename_i c l he
  rw [he] at hc hl ⊢
  injection hc with h1 _
  rw [hl, h1]
theorem isName_any (s : ByteArray) (hs : s.size ≤ maxLen) (w : World) :
    Calls Tryz.prog 19 #[.string s] w fun e w' => e = .returned (.bool (nameB (bs s))) ∧ w = w' := by
  by_cases h0 : s.size = 0
  ·have hb : bs s = [] := List.length_eq_zero_iff.1 (by rw [bs_len]; exact h0)
   have he : s.toList = [] := by rw [toList_bs]; exact hb
   go_enter Tryz.func19, Tryz.ntmps19
   go_wp2
   go_ret
   exact ⟨ret_bool (by rw [hb]; rfl), rfl⟩
  ·have hz : s.toList.isEmpty = false := by
     rw [toList_bs, List.isEmpty_eq_false_iff]; intro h; exact h0 (by rw [← bs_len, h]; rfl)
   have HN := Lib.hid (nameB_at s (by omega))
   have hlt : 0 < s.size := by omega
   by_cases h12 : s.size ≤ 12
   ·rcases hp : letB s[0].toNat with _ | _
    ·go_enter Tryz.func19, Tryz.ntmps19
     go_wp2_with (first | (go_at_call 59; refine (isLetter_any _ _).mono ?_; rw [hp]; rintro e w' ⟨rfl, rfl⟩) )
     go_ret
     exact ⟨ret_bool (by rw [HN.out, hp]; simp), rfl⟩
    ·have hl := letters_any s hs
     have hsp := spn_le alnB (bs s)
     rw [bs_len] at hsp
     by_cases ha : spn alnB (bs s) = s.size
     ·rw [ha, bs_pre] at hl
      have HA := Lib.hid (show allB alnB (bs s) = true by rw [allB_spn, ha, bs_len]; simp)
      clear ha hsp
      have HL := hide hl
      clear hl
      go_enter Tryz.func19, Tryz.ntmps19
      go_wp2_with (first | (go_at_call 59; refine (isLetter_any _ _).mono ?_; rw [hp]; rintro e w' ⟨rfl, rfl⟩) | (go_at_call 60; refine (unhide HL _).mono ?_; rintro e w' ⟨rfl, rfl⟩))
      go_ret
      exact ⟨ret_bool (by rw [HN.out, hp, HA.out]; simp [h12]), rfl⟩
     ·have HA := Lib.hid (show allB alnB (bs s) = false by rw [allB_spn, bs_len]; simpa using ha)
      have hts : (s.extract 0 (spn alnB (bs s))).size = spn alnB (bs s) := by rw [← bs_len, bs_take, List.length_take, bs_len]; omega
      rw [← hts] at ha
      revert ha hl
      generalize s.extract 0 (spn alnB (bs s)) = t
      intro hl ha
      have HL := hide hl
      clear hl
      have hne : ((t.size : Int) == s.size) = false := by simp; omega
      go_enter Tryz.func19, Tryz.ntmps19
      go_wp2_with (first | (go_at_call 59; refine (isLetter_any _ _).mono ?_; rw [hp]; rintro e w' ⟨rfl, rfl⟩) | (go_at_call 60; refine (unhide HL _).mono ?_; rintro e w' ⟨rfl, rfl⟩))
      go_ret
      exact ⟨ret_bool (by rw [HN.out, HA.out]; simp), rfl⟩
   ·go_enter Tryz.func19, Tryz.ntmps19
    go_wp2
    go_ret
    exact ⟨ret_bool (by rw [HN.out]; simp [h12]), rfl⟩
theorem refName_any (s : ByteArray) (hs : s.size ≤ maxLen) (w : World) :
    Calls Tryz.prog 20 #[.string s] w fun e w' => e = .returned (.bool (nameB (bs s))) ∧ w = w' := by
  unfold maxLen at hs
  by_cases h0 : s.size = 0
  ·have hb : bs s = [] := List.length_eq_zero_iff.1 (by rw [bs_len]; exact h0)
   go_enter Tryz.func20, Tryz.ntmps20
   go_wp2
   go_ret
   exact ⟨ret_bool (by rw [hb]; rfl), rfl⟩
  ·have HN := Lib.hid (nameB_at s (by omega))
   have hlt : 0 < s.size := by omega
   by_cases h12 : s.size ≤ 12
   ·rcases hp : letB s[0].toNat with _ | _
    ·go_enter Tryz.func20, Tryz.ntmps20
     go_wp2_with (first | (go_at_call 61; refine (refLetter_any _ _).mono ?_; rw [hp]; rintro e w' ⟨rfl, rfl⟩) )
     go_ret
     exact ⟨ret_bool (by rw [HN.out, hp]; simp), rfl⟩
    ·have HN2 := Lib.hid (show nameB (bs s) = allB alnB (bs s) by rw [HN.out, hp]; simp [h12])
     clear HN
     go_enter Tryz.func20, Tryz.ntmps20
     go_wp2_with (first | (go_at_call 61; refine (refLetter_any _ _).mono ?_; rw [hp]; rintro e w' ⟨rfl, rfl⟩) )
     clear hp
     go_loopw [3] (fun i wr => ∃ k : Nat, k ≤ s.size ∧ i = .int .i64 k ∧ wr = w ∧ Hid (allB alnB ((bs s).take k) = true)) (fun i _ => s.size - (intOf i).toNat)
     case atStart => exact ⟨0, Nat.zero_le _, rfl, rfl, Lib.hid (by simp [allB])⟩
     case round =>
      obtain ⟨k, hk, rfl, rfl, HA⟩ := hrel
      by_cases hlt : k < s.size
      ·have HT := Lib.hid (bs_snoc s k hlt)
       rcases hp : letB s[k].toNat with _ | _
       ·rcases hq : digB s[k].toNat with _ | _
        ·have HF := Lib.hid (allB_no hlt (show alnB s[k].toNat = false by unfold alnB; rw [hp, hq]; rfl))
         go_wp2_with (first | (go_at_call 61; refine (refLetter_any _ _).mono ?_; rw [hp]; rintro e w' ⟨rfl, rfl⟩) | (go_at_call 62; refine (refDigit_any _ _).mono ?_; rw [hq]; rintro e w' ⟨rfl, rfl⟩))
         go_ret
         exact ⟨ret_bool (by rw [HN2.out, HF.out]), rfl⟩
        ·have HF := Lib.hid (show alnB s[k].toNat = true by unfold alnB; rw [hp, hq]; rfl)
         go_wp2_with (first | (go_at_call 61; refine (refLetter_any _ _).mono ?_; rw [hp]; rintro e w' ⟨rfl, rfl⟩) | (go_at_call 62; refine (refDigit_any _ _).mono ?_; rw [hq]; rintro e w' ⟨rfl, rfl⟩))
         go_roundw
         case rel => exact ⟨k + 1, by omega, by go_num, trivial, Lib.hid (by rw [HT.out]; exact allB_snoc HF.out HA.out)⟩
         case measure => simp [intOf]; omega
       ·have HF := Lib.hid (show alnB s[k].toNat = true by unfold alnB; rw [hp]; rfl)
        go_wp2_with (first | (go_at_call 61; refine (refLetter_any _ _).mono ?_; rw [hp]; rintro e w' ⟨rfl, rfl⟩) | (go_at_call 62; refine (refDigit_any _ _).mono ?_; rintro e w' ⟨rfl, rfl⟩))
        go_roundw
        case rel => exact ⟨k + 1, by omega, by go_num, trivial, Lib.hid (by rw [HT.out]; exact allB_snoc HF.out HA.out)⟩
        case measure => simp [intOf]; omega
      ·obtain rfl : k = s.size := by omega
       go_wp2
       go_ret
       exact ⟨ret_bool (by rw [HN2.out]; have := HA.out; rw [bs_all] at this; exact this.symm), rfl⟩
   ·go_enter Tryz.func20, Tryz.ntmps20
    go_wp2
    go_ret
    exact ⟨ret_bool (by rw [HN.out]; simp [h12]), rfl⟩
def brandB (l : List UInt8) : Bool := decide (l.length ≤ 20) && allB brnB l
theorem isBrand_any (s : ByteArray) (hs : s.size ≤ maxLen) (w : World) :
    Calls Tryz.prog 272 #[.string s] w fun e w' => e = .returned (.bool (brandB (bs s))) ∧ w = w' := by
  unfold maxLen at hs
  by_cases h20 : s.size ≤ 20
  ·have HN := Lib.hid (show brandB (bs s) = allB brnB (bs s) by unfold brandB; rw [bs_len]; simp [h20])
   go_enter Tryz.func272, Tryz.ntmps272
   go_wp2
   go_loopw [9] (fun i wr => ∃ k : Nat, k ≤ s.size ∧ i = .int .i64 k ∧ wr = w ∧ Hid (allB brnB ((bs s).take k) = true)) (fun i _ => s.size - (intOf i).toNat)
   case atStart => exact ⟨0, Nat.zero_le _, rfl, rfl, Lib.hid (by simp [allB])⟩
   case round =>
    obtain ⟨k, hk, rfl, rfl, HA⟩ := hrel
    by_cases hlt : k < s.size
    ·have HT := Lib.hid (bs_snoc s k hlt)
     rcases (show (s[k].toNat : Int) < 32 ∨ (126 < (s[k].toNat : Int)) ∨ (s[k].toNat : Int) = 34 ∨ (32 ≤ (s[k].toNat : Int) ∧ (s[k].toNat : Int) ≤ 126 ∧ (s[k].toNat : Int) ≠ 34) by omega) with h | h | h | ⟨h1, h2, h3⟩
     ·have HF := Lib.hid (allB_no hlt (show brnB s[k].toNat = false by unfold brnB; exact decide_eq_false (by omega)))
      go_wp2
      go_ret
      exact ⟨ret_bool (by rw [HN.out, HF.out]), rfl⟩
     ·have HF := Lib.hid (allB_no hlt (show brnB s[k].toNat = false by unfold brnB; exact decide_eq_false (by omega)))
      go_wp2
      go_ret
      exact ⟨ret_bool (by rw [HN.out, HF.out]), rfl⟩
     ·have HF := Lib.hid (allB_no hlt (show brnB s[k].toNat = false by unfold brnB; exact decide_eq_false (by omega)))
      go_wp2
      go_ret
      exact ⟨ret_bool (by rw [HN.out, HF.out]), rfl⟩
     ·have HF := Lib.hid (show brnB s[k].toNat = true by unfold brnB; exact decide_eq_true (by omega))
      have hne : ((s[k].toNat : Int) == 34) = false := by simp; omega
      go_wp2
      go_roundw
      case rel => exact ⟨k + 1, by omega, by go_num, trivial, Lib.hid (by rw [HT.out]; exact allB_snoc HF.out HA.out)⟩
      case measure => simp [intOf]; omega
    ·obtain rfl : k = s.size := by omega
     go_wp2
     go_ret
     exact ⟨ret_bool (by rw [HN.out]; have := HA.out; rw [bs_all] at this; exact this.symm), rfl⟩
  ·go_enter Tryz.func272, Tryz.ntmps272
   go_wp2
   go_ret
   exact ⟨ret_bool (by unfold brandB; rw [bs_len]; simp [h20]), rfl⟩
theorem refBrand_any (s : ByteArray) (hs : s.size ≤ maxLen) (w : World) :
    Calls Tryz.prog 95 #[.string s] w fun e w' => e = .returned (.bool (brandB (bs s))) ∧ w = w' := by
  unfold maxLen at hs
  go_enter Tryz.func95, Tryz.ntmps95
  go_wp2
  go_loopw [3] (fun i wr => ∃ k : Nat, k ≤ s.size ∧ i = .int .i64 k ∧ wr = w ∧ Hid (allB brnB ((bs s).take k) = true)) (fun i _ => s.size - (intOf i).toNat)
  case atStart => exact ⟨0, Nat.zero_le _, rfl, rfl, Lib.hid (by simp [allB])⟩
  case round =>
   obtain ⟨k, hk, rfl, rfl, HA⟩ := hrel
   by_cases hlt : k < s.size
   ·have HT := Lib.hid (bs_snoc s k hlt)
    rcases (show (s[k].toNat : Int) < 32 ∨ (126 < (s[k].toNat : Int)) ∨ (s[k].toNat : Int) = 34 ∨ (32 ≤ (s[k].toNat : Int) ∧ (s[k].toNat : Int) ≤ 126 ∧ (s[k].toNat : Int) ≠ 34) by omega) with h | h | h | ⟨h1, h2, h3⟩
    ·have HF := Lib.hid (allB_no hlt (show brnB s[k].toNat = false by unfold brnB; exact decide_eq_false (by omega)))
     go_wp2
     go_ret
     exact ⟨ret_bool (by unfold brandB; rw [HF.out]; simp), rfl⟩
    ·have HF := Lib.hid (allB_no hlt (show brnB s[k].toNat = false by unfold brnB; exact decide_eq_false (by omega)))
     go_wp2
     go_ret
     exact ⟨ret_bool (by unfold brandB; rw [HF.out]; simp), rfl⟩
    ·have HF := Lib.hid (allB_no hlt (show brnB s[k].toNat = false by unfold brnB; exact decide_eq_false (by omega)))
     go_wp2
     go_ret
     exact ⟨ret_bool (by unfold brandB; rw [HF.out]; simp), rfl⟩
    ·have HF := Lib.hid (show brnB s[k].toNat = true by unfold brnB; exact decide_eq_true (by omega))
     have hne : ((s[k].toNat : Int) == 34) = false := by simp; omega
     go_wp2
     go_roundw
     case rel => exact ⟨k + 1, by omega, by go_num, trivial, Lib.hid (by rw [HT.out]; exact allB_snoc HF.out HA.out)⟩
     case measure => simp [intOf]; omega
   ·obtain rfl : k = s.size := by omega
    go_wp2
    go_ret
    exact ⟨ret_bool (by unfold brandB; have := HA.out; rw [bs_all] at this; rw [this, bs_len]; simp; try omega), rfl⟩
end Go.Proofs.YteaokkaidcbdlaaGreatDoor

namespace Go.Proofs.YteaokkaidcbdlaaGreatDoor
open Go Go.RowKit Go.Shelf
def idxB (n : Nat) (i : Int) : Bool := decide (0 ≤ i ∧ i < n)
theorem isIndex_any (o : Option Addr) (n cap : Nat) (i : Int) (w : World) :
    Calls Tryz.prog 99 #[.slice o n cap, .int .i64 i] w fun e w' => e = .returned (.bool (idxB n i)) ∧ w = w' := by
  rcases (show i < 0 ∨ (0 ≤ i ∧ i < n) ∨ (0 ≤ i ∧ (n : Int) ≤ i) by omega) with h | ⟨h, h'⟩ | ⟨h, h'⟩
  all_goals
   go_enter Tryz.func99, Tryz.ntmps99
   go_wp2
   go_ret
   exact ⟨ret_bool (by unfold idxB; first | (symm; exact decide_eq_true (by omega)) | (symm; exact decide_eq_false (by omega)) | (rw [Bool.eq_iff_iff]; simp; omega)), rfl⟩
theorem isKind_any (i : Int) (w : World) :
    Calls Tryz.prog 92 #[.int .i64 i] w fun e w' => e = .returned (.bool (decide (1 ≤ i ∧ i ≤ 13))) ∧ w = w' := by
  rcases (show i < 1 ∨ (1 ≤ i ∧ i ≤ 13) ∨ (13 < i) by omega) with h | ⟨h, h'⟩ | h
  all_goals
   go_enter Tryz.func92, Tryz.ntmps92
   go_wp2
   go_ret
   exact ⟨ret_bool (by first | (symm; exact decide_eq_true (by omega)) | (symm; exact decide_eq_false (by omega)) | (rw [Bool.eq_iff_iff]; simp; omega)), rfl⟩
def supB (k : Nat) : Bool := decide (k = 12 ∨ k = 13)
theorem hasSuper_any (k : Nat) (w : World) :
    Calls Tryz.prog 94 #[.int .u8 k] w fun e w' => e = .returned (.bool (supB k)) ∧ w = w' := by
  rcases (show k = 12 ∨ k = 13 ∨ (k ≠ 12 ∧ k ≠ 13) by omega) with rfl | rfl | ⟨h, h'⟩
  ·go_enter Tryz.func94, Tryz.ntmps94
   go_wp2
   go_ret
   exact ⟨ret_bool rfl, rfl⟩
  ·go_enter Tryz.func94, Tryz.ntmps94
   go_wp2
   go_ret
   exact ⟨ret_bool rfl, rfl⟩
  ·have e1 : ((k : Int) == 12) = false := by simp; omega
   have e2 : ((k : Int) == 13) = false := by simp; omega
   go_enter Tryz.func94, Tryz.ntmps94
   go_wp2
   go_ret
   exact ⟨ret_bool (by unfold supB; symm; exact decide_eq_false (by omega)), rfl⟩
def aboveB (k j : Nat) : Bool := decide (k = 12 ∨ k = 6 ∨ k = 7 ∨ k = 8 ∨ k = 13 ∨ k = 4 ∧ j = 13)
theorem mayBeSuper_any (k j : Nat) (w : World) :
    Calls Tryz.prog 280 #[.int .u8 k, .int .u8 j] w fun e w' => e = .returned (.bool (aboveB k j)) ∧ w = w' := by
  rcases (show k = 12 ∨ k = 6 ∨ k = 7 ∨ k = 8 ∨ k = 13 ∨ (k = 4 ∧ j = 13) ∨ (k = 4 ∧ j ≠ 13) ∨ (k ≠ 12 ∧ k ≠ 6 ∧ k ≠ 7 ∧ k ≠ 8 ∧ k ≠ 13 ∧ k ≠ 4) by omega) with rfl | rfl | rfl | rfl | rfl | ⟨rfl, rfl⟩ | ⟨rfl, h⟩ | ⟨h1, h2, h3, h4, h5, h6⟩
  case inr.inr.inr.inr.inr.inr.inl =>
   have e2 : ((j : Int) == 13) = false := by simp; omega
   go_enter Tryz.func280, Tryz.ntmps280
   go_wp2
   go_ret
   exact ⟨ret_bool (by unfold aboveB; symm; exact decide_eq_false (by omega)), rfl⟩
  case inr.inr.inr.inr.inr.inr.inr =>
   have e1 : ((k : Int) == 12) = false := by simp; omega
   have e2 : ((k : Int) == 6) = false := by simp; omega
   have e3 : ((k : Int) == 7) = false := by simp; omega
   have e4 : ((k : Int) == 8) = false := by simp; omega
   have e5 : ((k : Int) == 13) = false := by simp; omega
   have e6 : ((k : Int) == 4) = false := by simp; omega
   go_enter Tryz.func280, Tryz.ntmps280
   go_wp2
   go_ret
   exact ⟨ret_bool (by unfold aboveB; symm; exact decide_eq_false (by omega)), rfl⟩
  all_goals
   go_enter Tryz.func280, Tryz.ntmps280
   go_wp2
   go_ret
   exact ⟨ret_bool (by unfold aboveB; symm; exact decide_eq_true (by omega)), rfl⟩
def tyC (t : TyD) (vp vm vo : Value) : List Value :=
 [.int .u8 t.kind, .int .i64 t.low, .int .i64 t.high, .bool t.branded, .string t.brand, .string t.opq, .int .i64 t.super, vp, vm, vo]
structure Own2 (W0 W : World) (gv : Value) (bc bt : Nat) (f : Bool) (cs : List Value) : Prop where
 bel : Below W0.heap.size W0 W
 c : Blk W bc [gv, .bool f] 124
 t : Blk W bt cs 62
 hc : W0.heap.size ≤ bc
 ht : W0.heap.size ≤ bt
 ne : bc ≠ bt
theorem Own2.setC {W0 W : World} {gv : Value} {bc bt : Nat} {f : Bool} {cs : List Value} (h : Own2 W0 W gv bc bt f cs) (g : Bool) : Own2 W0 (W.setCell ⟨bc, 1, none⟩ (.bool g)) gv bc bt g cs :=
 ⟨h.bel.setCell h.hc _, h.c.set 1 _, h.t.other _ _ (Ne.symm h.ne), h.hc, h.ht, h.ne⟩
theorem Own2.setT {W0 W : World} {gv : Value} {bc bt : Nat} {f : Bool} {cs : List Value} (h : Own2 W0 W gv bc bt f cs) (i : Nat) (v : Value) : Own2 W0 (W.setCell ⟨bt, i, none⟩ v) gv bc bt f (cs.set i v) :=
 ⟨h.bel.setCell h.ht _, h.c.other _ _ h.ne, h.t.set i _, h.hc, h.ht, h.ne⟩
theorem Own2.drewN {W0 W : World} {gv : Value} {bc bt : Nat} {f : Bool} {cs : List Value} (h : Own2 W0 W gv bc bt f cs) (n : Nat) : Own2 W0 (W.drewN n) gv bc bt f cs :=
 ⟨below_drewN' h.bel n, h.c, h.t, h.hc, h.ht, h.ne⟩
theorem need_any (bc : Nat) (gv : Value) (f x : Bool) (w : World) (h : Blk w bc [gv, .bool f] 124) :
    Calls Tryz.prog 271 #[.pointer (some ⟨bc, 0, none⟩), .bool x] w fun e w' => e = .returned (.tuple #[]) ∧ w' = w.setCell ⟨bc, 1, none⟩ (.bool (f && x)) := by
  have h1 := h.cell 1
  have h2 := h.frozen 1
  simp at h1
  cases f <;> cases x
  all_goals
   go_enter Tryz.func271, Tryz.ntmps271
   go_wp2
   go_end0
   exact ⟨rfl, rfl⟩
end Go.Proofs.YteaokkaidcbdlaaGreatDoor

namespace Go.Proofs.YteaokkaidcbdlaaGreatDoor
open Go Go.RowKit Go.Shelf
section
variable {P : Program} {ops : Array Oper} {C : World → Prop}
def Headed (P : Program) (ops : Array Oper) (C : World → Prop) (n : Nat) (L : Array Bool → Act → Prop) : Nat → Array Bool → Act → Prop
 | 0, done, a => L done a
 | f + 1, done, a => Region.ready .any ops done ≠ [] ∧ ∀ i ∈ Region.ready .any ops done, i < n ∧ qOp P ops C i (Headed P ops C n L f (done.setIfInBounds i true)) a
theorem Headed.any {n g : Nat} {L : Array Bool → Act → Prop} {Q : Exit → Act → World → Prop} (hL : ∀ done a w, C w → L done a → wpAny P .any ops Q g done a w) :
    ∀ (f : Nat) (done : Array Bool) (a : Act) (w : World), C w → Headed P ops C n L f done a → wpAny P .any ops Q (f + g) done a w := by
  intro f
  induction f with
  | zero => intro done a w hw h; rw [Nat.zero_add]; exact hL _ _ _ hw h
  | succ f ih =>
    intro done a w hw h
    rw [show f + 1 + g = (f + g) + 1 by omega]
    exact ⟨fun h0 => absurd h0 h.1, fun i hi => wpOp_of_qOp hw (fun a' w' hw' h' => ih _ a' w' hw' h') (h.2 i hi).2⟩
theorem Headed.first {n i : Nat} {o : Oper} {v : Value} {L : Array Bool → Act → Prop} (hi : ops[i]? = some o) (hsel : ∀ (j : Nat) (o : Oper) cs b, ops[j]? = some o → o.op ≠ .select cs b)
    (hs : Region.sinkB .any ops n = true) (hc : Region.chainB .any ops n = true) (hn : n < ops.size) (hin : i < n) (hL : ∀ done a, L done a → ∀ j ∈ Region.ready .any ops done, n ≤ j) :
    ∀ (f : Nat) (done : Array Bool) (a : Act), HeadInv .any ops n done →
     (∀ j oj, ops[j]? = some oj → j ≠ i → done.getD j true = false → (∀ e ∈ oj.after, Region.binds .any e = true → e.on ≠ i) → o.apart ops oj = true) →
     i ∈ Region.ready .any ops done → YieldsIn P ops C o v a → Headed P ops C n L f (done.setIfInBounds i true) (a.put o.dst v) → Headed P ops C n L (f + 1) done a := by
  intro f
  induction f with
  | zero =>
    intro done a inv _ hr hy H
    refine ⟨fun h => (by rw [h] at hr; cases hr), fun j hj => ?_⟩
    have hjn : j < n := Nat.lt_of_not_le fun h => tail_waits hs hc hn inv _ i rfl hin (mem_ready.1 hr).1 j h hj
    refine ⟨hjn, ?_⟩
    by_cases hji : j = i
    ·subst hji; exact hy.qOp hi H
    ·have := hL _ _ H j (ready_mono hj hji); omega
  | succ f ih =>
    intro done a inv hfree hr hy H
    have hun := (mem_ready.1 hr).1
    refine ⟨fun h => (by rw [h] at hr; cases hr), fun j hj => ?_⟩
    have hjn : j < n := Nat.lt_of_not_le fun h => tail_waits hs hc hn inv _ i rfl hin hun j h hj
    refine ⟨hjn, ?_⟩
    by_cases hji : j = i
    ·subst hji; exact hy.qOp hi H
    ·have h1 := (H.2 j (ready_mono hj hji)).2
     obtain ⟨hjun, oj, hoj, hall⟩ := mem_ready.1 hj
     have hnot : ∀ e ∈ oj.after, Region.binds .any e = true → e.on ≠ i := fun e he hb heq => by
      have h1 := hall e he hb
      rw [heq, getD_both hun] at h1
      cases h1
     have h2 := qOp_put hoj (hfree j oj hoj hji hjun hnot) (fun cs b => hsel i o cs b hi) (fun cs b => hsel j oj cs b hoj) hy h1
     refine qOp_mono (fun a' h3 => ih _ a' (inv.set hj hjn) (fun k ok hk hki hun' hno => hfree k ok hk hki ?_ hno) (ready_mono hr (Ne.symm hji)) h3.1 (by rw [Array.setIfInBounds_comm _ _ hji]; exact h3.2)) h2
     by_cases hjk : j = k
     ·subst hjk; exact hjun
     ·rw [getD_set_ne true hjk] at hun'; exact hun'
theorem Headed.lex {n g : Nat} {K : Act → Prop} (hsel : Region.noSelect ops = true) (hs : Region.sinkB .any ops n = true) (hc : Region.chainB .any ops n = true) (hn : n < ops.size) :
    ∀ (l : List Oper) (k : Nat) (done : Array Bool) (a : Act), (∀ j, j < l.length → l[j]? = ops[k + j]?) → k + l.length = n → HeadInv .any ops n done →
     Region.lexHead .any ops g l.length k done = true → wpQuiet P ops C K l a → Headed P ops C n (fun done' a' => Region.seqB .any ops g n done' = true ∧ K a') l.length done a := by
  intro l
  induction l with
  | nil =>
    intro k done a _ hk _ hB h
    obtain rfl : k = n := by simpa using hk
    exact ⟨by simpa [Region.lexHead] using hB, h⟩
  | cons o l ih =>
    intro k done a hl hk inv hB h
    have h0 : ops[k]? = some o := by simpa using (hl 0 (by simp)).symm
    simp only [List.length_cons, Region.lexHead, Bool.and_eq_true] at hB hk
    obtain ⟨⟨hr, hf⟩, hB'⟩ := hB
    have hr' : k ∈ Region.ready .any ops done := by simpa using hr
    have hst : qOp P ops C k (wpQuiet P ops C K l) a := by unfold qOp; simp only [h0]; exact h
    obtain ⟨v, hy, hK⟩ := yieldsIn_of_qOp h0 hst
    exact Headed.first h0 (Region.noSelect_spec hsel) hs hc hn (by omega) (fun _ _ hL => seqB_ready hL.1) l.length done a inv (Region.free_spec h0 hf) hr' hy
     (ih (k + 1) _ _ (fun j hj => by have := hl (j + 1) (by simp; omega); simpa [Nat.add_assoc, Nat.add_comm 1 j] using this) (by omega) (inv.set hr' (by omega)) hB' hK)
theorem region_tail {id : Nat} {Q : Exit → Act → World → Prop} {a : Act} {w : World} {l : List Oper} (n : Nat) (hm : P.follows .mixedOrders = true) (hB : Region.lexTailB .any l.toArray n = true)
    (h : wpQuiet P l.toArray (fun w' => ∃ n, w' = w.drewN n) (fun a' => ∀ w', (∃ n, w' = w.drewN n) → wpList P l.toArray Q (l.drop n) a' w') (l.take n) a) : (Code.region id l.toArray true).wp P Q a w := by
  simp only [Region.lexTailB, Bool.and_eq_true, decide_eq_true_eq] at hB
  obtain ⟨⟨⟨⟨hsel, hn⟩, hs⟩, hc⟩, hlex⟩ := hB
  have hn' : n < l.length := by simpa using hn
  have htl : (l.take n).length = n := by simp; omega
  have hdl : (l.drop n).length = l.toArray.size - n := by simp
  have inv0 : HeadInv .any l.toArray n (Array.replicate l.toArray.size false) :=
   ⟨by simp, fun j oj _ hl => (by rw [getD_replicate_false] at hl; cases hl), fun t _ ht => getD_in (by simpa using ht) (getD_replicate_false _ _)⟩
  have H := Headed.lex (P := P) (g := l.toArray.size - n) hsel hs hc hn (l.take n) 0 _ a (fun j hj => by
   rw [htl] at hj
   simp [hj]) (by simpa using htl) inv0 (by rw [htl]; exact hlex) h
  refine wp_region_any hm ?_
  have := Headed.any (Q := Q) (g := l.toArray.size - n) (fun done a' w' hw' hL => by
   have := wpAny_of_seq (md := .any) (Q' := Q) (l.drop n) n done a' w' (fun j => by simp [List.getElem?_drop]) (by rw [hdl]; exact hL.1) (hL.2 w' hw')
   rwa [hdl] at this) _ _ _ { w with drawn := w.drawn + 1 } ⟨1, rfl⟩ H
  rw [htl, show n + (l.toArray.size - n) = l.toArray.size by omega] at this
  exact this
end
end Go.Proofs.YteaokkaidcbdlaaGreatDoor

namespace Go.Proofs.YteaokkaidcbdlaaGreatDoor
open Go Go.RowKit Go.Shelf
def boundsB (t : TyD) : Bool := decide (-1000000000 ≤ t.low ∧ t.low ≤ t.high ∧ t.high ≤ 1000000000)
theorem need_own {W0 W : World} {gv : Value} {bc bt : Nat} {f : Bool} {cs : List Value} (h : Own2 W0 W gv bc bt f cs) (x : Bool) :
    Calls Tryz.prog 271 #[.pointer (some ⟨bc, 0, none⟩), .bool x] W fun e w' => e = .returned (.tuple #[]) ∧ Own2 W0 w' gv bc bt (f && x) cs :=
  (need_any bc gv f x W h.c).mono fun _ _ ⟨he, hw⟩ => ⟨he, hw ▸ h.setC _⟩
theorem index_own {W0 W : World} {o : Option Addr} {n cap : Nat} {bc bt : Nat} {f : Bool} {cs : List Value} (h : Own2 W0 W (.slice o n cap) bc bt f cs) (i : Int) :
    Calls Tryz.prog 265 #[.pointer (some ⟨bc, 0, none⟩), .int .i64 i] W fun e w' => e = .returned (.tuple #[]) ∧ Own2 W0 w' (.slice o n cap) bc bt (f && idxB n i) cs := by
  have c0 : W.cell? ⟨bc, 0, none⟩ = some (.slice o n cap) := h.c.cell 0
  go_enter Tryz.func265, Tryz.ntmps265
  go_wp2_with (first | (go_at_call 99; refine (isIndex_any _ _ _ _ _).mono ?_; rintro e w1 ⟨rfl, rfl⟩) | (go_at_call 271; refine (need_own h _).mono ?_; rintro e w1 ⟨rfl, h1⟩))
  go_end0
  exact ⟨rfl, h1⟩
set_option maxRecDepth 100000 in
set_option maxHeartbeats 4000000 in
theorem bounds_any {W0 W : World} {gv : Value} {bc bt : Nat} {f : Bool} {t : TyD} {vp vm vo : Value} (h : Own2 W0 W gv bc bt f (tyC t vp vm vo)) :
    Calls Tryz.prog 262 #[.pointer (some ⟨bc, 0, none⟩), .pointer (some ⟨bt, 0, none⟩)] W fun e w' => e = .returned (.tuple #[]) ∧
     Own2 W0 w' gv bc bt (f && boundsB t) (tyC { t with low := 0, high := 0 } vp vm vo) := by
  have t1 : W.cell? ⟨bt, 1, none⟩ = some (.int .i64 t.low) := h.t.cell 1
  have t2 : W.cell? ⟨bt, 2, none⟩ = some (.int .i64 t.high) := h.t.cell 2
  obtain ⟨x, HB, hx⟩ : ∃ x, Hid (boundsB t = x) ∧ ((x = false ∧ decide (-1000000000 ≤ t.low) = false) ∨ (x = false ∧ decide (-1000000000 ≤ t.low) = true ∧ decide (t.low ≤ t.high) = false) ∨
      (x = decide (t.high ≤ 1000000000) ∧ decide (-1000000000 ≤ t.low) = true ∧ decide (t.low ≤ t.high) = true)) := by
    refine ⟨_, Lib.hid rfl, ?_⟩
    unfold boundsB
    by_cases h1 : -1000000000 ≤ t.low
    ·by_cases h2 : t.low ≤ t.high
     ·exact .inr (.inr ⟨by simp [h1, h2], decide_eq_true h1, decide_eq_true h2⟩)
     ·exact .inr (.inl ⟨by simp [h2], decide_eq_true h1, decide_eq_false h2⟩)
    ·exact .inl ⟨by simp [h1], decide_eq_false h1⟩
  rcases hx with ⟨rfl, d1⟩ | ⟨rfl, d1, d2⟩ | ⟨rfl, d1, d2⟩
  all_goals
   go_enter Tryz.func262, Tryz.ntmps262
   go_wp2_with fail
   refine region_tail 24 (by kernel_rfl) (by kernel_rfl) ?_
   simp only [List.take_succ_cons, List.take_zero, List.drop_succ_cons, List.drop_zero]
   repeat (go_big_quiet_step (fail))
   refine wpQuiet_nil ?_
   rintro _ ⟨nq, rfl⟩
   go_wp2_with (go_at_call 271; refine (need_own (h.drewN nq) _).mono ?_; rintro e w1 ⟨rfl, h1⟩; have c1 : w1.cell? ⟨bt, 1, none⟩ = some (.int .i64 t.low) := h1.t.cell 1; have c2 : w1.cell? ⟨bt, 2, none⟩ = some (.int .i64 t.high) := h1.t.cell 2; have z1 := h1.t.frozen 1; have z2 := h1.t.frozen 2)
   go_end0
   exact ⟨rfl, by rw [HB.out]; exact (h1.setT 1 (.int .i64 0)).setT 2 (.int .i64 0)⟩
def brandedB (t : TyD) : Bool := brandB (bs t.brand) && (t.branded || (bs t.brand).isEmpty)
set_option maxRecDepth 100000 in
set_option maxHeartbeats 4000000 in
theorem brand_any {W0 W : World} {gv : Value} {bc bt : Nat} {f : Bool} {t : TyD} {vp vm vo : Value} (hs : t.brand.size ≤ maxLen) (h : Own2 W0 W gv bc bt f (tyC t vp vm vo)) :
    Calls Tryz.prog 263 #[.pointer (some ⟨bc, 0, none⟩), .pointer (some ⟨bt, 0, none⟩)] W fun e w' => e = .returned (.tuple #[]) ∧
     Own2 W0 w' gv bc bt (f && brandedB t) (tyC { t with branded := false, brand := ⟨#[]⟩ } vp vm vo) := by
  have t3 : W.cell? ⟨bt, 3, none⟩ = some (.bool t.branded) := h.t.cell 3
  have t4 : W.cell? ⟨bt, 4, none⟩ = some (.string t.brand) := h.t.cell 4
  have hb := isBrand_any t.brand hs
  have he : t.brand.toList.isEmpty = (bs t.brand).isEmpty := by rw [toList_bs]
  obtain ⟨x, HB, hx⟩ : ∃ x, Hid (brandedB t = x) ∧ x = (brandB (bs t.brand) && (t.branded || (bs t.brand).isEmpty)) := ⟨_, Lib.hid rfl, rfl⟩
  revert hb he
  generalize brandB (bs t.brand) = y at hx ⊢
  generalize hz : (bs t.brand).isEmpty = z at hx ⊢
  clear hz
  intro hb he
  have HN := hide hb
  clear hb
  generalize hbr : t.branded = br at t3 hx
  cases y <;> cases br <;> cases z
  all_goals
   simp only [Bool.false_and, Bool.true_and, Bool.or_self, Bool.or_true, Bool.or_false] at hx
   subst hx
   go_enter Tryz.func263, Tryz.ntmps263
   go_wp2_with (first | (go_at_call 272; refine (unhide HN _).mono ?_; rintro e w1 ⟨rfl, rfl⟩) | (go_at_call 271; refine (need_own h _).mono ?_; rintro e w1 ⟨rfl, h1⟩; have c3 : w1.cell? ⟨bt, 3, none⟩ = some (.bool t.branded) := h1.t.cell 3; have c4 : w1.cell? ⟨bt, 4, none⟩ = some (.string t.brand) := h1.t.cell 4; have z3 := h1.t.frozen 3; have z4 := h1.t.frozen 4))
   go_end0
   exact ⟨rfl, by rw [HB.out]; exact (h1.setT 3 (.bool false)).setT 4 (.string ⟨#[]⟩)⟩
theorem SliceOf.at {α : Type} {sz : Nat} {At : Nat → Nat → α → Prop} {o : Option Addr} {n cap : Nat} {l : List α} (h : SliceOf sz At (.slice o n cap) l) :
    n = l.length ∧ cap ≤ maxLen ∧ n ≤ cap ∧ ∀ i x, l[i]? = some x → ∃ b off, o = some ⟨b, off, none⟩ ∧ At b (off + i * sz) x := by
  obtain ⟨o', cap', he, h1, h2, h3⟩ := h
  injection he with e1 e2 e3
  subst e1 e2 e3
  exact ⟨rfl, h2, h1, h3⟩
theorem SliceOf.form {α : Type} {sz : Nat} {At : Nat → Nat → α → Prop} {v : Value} {l : List α} (h : SliceOf sz At v l) : ∃ o cap, v = .slice o l.length cap := by
 obtain ⟨o, cap, he, _⟩ := h
 exact ⟨o, cap, he⟩
def kindAt (G : List TyD) (i : Int) : Nat := match G[i.toNat]? with | some t => t.kind | none => 0
def superB (G : List TyD) (t : TyD) : Bool := idxB G.length t.super && aboveB (kindAt G t.super) t.kind
set_option maxRecDepth 100000 in
set_option maxHeartbeats 4000000 in
theorem super_any {W0 W : World} {o : Option Addr} {n cap : Nat} {G : List TyD} {bc bt : Nat} {f : Bool} {t : TyD} {vp vm vo : Value} (hG : GrAt W0 (.slice o n cap) G) (h : Own2 W0 W (.slice o n cap) bc bt f (tyC t vp vm vo)) :
    Calls Tryz.prog 270 #[.pointer (some ⟨bc, 0, none⟩), .pointer (some ⟨bt, 0, none⟩)] W fun e w' => e = .returned (.tuple #[]) ∧
     Own2 W0 w' (.slice o n cap) bc bt (f && superB G t) (tyC { t with super := 0 } vp vm vo) := by
  have hGw := hG.go (.below h.bel)
  obtain ⟨rfl, _, _, hat⟩ := hGw.at
  have gc : W.cell? ⟨bc, 0, none⟩ = some (.slice o G.length cap) := h.c.cell 0
  have t0 : W.cell? ⟨bt, 0, none⟩ = some (.int .u8 t.kind) := h.t.cell 0
  have t6 : W.cell? ⟨bt, 6, none⟩ = some (.int .i64 t.super) := h.t.cell 6
  by_cases hx : 0 ≤ t.super ∧ t.super < G.length
  ·have hI : idxB G.length t.super = true := decide_eq_true hx
   obtain ⟨k, hk⟩ : ∃ k : Nat, t.super = k := ⟨t.super.toNat, by omega⟩
   have hkl : k < G.length := by omega
   obtain ⟨b, off, rfl, hT⟩ := hat k G[k] (List.getElem?_eq_getElem hkl)
   obtain ⟨_, _, _, _, k0, _⟩ := hT
   have HB := Lib.hid (show superB G t = aboveB G[k].kind t.kind by unfold superB kindAt; rw [hI, hk]; simp [hkl])
   generalize G[k].kind = kk at k0 HB
   have i1 := fun w => isIndex_any (some ⟨b, off, none⟩) G.length cap t.super w
   rw [hI] at i1
   rw [hk] at t6 i1
   have HI := hide i1
   have hlt : (k : Int) < G.length := by omega
   clear i1 hat hx hG hGw hI
   go_enter Tryz.func270, Tryz.ntmps270
   go_wp2_with fail
   refine region_tail 28 (by kernel_rfl) (by kernel_rfl) ?_
   simp only [List.take_succ_cons, List.take_zero, List.drop_succ_cons, List.drop_zero]
   repeat (go_big_quiet_step (first | (go_at_call 99; exact quiet_left (unhide HI _)) | (go_at_call 280; exact quiet_left (mayBeSuper_any _ _ _))))
   refine wpQuiet_nil ?_
   rintro _ ⟨nq, rfl⟩
   go_wp2_with (go_at_call 271; refine (need_own (h.drewN nq) _).mono ?_; rintro e w1 ⟨rfl, h1⟩; have c6 : w1.cell? ⟨bt, 6, none⟩ = some (.int .i64 t.super) := h1.t.cell 6; have z6 := h1.t.frozen 6)
   go_end0
   exact ⟨rfl, by rw [HB.out]; exact h1.setT 6 (.int .i64 0)⟩
  ·have hI : idxB G.length t.super = false := decide_eq_false hx
   have HB := Lib.hid (show superB G t = false by unfold superB; rw [hI]; rfl)
   have i1 := fun w => isIndex_any o G.length cap t.super w
   rw [hI] at i1
   have HI := hide i1
   clear i1 hat hG hGw hI hx
   go_enter Tryz.func270, Tryz.ntmps270
   go_wp2_with fail
   refine region_tail 28 (by kernel_rfl) (by kernel_rfl) ?_
   simp only [List.take_succ_cons, List.take_zero, List.drop_succ_cons, List.drop_zero]
   repeat (go_big_quiet_step (first | (go_at_call 99; exact quiet_left (unhide HI _)) | (go_at_call 280; exact quiet_left (mayBeSuper_any _ _ _))))
   refine wpQuiet_nil ?_
   rintro _ ⟨nq, rfl⟩
   go_wp2_with (go_at_call 271; refine (need_own (h.drewN nq) _).mono ?_; rintro e w1 ⟨rfl, h1⟩; have c6 : w1.cell? ⟨bt, 6, none⟩ = some (.int .i64 t.super) := h1.t.cell 6; have z6 := h1.t.frozen 6)
   go_end0
   exact ⟨rfl, by rw [HB.out]; exact h1.setT 6 (.int .i64 0)⟩
def partB (n : Nat) (t : TyD) : Bool := match t.parts with | [p] => (bs p.name).isEmpty && idxB n p.type | _ => false
set_option maxRecDepth 100000 in
set_option maxHeartbeats 4000000 in
theorem part_any {W0 W : World} {o : Option Addr} {n cap : Nat} {bc bt : Nat} {f : Bool} {t : TyD} {vp vm vo : Value} (hl : TyL W0 vp vm vo t) (h : Own2 W0 W (.slice o n cap) bc bt f (tyC t vp vm vo)) :
    Calls Tryz.prog 269 #[.pointer (some ⟨bc, 0, none⟩), .pointer (some ⟨bt, 0, none⟩)] W fun e w' => e = .returned (.tuple #[]) ∧
     Own2 W0 w' (.slice o n cap) bc bt (f && partB n t) (tyC t (.slice none 0 0) vm vo) := by
  have hP := (hl.go (.below h.bel)).parts
  have gc : W.cell? ⟨bc, 0, none⟩ = some (.slice o n cap) := h.c.cell 0
  obtain ⟨op, cp, rfl⟩ := hP.form
  have t7 : W.cell? ⟨bt, 7, none⟩ = some (.slice op t.parts.length cp) := h.t.cell 7
  obtain ⟨_, hm, _, hat⟩ := hP.at
  by_cases h1 : t.parts.length = 1
  ·obtain ⟨p, hp⟩ : ∃ p, t.parts = [p] := by
     match hq : t.parts, h1 with
     | [p], _ => exact ⟨p, rfl⟩
   rw [hp] at t7 hat
   simp only [List.length_singleton] at t7
   obtain ⟨b, off, rfl, p0, p1⟩ := hat 0 p rfl
   simp only [Nat.zero_mul, Nat.add_zero] at p0 p1
   have HB := Lib.hid (show partB n t = ((bs p.name).isEmpty && idxB n p.type) by unfold partB; rw [hp])
   have he : p.name.toList.isEmpty = (bs p.name).isEmpty := by rw [toList_bs]
   have i1 := fun w => isIndex_any o n cap p.type w
   revert HB he
   generalize (bs p.name).isEmpty = z
   intro HB he
   revert HB i1
   generalize idxB n p.type = y
   intro i1 HB
   have HI := hide i1
   clear i1 hat hP hl h1
   cases z
   all_goals
    go_enter Tryz.func269, Tryz.ntmps269
    go_wp2_with fail
    refine region_tail 31 (by kernel_rfl) (by kernel_rfl) ?_
    simp only [List.take_succ_cons, List.take_zero, List.drop_succ_cons, List.drop_zero]
    repeat (go_big_quiet_step (first | (go_at_call 99; exact quiet_left (unhide HI _))))
    refine wpQuiet_nil ?_
    rintro _ ⟨nq, rfl⟩
    go_wp2_with (go_at_call 271; refine (need_own (h.drewN nq) _).mono ?_; rintro e w1 ⟨rfl, h1⟩; have c7 : w1.cell? ⟨bt, 7, none⟩ = some (.slice (some ⟨b, off, none⟩) t.parts.length cp) := h1.t.cell 7; have z7 := h1.t.frozen 7)
    go_end0
    exact ⟨rfl, by rw [HB.out]; exact h1.setT 7 (.slice none 0 0)⟩
  ·have HB := Lib.hid (show partB n t = false by
     unfold partB
     split
     ·rename_i hq; rw [hq] at h1; exact absurd rfl h1
     ·rfl)
   have hne : ((t.parts.length : Int) == 1) = false := by simp; omega
   clear hat hP hl h1
   go_enter Tryz.func269, Tryz.ntmps269
   go_wp2_with fail
   refine region_tail 31 (by kernel_rfl) (by kernel_rfl) ?_
   simp only [List.take_succ_cons, List.take_zero, List.drop_succ_cons, List.drop_zero]
   repeat (go_big_quiet_step (fail))
   refine wpQuiet_nil ?_
   rintro _ ⟨nq, rfl⟩
   go_wp2_with (go_at_call 271; refine (need_own (h.drewN nq) _).mono ?_; rintro e w1 ⟨rfl, h1⟩; have c7 : w1.cell? ⟨bt, 7, none⟩ = some (.slice op t.parts.length cp) := h1.t.cell 7; have z7 := h1.t.frozen 7)
   go_end0
   exact ⟨rfl, by rw [HB.out]; exact h1.setT 7 (.slice none 0 0)⟩
end Go.Proofs.YteaokkaidcbdlaaGreatDoor

