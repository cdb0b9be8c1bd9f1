/- Part 0 of 53: the texts Sp, Ba, one behind the other. -/
import Derived.Test.YteaokkaidcbdlaaGreatDoorProg
import Derived.Tactics
import Derived.Tactics2
import Derived.WalkKit
import Derived.LoopTactic
import Derived.Outline
import Derived.Lib.Hide
import Derived.Handy
import Derived.KernelRfl
import Derived.Deep.LoopGhost
import Derived.CallsIn
import Derived.Deep.QuietTactic
import Derived.BigQuiet
import Derived.Deep.Draws
import Derived.WalkSpells
import Derived.Lib.Walk
import Derived.Lib.Strings
import Derived.Maps.OwnOps
import Derived.Maps.OwnSet
import Derived.Deep.RegionWith
import Derived.StillTailTactics
import Derived.WalkMore
import Derived.RangeFuncNested
import Derived.RangeFuncBound
import Derived.RangeFuncCalls
import Derived.RangeFuncLeaves
import Derived.RangeFuncBox
import Derived.Shelf.Abstract
import Derived.OwnWalkIn
import Derived.TacticsInMore
import Derived.LoopNIn
import Derived.LoopIn
import Derived.RecoverIn
import Derived.Maps.AppendAt
import Derived.RegionTactic
import Derived.ChangeAlike
import Derived.OwnWalk
import Derived.Deep.AppendLies
import Derived.Deep.DeepCutAuto
import Derived.Deep.RegionLaw
namespace Go.Proofs.YteaokkaidcbdlaaGreatDoor
open Go Go.RowKit Go.Shelf
structure PartD where
  name : ByteArray
  type : Int
structure MethD where
  name : ByteArray
  args : List Int
  result : Int
  raises : List ByteArray
  proc : ByteArray
structure OverD where
  name : ByteArray
  proc : ByteArray
structure TyD where
  kind : Nat
  low : Int
  high : Int
  branded : Bool
  brand : ByteArray
  opq : ByteArray
  super : Int
  parts : List PartD
  meths : List MethD
  overs : List OverD
instance : Inhabited PartD := ⟨⟨⟨#[]⟩, 0⟩⟩
instance : Inhabited MethD := ⟨⟨⟨#[]⟩, [], 0, [], ⟨#[]⟩⟩⟩
instance : Inhabited OverD := ⟨⟨⟨#[]⟩, ⟨#[]⟩⟩⟩
instance : Inhabited TyD := ⟨⟨0, 0, 0, false, ⟨#[]⟩, ⟨#[]⟩, 0, [], [], []⟩⟩
def SliceOf {α : Type} (sz : Nat) (At : Nat → Nat → α → Prop) (v : Value) (l : List α) : Prop :=
  ∃ (o : Option Addr) (cap : Nat), v = .slice o l.length cap ∧ l.length ≤ cap ∧ cap ≤ maxLen ∧ ∀ i x, l[i]? = some x → ∃ b off, o = some ⟨b, off, none⟩ ∧ At b (off + i * sz) x
def IntAt (W : World) (b k : Nat) (x : Int) : Prop := W.cell? ⟨b, k, none⟩ = some (.int .i64 x)
def StrAt (W : World) (b k : Nat) (x : ByteArray) : Prop := W.cell? ⟨b, k, none⟩ = some (.string x)
def PartAt (W : World) (b k : Nat) (p : PartD) : Prop := W.cell? ⟨b, k, none⟩ = some (.string p.name) ∧ W.cell? ⟨b, k + 1, none⟩ = some (.int .i64 p.type)
def OverAt (W : World) (b k : Nat) (p : OverD) : Prop := W.cell? ⟨b, k, none⟩ = some (.string p.name) ∧ W.cell? ⟨b, k + 1, none⟩ = some (.string p.proc)
structure MethV (W : World) (va vr : Value) (m : MethD) : Prop where
  args : SliceOf 1 (IntAt W) va m.args
  raises : SliceOf 1 (StrAt W) vr m.raises
def MethAt (W : World) (b k : Nat) (m : MethD) : Prop :=
  ∃ va vr, MethV W va vr m ∧ W.cell? ⟨b, k, none⟩ = some (.string m.name) ∧ W.cell? ⟨b, k + 1, none⟩ = some va ∧ W.cell? ⟨b, k + 2, none⟩ = some (.int .i64 m.result) ∧
    W.cell? ⟨b, k + 3, none⟩ = some vr ∧ W.cell? ⟨b, k + 4, none⟩ = some (.string m.proc)
structure TyL (W : World) (vp vm vo : Value) (t : TyD) : Prop where
  parts : SliceOf 2 (PartAt W) vp t.parts
  meths : SliceOf 5 (MethAt W) vm t.meths
  overs : SliceOf 2 (OverAt W) vo t.overs
def TyAt (W : World) (b k : Nat) (t : TyD) : Prop :=
  ∃ vp vm vo, TyL W vp vm vo t ∧ W.cell? ⟨b, k, none⟩ = some (.int .u8 t.kind) ∧ W.cell? ⟨b, k + 1, none⟩ = some (.int .i64 t.low) ∧ W.cell? ⟨b, k + 2, none⟩ = some (.int .i64 t.high) ∧
    W.cell? ⟨b, k + 3, none⟩ = some (.bool t.branded) ∧ W.cell? ⟨b, k + 4, none⟩ = some (.string t.brand) ∧ W.cell? ⟨b, k + 5, none⟩ = some (.string t.opq) ∧ W.cell? ⟨b, k + 6, none⟩ = some (.int .i64 t.super) ∧
    W.cell? ⟨b, k + 7, none⟩ = some vp ∧ W.cell? ⟨b, k + 8, none⟩ = some vm ∧ W.cell? ⟨b, k + 9, none⟩ = some vo
abbrev GrAt (W : World) (v : Value) (G : List TyD) : Prop := SliceOf 10 (TyAt W) v G
theorem SliceOf.mono {α : Type} {sz : Nat} {At At' : Nat → Nat → α → Prop} {v : Value} {l : List α} (hA : ∀ b k x, x ∈ l → At b k x → At' b k x) (h : SliceOf sz At v l) : SliceOf sz At' v l := by
  obtain ⟨o, cap, rfl, h1, h2, h3⟩ := h
  refine ⟨o, cap, rfl, h1, h2, fun i x hx => ?_⟩
  obtain ⟨b, off, ho, ha⟩ := h3 i x hx
  exact ⟨b, off, ho, hA _ _ _ (List.mem_of_getElem? hx) ha⟩
def Holds (W W' : World) : Prop := ∀ a v, W.cell? a = some v → W'.cell? a = some v
theorem Holds.refl (W : World) : Holds W W := fun _ _ h => h
theorem Holds.trans {A B C : World} (h : Holds A B) (k : Holds B C) : Holds A C := fun a v hv => k a v (h a v hv)
theorem cell_lt {W : World} {a : Addr} {v : Value} (h : W.cell? a = some v) : a.block < W.heap.size := World.block_lt_of_cell? W a h
theorem Holds.below {W W' : World} (h : Below W.heap.size W W') : Holds W W' := fun a v hv => by
  rw [h.cell (p := a) (cell_lt hv)]; exact hv
theorem IntAt.go {W W' : World} (h : Holds W W') {b k : Nat} {x : Int} (hx : IntAt W b k x) : IntAt W' b k x := h _ _ hx
theorem StrAt.go {W W' : World} (h : Holds W W') {b k : Nat} {x : ByteArray} (hx : StrAt W b k x) : StrAt W' b k x := h _ _ hx
theorem PartAt.go {W W' : World} (h : Holds W W') {b k : Nat} {x : PartD} (hx : PartAt W b k x) : PartAt W' b k x := ⟨h _ _ hx.1, h _ _ hx.2⟩
theorem OverAt.go {W W' : World} (h : Holds W W') {b k : Nat} {x : OverD} (hx : OverAt W b k x) : OverAt W' b k x := ⟨h _ _ hx.1, h _ _ hx.2⟩
theorem MethV.go {W W' : World} (h : Holds W W') {va vr : Value} {m : MethD} (hx : MethV W va vr m) : MethV W' va vr m := ⟨hx.args.mono fun _ _ _ _ => IntAt.go h, hx.raises.mono fun _ _ _ _ => StrAt.go h⟩
theorem MethAt.go {W W' : World} (h : Holds W W') {b k : Nat} {x : MethD} (hx : MethAt W b k x) : MethAt W' b k x := by
  obtain ⟨va, vr, hv, h0, h1, h2, h3, h4⟩ := hx
  exact ⟨va, vr, hv.go h, h _ _ h0, h _ _ h1, h _ _ h2, h _ _ h3, h _ _ h4⟩
theorem TyL.go {W W' : World} (h : Holds W W') {vp vm vo : Value} {t : TyD} (hx : TyL W vp vm vo t) : TyL W' vp vm vo t :=
  ⟨hx.parts.mono fun _ _ _ _ => PartAt.go h, hx.meths.mono fun _ _ _ _ => MethAt.go h, hx.overs.mono fun _ _ _ _ => OverAt.go h⟩
theorem TyAt.go {W W' : World} (h : Holds W W') {b k : Nat} {x : TyD} (hx : TyAt W b k x) : TyAt W' b k x := by
  obtain ⟨vp, vm, vo, hl, h0, h1, h2, h3, h4, h5, h6, h7, h8, h9⟩ := hx
  exact ⟨vp, vm, vo, hl.go h, h _ _ h0, h _ _ h1, h _ _ h2, h _ _ h3, h _ _ h4, h _ _ h5, h _ _ h6, h _ _ h7, h _ _ h8, h _ _ h9⟩
theorem GrAt.go {W W' : World} (h : Holds W W') {v : Value} {G : List TyD} (hx : GrAt W v G) : GrAt W' v G := hx.mono fun _ _ _ _ => TyAt.go h
theorem GrAt.below {W W' : World} (h : Below W.heap.size W W') {v : Value} {G : List TyD} (hx : GrAt W v G) : GrAt W' v G := hx.go (.below h)
def Blk (w : World) (b : Nat) (cs : List Value) (t : TypeId) : Prop := w.heap[b]? = some (.cells cs.toArray t (0, 0))
theorem Blk.cell {w : World} {b : Nat} {cs : List Value} {t : TypeId} (h : Blk w b cs t) (i : Nat) : w.cell? ⟨b, i, none⟩ = cs[i]? := by
  unfold Blk at h; simp [World.cell?, h]
theorem Blk.frozen {w : World} {b : Nat} {cs : List Value} {t : TypeId} (h : Blk w b cs t) (i : Nat) : w.frozen? ⟨b, i, none⟩ = false := by
  unfold Blk at h; simp [World.frozen?, h]
theorem Blk.lt {w : World} {b : Nat} {cs : List Value} {t : TypeId} (h : Blk w b cs t) : b < w.heap.size := (Array.getElem?_eq_some_iff.1 h).1
theorem Blk.set {w : World} {b : Nat} {cs : List Value} {t : TypeId} (h : Blk w b cs t) (i : Nat) (v : Value) : Blk (w.setCell ⟨b, i, none⟩ v) b (cs.set i v) t := by
  have hlt := h.lt
  unfold Blk at *
  have h' : w.heap[b] = .cells cs.toArray t (0, 0) := by simpa [Array.getElem?_eq_getElem hlt] using h
  show (w.heap.modify b _)[b]? = _
  rw [Array.getElem?_eq_getElem (by simpa using hlt), Array.getElem_modify_self, h']
  simp
theorem Blk.drewN {w : World} {b : Nat} {cs : List Value} {t : TypeId} (h : Blk w b cs t) (n : Nat) : Blk (w.drewN n) b cs t := h
theorem Blk.drew {w : World} {b : Nat} {cs : List Value} {t : TypeId} (h : Blk w b cs t) : Blk w.drew b cs t := h
theorem Blk.below {w w' : World} {b B : Nat} {cs : List Value} {t : TypeId} (h : Blk w b cs t) (k : Below B w w') (hlt : b < B) : Blk w' b cs t := (k.block b hlt).trans h
theorem Blk.alloc {w : World} {b : Nat} {cs : List Value} {t : TypeId} (h : Blk w b cs t) (o : Obj) : Blk (w.alloc o) b cs t := (Below.heap_alloc _ _ _ h.lt).trans h
theorem Blk.new (w : World) (cs : List Value) (t : TypeId) : Blk (w.alloc (.cells cs.toArray t)) w.heap.size cs t := by
  unfold Blk; show (w.heap.push _)[w.heap.size]? = _; simp
theorem Blk.other {w : World} {b c : Nat} {cs : List Value} {t : TypeId} (h : Blk w b cs t) (i : Nat) (v : Value) (hne : b ≠ c) : Blk (w.setCell ⟨c, i, none⟩ v) b cs t := by
  unfold Blk at *
  show (w.heap.modify c _)[b]? = _
  rw [Array.getElem?_modify, if_neg (by omega)]; exact h
theorem quiet_left {P : Program} {f : FuncId} {args : Array Value} {w : World} {n : Nat} {v : Value}
    (h : Calls P f args (w.drewN n) fun e w' => e = .returned v ∧ w.drewN n = w') : Calls P f args (w.drewN n) fun e w'' => e = .returned v ∧ ∃ m, w'' = w.drewN m :=
  h.mono fun _ _ ⟨he, hm⟩ => ⟨he, n, hm.symm⟩
theorem below_drewN' {B : Nat} {w w' : World} (h : Below B w w') (n : Nat) : Below B w (w'.drewN n) := ⟨h.os, h.tape, h.output, h.size, h.block⟩
def Hide (p : Prop) : Prop := p
theorem hide {p : Prop} (h : p) : Hide p := h
theorem unhide {p : Prop} (h : Hide p) : p := h
theorem ret_bool {a b : Bool} (h : a = b) : Ending.returned (.bool a) = .returned (.bool b) := by rw [h]
theorem ret_int {k : IntKind} {a b : Int} (h : a = b) : Ending.returned (.int k a) = .returned (.int k b) := by rw [h]
end Go.Proofs.YteaokkaidcbdlaaGreatDoor

namespace Go.Proofs.YteaokkaidcbdlaaGreatDoor
open Go Go.RowKit Go.Shelf
def bs (s : ByteArray) : List UInt8 := s.data.toList
def allB (p : Int → Bool) (l : List UInt8) : Bool := l.all fun b => p b.toNat
def letB (c : Int) : Bool := decide (65 ≤ c ∧ c ≤ 90 ∨ 97 ≤ c ∧ c ≤ 122)
def digB (c : Int) : Bool := decide (48 ≤ c ∧ c ≤ 57)
def alnB (c : Int) : Bool := letB c || digB c
def brnB (c : Int) : Bool := decide (32 ≤ c ∧ c ≤ 126 ∧ c ≠ 34)
theorem isLetter_any (c : Int) (w : World) :
    Calls Tryz.prog 59 #[.int .u8 c] w fun e w' => e = .returned (.bool (letB c)) ∧ w = w' := by
  rcases (show c < 65 ∨ (65 ≤ c ∧ c ≤ 90) ∨ (90 < c ∧ c < 97) ∨ (97 ≤ c ∧ c ≤ 122) ∨ 122 < c by omega) with h | ⟨h, h'⟩ | ⟨h, h'⟩ | ⟨h, h'⟩ | h
  all_goals
    go_enter Tryz.func59, Tryz.ntmps59
    go_wp2
    go_ret
    exact ⟨ret_bool (by unfold letB; first | (symm; exact decide_eq_true (by omega)) | (symm; exact decide_eq_false (by omega)) | (rw [Bool.eq_iff_iff]; simp; omega)), rfl⟩
theorem isDigit_any (c : Int) (w : World) :
    Calls Tryz.prog 100 #[.int .u8 c] w fun e w' => e = .returned (.bool (digB c)) ∧ w = w' := by
  rcases (show c < 48 ∨ (48 ≤ c ∧ c ≤ 57) ∨ 57 < c by omega) with h | ⟨h, h'⟩ | h
  all_goals
    go_enter Tryz.func100, Tryz.ntmps100
    go_wp2
    go_ret
    exact ⟨ret_bool (by unfold digB; first | (symm; exact decide_eq_true (by omega)) | (symm; exact decide_eq_false (by omega)) | (rw [Bool.eq_iff_iff]; simp; omega)), rfl⟩
theorem bs_len (s : ByteArray) : (bs s).length = s.size := by simp [bs]
theorem bs_get (s : ByteArray) (k : Nat) (h : k < s.size) : (bs s)[k]? = some s[k] := by
  unfold bs; rw [List.getElem?_eq_getElem (by simpa using h)]; rfl
theorem bs_snoc (s : ByteArray) (k : Nat) (h : k < s.size) : (bs s).take (k + 1) = (bs s).take k ++ [s[k]] := by
  unfold bs; rw [List.take_succ_eq_append_getElem (by simpa using h)]; rfl
theorem bs_all (s : ByteArray) : (bs s).take s.size = bs s := List.take_of_length_le (by simp [bs])
theorem bs_ext {s t : ByteArray} (h : bs s = bs t) : s = t := by
  cases s; cases t; simp only [bs] at h; congr 1; exact Array.toList_inj.1 h
theorem bs_at (s : ByteArray) (k : Nat) (h : k < s.size) : (bs s).drop k = s[k] :: (bs s).drop (k + 1) := by
  rw [List.drop_eq_getElem_cons (by rw [bs_len]; exact h)]
  congr 1
theorem size_list' (s : ByteArray) : s.data.toList.length = s.size := by simp
theorem bs_take (s : ByteArray) (n : Nat) : bs (s.extract 0 n) = (bs s).take n := by unfold bs; rw [Lib.extract_data]; simp
theorem bs_drop (s : ByteArray) (n : Nat) : bs (s.extract n s.size) = (bs s).drop n := by unfold bs; rw [Lib.extract_data, List.take_of_length_le]; rw [List.length_drop, size_list']; exact Nat.le_refl _
theorem toList_bs (s : ByteArray) : s.toList = bs s := by unfold bs; exact Lib.toList_data s
theorem allB_no {p : Int → Bool} {s : ByteArray} {k : Nat} (h : k < s.size) (hp : p s[k].toNat = false) : allB p (bs s) = false := by
  unfold allB; rw [List.all_eq_false]; exact ⟨s[k], List.mem_of_getElem? (bs_get s k h), by simp [hp]⟩
theorem allB_snoc {p : Int → Bool} {l : List UInt8} {c : UInt8} (hp : p c.toNat = true) (h : allB p l = true) : allB p (l ++ [c]) = true := by
  unfold allB at *; rw [List.all_append, h]; simp [hp]
def spn (p : Int → Bool) : List UInt8 → Nat
  | [] => 0
  | c :: l => if p c.toNat then spn p l + 1 else 0
theorem spn_le (p : Int → Bool) (l : List UInt8) : spn p l ≤ l.length := by
  induction l with
  | nil => exact Nat.le_refl _
  | cons c l ih => unfold spn; split <;> simp <;> omega
theorem spn_at {p : Int → Bool} {s : ByteArray} {k : Nat} (h : k < s.size) (hp : p s[k].toNat = true) : spn p ((bs s).drop k) = spn p ((bs s).drop (k + 1)) + 1 := by
  rw [bs_at s k h]; show (if _ then _ else _) = _; rw [if_pos hp]
theorem spn_off {p : Int → Bool} {s : ByteArray} {k : Nat} (h : k < s.size) (hp : p s[k].toNat = false) : spn p ((bs s).drop k) = 0 := by
  rw [bs_at s k h]; show (if _ then _ else _) = _; rw [if_neg (by simp [hp])]
theorem allB_spn (p : Int → Bool) (l : List UInt8) : allB p l = decide (spn p l = l.length) := by
  induction l with
  | nil => rfl
  | cons c l ih =>
    have h := spn_le p l
    have e : spn p (c :: l) = if p c.toNat then spn p l + 1 else 0 := rfl
    have e2 : allB p (c :: l) = (p c.toNat && allB p l) := rfl
    rw [e, e2, ih]
    by_cases hc : p c.toNat = true
    · simp [hc]
    · have hc' : p c.toNat = false := by simpa using hc
      simp [hc']
theorem bs_pre (s : ByteArray) : s.extract 0 s.size = s := by apply bs_ext; rw [bs_take, List.take_of_length_le]; rw [bs_len]; exact Nat.le_refl _
theorem letters_any (s : ByteArray) (hs : s.size ≤ maxLen) (w : World) :
    Calls Tryz.prog 60 #[.string s] w fun e w' => e = .returned (.string (s.extract 0 (spn alnB (bs s)))) ∧ w = w' := by
  unfold maxLen at hs
  go_enter Tryz.func60, Tryz.ntmps60
  go_wp2
  go_loopw [6] (fun i wr => ∃ k : Nat, k ≤ s.size ∧ i = .int .i64 k ∧ wr = w ∧ spn alnB (bs s) = k + spn alnB ((bs s).drop k)) (fun i _ => s.size - (intOf i).toNat)
  case atStart => exact ⟨0, Nat.zero_le _, rfl, rfl, by simp⟩
  case round =>
    obtain ⟨k, hk, rfl, rfl, hf⟩ := hrel
    by_cases hlt : k < s.size
    · rcases hp : letB s[k].toNat with _ | _
      · rcases hq : digB s[k].toNat with _ | _
        · have HF := Lib.hid (show spn alnB (bs s) = k by rw [hf, spn_off hlt (by unfold alnB; rw [hp, hq]; rfl)]; rfl)
          clear hf
          go_wp2_with (first | (go_at_call 59; refine (isLetter_any _ _).mono ?_; rw [hp]; rintro e w' ⟨rfl, rfl⟩) | (go_at_call 100; refine (isDigit_any _ _).mono ?_; rw [hq]; rintro e w' ⟨rfl, rfl⟩))
          go_ret
          exact ⟨by rw [HF.out]; rfl, rfl⟩
        · have HF := Lib.hid (show spn alnB (bs s) = (k + 1) + spn alnB ((bs s).drop (k + 1)) by rw [hf, spn_at hlt (by unfold alnB; rw [hp, hq]; rfl)]; omega)
          clear hf
          go_wp2_with (first | (go_at_call 59; refine (isLetter_any _ _).mono ?_; rw [hp]; rintro e w' ⟨rfl, rfl⟩) | (go_at_call 100; refine (isDigit_any _ _).mono ?_; rw [hq]; rintro e w' ⟨rfl, rfl⟩))
          go_roundw
          case rel => exact ⟨k + 1, by omega, by go_num, trivial, HF.out⟩
          case measure => simp [intOf]; omega
      · have HF := Lib.hid (show spn alnB (bs s) = (k + 1) + spn alnB ((bs s).drop (k + 1)) by rw [hf, spn_at hlt (by unfold alnB; rw [hp]; rfl)]; omega)
        clear hf
        go_wp2_with (first | (go_at_call 59; refine (isLetter_any _ _).mono ?_; rw [hp]; rintro e w' ⟨rfl, rfl⟩) | (go_at_call 100; refine (isDigit_any _ _).mono ?_; rintro e w' ⟨rfl, rfl⟩))
        go_roundw
        case rel => exact ⟨k + 1, by omega, by go_num, trivial, HF.out⟩
        case measure => simp [intOf]; omega
    · obtain rfl : k = s.size := by omega
      have HF := Lib.hid (show spn alnB (bs s) = s.size by rw [hf, List.drop_eq_nil_of_le (by rw [bs_len]; exact Nat.le_refl _)]; rfl)
      go_wp2
      go_ret
      exact ⟨by rw [HF.out, bs_pre]; rfl, rfl⟩
def nameB (l : List UInt8) : Bool := match l with | [] => false | c :: _ => decide (l.length ≤ 12) && letB c.toNat && allB alnB l
theorem nameB_at (s : ByteArray) (h : 0 < s.size) : nameB (bs s) = (decide (s.size ≤ 12) && letB s[0].toNat && allB alnB (bs s)) := by
  have hc := bs_at s 0 h
  rw [List.drop_zero] at hc
  have hl := bs_len s
  unfold nameB
  split
  · rename_i he; rw [he] at hc; cases hc
  · rename_i c l he
    rw [he] at hc hl ⊢
    injection hc with h1 _
    rw [hl, h1]
theorem isName_any (s : ByteArray) (hs : s.size ≤ maxLen) (w : World) :
    Calls Tryz.prog 19 #[.string s] w fun e w' => e = .returned (.bool (nameB (bs s))) ∧ w = w' := by
  by_cases h0 : s.size = 0
  · have hb : bs s = [] := List.length_eq_zero_iff.1 (by rw [bs_len]; exact h0)
    have he : s.toList = [] := by rw [toList_bs]; exact hb
    go_enter Tryz.func19, Tryz.ntmps19
    go_wp2
    go_ret
    exact ⟨ret_bool (by rw [hb]; rfl), rfl⟩
  · have hz : s.toList.isEmpty = false := by
      rw [toList_bs, List.isEmpty_eq_false_iff]; intro h; exact h0 (by rw [← bs_len, h]; rfl)
    have HN := Lib.hid (nameB_at s (by omega))
    have hlt : 0 < s.size := by omega
    by_cases h12 : s.size ≤ 12
    · rcases hp : letB s[0].toNat with _ | _
      · go_enter Tryz.func19, Tryz.ntmps19
        go_wp2_with (first | (go_at_call 59; refine (isLetter_any _ _).mono ?_; rw [hp]; rintro e w' ⟨rfl, rfl⟩) )
        go_ret
        exact ⟨ret_bool (by rw [HN.out, hp]; simp), rfl⟩
      · have hl := letters_any s hs
        have hsp := spn_le alnB (bs s)
        rw [bs_len] at hsp
        by_cases ha : spn alnB (bs s) = s.size
        · rw [ha, bs_pre] at hl
          have HA := Lib.hid (show allB alnB (bs s) = true by rw [allB_spn, ha, bs_len]; simp)
          clear ha hsp
          have HL := hide hl
          clear hl
          go_enter Tryz.func19, Tryz.ntmps19
          go_wp2_with (first | (go_at_call 59; refine (isLetter_any _ _).mono ?_; rw [hp]; rintro e w' ⟨rfl, rfl⟩) | (go_at_call 60; refine (unhide HL _).mono ?_; rintro e w' ⟨rfl, rfl⟩))
          go_ret
          exact ⟨ret_bool (by rw [HN.out, hp, HA.out]; simp [h12]), rfl⟩
        · have HA := Lib.hid (show allB alnB (bs s) = false by rw [allB_spn, bs_len]; simpa using ha)
          have hts : (s.extract 0 (spn alnB (bs s))).size = spn alnB (bs s) := by rw [← bs_len, bs_take, List.length_take, bs_len]; omega
          rw [← hts] at ha
          revert ha hl
          generalize s.extract 0 (spn alnB (bs s)) = t
          intro hl ha
          have HL := hide hl
          clear hl
          have hne : ((t.size : Int) == s.size) = false := by simp; omega
          go_enter Tryz.func19, Tryz.ntmps19
          go_wp2_with (first | (go_at_call 59; refine (isLetter_any _ _).mono ?_; rw [hp]; rintro e w' ⟨rfl, rfl⟩) | (go_at_call 60; refine (unhide HL _).mono ?_; rintro e w' ⟨rfl, rfl⟩))
          go_ret
          exact ⟨ret_bool (by rw [HN.out, HA.out]; simp), rfl⟩
    · go_enter Tryz.func19, Tryz.ntmps19
      go_wp2
      go_ret
      exact ⟨ret_bool (by rw [HN.out]; simp [h12]), rfl⟩
def brandB (l : List UInt8) : Bool := decide (l.length ≤ 20) && allB brnB l
theorem isBrand_any (s : ByteArray) (hs : s.size ≤ maxLen) (w : World) :
    Calls Tryz.prog 272 #[.string s] w fun e w' => e = .returned (.bool (brandB (bs s))) ∧ w = w' := by
  unfold maxLen at hs
  by_cases h20 : s.size ≤ 20
  · have HN := Lib.hid (show brandB (bs s) = allB brnB (bs s) by unfold brandB; rw [bs_len]; simp [h20])
    go_enter Tryz.func272, Tryz.ntmps272
    go_wp2
    go_loopw [9] (fun i wr => ∃ k : Nat, k ≤ s.size ∧ i = .int .i64 k ∧ wr = w ∧ Hid (allB brnB ((bs s).take k) = true)) (fun i _ => s.size - (intOf i).toNat)
    case atStart => exact ⟨0, Nat.zero_le _, rfl, rfl, Lib.hid (by simp [allB])⟩
    case round =>
      obtain ⟨k, hk, rfl, rfl, HA⟩ := hrel
      by_cases hlt : k < s.size
      · have HT := Lib.hid (bs_snoc s k hlt)
        rcases (show (s[k].toNat : Int) < 32 ∨ (126 < (s[k].toNat : Int)) ∨ (s[k].toNat : Int) = 34 ∨ (32 ≤ (s[k].toNat : Int) ∧ (s[k].toNat : Int) ≤ 126 ∧ (s[k].toNat : Int) ≠ 34) by omega) with h | h | h | ⟨h1, h2, h3⟩
        · have HF := Lib.hid (allB_no hlt (show brnB s[k].toNat = false by unfold brnB; exact decide_eq_false (by omega)))
          go_wp2
          go_ret
          exact ⟨ret_bool (by rw [HN.out, HF.out]), rfl⟩
        · have HF := Lib.hid (allB_no hlt (show brnB s[k].toNat = false by unfold brnB; exact decide_eq_false (by omega)))
          go_wp2
          go_ret
          exact ⟨ret_bool (by rw [HN.out, HF.out]), rfl⟩
        · have HF := Lib.hid (allB_no hlt (show brnB s[k].toNat = false by unfold brnB; exact decide_eq_false (by omega)))
          go_wp2
          go_ret
          exact ⟨ret_bool (by rw [HN.out, HF.out]), rfl⟩
        · have HF := Lib.hid (show brnB s[k].toNat = true by unfold brnB; exact decide_eq_true (by omega))
          have hne : ((s[k].toNat : Int) == 34) = false := by simp; omega
          go_wp2
          go_roundw
          case rel => exact ⟨k + 1, by omega, by go_num, trivial, Lib.hid (by rw [HT.out]; exact allB_snoc HF.out HA.out)⟩
          case measure => simp [intOf]; omega
      · obtain rfl : k = s.size := by omega
        go_wp2
        go_ret
        exact ⟨ret_bool (by rw [HN.out]; have := HA.out; rw [bs_all] at this; exact this.symm), rfl⟩
  · go_enter Tryz.func272, Tryz.ntmps272
    go_wp2
    go_ret
    exact ⟨ret_bool (by unfold brandB; rw [bs_len]; simp [h20]), rfl⟩
end Go.Proofs.YteaokkaidcbdlaaGreatDoor

