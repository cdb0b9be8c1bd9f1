/- What the methods of a scanner's cursor do, wherever the scanner lies; a source no longer than an int can count. -/
import Derived.Test.YteknngncnbfbnaaGreatDoorBa
import Derived.Tactics
import Derived.Tactics2
import Derived.WalkKit
import Derived.LoopTactic
import Derived.Outline
import Derived.Lib.Hide
import Derived.Handy
import Derived.KernelRfl
import Derived.Deep.LoopGhost
import Derived.CallsIn
import Derived.Deep.QuietTactic
import Derived.BigQuiet
import Derived.Deep.Draws
import Derived.WalkSpells
import Derived.Lib.Walk
import Derived.Lib.Strings
namespace Go.Proofs.YteknngncnbfbnaaGreatDoor
open Go Go.RowKit

theorem quiet_left {P : Program} {f : FuncId} {args : Array Value} {w : World} {n : Nat} {v : Value}
    (h : Calls P f args (w.drewN n) fun e w' => e = .returned v ∧ w.drewN n = w') : Calls P f args (w.drewN n) fun e w'' => e = .returned v ∧ ∃ m, w'' = w.drewN m :=
  h.mono fun _ _ ⟨he, hm⟩ => ⟨he, n, hm.symm⟩

/-- Nothing that lay in w has turned but (perhaps) block b; new blocks may have come. -/
structure Sk (b : Nat) (w w' : World) : Prop where
  os : w'.os = w.os
  tape : w'.tape = w.tape
  output : w'.output = w.output
  size : w.heap.size ≤ w'.heap.size
  block : ∀ k, k < w.heap.size → k ≠ b → w'.heap[k]? = w.heap[k]?
theorem Sk.refl (b : Nat) (w : World) : Sk b w w := ⟨rfl, rfl, rfl, Nat.le_refl _, fun _ _ _ => rfl⟩
theorem Sk.trans {b : Nat} {x y z : World} (h : Sk b x y) (k : Sk b y z) : Sk b x z :=
  ⟨k.os.trans h.os, k.tape.trans h.tape, k.output.trans h.output, Nat.le_trans h.size k.size, fun i hi hb => (k.block i (Nat.lt_of_lt_of_le hi h.size) hb).trans (h.block i hi hb)⟩
theorem Sk.drewN (b : Nat) (w : World) (n : Nat) : Sk b w (w.drewN n) := ⟨rfl, rfl, rfl, Nat.le_refl _, fun _ _ _ => rfl⟩
theorem Sk.drew (b : Nat) (w : World) : Sk b w w.drew := ⟨rfl, rfl, rfl, Nat.le_refl _, fun _ _ _ => rfl⟩
theorem Sk.setCell (b : Nat) (w : World) (i : Nat) (v : Value) : Sk b w (w.setCell ⟨b, i, none⟩ v) :=
  ⟨rfl, rfl, rfl, by simp, fun k _ hk => Below.heap_setCell _ _ _ _ hk⟩
theorem Sk.alloc (b : Nat) (w : World) (o : Obj) : Sk b w (w.alloc o) := ⟨rfl, rfl, rfl, by simp, fun k hk _ => Below.heap_alloc _ _ _ hk⟩
theorem Sk.below {b : Nat} {w w' : World} (h : Below w.heap.size w w') : Sk b w w' := ⟨h.os, h.tape, h.output, h.size, fun k hk _ => h.block k hk⟩
theorem Sk.grown {b : Nat} {w w' : World} {row : Option Nat} (h : w.grownBy w' row) (hr : ∀ k, row = some k → k = b ∨ w.heap.size ≤ k) : Sk b w w' :=
  ⟨h.os, h.tape, h.output, h.size, fun k hk hb => h.block k hk (fun e => by rcases hr k e.symm with h | h <;> omega)⟩
/-- What was made behind w is new: below w's size nothing has turned where block b is itself new. -/
theorem Sk.isBelow {b : Nat} {w w' w0 : World} (h0 : Below w0.heap.size w0 w) (h : Sk b w w') (hb : w0.heap.size ≤ b) : Below w0.heap.size w0 w' :=
  h0.trans ⟨h.os, h.tape, h.output, h.size, fun k hk => h.block k (Nat.lt_of_lt_of_le hk h0.size) (by omega)⟩

/-- A whole block of cells, not frozen. -/
def Blk (w : World) (b : Nat) (cs : List Value) (t : TypeId) : Prop := w.heap[b]? = some (.cells cs.toArray t (0, 0))
theorem Blk.cell {w : World} {b : Nat} {cs : List Value} {t : TypeId} (h : Blk w b cs t) (i : Nat) : w.cell? ⟨b, i, none⟩ = cs[i]? := by
  unfold Blk at h; simp [World.cell?, h]
theorem Blk.frozen {w : World} {b : Nat} {cs : List Value} {t : TypeId} (h : Blk w b cs t) (i : Nat) : w.frozen? ⟨b, i, none⟩ = false := by
  unfold Blk at h; simp [World.frozen?, h]
theorem Blk.lt {w : World} {b : Nat} {cs : List Value} {t : TypeId} (h : Blk w b cs t) : b < w.heap.size := (Array.getElem?_eq_some_iff.1 h).1
theorem Blk.set {w : World} {b : Nat} {cs : List Value} {t : TypeId} (h : Blk w b cs t) (i : Nat) (v : Value) : Blk (w.setCell ⟨b, i, none⟩ v) b (cs.set i v) t := by
  have hlt := h.lt
  unfold Blk at *
  have h' : w.heap[b] = .cells cs.toArray t (0, 0) := by simpa [Array.getElem?_eq_getElem hlt] using h
  show (w.heap.modify b _)[b]? = _
  rw [Array.getElem?_eq_getElem (by simpa using hlt), Array.getElem_modify_self, h']
  simp
theorem Blk.drewN {w : World} {b : Nat} {cs : List Value} {t : TypeId} (h : Blk w b cs t) (n : Nat) : Blk (w.drewN n) b cs t := h
theorem Blk.drew {w : World} {b : Nat} {cs : List Value} {t : TypeId} (h : Blk w b cs t) : Blk w.drew b cs t := h
theorem Blk.sk {w w' : World} {b b' : Nat} {cs : List Value} {t : TypeId} (h : Blk w b cs t) (k : Sk b' w w') (hne : b ≠ b') : Blk w' b cs t := (k.block b h.lt hne).trans h
theorem Blk.below {w w' : World} {b B : Nat} {cs : List Value} {t : TypeId} (h : Blk w b cs t) (k : Below B w w') (hlt : b < B) : Blk w' b cs t := (k.block b hlt).trans h
theorem Blk.alloc {w : World} {b : Nat} {cs : List Value} {t : TypeId} (h : Blk w b cs t) (o : Obj) : Blk (w.alloc o) b cs t := (Below.heap_alloc _ _ _ h.lt).trans h
theorem Blk.new (w : World) (cs : List Value) (t : TypeId) : Blk (w.alloc (.cells cs.toArray t)) w.heap.size cs t := by
  unfold Blk; show (w.heap.push _)[w.heap.size]? = _; simp

/-- THE SCANNER's BLOCK: source, place, beginning of the piece, words, signs. -/
def Sc (w : World) (b : Nat) (s : ByteArray) (k fr : Nat) (m g : Value) : Prop := Blk w b [.string s, .int .i64 k, .int .i64 fr, m, g] 106

/-- 'done', at a cursor that lies in a block. -/
def endB (k n : Nat) : Bool := k == n
theorem done_any (b : Nat) (s : ByteArray) (k : Nat) (w : World) (h0 : w.cell? ⟨b, 0, none⟩ = some (.string s)) (h1 : w.cell? ⟨b, 1, none⟩ = some (.int .i64 k)) :
    Calls Tryz.prog 85 #[.pointer (some ⟨b, 0, none⟩)] w fun e w' => e = .returned (.bool (endB k s.size)) ∧ ∃ n, w' = w.drewN n := by
  go_enter Tryz.func85, Tryz.ntmps85
  go_wp2
  go_quiet (fail)
  go_wp2
  go_ret
  exact ⟨ret_bool (by unfold endB; rw [Bool.eq_iff_iff]; simp; try omega), _, rfl⟩

def preB (s t : List UInt8) : Bool := t.isPrefixOf s
theorem size_list' (s : ByteArray) : s.data.toList.length = s.size := by simp
theorem bs_take (s : ByteArray) (n : Nat) : bs (s.extract 0 n) = (bs s).take n := by unfold bs; rw [Lib.extract_data]; simp
theorem bs_drop (s : ByteArray) (n : Nat) : bs (s.extract n s.size) = (bs s).drop n := by unfold bs; rw [Lib.extract_data, List.take_of_length_le]; rw [List.length_drop, size_list']; exact Nat.le_refl _
theorem preB_no {s t : ByteArray} (h : s.size < t.size) : preB (bs s) (bs t) = false := by
  unfold preB
  rw [Bool.eq_false_iff]
  intro hp
  have := (List.isPrefixOf_iff_prefix.1 hp).length_le
  rw [bs_len, bs_len] at this
  omega
theorem toList_bs (s : ByteArray) : s.toList = bs s := by unfold bs; exact Lib.toList_data s
theorem preB_yes (s t : ByteArray) : ((s.extract 0 t.size).toList == t.toList) = preB (bs s) (bs t) := by
  rw [toList_bs, toList_bs, bs_take]
  unfold preB
  rw [Bool.eq_iff_iff, beq_iff_eq, List.isPrefixOf_iff_prefix, List.prefix_iff_eq_take, bs_len]
  exact eq_comm
theorem hp2_any (s t : ByteArray) (w : World) :
    Calls Tryz.prog 150 #[.string s, .string t] w fun e w' => e = .returned (.bool (preB (bs s) (bs t))) ∧ w = w' := by
  by_cases h : t.size ≤ s.size
  · go_enter Tryz.func150, Tryz.ntmps150
    go_wp2
    go_ret
    exact ⟨ret_bool (preB_yes s t), rfl⟩
  · go_enter Tryz.func150, Tryz.ntmps150
    go_wp2
    go_ret
    exact ⟨ret_bool (preB_no (by omega)).symm, rfl⟩
theorem hp1_any (s t : ByteArray) (w : World) :
    Calls Tryz.prog 149 #[.string s, .string t] w fun e w' => e = .returned (.bool (preB (bs s) (bs t))) ∧ w = w' := by
  go_enter Tryz.func149, Tryz.ntmps149
  go_wp2_with (go_at_call 150; refine (hp2_any _ _ _).mono ?_; rintro e w' ⟨rfl, rfl⟩)
  go_ret
  exact ⟨rfl, rfl⟩
theorem sees_any (b : Nat) (s t : ByteArray) (k : Nat) (hk : k ≤ s.size) (w : World) (h0 : w.cell? ⟨b, 0, none⟩ = some (.string s)) (h1 : w.cell? ⟨b, 1, none⟩ = some (.int .i64 k)) :
    Calls Tryz.prog 148 #[.pointer (some ⟨b, 0, none⟩), .string t] w fun e w' => e = .returned (.bool (preB ((bs s).drop k) (bs t))) ∧ ∃ n, w' = w.drewN n := by
  rw [← bs_drop]
  go_enter Tryz.func148, Tryz.ntmps148
  go_wp2
  go_quiet ((go_at_call 149; exact quiet_left (hp1_any _ _ _)))
  go_wp2
  go_ret
  exact ⟨rfl, _, rfl⟩

theorem cell0 {w : World} {b : Nat} {s : ByteArray} {k fr : Nat} {m g : Value} (h : Sc w b s k fr m g) : w.cell? ⟨b, 0, none⟩ = some (.string s) := Blk.cell h 0
theorem cell1 {w : World} {b : Nat} {s : ByteArray} {k fr : Nat} {m g : Value} (h : Sc w b s k fr m g) : w.cell? ⟨b, 1, none⟩ = some (.int .i64 k) := Blk.cell h 1
theorem cell2 {w : World} {b : Nat} {s : ByteArray} {k fr : Nat} {m g : Value} (h : Sc w b s k fr m g) : w.cell? ⟨b, 2, none⟩ = some (.int .i64 fr) := Blk.cell h 2
theorem cell3 {w : World} {b : Nat} {s : ByteArray} {k fr : Nat} {m g : Value} (h : Sc w b s k fr m g) : w.cell? ⟨b, 3, none⟩ = some m := Blk.cell h 3
theorem cell4 {w : World} {b : Nat} {s : ByteArray} {k fr : Nat} {m g : Value} (h : Sc w b s k fr m g) : w.cell? ⟨b, 4, none⟩ = some g := Blk.cell h 4
theorem Sc.drewN {w : World} {b : Nat} {s : ByteArray} {k fr : Nat} {m g : Value} (h : Sc w b s k fr m g) (n : Nat) : Sc (w.drewN n) b s k fr m g := h
theorem Sc.at_ {w : World} {b : Nat} {s : ByteArray} {k fr : Nat} {m g : Value} (h : Sc w b s k fr m g) (j : Nat) : Sc (w.setCell ⟨b, 1, none⟩ (.int .i64 j)) b s j fr m g := Blk.set h 1 _
theorem Sc.from_ {w : World} {b : Nat} {s : ByteArray} {k fr : Nat} {m g : Value} (h : Sc w b s k fr m g) (j : Nat) : Sc (w.setCell ⟨b, 2, none⟩ (.int .i64 j)) b s k j m g := Blk.set h 2 _

/-- The next byte has the property. -/
def onB (p : Int → Bool) (l : List UInt8) : Bool := match l with | [] => false | c :: _ => p c.toNat
theorem onB_end {p : Int → Bool} {s : ByteArray} {k : Nat} (h : s.size ≤ k) : onB p ((bs s).drop k) = false := by
  rw [List.drop_eq_nil_of_le (by rw [bs_len]; exact h)]; rfl
theorem bs_at (s : ByteArray) (k : Nat) (h : k < s.size) : (bs s).drop k = s[k] :: (bs s).drop (k + 1) := by
  rw [List.drop_eq_getElem_cons (by rw [bs_len]; exact h)]
  congr 1
theorem onB_at {p : Int → Bool} {s : ByteArray} {k : Nat} (h : k < s.size) : onB p ((bs s).drop k) = p s[k].toNat := by
  rw [bs_at s k h]; rfl

theorem on_blk (b : Nat) (s : ByteArray) (k : Nat) (hk : k ≤ s.size) (w : World) (h0 : w.cell? ⟨b, 0, none⟩ = some (.string s)) (h1 : w.cell? ⟨b, 1, none⟩ = some (.int .i64 k)) :
    Calls Tryz.prog 143 #[.pointer (some ⟨b, 0, none⟩), .func (.func 142) #[] #[]] w fun e w' => e = .returned (.bool (onB blkB ((bs s).drop k))) ∧ ∃ n, w' = w.drewN n := by
  by_cases hlt : k < s.size
  · have hd := done_any b s k
    have hf : endB k s.size = false := by unfold endB; simp; omega
    rw [hf] at hd
    clear hf
    go_enter Tryz.func143, Tryz.ntmps143
    go_wp2
    go_quiet (first | (go_at_call 85; exact Calls.quiet_of (hd _ h0 h1)) | (go_at_call 142; exact quiet_left (blank1_any _ _)))
    go_wp2
    go_ret
    exact ⟨ret_bool (onB_at hlt).symm, _, rfl⟩
  · have hd := done_any b s k
    have hf : endB k s.size = true := by unfold endB; simp; omega
    rw [hf] at hd
    clear hf
    go_enter Tryz.func143, Tryz.ntmps143
    go_wp2
    go_quiet (first | (go_at_call 85; exact Calls.quiet_of (hd _ h0 h1)) | (go_at_call 142; exact quiet_left (blank1_any _ _)))
    go_wp2
    go_ret
    exact ⟨ret_bool (onB_end (by omega)).symm, _, rfl⟩

theorem on_let (b : Nat) (s : ByteArray) (k : Nat) (hk : k ≤ s.size) (w : World) (h0 : w.cell? ⟨b, 0, none⟩ = some (.string s)) (h1 : w.cell? ⟨b, 1, none⟩ = some (.int .i64 k)) :
    Calls Tryz.prog 143 #[.pointer (some ⟨b, 0, none⟩), .func (.func 46) #[] #[]] w fun e w' => e = .returned (.bool (onB letB ((bs s).drop k))) ∧ ∃ n, w' = w.drewN n := by
  by_cases hlt : k < s.size
  · have hd := done_any b s k
    have hf : endB k s.size = false := by unfold endB; simp; omega
    rw [hf] at hd
    clear hf
    go_enter Tryz.func143, Tryz.ntmps143
    go_wp2
    go_quiet (first | (go_at_call 85; exact Calls.quiet_of (hd _ h0 h1)) | (go_at_call 46; exact quiet_left (isLetter_any _ _)))
    go_wp2
    go_ret
    exact ⟨ret_bool (onB_at hlt).symm, _, rfl⟩
  · have hd := done_any b s k
    have hf : endB k s.size = true := by unfold endB; simp; omega
    rw [hf] at hd
    clear hf
    go_enter Tryz.func143, Tryz.ntmps143
    go_wp2
    go_quiet (first | (go_at_call 85; exact Calls.quiet_of (hd _ h0 h1)) | (go_at_call 46; exact quiet_left (isLetter_any _ _)))
    go_wp2
    go_ret
    exact ⟨ret_bool (onB_end (by omega)).symm, _, rfl⟩

theorem on_aln (b : Nat) (s : ByteArray) (k : Nat) (hk : k ≤ s.size) (w : World) (h0 : w.cell? ⟨b, 0, none⟩ = some (.string s)) (h1 : w.cell? ⟨b, 1, none⟩ = some (.int .i64 k)) :
    Calls Tryz.prog 143 #[.pointer (some ⟨b, 0, none⟩), .func (.func 48) #[] #[]] w fun e w' => e = .returned (.bool (onB alnB ((bs s).drop k))) ∧ ∃ n, w' = w.drewN n := by
  by_cases hlt : k < s.size
  · have hd := done_any b s k
    have hf : endB k s.size = false := by unfold endB; simp; omega
    rw [hf] at hd
    clear hf
    go_enter Tryz.func143, Tryz.ntmps143
    go_wp2
    go_quiet (first | (go_at_call 85; exact Calls.quiet_of (hd _ h0 h1)) | (go_at_call 48; exact quiet_left (isLetterOrDigit_any _ _)))
    go_wp2
    go_ret
    exact ⟨ret_bool (onB_at hlt).symm, _, rfl⟩
  · have hd := done_any b s k
    have hf : endB k s.size = true := by unfold endB; simp; omega
    rw [hf] at hd
    clear hf
    go_enter Tryz.func143, Tryz.ntmps143
    go_wp2
    go_quiet (first | (go_at_call 85; exact Calls.quiet_of (hd _ h0 h1)) | (go_at_call 48; exact quiet_left (isLetterOrDigit_any _ _)))
    go_wp2
    go_ret
    exact ⟨ret_bool (onB_end (by omega)).symm, _, rfl⟩

theorem on_dig (b : Nat) (s : ByteArray) (k : Nat) (hk : k ≤ s.size) (w : World) (h0 : w.cell? ⟨b, 0, none⟩ = some (.string s)) (h1 : w.cell? ⟨b, 1, none⟩ = some (.int .i64 k)) :
    Calls Tryz.prog 143 #[.pointer (some ⟨b, 0, none⟩), .func (.func 76) #[] #[]] w fun e w' => e = .returned (.bool (onB digB ((bs s).drop k))) ∧ ∃ n, w' = w.drewN n := by
  by_cases hlt : k < s.size
  · have hd := done_any b s k
    have hf : endB k s.size = false := by unfold endB; simp; omega
    rw [hf] at hd
    clear hf
    go_enter Tryz.func143, Tryz.ntmps143
    go_wp2
    go_quiet (first | (go_at_call 85; exact Calls.quiet_of (hd _ h0 h1)) | (go_at_call 76; exact quiet_left (isDigit_any _ _)))
    go_wp2
    go_ret
    exact ⟨ret_bool (onB_at hlt).symm, _, rfl⟩
  · have hd := done_any b s k
    have hf : endB k s.size = true := by unfold endB; simp; omega
    rw [hf] at hd
    clear hf
    go_enter Tryz.func143, Tryz.ntmps143
    go_wp2
    go_quiet (first | (go_at_call 85; exact Calls.quiet_of (hd _ h0 h1)) | (go_at_call 76; exact quiet_left (isDigit_any _ _)))
    go_wp2
    go_ret
    exact ⟨ret_bool (onB_end (by omega)).symm, _, rfl⟩

theorem on_txt (b : Nat) (s : ByteArray) (k : Nat) (hk : k ≤ s.size) (w : World) (h0 : w.cell? ⟨b, 0, none⟩ = some (.string s)) (h1 : w.cell? ⟨b, 1, none⟩ = some (.int .i64 k)) :
    Calls Tryz.prog 143 #[.pointer (some ⟨b, 0, none⟩), .func (.func 147) #[] #[]] w fun e w' => e = .returned (.bool (onB txtB ((bs s).drop k))) ∧ ∃ n, w' = w.drewN n := by
  by_cases hlt : k < s.size
  · have hd := done_any b s k
    have hf : endB k s.size = false := by unfold endB; simp; omega
    rw [hf] at hd
    clear hf
    go_enter Tryz.func143, Tryz.ntmps143
    go_wp2
    go_quiet (first | (go_at_call 85; exact Calls.quiet_of (hd _ h0 h1)) | (go_at_call 147; exact quiet_left (text1_any _ _)))
    go_wp2
    go_ret
    exact ⟨ret_bool (onB_at hlt).symm, _, rfl⟩
  · have hd := done_any b s k
    have hf : endB k s.size = true := by unfold endB; simp; omega
    rw [hf] at hd
    clear hf
    go_enter Tryz.func143, Tryz.ntmps143
    go_wp2
    go_quiet (first | (go_at_call 85; exact Calls.quiet_of (hd _ h0 h1)) | (go_at_call 147; exact quiet_left (text1_any _ _)))
    go_wp2
    go_ret
    exact ⟨ret_bool (onB_end (by omega)).symm, _, rfl⟩

/-- How many bytes have the property, from the beginning on. -/
def spn (p : Int → Bool) : List UInt8 → Nat
  | [] => 0
  | c :: l => if p c.toNat then spn p l + 1 else 0
theorem spn_at {p : Int → Bool} {s : ByteArray} {k : Nat} (h : k < s.size) (hp : p s[k].toNat = true) : spn p ((bs s).drop k) = spn p ((bs s).drop (k + 1)) + 1 := by
  rw [bs_at s k h]; simp [spn, hp]
theorem spn_off {p : Int → Bool} {s : ByteArray} {k : Nat} (h : onB p ((bs s).drop k) = false) : spn p ((bs s).drop k) = 0 := by
  generalize (bs s).drop k = l at *
  cases l with
  | nil => rfl
  | cons c l => simp only [onB] at h; simp [spn, h]
theorem on_lt {p : Int → Bool} {s : ByteArray} {k : Nat} (h : onB p ((bs s).drop k) = true) : k < s.size := by
  rcases Nat.lt_or_ge k s.size with h' | h'
  · exact h'
  · rw [onB_end h'] at h; cases h
theorem spn_le (p : Int → Bool) (l : List UInt8) : spn p l ≤ l.length := by
  induction l with
  | nil => simp [spn]
  | cons c l ih => unfold spn; split <;> simp; omega
theorem spn_end (p : Int → Bool) (s : ByteArray) (k : Nat) (hk : k ≤ s.size) : k + spn p ((bs s).drop k) ≤ s.size := by
  have := spn_le p ((bs s).drop k)
  rw [List.length_drop, bs_len] at this
  omega

theorem over_blk (b : Nat) (s : ByteArray) (k fr : Nat) (m g : Value) (hk : k ≤ s.size) (hs : s.size ≤ 9223372036854775807) (w : World) (hS : Sc w b s k fr m g) :
    Calls Tryz.prog 144 #[.pointer (some ⟨b, 0, none⟩), .func (.func 142) #[] #[]] w fun e w' => e = .returned (.tuple #[]) ∧ Sc w' b s (k + spn blkB ((bs s).drop k)) fr m g ∧ Sk b w w' := by
  go_enter Tryz.func144, Tryz.ntmps144
  go_wp2
  go_loopg [] (s.size - k) (fun n wr => ∃ j, n = s.size - j ∧ j ≤ s.size ∧ Sc wr b s j fr m g ∧ Sk b w wr ∧ Hid (k + spn blkB ((bs s).drop k) = j + spn blkB ((bs s).drop j)))
  case atStart => exact ⟨k, rfl, hk, hS, Sk.refl _ _, Lib.hid rfl⟩
  case round =>
    obtain ⟨j, rfl, hj, hS', hK, HE⟩ := hrel
    have h0 := cell0 hS'
    have h1 := cell1 hS'
    have hfz := Blk.frozen hS' 1
    rcases hon : onB blkB ((bs s).drop j) with _ | _
    · have hc := on_blk b s j hj
      rw [hon] at hc
      have HON := Lib.hid hon
      clear hon
      go_wp2_with (go_at_call 143; refine (hc _ h0 h1).mono ?_; rintro e w' ⟨rfl, n, rfl⟩)
      go_end0
      exact ⟨rfl, by rw [HE.out, spn_off HON.out]; exact hS'.drewN _, hK.trans (Sk.drewN _ _ _)⟩
    · have hlt := on_lt hon
      have hc := on_blk b s j hj
      rw [hon] at hc
      rw [onB_at hlt] at hon
      have HON := Lib.hid hon
      clear hon
      go_wp2_with (go_at_call 143; refine (hc _ h0 h1).mono ?_; rintro e w' ⟨rfl, n, rfl⟩)
      go_roundg (s.size - (j + 1))
      case measure => omega
      case rel =>
        refine ⟨j + 1, rfl, by omega, ?_, (hK.trans (Sk.drewN _ _ n)).trans (Sk.setCell _ _ _ _), Lib.hid (by rw [HE.out, spn_at hlt HON.out]; omega)⟩
        have := (hS'.drewN n).at_ (j + 1)
        simpa using this

theorem over_aln (b : Nat) (s : ByteArray) (k fr : Nat) (m g : Value) (hk : k ≤ s.size) (hs : s.size ≤ 9223372036854775807) (w : World) (hS : Sc w b s k fr m g) :
    Calls Tryz.prog 144 #[.pointer (some ⟨b, 0, none⟩), .func (.func 48) #[] #[]] w fun e w' => e = .returned (.tuple #[]) ∧ Sc w' b s (k + spn alnB ((bs s).drop k)) fr m g ∧ Sk b w w' := by
  go_enter Tryz.func144, Tryz.ntmps144
  go_wp2
  go_loopg [] (s.size - k) (fun n wr => ∃ j, n = s.size - j ∧ j ≤ s.size ∧ Sc wr b s j fr m g ∧ Sk b w wr ∧ Hid (k + spn alnB ((bs s).drop k) = j + spn alnB ((bs s).drop j)))
  case atStart => exact ⟨k, rfl, hk, hS, Sk.refl _ _, Lib.hid rfl⟩
  case round =>
    obtain ⟨j, rfl, hj, hS', hK, HE⟩ := hrel
    have h0 := cell0 hS'
    have h1 := cell1 hS'
    have hfz := Blk.frozen hS' 1
    rcases hon : onB alnB ((bs s).drop j) with _ | _
    · have hc := on_aln b s j hj
      rw [hon] at hc
      have HON := Lib.hid hon
      clear hon
      go_wp2_with (go_at_call 143; refine (hc _ h0 h1).mono ?_; rintro e w' ⟨rfl, n, rfl⟩)
      go_end0
      exact ⟨rfl, by rw [HE.out, spn_off HON.out]; exact hS'.drewN _, hK.trans (Sk.drewN _ _ _)⟩
    · have hlt := on_lt hon
      have hc := on_aln b s j hj
      rw [hon] at hc
      rw [onB_at hlt] at hon
      have HON := Lib.hid hon
      clear hon
      go_wp2_with (go_at_call 143; refine (hc _ h0 h1).mono ?_; rintro e w' ⟨rfl, n, rfl⟩)
      go_roundg (s.size - (j + 1))
      case measure => omega
      case rel =>
        refine ⟨j + 1, rfl, by omega, ?_, (hK.trans (Sk.drewN _ _ n)).trans (Sk.setCell _ _ _ _), Lib.hid (by rw [HE.out, spn_at hlt HON.out]; omega)⟩
        have := (hS'.drewN n).at_ (j + 1)
        simpa using this

theorem over_dig (b : Nat) (s : ByteArray) (k fr : Nat) (m g : Value) (hk : k ≤ s.size) (hs : s.size ≤ 9223372036854775807) (w : World) (hS : Sc w b s k fr m g) :
    Calls Tryz.prog 144 #[.pointer (some ⟨b, 0, none⟩), .func (.func 76) #[] #[]] w fun e w' => e = .returned (.tuple #[]) ∧ Sc w' b s (k + spn digB ((bs s).drop k)) fr m g ∧ Sk b w w' := by
  go_enter Tryz.func144, Tryz.ntmps144
  go_wp2
  go_loopg [] (s.size - k) (fun n wr => ∃ j, n = s.size - j ∧ j ≤ s.size ∧ Sc wr b s j fr m g ∧ Sk b w wr ∧ Hid (k + spn digB ((bs s).drop k) = j + spn digB ((bs s).drop j)))
  case atStart => exact ⟨k, rfl, hk, hS, Sk.refl _ _, Lib.hid rfl⟩
  case round =>
    obtain ⟨j, rfl, hj, hS', hK, HE⟩ := hrel
    have h0 := cell0 hS'
    have h1 := cell1 hS'
    have hfz := Blk.frozen hS' 1
    rcases hon : onB digB ((bs s).drop j) with _ | _
    · have hc := on_dig b s j hj
      rw [hon] at hc
      have HON := Lib.hid hon
      clear hon
      go_wp2_with (go_at_call 143; refine (hc _ h0 h1).mono ?_; rintro e w' ⟨rfl, n, rfl⟩)
      go_end0
      exact ⟨rfl, by rw [HE.out, spn_off HON.out]; exact hS'.drewN _, hK.trans (Sk.drewN _ _ _)⟩
    · have hlt := on_lt hon
      have hc := on_dig b s j hj
      rw [hon] at hc
      rw [onB_at hlt] at hon
      have HON := Lib.hid hon
      clear hon
      go_wp2_with (go_at_call 143; refine (hc _ h0 h1).mono ?_; rintro e w' ⟨rfl, n, rfl⟩)
      go_roundg (s.size - (j + 1))
      case measure => omega
      case rel =>
        refine ⟨j + 1, rfl, by omega, ?_, (hK.trans (Sk.drewN _ _ n)).trans (Sk.setCell _ _ _ _), Lib.hid (by rw [HE.out, spn_at hlt HON.out]; omega)⟩
        have := (hS'.drewN n).at_ (j + 1)
        simpa using this

theorem over_txt (b : Nat) (s : ByteArray) (k fr : Nat) (m g : Value) (hk : k ≤ s.size) (hs : s.size ≤ 9223372036854775807) (w : World) (hS : Sc w b s k fr m g) :
    Calls Tryz.prog 144 #[.pointer (some ⟨b, 0, none⟩), .func (.func 147) #[] #[]] w fun e w' => e = .returned (.tuple #[]) ∧ Sc w' b s (k + spn txtB ((bs s).drop k)) fr m g ∧ Sk b w w' := by
  go_enter Tryz.func144, Tryz.ntmps144
  go_wp2
  go_loopg [] (s.size - k) (fun n wr => ∃ j, n = s.size - j ∧ j ≤ s.size ∧ Sc wr b s j fr m g ∧ Sk b w wr ∧ Hid (k + spn txtB ((bs s).drop k) = j + spn txtB ((bs s).drop j)))
  case atStart => exact ⟨k, rfl, hk, hS, Sk.refl _ _, Lib.hid rfl⟩
  case round =>
    obtain ⟨j, rfl, hj, hS', hK, HE⟩ := hrel
    have h0 := cell0 hS'
    have h1 := cell1 hS'
    have hfz := Blk.frozen hS' 1
    rcases hon : onB txtB ((bs s).drop j) with _ | _
    · have hc := on_txt b s j hj
      rw [hon] at hc
      have HON := Lib.hid hon
      clear hon
      go_wp2_with (go_at_call 143; refine (hc _ h0 h1).mono ?_; rintro e w' ⟨rfl, n, rfl⟩)
      go_end0
      exact ⟨rfl, by rw [HE.out, spn_off HON.out]; exact hS'.drewN _, hK.trans (Sk.drewN _ _ _)⟩
    · have hlt := on_lt hon
      have hc := on_txt b s j hj
      rw [hon] at hc
      rw [onB_at hlt] at hon
      have HON := Lib.hid hon
      clear hon
      go_wp2_with (go_at_call 143; refine (hc _ h0 h1).mono ?_; rintro e w' ⟨rfl, n, rfl⟩)
      go_roundg (s.size - (j + 1))
      case measure => omega
      case rel =>
        refine ⟨j + 1, rfl, by omega, ?_, (hK.trans (Sk.drewN _ _ n)).trans (Sk.setCell _ _ _ _), Lib.hid (by rw [HE.out, spn_at hlt HON.out]; omega)⟩
        have := (hS'.drewN n).at_ (j + 1)
        simpa using this

theorem take_yes (b : Nat) (s t : ByteArray) (k fr : Nat) (m g : Value) (hk : k ≤ s.size) (hs : s.size ≤ 9223372036854775807) (w : World) (hS : Sc w b s k fr m g) (hp : preB ((bs s).drop k) (bs t) = true) :
    Calls Tryz.prog 145 #[.pointer (some ⟨b, 0, none⟩), .string t] w fun e w' => e = .returned (.bool true) ∧ Sc w' b s (k + t.size) fr m g ∧ Sk b w w' := by
  have hle : k + t.size ≤ s.size := by
    have := (List.isPrefixOf_iff_prefix.1 hp).length_le
    rw [List.length_drop, bs_len, bs_len] at this
    omega
  have hc := sees_any b s t k hk
  rw [hp] at hc
  clear hp
  have h0 := cell0 hS
  have h1 := cell1 hS
  have hfz := Blk.frozen hS 1
  go_enter Tryz.func145, Tryz.ntmps145
  go_wp2_with (go_at_call 148; refine (hc _ h0 h1).mono ?_; rintro e w' ⟨rfl, n, rfl⟩)
  go_ret
  refine ⟨rfl, ?_, (Sk.drewN _ _ n).trans (Sk.setCell _ _ _ _)⟩
  have := (hS.drewN n).at_ (k + t.size)
  simpa using this
theorem take_no (b : Nat) (s t : ByteArray) (k fr : Nat) (m g : Value) (hk : k ≤ s.size) (w : World) (hS : Sc w b s k fr m g) (hp : preB ((bs s).drop k) (bs t) = false) :
    Calls Tryz.prog 145 #[.pointer (some ⟨b, 0, none⟩), .string t] w fun e w' => e = .returned (.bool false) ∧ Sc w' b s k fr m g ∧ Sk b w w' := by
  have hc := sees_any b s t k hk
  rw [hp] at hc
  clear hp
  have h0 := cell0 hS
  have h1 := cell1 hS
  go_enter Tryz.func145, Tryz.ntmps145
  go_wp2_with (go_at_call 148; refine (hc _ h0 h1).mono ?_; rintro e w' ⟨rfl, n, rfl⟩)
  go_ret
  exact ⟨rfl, hS.drewN n, Sk.drewN _ _ n⟩
theorem bs_mid (s : ByteArray) (a b : Nat) : bs (s.extract a b) = ((bs s).drop a).take (b - a) := by unfold bs; rw [Lib.extract_data]
theorem piece_any (b : Nat) (s : ByteArray) (k fr : Nat) (m g : Value) (hf : fr ≤ k) (hk : k ≤ s.size) (w : World) (hS : Sc w b s k fr m g) :
    Calls Tryz.prog 109 #[.pointer (some ⟨b, 0, none⟩)] w fun e w' => e = .returned (.string (s.extract fr k)) ∧ ∃ n, w' = w.drewN n := by
  have h0 := cell0 hS
  have h1 := cell1 hS
  have h2 := cell2 hS
  go_enter Tryz.func109, Tryz.ntmps109
  go_wp2
  go_quiet (fail)
  go_wp2
  go_ret
  exact ⟨rfl, _, rfl⟩
end Go.Proofs.YteknngncnbfbnaaGreatDoor
