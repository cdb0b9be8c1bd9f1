/- The set of words as a map: how it is made and what is found in it; strings.asciiSpace is taken as laid. -/
import Derived.Test.YteknngncnbfbnaaGreatDoorWo
import Derived.Tactics
import Derived.Tactics2
import Derived.WalkKit
import Derived.LoopTactic
import Derived.Outline
import Derived.Lib.Hide
import Derived.Handy
import Derived.KernelRfl
import Derived.Deep.LoopGhost
import Derived.CallsIn
import Derived.Deep.QuietTactic
import Derived.BigQuiet
import Derived.Deep.Draws
import Derived.WalkSpells
import Derived.Lib.Walk
import Derived.Lib.Strings
import Derived.Maps.OwnOps
import Derived.Maps.OwnSet
namespace Go.Proofs.YteknngncnbfbnaaGreatDoor
open Go Go.RowKit

theorem kStr : Maps.Keyed Tryz.prog 9 := Maps.string_keyed Tryz.underlying9
def setD (xs : List (List UInt8)) : DataW Unit := xs.foldl (fun D x => D.put (.string x) (.lit (.bool true))) (.map [])
theorem setD_snoc (xs : List (List UInt8)) (x : List UInt8) : setD (xs ++ [x]) = (setD xs).put (.string x) (.lit (.bool true)) := by simp [setD]
theorem setD_isMap (xs : List (List UInt8)) : Maps.IsMap (setD xs) := by
  unfold setD
  suffices h : ∀ D : DataW Unit, Maps.IsMap D → Maps.IsMap (xs.foldl (fun D x => D.put (.string x) (.lit (.bool true))) D) from h _ Maps.isMap_empty
  induction xs with
  | nil => exact fun D h => h
  | cons x xs ih => exact fun D h => ih _ (h.put _ _)
/-- Is the string among these? -/
def memB (xs : List (List UInt8)) (t : List UInt8) : Bool := decide (t ∈ xs)
theorem setD_at (xs : List (List UInt8)) (t : List UInt8) : (setD xs).atKey (.string t) (.lit (.bool false)) = .lit (.bool (memB xs t)) := by
  suffices h : ∀ (ys : List (List UInt8)) (D : DataW Unit) (c : Bool), Maps.IsMap D → D.atKey (.string t) (.lit (.bool false)) = .lit (.bool c) →
      (ys.foldl (fun D x => D.put (.string x) (.lit (.bool true))) D).atKey (.string t) (.lit (.bool false)) = .lit (.bool (c || memB ys t)) by
    have := h xs (.map []) false Maps.isMap_empty rfl
    simpa [setD] using this
  intro ys
  induction ys with
  | nil => intro D c _ hc; simpa [memB] using hc
  | cons x ys ih =>
    intro D c hD hc
    by_cases hx : t = x
    · subst hx
      have := ih (D.put (.string t) (.lit (.bool true))) true (hD.put _ _) (Maps.atKey_put_same hD (by simp [WideAt.IsKeyLit]) _ _)
      simpa [memB] using this
    · have := ih (D.put (.string x) (.lit (.bool true))) c (hD.put _ _) ((Maps.atKey_put_other (by simpa using hx) _ _).trans hc)
      rw [List.foldl_cons, this]
      congr 3
      simp [memB, hx]

def Ws (w : World) (b : Nat) : Prop := w.ownsMap Tryz.prog 9 (plainElem Tryz.prog 4) b 63 (setD wordsL)
theorem zeroBool (w : World) : (zeroValue 4).run Tryz.prog w = .ok (.bool false) w := by kernel_rfl
theorem plainElem_bool_inv {P : Program} {e : TypeId} (he : P.underlying e = some .bool) {v : Value} {z : DataW Unit × List MemPlace} (h : plainElem P e v = some z) : ∃ c, v = .bool c ∧ z = (.lit (.bool c), []) := by
  unfold plainElem at h
  rw [he] at h
  cases v <;> simp at h
  exact ⟨_, rfl, h.symm⟩
theorem Ws.run {w : World} {b : Nat} (h : Ws w b) (s : ByteArray) (hs : s.size ≤ maxLen) : (Instr.lookup 64 (.map (some b)) (.string s) false).run Tryz.prog w = .ok (.bool (memB wordsL (bs s))) w := by
  obtain ⟨v, ps, hrun, hv⟩ := World.ownsMap.lookup h kStr Tryz.underlying64 (zeroBool w) (plainElem_bool Tryz.underlying4 false) (Go.WideMaps.keyOf_string_mk Tryz.underlying9 hs)
  obtain ⟨c, rfl, hc⟩ := plainElem_bool_inv Tryz.underlying4 hv
  have : (setD wordsL).atKey (.string s.data.toList) (.lit (.bool false)) = .lit (.bool (memB wordsL (bs s))) := setD_at _ _
  simp only [Prod.mk.injEq] at hc
  rw [this] at hc
  have : memB wordsL (bs s) = c := by simpa using hc.1
  rw [this]; exact hrun
theorem Ws.drewN {w : World} {b : Nat} (h : Ws w b) (n : Nat) : Ws (w.drewN n) b := h
theorem Ws.lt {w : World} {b : Nat} (h : Ws w b) : b < w.heap.size := World.ownsMap.lt h
theorem Ws.heap {w w' : World} {b : Nat} (h : Ws w b) (e : w'.heap[b]? = w.heap[b]?) : Ws w' b := by
  obtain ⟨es, clock, hb, F, hs, hD⟩ := h
  exact ⟨es, clock, e.trans hb, F, hs, hD⟩

theorem wordsL_len : wordsL.length = 63 := by kernel_rfl
theorem wordsL_short (l : List UInt8) (h : l ∈ wordsL) : (mkS l).size ≤ 100 := by
  have : wordsL.all (fun l => decide (l.length ≤ 100)) = true := by kernel_rfl
  have := of_decide_eq_true (List.all_eq_true.1 this l h)
  rw [← bs_len, bs_mkS]; exact this
set_option maxRecDepth 100000 in
theorem wordSet_any (w : World) (hE : Env w) : Calls Tryz.prog 52 #[] w fun e w' => e = .returned (.map (some w.heap.size)) ∧ Ws w' w.heap.size ∧ Below w.heap.size w w' := by
  have hmm := @run_makeMap Tryz.prog
  have hc := words_any (w.alloc (.map #[] 0)) (hE.alloc _)
  go_enter Tryz.func52, Tryz.ntmps52
  go_wp2_with (go_at_call 15; refine hc.mono ?_; rintro e w' ⟨rfl, rfl⟩)
  go_loopw [7] (fun i wr => ∃ k : Nat, k ≤ 63 ∧ i = .int .i64 k ∧ wr.ownsMap Tryz.prog 9 (plainElem Tryz.prog 4) w.heap.size k (setD (wordsL.take k)) ∧ Blk wr (w.heap.size + 1) (wordsL.map mkV) 9 ∧ Below w.heap.size w wr) (fun i _ => 63 - (intOf i).toNat)
  case atStart =>
    refine ⟨0, by omega, rfl, (World.ownsMap_made w _ _ _).alloc _, ?_, ((Below.refl _ w).alloc (Nat.le_refl _) _).alloc (by simp) _⟩
    have := Blk.new (w.alloc (.map #[] 0)) (wordsL.map mkV) 9
    simpa using this
  case round =>
    obtain ⟨k, hk, rfl, hown, hB, hbel⟩ := hrel
    by_cases hlt : k < 63
    · have hlw : k < wordsL.length := by rw [wordsL_len]; exact hlt
      have hcell : wr.cell? ⟨w.heap.size + 1, k, none⟩ = some (.string (mkS wordsL[k])) := by
        rw [hB.cell k, List.getElem?_map, List.getElem?_eq_getElem hlw]; rfl
      have hsz : (mkS wordsL[k]).size ≤ maxLen := Nat.le_trans (wordsL_short _ (List.getElem_mem hlw)) (by unfold maxLen; decide)
      have hkey : keyOf Tryz.prog 9 (.string (mkS wordsL[k])) = some (.string (bs (mkS wordsL[k]))) := Go.WideMaps.keyOf_string_mk Tryz.underlying9 hsz
      go_wp2_with (at_mapUpdate; refine wpList_mapUpdate_own _ rfl _ _ _ 64 rfl 9 4 kStr Tryz.underlying64 _ w.heap.size k _ rfl hown (by unfold maxLen; omega) _ _ _ rfl rfl hkey _ [] (plainElem_bool Tryz.underlying4 true) ?_; intro w1 hown1 hgrow1)
      go_roundw
      case rel =>
        refine ⟨k + 1, by omega, by go_num, ?_, ?_, hbel.grown hgrow1 hbel.size (fun j hj => by cases hj; exact Nat.le_refl _)⟩
        · rw [bs_mkS, ← setD_snoc] at hown1
          rw [List.take_succ_eq_append_getElem hlw]
          exact hown1
        · exact (hgrow1.block _ hB.lt (by simp)).trans hB
      case measure => simp [intOf]; omega
    · obtain rfl : k = 63 := by omega
      go_wp2
      go_ret
      refine ⟨rfl, ?_, hbel⟩
      have e : wordsL.take 63 = wordsL := by rw [← wordsL_len]; exact List.take_length
      rw [e] at hown
      exact hown
end Go.Proofs.YteknngncnbfbnaaGreatDoor
