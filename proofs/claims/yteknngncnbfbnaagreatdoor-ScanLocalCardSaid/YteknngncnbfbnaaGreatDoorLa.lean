/- ScanAgain's function returns true, whatever it is called with (where the variables it reads hold what the program's text lays). -/
import Derived.Test.YteknngncnbfbnaaGreatDoorRa
import Derived.Test.YteknngncnbfbnaaGreatDoorLw
import Derived.RangeFuncNested
import Derived.RangeFuncBound
import Derived.RangeFuncCalls
import Derived.RangeFuncLeaves
import Derived.RangeFuncBox
import Derived.Shelf.Abstract
import Derived.WalkKit
import Derived.OwnWalkIn
import Derived.TacticsInMore
import Derived.LoopNIn
import Derived.LoopIn
import Derived.RecoverIn
import Derived.Maps.AppendAt
import Derived.Outline
import Derived.Handy
import Derived.Deep.LoopGhost
import Derived.RegionTactic
import Derived.ChangeAlike
import Derived.Deep.QuietTactic
import Derived.BigQuiet
import Derived.StillTailTactics
import Derived.Deep.RegionWith
import Derived.LoopTactic
import Derived.OwnWalk
import Derived.Deep.AppendLies
import Derived.Deep.DeepCutAuto
import Derived.KernelRfl
namespace Go.Proofs.YteknngncnbfbnaaGreatDoor
open Go Go.RowKit Go.Shelf
theorem midS_size (s t : ByteArray) (f o : Nat) : t.size ≤ (midS s t f o).size := by
  rw [← bs_len, ← bs_len, bs_midS]; simp; omega
theorem again_both (s t : ByteArray) (f o : Int) (hs : s.size ≤ 100000) (ht : t.size ≤ 100000) : ∃ a b x l : Int, (∀ W, Env W → Calls Tryz.prog 42 #[.string s, .int .i64 f, .int .i64 o, .string t] W (AgainPost W a b x l)) ∧ (∀ W, Calls Tryz.prog 43 #[.string s, .int .i64 f, .int .i64 o, .string t] W (AgainPost W a b x l)) := by
  by_cases h : f < 0 ∨ o < f ∨ (s.size : Int) < o
  · exact ⟨0, 0, 1, 0, fun W _ => again_arg s t f o h W, fun W => refAgain_arg s t f o h W⟩
  · obtain ⟨f, rfl⟩ : ∃ n : Nat, f = n := ⟨f.toNat, by omega⟩
    obtain ⟨o, rfl⟩ : ∃ n : Nat, o = n := ⟨o.toNat, by omega⟩
    have h1 : f ≤ o := by omega
    have h2 : o ≤ s.size := by omega
    obtain ⟨p, hp⟩ : ∃ p, pcsL (bs s) = p := ⟨_, rfl⟩
    obtain ⟨xs, x, l⟩ := p
    by_cases hx : x = 0
    · subst hx
      obtain ⟨_, _, rfl⟩ := pcsL_ok hp
      obtain ⟨q, hq⟩ : ∃ q, pcsL (bs (midS s t f o)) = q := ⟨_, rfl⟩
      obtain ⟨ys, y, m⟩ := q
      by_cases hl : 20000 < t.size
      · have hq2 := pcsL_long (s := midS s t f o) (by have := midS_size s t f o; omega)
        exact ⟨0, 0, (2 : Nat), (0 : Nat), fun W hW => again_two s t f o h1 h2 hs ht xs hp 2 0 [] hq2 (by decide) W hW, fun W => refAgain_long s t f o h1 h2 hl xs hp W⟩
      · by_cases hy : y = 0
        · subst hy
          obtain ⟨_, _, rfl⟩ := pcsL_ok hq
          exact ⟨_, _, 0, 0, fun W hW => again_ok s t f o h1 h2 hs ht xs hp ys hq W hW, fun W => refAgain_ok s t f o h1 h2 hs (by omega) xs hp ys hq W⟩
        · exact ⟨0, 0, y, m, fun W hW => again_two s t f o h1 h2 hs ht xs hp y m ys hq hy W hW, fun W => refAgain_two s t f o h1 h2 hs (by omega) xs hp y m ys hq hy W⟩
    · exact ⟨0, 0, x, l, fun W hW => again_one s t f o h1 h2 x l xs hp hx W hW, fun W => refAgain_one s t f o h1 h2 x l xs hp hx W⟩
set_option maxRecDepth 100000 in
set_option maxHeartbeats 2000000 in
theorem again_fair (s t : ByteArray) (f o : Int) (a b x l : Int) (h1 : ∀ W, Env W → Calls Tryz.prog 42 #[.string s, .int .i64 f, .int .i64 o, .string t] W (AgainPost W a b x l)) (h2 : ∀ W, Calls Tryz.prog 43 #[.string s, .int .i64 f, .int .i64 o, .string t] W (AgainPost W a b x l))
    (hf : s.size ≤ 1200 ∨ (20000 < s.size ∧ s.size ≤ 20020)) (hg : t.size ≤ 1200 ∨ (20000 < t.size ∧ t.size ≤ 20020)) (w : World) (hE : Env w) (hD : Db w) :
    Calls Tryz.prog 7 #[.string s, .int .i64 f, .int .i64 o, .string t] w fun e w' => e = .returned (.bool true) ∧ Below w.heap.size w w' := by
  have h0 := fair_any s w
  rw [decide_eq_true hf] at h0
  have h0' := fair_any t w
  rw [decide_eq_true hg] at h0'
  have HF := hide h0
  have HG := hide h0'
  have H1 := hide h1
  have H2 := hide h2
  clear h0 h0' h1 h2 hf hg
  go_enter Tryz.func7, Tryz.ntmps7
  go_wp2_with fail
  refine (unhide HF).mono ?_
  rintro e0 w0 ⟨rfl, rfl⟩
  go_wp2_with fail
  refine (unhide HG).mono ?_
  rintro e0 w0 ⟨rfl, rfl⟩
  go_wp2_with fail
  refine (unhide H1 _ hE).mono ?_
  rintro e1 w1 ⟨rfl, hb1⟩
  have K1 := (Cells.nil w1).fault x l
  have B1 := hb1.alloc hb1.size (.cells #[.int .i64 x, .int .i64 l] 34)
  clear hb1
  go_wp2_with fail
  generalize w1.alloc (.cells #[.int .i64 x, .int .i64 l] 34) = V1 at K1 B1 ⊢
  generalize w1.heap.size = n1 at K1 ⊢
  refine (unhide H2 V1).mono ?_
  rintro e2 w2 ⟨rfl, hb2⟩
  have K2 := (K1.below hb2).fault x l
  have B2 := (B1.trans (hb2.mono B1.size)).alloc (Nat.le_trans B1.size hb2.size) (.cells #[.int .i64 x, .int .i64 l] 34)
  clear K1 B1 hb2
  go_wp2_with fail
  generalize w2.alloc (.cells #[.int .i64 x, .int .i64 l] 34) = V2 at K2 B2 ⊢
  generalize w2.heap.size = n2 at K2 ⊢
  refine (divided_any V2 (hE.below B2 hE.sz) (hD.below B2 (Nat.le_trans (by decide) hE.sz))).mono ?_
  rintro e3 w3 ⟨rfl, hb3⟩
  have K3 := K2.below hb3
  have B3 := B2.trans (hb3.mono B2.size)
  clear K2 B2 hb3
  have a0 := K3.get (a := ⟨n1, 0, none⟩) (v := .int .i64 x) (by simp)
  have a1 := K3.get (a := ⟨n1, 1, none⟩) (v := .int .i64 l) (by simp)
  have b0 := K3.get (a := ⟨n2, 0, none⟩) (v := .int .i64 x) (by simp)
  have b1 := K3.get (a := ⟨n2, 1, none⟩) (v := .int .i64 l) (by simp)
  clear K3
  go_wp2_with fail
  go_ret
  exact ⟨rfl, B3⟩
theorem again_law (s : ByteArray) (f o : Int) (t : ByteArray) (w : World) (hE : Env w) (hD : Db w) : Calls Tryz.prog 7 #[.string s, .int .i64 f, .int .i64 o, .string t] w fun e w' => e = .returned (.bool true) ∧ Below w.heap.size w w' := by
  by_cases hf : s.size ≤ 1200 ∨ (20000 < s.size ∧ s.size ≤ 20020)
  · by_cases hg : t.size ≤ 1200 ∨ (20000 < t.size ∧ t.size ≤ 20020)
    · obtain ⟨a, b, x, l, h1, h2⟩ := again_both s t f o (by omega) (by omega)
      exact again_fair s t f o a b x l h1 h2 hf hg w hE hD
    · have h0 := fair_any s w
      rw [decide_eq_true hf] at h0
      have h0' := fair_any t w
      rw [decide_eq_false hg] at h0'
      have HF := hide h0
      have HG := hide h0'
      clear h0 h0' hf hg
      go_enter Tryz.func7, Tryz.ntmps7
      go_wp2_with fail
      refine (unhide HF).mono ?_
      rintro e0 w0 ⟨rfl, rfl⟩
      go_wp2_with fail
      refine (unhide HG).mono ?_
      rintro e0 w0 ⟨rfl, rfl⟩
      go_wp2_with fail
      refine (divided_any _ hE hD).mono ?_
      rintro e w1 ⟨rfl, hb⟩
      go_wp2_with fail
      go_ret
      exact ⟨rfl, hb⟩
  · have h0 := fair_any s w
    rw [decide_eq_false hf] at h0
    have HF := hide h0
    clear h0 hf
    go_enter Tryz.func7, Tryz.ntmps7
    go_wp2_with fail
    refine (unhide HF).mono ?_
    rintro e0 w0 ⟨rfl, rfl⟩
    go_wp2_with fail
    refine (divided_any _ hE hD).mono ?_
    rintro e w1 ⟨rfl, hb⟩
    go_wp2_with fail
    go_ret
    exact ⟨rfl, hb⟩
end Go.Proofs.YteknngncnbfbnaaGreatDoor
