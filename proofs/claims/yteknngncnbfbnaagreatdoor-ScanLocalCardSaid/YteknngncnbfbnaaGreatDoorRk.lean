/- The reference's First hands back what firstL says. -/
import Derived.Test.YteknngncnbfbnaaGreatDoorRg
import Derived.Test.YteknngncnbfbnaaGreatDoorRn
import Derived.RangeFuncNested
import Derived.RangeFuncBound
import Derived.RangeFuncCalls
import Derived.RangeFuncLeaves
import Derived.RangeFuncBox
import Derived.Shelf.Abstract
import Derived.WalkKit
import Derived.OwnWalkIn
import Derived.TacticsInMore
import Derived.LoopNIn
import Derived.LoopIn
import Derived.RecoverIn
import Derived.Maps.AppendAt
import Derived.Outline
import Derived.Handy
import Derived.Deep.LoopGhost
import Derived.RegionTactic
import Derived.ChangeAlike
import Derived.Deep.QuietTactic
import Derived.BigQuiet
import Derived.StillTailTactics
import Derived.Deep.RegionWith
import Derived.LoopTactic
import Derived.OwnWalk
import Derived.Deep.AppendLies
import Derived.Deep.DeepCutAuto
import Derived.KernelRfl
namespace Go.Proofs.YteknngncnbfbnaaGreatDoor
open Go Go.RowKit Go.Shelf
theorem cls_b (c : Int) : (clsI c == 98) = blkB c := by
  unfold clsI blkB
  by_cases h : c = 32 ∨ c = 9 ∨ c = 10
  · rw [if_pos h, decide_eq_true h]; rfl
  · rw [if_neg h, decide_eq_false h]
    split
    · rfl
    · split <;> rfl
theorem cls_dg (c : Int) : (clsI c == 100) = digB c := by
  unfold clsI letB digB
  rw [Bool.eq_iff_iff]
  simp
  split
  · simp; omega
  · split
    · simp; omega
    · split <;> simp <;> omega
theorem one_blk (c : Int) : isOne 98 98 c = blkB c := by
  have := cls_b c
  unfold isOne
  rw [this, Bool.or_self]
theorem foundL_le (l : List UInt8) (k : Nat) (t : List UInt8) : foundL l k t ≤ l.length ∨ foundL l k t ≤ k + t.length := by
  unfold foundL
  split
  · exact .inl (Nat.zero_le _)
  next h =>
    have := Lib.index_room (l.drop k) t (by omega)
    rw [List.length_drop] at this
    by_cases hk : k ≤ l.length
    · left; omega
    · right; omega
/-- What the reference's First hands back. -/
def FirstPost (o : Pc) (w : World) (e : Ending) (w' : World) : Prop :=
  match o with
  | .ok kd n => e = .returned (.tuple #[.int .u8 kd, .int .i64 n, .int .i64 0]) ∧ Below w.heap.size w w'
  | .bad x => ∃ a b : Int, e = .returned (.tuple #[.int .u8 a, .int .i64 b, .int .i64 x]) ∧ Below w.heap.size w w'
theorem FirstPost.bad_of {x : Nat} {a b : Int} {w : World} {f : FuncId} {args : Array Value} (h : Calls Tryz.prog f args w fun e w' => e = .returned (.tuple #[.int .u8 a, .int .i64 b, .int .i64 x]) ∧ Below w.heap.size w w') : Calls Tryz.prog f args w (FirstPost (.bad x) w) := h.mono fun _ _ ⟨h1, h2⟩ => ⟨a, b, h1, h2⟩
theorem signs_call (W : World) : Calls Tryz.prog 18 #[] W fun e w' => e = .returned (.slice (some ⟨W.heap.size, 0, none⟩) 23 23) ∧ w' = W.alloc (.cells (signsL.map mkV).toArray 9) := refSigns_any W
theorem among_signs (t : ByteArray) (W : World) (N : Nat) (hB : Blk W N (signsL.map mkV) 9) : Calls Tryz.prog 53 #[.string t, .slice (some ⟨N, 0, none⟩) 23 23] W fun e w' => e = .returned (.bool (memB signsL (bs t))) ∧ W = w' := by
  have := among_any t signsL N 23 (by rw [signsL_len]; decide) W hB
  rw [signsL_len] at this
  exact this
theorem mem_yes {xs : List (List UInt8)} {t : List UInt8} (h : t ∈ xs) : memB xs t = true := decide_eq_true h
theorem mem_no {xs : List (List UInt8)} {t : List UInt8} (h : t ∉ xs) : memB xs t = false := decide_eq_false h
set_option maxHeartbeats 1000000 in
theorem refFirst_any (s : ByteArray) (hs : s.size ≤ 20000) (h0 : 0 < s.size) (w : World) : Calls Tryz.prog 66 #[.string s] w (FirstPost (firstL (bs s)) w) := by
  have HC := hide (fun W => class_any s[0].toNat (by have := s[0].toNat_lt; omega) W)
  have c98 : (clsI s[0].toNat == 98) = onB blkB (bs s) := by rw [cls_b, onB_zero h0]
  have c97 : (clsI s[0].toNat == 97) = onB letB (bs s) := by rw [cls_a, onB_zero h0]
  have c100 : (clsI s[0].toNat == 100) = onB digB (bs s) := by rw [cls_dg, onB_zero h0]
  have c34 : ((s[0].toNat : Int) == 34) = preB (bs s) [34] := by
    rw [preB_one0, bs_get s 0 h0, Bool.eq_iff_iff]
    simp only [beq_iff_eq, decide_eq_true_eq, Option.some.injEq]
    constructor
    · intro h; exact UInt8.toNat_inj.1 (by rw [show (34 : UInt8).toNat = 34 from rfl]; omega)
    · intro h; rw [h]; rfl
  have hsp := fun (a b : Nat) W => span_any s (by omega) a b W
  have hblk := hsp 98 98
  rw [show isOne ((98 : Nat) : Int) ((98 : Nat) : Int) = blkB from funext one_blk] at hblk
  have haln := hsp 97 100
  rw [show isOne ((97 : Nat) : Int) ((100 : Nat) : Int) = alnB from funext one_aln] at haln
  have hdig := hsp 100 100
  rw [show isOne ((100 : Nat) : Int) ((100 : Nat) : Int) = digB from funext cls_d] at hdig
  have HG := hide signs_call
  have hl0 : 1 ≤ (bs s).length := by rw [bs_len]; exact h0
  have hw := fun n W => refWord_any (s.extract 0 n) W
  have hv := fun n (hn : n ≤ s.size) W => refValue_any (s.extract 0 n) (by rw [ByteArray.size_extract]; omega) W
  have hfd := fun W => found_any s ⟨#[34]⟩ 1 h0 (by decide) (by decide) (by omega) W
  rw [show bs (⟨#[34]⟩ : ByteArray) = [34] from rfl] at hfd
  obtain ⟨tx1, tx2⟩ := txt_ref (l := bs s)
  obtain ⟨sg1, sg2, sg3⟩ := sgn_ref hl0
  have hfle := foundL_le (bs s) 1 [34]
  have ham1 := fun W N hB => among_signs (s.extract 0 1) W N hB
  rw [bs_take] at ham1
  rw [firstL_eq]
  by_cases h1 : (1 : Int) < s.size
  · have htw : ∀ x y : UInt8, ((s.extract 0 2).toList == [x, y]) = preB (bs s) [x, y] := by
      intro x y
      have := pre_take (bs s) [x, y] (by rw [bs_len]; show 2 ≤ _; omega)
      rw [← this, toList_bs, bs_take]; rfl
    have t1 := htw 40 42
    have t2 := htw 60 42
    have ham2 := fun W N hB => among_signs (s.extract 0 2) W N hB
    rw [bs_take] at ham2
    cases b0 : onB blkB (bs s) with
    | true => rw [b0] at c98; rw [if_pos rfl]; exact f0A s hs h0 h1 _ HC c98 _ (hide hblk) w
    | false =>
      rw [b0] at c98; rw [if_neg (by decide)]
      cases b1 : preB (bs s) [40, 42] with
      | true =>
        rw [b1] at t1; rw [if_pos rfl]
        have hcl := fun W => closing_any s (by omega) (by omega) W
        cases hc : closeL 1 ((bs s).drop 2) with
        | none => rw [hc] at hcl; exact FirstPost.bad_of (f1noA s hs h0 h1 _ HC c98 t1 (hide hcl) w)
        | some m => rw [hc] at hcl; exact f1okA s hs h0 h1 _ HC c98 t1 (2 + m) (by simp; omega) (hide hcl) w
      | false =>
        rw [b1] at t1; rw [if_neg (by decide)]
        cases b2 : preB (bs s) [60, 42] with
        | true =>
          rw [b2] at t2; rw [if_pos rfl]
          have hfp := fun W => found_any s ⟨#[42, 62]⟩ 2 (by omega) (by decide) (by decide) (by omega) W
          rw [show bs (⟨#[42, 62]⟩ : ByteArray) = [42, 62] from rfl] at hfp
          unfold foundL at hfp
          by_cases hi : Lib.index ((bs s).drop 2) [42, 62] < 0
          · rw [if_pos hi] at hfp ⊢
            exact FirstPost.bad_of (f2noA s hs h0 h1 _ HC c98 t1 t2 (hide hfp) w)
          · rw [if_neg hi] at hfp ⊢
            have e : 2 + (Lib.index ((bs s).drop 2) [42, 62]).toNat + ([42, 62] : List UInt8).length = 2 + ((Lib.index ((bs s).drop 2) [42, 62]).toNat + 2) := by
              show 2 + _ + 2 = _; omega
            rw [e] at hfp
            exact f2okA s hs h0 h1 _ HC c98 t1 t2 _ (by simp; omega) (hide hfp) w
        | false =>
          rw [b2] at t2; rw [if_neg (by decide)]
          cases b3 : onB letB (bs s) with
          | true =>
            rw [b3] at c97; rw [if_pos rfl]
            have hn := spn_le alnB (bs s)
            rw [bs_len] at hn
            have hw1 := hw (spn alnB (bs s))
            rw [bs_take] at hw1
            cases hm : memB wordsL ((bs s).take (spn alnB (bs s))) with
            | true => rw [hm] at hw1; rw [if_pos rfl]; exact f3wA s hs h0 h1 _ HC c98 t1 t2 c97 _ hn (hide haln) (hide hw1) w
            | false =>
              rw [hm] at hw1; rw [if_neg (by decide)]
              by_cases h12 : 12 < spn alnB (bs s)
              · rw [if_pos h12]; exact FirstPost.bad_of (f3lA s hs h0 h1 _ HC c98 t1 t2 c97 _ hn (by omega) (hide haln) (hide hw1) w)
              · rw [if_neg h12]; exact f3nA s hs h0 h1 _ HC c98 t1 t2 c97 _ hn (by omega) (hide haln) (hide hw1) w
          | false =>
            rw [b3] at c97; rw [if_neg (by decide)]
            cases b4 : onB digB (bs s) with
            | true =>
              rw [b4] at c100; rw [if_pos rfl]
              have hm := spn_le digB (bs s)
              rw [bs_len] at hm
              have h95 := bs_get s (spn digB (bs s))
              have hyes := numLen_yes' (l := bs s)
              have hno := numLen_no' (l := bs s)
              generalize spn digB (bs s) = m at hm hdig h95 hyes hno
              have fin : ∀ n : Nat, n = numLen (bs s) → (Calls Tryz.prog 66 #[.string s] w fun e w' => e = .returned (.tuple #[.int .u8 3, .int .i64 n, .int .i64 (errN (valR ((bs s).take n)))]) ∧ Below w.heap.size w w') → Calls Tryz.prog 66 #[.string s] w (FirstPost (match valR ((bs s).take (numLen (bs s))) with | none => .bad 11 | some _ => .ok 3 (numLen (bs s))) w) := by
                intro n hn hc
                subst hn
                cases hvv : valR ((bs s).take (numLen (bs s))) with
                | none => rw [hvv] at hc; exact FirstPost.bad_of hc
                | some v => rw [hvv] at hc; exact hc
              by_cases hlt : m < s.size
              · by_cases hc : s[m] = 95
                · have hk := spn_le alnB ((bs s).drop (m + 1))
                  rw [List.length_drop, bs_len] at hk
                  have hnl := hyes (by rw [h95 hlt, hc])
                  have hal2 := fun W => span_any (s.extract (m + 1) s.size) (by rw [ByteArray.size_extract]; omega) 97 100 W
                  rw [show isOne ((97 : Nat) : Int) ((100 : Nat) : Int) = alnB from funext one_aln, bs_drop] at hal2
                  generalize spn alnB ((bs s).drop (m + 1)) = k at hk hnl hal2
                  have hv1 := hv (m + 1 + k) (by omega)
                  rw [bs_take] at hv1
                  exact fin _ hnl.symm (f4uA s hs h0 h1 _ HC c98 t1 t2 c97 c100 m k hlt (by rw [hc]; rfl) (by omega) _ _ (hide hdig) (hide hal2) (hide hv1) w)
                · have hnl := hno (by rw [h95 hlt]; intro h; injection h with h; exact hc h)
                  have hv1 := hv m (by omega)
                  rw [bs_take] at hv1
                  exact fin _ hnl.symm (f4oA s hs h0 h1 _ HC c98 t1 t2 c97 c100 m hm hlt (by
                    rw [beq_eq_false_iff_ne]; intro h; exact hc (UInt8.toNat_inj.1 (by rw [show (95 : UInt8).toNat = 95 from rfl]; omega))) _ _ (hide hdig) (hide hv1) w)
              · have hnl := hno (by rw [List.getElem?_eq_none (by rw [bs_len]; omega)]; intro h; cases h)
                have hv1 := hv m (by omega)
                rw [bs_take] at hv1
                exact fin _ hnl.symm (f4eA s hs h0 h1 _ HC c98 t1 t2 c97 c100 m hm (by omega) _ _ (hide hdig) (hide hv1) w)
            | false =>
              rw [b4] at c100; rw [if_neg (by decide)]
              cases b5 : preB (bs s) [34] with
              | true =>
                rw [b5] at c34; rw [if_pos rfl]
                have hbr := fun n W => refBrand_any (s.extract 1 (n + 1)) (by rw [ByteArray.size_extract]; omega) W
                have e1 : ∀ n, bs (s.extract 1 (n + 1)) = ((bs s).drop 1).take n := fun n => by rw [bs_mid]; rfl
                rw [bs_len] at hfle
                cases ht : txtOk (bs s) with
                | true =>
                  obtain ⟨hf, hb⟩ := tx1 ht
                  rw [if_pos rfl]
                  rw [hf] at hfd hfle
                  have hb2 := hbr (txtLen (bs s))
                  rw [e1, hb] at hb2
                  exact f5okA s hs h0 h1 _ HC c98 t1 t2 c97 c100 c34 _ (by simp only [List.length_cons, List.length_nil] at hfle; omega) (hide hfd) (hide hb2) w
                | false =>
                  rw [if_neg (by decide)]
                  rcases tx2 ht with hf | ⟨hf, hb⟩
                  · rw [hf] at hfd; exact FirstPost.bad_of (f5noA s hs h0 h1 _ HC c98 t1 t2 c97 c100 c34 (hide hfd) w)
                  · obtain ⟨n, hn⟩ : ∃ n, foundL (bs s) 1 [34] = n + 2 := ⟨foundL (bs s) 1 [34] - 2, by omega⟩
                    rw [hn] at hfd hb hfle
                    have hb2 := hbr n
                    rw [e1, show ((bs s).drop 1).take n = ((bs s).drop 1).take (n + 2 - 2) from rfl, hb] at hb2
                    exact FirstPost.bad_of (f5badA s hs h0 h1 _ HC c98 t1 t2 c97 c100 c34 n (by simp only [List.length_cons, List.length_nil] at hfle; omega) (hide hfd) (hide hb2) w)
              | false =>
                rw [b5] at c34; rw [if_neg (by decide)]
                by_cases h2 : (bs s).take 2 ∈ signsL
                · have hl := sg1 ⟨by rw [bs_len]; omega, h2⟩
                  rw [mem_yes h2] at ham2
                  rw [if_neg (by intro e; rw [e] at hl; cases hl), hl]
                  exact f6twoA s hs h0 h1 _ HC c98 t1 t2 c97 c100 c34 HG (hide ham2) w
                · rw [mem_no h2] at ham2
                  by_cases h3 : (bs s).take 1 ∈ signsL
                  · have hl := sg2 (fun h => h2 h.2) h3
                    rw [mem_yes h3] at ham1
                    rw [if_neg (by intro e; rw [e] at hl; cases hl), hl]
                    exact f6oneA s hs h0 h1 _ HC c98 t1 t2 c97 c100 c34 HG (hide ham2) (hide ham1) w
                  · rw [mem_no h3] at ham1
                    rw [if_pos (sg3 (fun h => h2 h.2) h3)]
                    exact FirstPost.bad_of (f6noneA s hs h0 h1 _ HC c98 t1 t2 c97 c100 c34 HG (hide ham2) (hide ham1) w)
  · have hz : s.size = 1 := by omega
    have hl1 : (bs s).length = 1 := by rw [bs_len]; exact hz
    have b1 : ∀ x y : UInt8, preB (bs s) [x, y] = false := by
      intro x y
      rw [preB_two0]
      refine decide_eq_false fun h => ?_
      have h1n : (bs s)[1]? = none := List.getElem?_eq_none (by omega)
      rw [h1n] at h
      cases h.2
    have hn2 : ¬ (2 ≤ (bs s).length ∧ (bs s).take 2 ∈ signsL) := by omega
    have ham2 := fun W N hB => among_signs (⟨#[]⟩ : ByteArray) W N hB
    rw [show memB signsL (bs (⟨#[]⟩ : ByteArray)) = false by decide] at ham2
    rw [b1, b1]
    cases b0 : onB blkB (bs s) with
    | true => rw [b0] at c98; rw [if_pos rfl]; exact f0B s hs h0 hz _ HC c98 _ (hide hblk) w
    | false =>
      rw [b0] at c98; rw [if_neg (by decide), if_neg (by decide), if_neg (by decide)]
      cases b3 : onB letB (bs s) with
      | true =>
        rw [b3] at c97; rw [if_pos rfl]
        have hn := spn_le alnB (bs s)
        rw [bs_len] at hn
        have hw1 := hw (spn alnB (bs s))
        rw [bs_take] at hw1
        cases hm : memB wordsL ((bs s).take (spn alnB (bs s))) with
        | true => rw [hm] at hw1; rw [if_pos rfl]; exact f3wB s hs h0 hz _ HC c98 c97 _ hn (hide haln) (hide hw1) w
        | false =>
          rw [hm] at hw1; rw [if_neg (by decide)]
          rw [if_neg (by omega)]; exact f3nB s hs h0 hz _ HC c98 c97 _ hn (by omega) (hide haln) (hide hw1) w
      | false =>
        rw [b3] at c97; rw [if_neg (by decide)]
        cases b4 : onB digB (bs s) with
        | true =>
          rw [b4] at c100; rw [if_pos rfl]
          have hm1 : spn digB (bs s) = 1 := by
            cases hb : bs s with
            | nil => rw [hb] at hl1; cases hl1
            | cons c l =>
              rw [hb] at b4 hl1
              have : l = [] := List.length_eq_zero_iff.1 (by simpa using hl1)
              subst this
              have b4' : digB c.toNat = true := b4
              show (if digB c.toNat then 0 + 1 else 0) = 1
              rw [if_pos b4']
          have hnl : numLen (bs s) = 1 := by rw [numLen_no', hm1]; rw [hm1, List.getElem?_eq_none (by omega)]; intro h; cases h
          rw [hm1] at hdig
          have hv1 := hv 1 (by omega)
          rw [bs_take] at hv1
          have hcall := f4eB s hs h0 hz _ HC c98 c97 c100 1 (by omega) (by omega) _ _ (hide hdig) (hide hv1) w
          rw [hnl]
          cases hvv : valR ((bs s).take 1) with
          | none => rw [hvv] at hcall; exact FirstPost.bad_of hcall
          | some v => rw [hvv] at hcall; exact hcall
        | false =>
          rw [b4] at c100; rw [if_neg (by decide)]
          cases b5 : preB (bs s) [34] with
          | true =>
            rw [b5] at c34; rw [if_pos rfl]
            have hf : foundL (bs s) 1 [34] = 0 := foundL_end (by rw [hl1]; decide) (by rw [hl1]; exact Nat.le_refl _)
            have ht : txtOk (bs s) = false := by
              cases h : txtOk (bs s) with
              | false => rfl
              | true => have := (tx1 h).1; omega
            rw [ht, if_neg (by decide)]
            rw [hf] at hfd
            exact FirstPost.bad_of (f5noB s hs h0 hz _ HC c98 c97 c100 c34 (hide hfd) w)
          | false =>
            rw [b5] at c34; rw [if_neg (by decide)]
            by_cases h3 : (bs s).take 1 ∈ signsL
            · have hl := sg2 hn2 h3
              rw [mem_yes h3] at ham1
              rw [if_neg (by intro e; rw [e] at hl; cases hl), hl]
              exact f6oneB s hs h0 hz _ HC c98 c97 c100 c34 HG (hide ham2) (hide ham1) w
            · rw [mem_no h3] at ham1
              rw [if_pos (sg3 hn2 h3)]
              exact FirstPost.bad_of (f6noneB s hs h0 hz _ HC c98 c97 c100 c34 HG (hide ham2) (hide ham1) w)
end Go.Proofs.YteknngncnbfbnaaGreatDoor
