/- Part 42 of 53: the texts Zr, one behind the other. -/
import Derived.Test.YteaokkaidcbdlaaGreatDoorM24
import Derived.Test.YteaokkaidcbdlaaGreatDoorM38
import Derived.Test.YteaokkaidcbdlaaGreatDoorM39
import Derived.Test.YteaokkaidcbdlaaGreatDoorM41
import Derived.Test.YteaokkaidcbdlaaGreatDoorM16
import Derived.Deep.OwnRows
namespace Go.Proofs.YteaokkaidcbdlaaGreatDoor
open Go Go.RowKit Go.Shelf
def rowN (w : World) (g n : Nat) (c : Nat → Nat) : Prop := w.rowIs g 3 n (fun q => .int .i64 (c q))
theorem rowN.below {w w' : World} {g n : Nat} {c : Nat → Nat} (h : rowN w g n c) (hb : Below w.heap.size w w') : rowN w' g n c := h.of_block (hb.block _ h.lt)
theorem rowN.set {w : World} {g n : Nat} {c : Nat → Nat} (h : rowN w g n c) (i v : Nat) : rowN (w.setCell ⟨g, i, none⟩ (.int .i64 v)) g n (fun q => if q = i then v else c q) :=
 (World.rowIs.set h i (.int .i64 v)).congr (fun q _ => by by_cases h : q = i <;> simp [h])
theorem rowN.other {w : World} {g g' n : Nat} {c : Nat → Nat} (h : rowN w g n c) (i : Nat) (v : Value) (hne : g ≠ g') : rowN (w.setCell ⟨g', i, none⟩ v) g n c := World.rowIs.setOther h hne v
theorem rowN.congr {w : World} {g n : Nat} {c d : Nat → Nat} (h : rowN w g n c) (e : ∀ i, i < n → c i = d i) : rowN w g n d := World.rowIs.congr h (fun i hi => by rw [e i hi])
theorem rowN.at {w : World} {g n : Nat} {c : Nat → Nat} (h : rowN w g n c) {i : Nat} (hi : i < n) : w.cell? ⟨g, i, none⟩ = some (.int .i64 (c i)) := World.rowIs.cell h hi
theorem rowN.fz {w : World} {g n : Nat} {c : Nat → Nat} (h : rowN w g n c) (i : Nat) : w.frozen? ⟨g, i, none⟩ = false := World.rowIs.frozen h i
theorem below_set {B : Nat} {W w : World} (h : Below B W w) (hB : B ≤ W.heap.size) {g : Nat} (hg : B ≤ g) (i : Nat) (v : Value) : Below B W (w.setCell ⟨g, i, none⟩ v) :=
 h.grown (grownBy_setN w g i v) (Nat.le_trans hB h.size) (fun j e => by cases e; exact hg)
theorem rowN.sl {w : World} {g n : Nat} {c : Nat → Nat} {l : List Nat} (h : rowN w g n c) (hl : l.length = n) (hn : n ≤ maxLen) (e : ∀ q, q < n → c q = l.getD q 0) : SliceOf 1 (IntAt w) (.slice (some ⟨g, 0, none⟩) n n) (l.map Int.ofNat) := by
 refine ⟨some ⟨g, 0, none⟩, n, by simp [hl], by simp [hl], hn, fun i x hx => ⟨g, 0, rfl, ?_⟩⟩
 rw [List.getElem?_map, Option.map_eq_some_iff] at hx
 obtain ⟨y, hy, rfl⟩ := hx
 have hi : i < n := by rw [← hl]; exact (List.getElem?_eq_some_iff.1 hy).1
 have := h.at hi
 rw [e i hi, List.getD_eq_getElem?_getD, hy] at this
 unfold IntAt
 rw [Nat.zero_add, Nat.mul_one]
 exact this
def itC (G : List TyD) (m : Nat) : List Nat := iterL (G.map refsOf) G.length m (cls0 G)
theorem itC_zero (G : List TyD) (q : Nat) : (itC G 0).getD q 0 = f0 G q := rfl
theorem itC_succ (G : List TyD) (m q : Nat) : (itC G (m + 1)).getD q 0 = fN G (itC G m) q := by unfold itC fN; rw [iter_snoc]
theorem itC_len (G : List TyD) (m : Nat) : (itC G m).length = G.length := iter_len G m
theorem itC_end (G : List TyD) (q : Nat) : (itC G (G.length + 1)).getD q 0 = clF G q := by unfold itC clF; rw [classes_iter]
set_option maxRecDepth 100000 in
set_option maxHeartbeats 16000000 in
theorem refClasses_any (gv : Value) (G : List TyD) (W : World) (hG0 : GrAt W gv G) (hz : GrZ G) (hc : (checkR G).2 = 0) :
    Calls Tryz.prog 65 #[gv] W fun e w' => ∃ g, e = .returned (.slice (some ⟨g, 0, none⟩) G.length G.length) ∧ rowN w' g G.length (clF G) ∧ Below W.heap.size W w' := by
  obtain ⟨hlen, hR, hzz⟩ := check_fit hz hc
  obtain ⟨o, cap, rfl⟩ := hG0.form
  have HTY := hide (fun i hi => check_ty hc i hi)
  have HRS := hide (fun i (hi : i < G.length) => refs_results hc hi)
  have HCELLS := hide (fun i (hi : i < G.length) => hG0.cells hi)
  obtain ⟨i0, hi0, hz0, hz1, hz2⟩ := info_parts info3
  obtain ⟨n, hn⟩ : ∃ n, G.length = n := ⟨_, rfl⟩
  have HN := Lib.hid hn
  rw [hn] at hlen ⊢
  have HLT := hide (fun i (h : i < n) => (show i < G.length by rw [hn]; exact h))
  clear hn hG0 hc
  go_enter Tryz.func65, Tryz.ntmps65
  go_wp2_with (first | (at_make; refine wpList_make_row _ rfl _ _ 37 rfl 3 i0 (.int .i64 0) Tryz.underlying37 hi0 hz0 hz1 rfl .i64 .i64 n (by simp [Act.eval]) (by simp [Act.eval]) (by rw [hz2]; omega) (by omega) ?_))
  have hr0 : rowN (W.alloc (.cells (madeCells #[.int .i64 0] n) 3)) W.heap.size n (fun _ => 0) := (World.rowIs_made W (.int .i64 0) n 3).congr (fun _ _ => rfl)
  have hb0 : Below W.heap.size W (W.alloc (.cells (madeCells #[.int .i64 0] n) 3)) := (Below.refl _ _).alloc (Nat.le_refl _) _
  generalize W.alloc (.cells (madeCells #[.int .i64 0] n) 3) = A1 at hr0 hb0 ⊢
  obtain ⟨g0, hg0⟩ : ∃ g0, W.heap.size = g0 := ⟨_, rfl⟩
  rw [hg0] at hr0
  have HG0 := Lib.hid hg0
  rw [hg0]
  clear hg0
  go_loopg [4] n (fun g i wr => ∃ (k : Nat) (c : Nat → Nat), k ≤ n ∧ g = n - k ∧ i = .int .i64 k ∧ Below W.heap.size W wr ∧ rowN wr g0 n c ∧ Hid (∀ q, q < k → c q = f0 G q))
  case atStart => exact ⟨0, _, Nat.zero_le _, rfl, rfl, hb0, hr0, Lib.hid (fun q hq => absurd hq (by omega))⟩
  case round =>
   clear hr0 hb0
   obtain ⟨k, c, hk, hgk, rfl, hbw, hr, HC⟩ := hrel
   by_cases hlt : k < n
   ·have hlt' : (k : Int) < n := by omega
    have hck := hr.at hlt
    have hfk := hr.fz k
    go_wp2
    have hr2 := hr.set k k
    have hb2 := below_set hbw (Nat.le_refl _) (by rw [HG0.out]; exact Nat.le_refl _) (g := g0) k (.int .i64 k)
    generalize wr.setCell ⟨g0, k, none⟩ (.int .i64 k) = A2 at hr2 hb2 ⊢
    have HI := Lib.hid (show ∀ q, q < k → (if q = k then k else c q) = f0 G q from fun q hq => by rw [if_neg (by omega)]; exact HC.out q hq)
    clear hr hbw hck hfk HC
    go_loopg [5] k (fun g j wr => ∃ (m : Nat) (c : Nat → Nat), m ≤ k ∧ g = m ∧ j = .int .i64 ((m : Int) - 1) ∧ Below W.heap.size W wr ∧ rowN wr g0 n c ∧ Hid ((∀ q, q < k → c q = f0 G q) ∧ (c k = f0 G k ∨ (c k = k ∧ ∀ j, m ≤ j → j < k → lsA G j k = false))))
    case atStart => exact ⟨k, _, Nat.le_refl _, rfl, by go_num, hb2, hr2, Lib.hid ⟨HI.out, .inr ⟨by simp, fun j h1 h2 => absurd h2 (by omega)⟩⟩⟩
    case round =>
     clear hr2 hb2 HI
     obtain ⟨m, c, hm, hgm, rfl, hbw, hr, HC⟩ := hrel
     rcases m with _ | m
     ·have hneg : ¬ (0 : Int) ≤ ((0 : Nat) : Int) - 1 := by omega
      have HN1 := Lib.hid (show ∀ q, q < k + 1 → c q = f0 G q from fun q hq => by
       rcases Nat.lt_or_ge q k with h | h
       ·exact HC.out.1 q h
       ·obtain rfl : q = k := by omega
        exact f0_done (unhide HLT q hlt) HC.out.2)
      clear HC
      go_wp2
      go_roundg (n - (k + 1))
      case measure => omega
      case rel => exact ⟨k + 1, c, by omega, rfl, by go_num, hbw, hr, HN1⟩
     ·have hmk : m < k := by omega
      have he : (((m + 1 : Nat) : Int) - 1) = (m : Int) := by omega
      rw [he]
      clear he
      have hmn : m < n := by omega
      have hmG := unhide HLT m hmn
      have hkG := unhide HLT k hlt
      obtain ⟨b, off, u1, u2, u3, rfl, gl1, hc1⟩ := unhide HCELLS m hmG
      obtain ⟨b', off', v1, v2, v3, e', gl2, hc2⟩ := unhide HCELLS k hkG
      cases e'
      have hls : agR G[m] G[k] = lsA G m k := by
       have t1 := unhide HTY m hmG
       have t2 := unhide HTY k hkG
       unfold lsA
       rw [show G.getD m default = G[m] by simp [List.getD_eq_getElem?_getD, hmG]] at t1 ⊢
       rw [show G.getD k default = G[k] by simp [List.getD_eq_getElem?_getD, hkG]] at t2 ⊢
       exact agR_checked t1 t2
      have hA := hide (fun w (h : Below wr.heap.size wr w) => refAgree_any G[m] G[k] u1 u2 u3 v1 v2 v3 w (gl1.go (.below (hbw.trans (h.mono hbw.size)))) (gl2.go (.below (hbw.trans (h.mono hbw.size)))))
      rw [hls] at hA
      have hK1 : ∀ W', Below wr.heap.size wr W' → ∀ q u, (tyC G[m] u1 u2 u3)[q]? = some u → W'.cell? ⟨b, off + m * 10 + q, none⟩ = some u := fun W' hb => hc1 W' (.below (hbw.trans (hb.mono hbw.size)))
      have hK2 : ∀ W', Below wr.heap.size wr W' → ∀ q u, (tyC G[k] v1 v2 v3)[q]? = some u → W'.cell? ⟨b, off + k * 10 + q, none⟩ = some u := fun W' hb => hc2 W' (.below (hbw.trans (hb.mono hbw.size)))
      have HST := Lib.hid (f0_step hkG hmk HC.out.2)
      clear hls hc1 hc2 gl1 gl2
      generalize lsA G m k = bx at hA HST
      generalize G[m] = tm at hA hK1
      generalize G[k] = tk at hA hK2
      have i1 : (m : Int) < n := by omega
      have i0' : (0 : Int) ≤ m := by omega
      have i2 : (k : Int) < n := by omega
      go_wp2_with fail
      refine wp_region_quiet (C := fun w' => Below wr.heap.size wr w') (by kernel_rfl) (by kernel_rfl) (below_drewN' (Below.refl _ _) 1) ?_
      simp only []
      repeat (first
       | go_big_quiet_skip
       | (go_big_quiet_want; go_big_quiet_op; first
         | go_big_quiet_on
         | (refine ⟨_, fun _ _ => rfl, ?_⟩; go_big_quiet_on)
         | (refine ⟨tyVal tm u1 u2 u3, ?_, ?_⟩
            ·intro w1 hb
             have e0 := hK1 w1 hb 0 _ rfl
             have e1 := hK1 w1 hb 1 _ rfl
             have e2 := hK1 w1 hb 2 _ rfl
             have e3 := hK1 w1 hb 3 _ rfl
             have e4 := hK1 w1 hb 4 _ rfl
             have e5 := hK1 w1 hb 5 _ rfl
             have e6 := hK1 w1 hb 6 _ rfl
             have e7 := hK1 w1 hb 7 _ rfl
             have e8 := hK1 w1 hb 8 _ rfl
             have e9 := hK1 w1 hb 9 _ rfl
             rw [Nat.add_zero] at e0
             simp [e0, e1, e2, e3, e4, e5, e6, e7, e8, e9, tyVal, go_sem]
             done
            go_big_quiet_on)
         | (refine ⟨tyVal tk v1 v2 v3, ?_, ?_⟩
            ·intro w1 hb
             have e0 := hK2 w1 hb 0 _ rfl
             have e1 := hK2 w1 hb 1 _ rfl
             have e2 := hK2 w1 hb 2 _ rfl
             have e3 := hK2 w1 hb 3 _ rfl
             have e4 := hK2 w1 hb 4 _ rfl
             have e5 := hK2 w1 hb 5 _ rfl
             have e6 := hK2 w1 hb 6 _ rfl
             have e7 := hK2 w1 hb 7 _ rfl
             have e8 := hK2 w1 hb 8 _ rfl
             have e9 := hK2 w1 hb 9 _ rfl
             rw [Nat.add_zero] at e0
             simp [e0, e1, e2, e3, e4, e5, e6, e7, e8, e9, tyVal, go_sem]
             done
            go_big_quiet_on)
         | (apply Exists.intro
            refine ⟨fun w1 hb => ?_, ?_⟩
            ·with_reducible refine (unhide hA w1 hb).mono ?_
             rintro e w2 ⟨rfl, hb2⟩
             exact ⟨rfl, hb.trans (hb2.mono hb.size)⟩
            go_big_quiet_on)))
      refine wpQuiet_nil ?_
      rintro w3 hb3
      have hr3 := hr.below hb3
      have hbw3 := hbw.trans (hb3.mono hbw.size)
      clear hA hK1 hK2 hr hbw hb3
      cases bx
      ·have HN1 := Lib.hid (show (∀ q, q < k → c q = f0 G q) ∧ (c k = f0 G k ∨ (c k = k ∧ ∀ j, m ≤ j → j < k → lsA G j k = false)) from ⟨HC.out.1, HST.out.2 rfl⟩)
       go_wp2
       go_roundg m
       case measure => omega
       case rel => exact ⟨m, c, by omega, rfl, by go_num, hbw3, hr3, HN1⟩
      ·have cm := hr3.at hmn
       have ck := hr3.at hlt
       have fk := hr3.fz k
       have hr4 := hr3.set k (c m)
       have hb4 := below_set hbw3 (Nat.le_refl _) (by rw [HG0.out]; exact Nat.le_refl _) (g := g0) k (.int .i64 (c m))
       obtain ⟨d, hd⟩ : ∃ d : Nat → Nat, (fun q => if q = k then c m else c q) = d := ⟨_, rfl⟩
       rw [hd] at hr4
       have HN1 := Lib.hid (show (∀ q, q < k → d q = f0 G q) ∧ (d k = f0 G k ∨ (d k = k ∧ ∀ j, m ≤ j → j < k → lsA G j k = false)) from by
        subst hd
        dsimp only
        exact ⟨fun q hq => by rw [if_neg (by omega)]; exact HC.out.1 q hq, .inl (by rw [if_pos rfl, HC.out.1 m hmk]; exact HST.out.1 rfl)⟩)
       clear hr3 hbw3 hd
       go_wp2
       go_roundg m
       case measure => omega
       case rel => exact ⟨m, _, by omega, rfl, by go_num, hb4, hr4, HN1⟩
   ·have hkn : k = n := by omega
    have HC0 := Lib.hid (show ∀ q, q < n → c q = (itC G 0).getD q 0 from fun q h => (HC.out q (by omega)).trans (itC_zero G q).symm)
    have hge : ¬ (k : Int) < n := by omega
    clear HC hkn
    go_wp2
    go_loopg [3, 6] (n + 1) (fun g v i wr => ∃ (m og : Nat) (c : Nat → Nat), m ≤ n + 1 ∧ g = n + 1 - m ∧ v = .slice (some ⟨og, 0, none⟩) n n ∧ i = .int .i64 m ∧ W.heap.size ≤ og ∧ Below W.heap.size W wr ∧ rowN wr og n c ∧ Hid (∀ q, q < n → c q = (itC G m).getD q 0))
    case atStart => exact ⟨0, g0, c, by omega, rfl, rfl, rfl, by rw [HG0.out]; exact Nat.le_refl _, hbw, hr, HC0⟩
    case round =>
     clear hr hbw HC0 hge
     obtain ⟨m, og, c, hm, hgm, rfl, rfl, hog, hbw, hr, HC⟩ := hrel
     by_cases hlt2 : m ≤ n
     ·have hlt2' : (m : Int) ≤ n := by omega
      go_wp2_with (first | (at_make; refine wpList_make_row _ rfl _ _ 37 rfl 3 i0 (.int .i64 0) Tryz.underlying37 hi0 hz0 hz1 rfl .i64 .i64 n (by simp [Act.eval]) (by simp [Act.eval]) (by rw [hz2]; omega) (by omega) ?_))
      have hbl : Below wr.heap.size wr (wr.alloc (.cells (madeCells #[.int .i64 0] n) 3)) := (Below.refl _ _).alloc (Nat.le_refl _) _
      have hrn0 : rowN (wr.alloc (.cells (madeCells #[.int .i64 0] n) 3)) wr.heap.size n (fun _ => 0) := (World.rowIs_made wr (.int .i64 0) n 3).congr (fun _ _ => rfl)
      have hro0 := hr.below hbl
      have hbw0 := hbw.trans (hbl.mono hbw.size)
      have hne : og ≠ wr.heap.size := by have := World.rowIs.lt hr; omega
      have hng : W.heap.size ≤ wr.heap.size := hbw.size
      clear hbl hr hbw
      generalize wr.alloc (.cells (madeCells #[.int .i64 0] n) 3) = A4 at hrn0 hro0 hbw0 ⊢
      generalize wr.heap.size = ng at hne hng hrn0 ⊢
      go_loopg [8] n (fun g i w4 => ∃ (k : Nat) (d : Nat → Nat), k ≤ n ∧ g = n - k ∧ i = .int .i64 k ∧ Below W.heap.size W w4 ∧ rowN w4 og n c ∧ rowN w4 ng n d ∧ Hid (∀ q, q < k → d q = fN G (itC G m) q))
      case atStart => exact ⟨0, _, Nat.zero_le _, rfl, rfl, hbw0, hro0, hrn0, Lib.hid (fun q hq => absurd hq (by omega))⟩
      case round =>
       clear hrn0 hro0 hbw0
       obtain ⟨k, d, hk, hgk, rfl, hbw, hro, hrn, HD⟩ := hrel
       by_cases hlt : k < n
       ·have hlt' : (k : Int) < n := by omega
        have cnk := hrn.at hlt
        have fnk := hrn.fz k
        go_wp2
        have hrn2 := hrn.set k k
        have hro2 := hro.other k (.int .i64 k) hne
        have hb2 := below_set hbw (Nat.le_refl _) hng k (.int .i64 k)
        generalize wr.setCell ⟨ng, k, none⟩ (.int .i64 k) = A5 at hrn2 hro2 hb2 ⊢
        obtain ⟨d2, hd2⟩ : ∃ d2 : Nat → Nat, (fun q => if q = k then k else d q) = d2 := ⟨_, rfl⟩
        rw [hd2] at hrn2
        have HD2 := Lib.hid (show (∀ q, q < k → d2 q = fN G (itC G m) q) ∧ ((d2 k = k ∧ ∀ q, q < 0 → lsN G (itC G m) q k = false) ∨ (d2 k = fN G (itC G m) k ∧ d2 k ≠ k)) from by
         subst hd2
         dsimp only
         exact ⟨fun q hq => by rw [if_neg (by omega)]; exact HD.out q hq, .inl ⟨if_pos rfl, fun q hq => absurd hq (by omega)⟩⟩)
        clear hrn hro hbw cnk fnk HD hd2
        go_loopg [9] k (fun g j w5 => ∃ (x : Nat) (d : Nat → Nat), x ≤ k ∧ g = k - x ∧ j = .int .i64 x ∧ Below W.heap.size W w5 ∧ rowN w5 og n c ∧ rowN w5 ng n d ∧ Hid ((∀ q, q < k → d q = fN G (itC G m) q) ∧ ((d k = k ∧ ∀ q, q < x → lsN G (itC G m) q k = false) ∨ (d k = fN G (itC G m) k ∧ d k ≠ k))))
        case atStart => exact ⟨0, d2, Nat.zero_le _, rfl, rfl, hb2, hro2, hrn2, HD2⟩
        case round =>
         clear hrn2 hro2 hb2 HD2
         obtain ⟨x, d, hx, hgx, rfl, hbw, hro, hrn, HD⟩ := hrel
         have hend : d k = k → x = k → d k = fN G (itC G m) k := fun h1 h2 => by
          rcases HD.out.2 with ⟨_, h⟩ | ⟨h, _⟩
          ·rw [fN_end (unhide HLT k hlt) (fun j hj => h j (by omega))]; exact h1
          ·exact h
         have hend2 : d k ≠ k → d k = fN G (itC G m) k := fun h1 => by
          rcases HD.out.2 with ⟨h, _⟩ | ⟨h, _⟩
          ·exact absurd h h1
          ·exact h
         have HE1 := hide hend
         have HE2 := hide hend2
         have HNX := hide (fun (h : d k = fN G (itC G m) k) => Lib.hid (show ∀ q, q < k + 1 → d q = fN G (itC G m) q from fun q hq => by
          rcases Nat.lt_or_ge q k with h1 | h1
          ·exact HD.out.1 q h1
          ·obtain rfl : q = k := by omega
           exact h))
         have cnk := hrn.at hlt
         have hlt' : (k : Int) < n := by omega
         clear hend hend2
         by_cases hxk : x < k
         ·have hxk' : (x : Int) < k := by omega
          by_cases hdk : d k = k
          ·have hdk' : ((d k : Int) == k) = true := by simp; omega
           have hno : ∀ q, q < x → lsN G (itC G m) q k = false := by
            rcases HD.out.2 with ⟨_, h⟩ | ⟨_, h⟩
            ·exact h
            ·exact absurd hdk h
           have HNO := Lib.hid hno
           have hxn : x < n := by omega
           have hxn' : (x : Int) < n := by omega
           have hxG := unhide HLT x hxn
           have hkG := unhide HLT k hlt
           have P0 : ∀ w, Below wr.heap.size wr w → w.cell? ⟨ng, x, none⟩ = some (.int .i64 (d x)) := fun w h => Holds.below h _ _ (hrn.at hxn)
           have P2 : ∀ w, Below wr.heap.size wr w → w.cell? ⟨og, x, none⟩ = some (.int .i64 (c x)) := fun w h => Holds.below h _ _ (hro.at hxn)
           have P3 : ∀ w, Below wr.heap.size wr w → w.cell? ⟨og, k, none⟩ = some (.int .i64 (c k)) := fun w h => Holds.below h _ _ (hro.at hlt)
           have HLS := Lib.hid (show lsN G (itC G m) x k = (decide (c x = c k) && eqF (sameB ((itC G m).map Int.ofNat)) (refsOf (G.getD x default)) (refsOf (G.getD k default))) by rw [lsN_eq hxG hkG, HC.out x hxn, HC.out k hlt])
           clear hno HE1 HE2 HNX
           go_upto_region 22 with fail
           go_cut [107] from 77 to 107 (fun v wx => v = .bool (decide (d x = x) && lsN G (itC G m) x k) ∧ Below wr.heap.size wr wx)
           case first =>
            by_cases h1 : d x = x
            ·by_cases h2 : c x = c k
             ·have e1 : ((d x : Int) == x) = true := by simp; omega
              have e2 : ((c x : Int) == c k) = true := by simp; omega
              obtain ⟨b, off, u1, u2, u3, rfl, gl1, hc1⟩ := unhide HCELLS x hxG
              obtain ⟨b', off', v1, v2, v3, e', gl2, hc2⟩ := unhide HCELLS k hkG
              cases e'
              have gd1 : G.getD x default = G[x] := by simp [List.getD_eq_getElem?_getD, hxG]
              have gd2 : G.getD k default = G[k] := by simp [List.getD_eq_getElem?_getD, hkG]
              have HX := Lib.hid (show (decide (d x = x) && lsN G (itC G m) x k) = eqF (sameB ((itC G m).map Int.ofNat)) (refsOf G[x]) (refsOf G[k]) by rw [HLS.out, decide_eq_true h1, decide_eq_true h2, Bool.true_and, Bool.true_and, gd1, gd2])
              have HR1 := hide (fun w (h : Below wr.heap.size wr w) => refRefs_any G[x] u1 u2 u3 w (gl1.go (.below (hbw.trans (h.mono hbw.size)))) (hR _ (List.getElem_mem hxG)) (by have := unhide HRS x hxG; rw [gd1] at this; exact this))
              have HR2 := hide (fun w (h : Below wr.heap.size wr w) => refRefs_any G[k] v1 v2 v3 w (gl2.go (.below (hbw.trans (h.mono hbw.size)))) (hR _ (List.getElem_mem hkG)) (by have := unhide HRS k hkG; rw [gd2] at this; exact this))
              have HAL := hide (fun (w : World) (h : Below wr.heap.size wr w) (va vb : Value) (ha : SliceOf 1 (IntAt w) va (refsOf G[x])) (hb : SliceOf 1 (IntAt w) vb (refsOf G[k])) =>
               refAlike_any (.slice (some ⟨og, 0, none⟩) n n) va vb ((itC G m).map Int.ofNat) _ _ w (rowN.sl (hro.below h) (by rw [itC_len]; exact HN.out) (by unfold maxLen; omega) HC.out) ha hb
                (fun y hy => by have := hzz _ (List.getElem_mem hxG) y hy; rw [List.length_map, itC_len]; exact this) (fun y hy => by have := hzz _ (List.getElem_mem hkG) y hy; rw [List.length_map, itC_len]; exact this))
              have HS := hide (fun (w : World) (hb : Below wr.heap.size wr w) => (show (w.cell? ⟨ng, x, none⟩ = some (.int .i64 (d x)) ∧ w.cell? ⟨og, x, none⟩ = some (.int .i64 (c x)) ∧ w.cell? ⟨og, k, none⟩ = some (.int .i64 (c k))) ∧ (∀ q u, (tyC G[x] u1 u2 u3)[q]? = some u → w.cell? ⟨b, off + x * 10 + q, none⟩ = some u) ∧ (∀ q u, (tyC G[k] v1 v2 v3)[q]? = some u → w.cell? ⟨b, off + k * 10 + q, none⟩ = some u) from
               ⟨⟨P0 w hb, P2 w hb, P3 w hb⟩, hc1 w (.below (hbw.trans (hb.mono hbw.size))), hc2 w (.below (hbw.trans (hb.mono hbw.size)))⟩))
              clear gd1 gd2 hc1 hc2 gl1 gl2 h1 h2 HLS HNO HD HC P0 P2 P3
              generalize G[x] = tx at HX HR1 HAL HS
              generalize G[k] = tk at HX HR2 HAL HS
              generalize eqF (sameB ((itC G m).map Int.ofNat)) (refsOf tx) (refsOf tk) = res at HX HAL
              unfold tyVal at HR1 HR2
              have hbE : Below wr.heap.size wr wr.drew := ⟨rfl, rfl, rfl, Nat.le_refl _, fun _ _ => rfl⟩
              have j1 : (x : Int) < n := by omega
              have j2 : (k : Int) < n := by omega
              go_region_held3 (fun w' => w'.cell? ⟨ng, x, none⟩ = some (.int .i64 (d x)) ∧ w'.cell? ⟨og, x, none⟩ = some (.int .i64 (c x)) ∧ w'.cell? ⟨og, k, none⟩ = some (.int .i64 (c k)) ∧ w'.cell? ⟨b, off + x * 10, none⟩ = some (.int .u8 tx.kind) ∧ w'.cell? ⟨b, off + x * 10 + 1, none⟩ = some (.int .i64 tx.low) ∧ w'.cell? ⟨b, off + x * 10 + 2, none⟩ = some (.int .i64 tx.high) ∧ w'.cell? ⟨b, off + x * 10 + 3, none⟩ = some (.bool tx.branded) ∧ w'.cell? ⟨b, off + x * 10 + 4, none⟩ = some (.string tx.brand) ∧ w'.cell? ⟨b, off + x * 10 + 5, none⟩ = some (.string tx.opq) ∧ w'.cell? ⟨b, off + x * 10 + 6, none⟩ = some (.int .i64 tx.super) ∧ w'.cell? ⟨b, off + x * 10 + 7, none⟩ = some (u1) ∧ w'.cell? ⟨b, off + x * 10 + 8, none⟩ = some (u2) ∧ w'.cell? ⟨b, off + x * 10 + 9, none⟩ = some (u3) ∧ w'.cell? ⟨b, off + k * 10, none⟩ = some (.int .u8 tk.kind) ∧ w'.cell? ⟨b, off + k * 10 + 1, none⟩ = some (.int .i64 tk.low) ∧ w'.cell? ⟨b, off + k * 10 + 2, none⟩ = some (.int .i64 tk.high) ∧ w'.cell? ⟨b, off + k * 10 + 3, none⟩ = some (.bool tk.branded) ∧ w'.cell? ⟨b, off + k * 10 + 4, none⟩ = some (.string tk.brand) ∧ w'.cell? ⟨b, off + k * 10 + 5, none⟩ = some (.string tk.opq) ∧ w'.cell? ⟨b, off + k * 10 + 6, none⟩ = some (.int .i64 tk.super) ∧ w'.cell? ⟨b, off + k * 10 + 7, none⟩ = some (v1) ∧ w'.cell? ⟨b, off + k * 10 + 8, none⟩ = some (v2) ∧ w'.cell? ⟨b, off + k * 10 + 9, none⟩ = some (v3)) (exact ⟨(unhide HS _ hbE).1.1, (unhide HS _ hbE).1.2.1, (unhide HS _ hbE).1.2.2, (unhide HS _ hbE).2.1 0 _ rfl, (unhide HS _ hbE).2.1 1 _ rfl, (unhide HS _ hbE).2.1 2 _ rfl, (unhide HS _ hbE).2.1 3 _ rfl, (unhide HS _ hbE).2.1 4 _ rfl, (unhide HS _ hbE).2.1 5 _ rfl, (unhide HS _ hbE).2.1 6 _ rfl, (unhide HS _ hbE).2.1 7 _ rfl, (unhide HS _ hbE).2.1 8 _ rfl, (unhide HS _ hbE).2.1 9 _ rfl, (unhide HS _ hbE).2.2 0 _ rfl, (unhide HS _ hbE).2.2 1 _ rfl, (unhide HS _ hbE).2.2 2 _ rfl, (unhide HS _ hbE).2.2 3 _ rfl, (unhide HS _ hbE).2.2 4 _ rfl, (unhide HS _ hbE).2.2 5 _ rfl, (unhide HS _ hbE).2.2 6 _ rfl, (unhide HS _ hbE).2.2 7 _ rfl, (unhide HS _ hbE).2.2 8 _ rfl, (unhide HS _ hbE).2.2 9 _ rfl⟩) (first
               | (go_at_call 50; with_reducible refine (unhide HR1 _ hbE).mono ?_; clear HR1; rintro e wL ⟨vL, rfl, rL, hbL⟩; unfold ownInts at rL; (try have rR := Row.below rR hbL); replace hbE := hbE.trans (hbL.mono hbE.size))
               | (go_at_call 50; with_reducible refine (unhide HR2 _ hbE).mono ?_; clear HR2; rintro e wR ⟨vR, rfl, rR, hbR⟩; unfold ownInts at rR; (try have rL := Row.below rL hbR); replace hbE := hbE.trans (hbR.mono hbE.size))
               | (go_at_call 110; refine (unhide HAL _ hbE _ _ (row_ints rL) (row_ints rR)).mono ?_; clear HAL; rintro e wA ⟨rfl, hbA⟩; replace hbE := hbE.trans (hbA.mono hbE.size)))
              all_goals
               go_wp2
               go_meet
               exact ⟨by rw [HX.out], hbE⟩
             ·have e1 : ((d x : Int) == x) = true := by simp; omega
              have e2 : ((c x : Int) == c k) = false := by simp; omega
              have HX := Lib.hid (show (decide (d x = x) && lsN G (itC G m) x k) = false by rw [HLS.out, decide_eq_false h2, Bool.false_and, Bool.and_false])
              clear h1 h2 HLS HNO HD HC
              refine wp_region_quiet (C := fun w' => Below wr.heap.size wr w') (by kernel_rfl) (by kernel_rfl) (below_drewN' (Below.refl _ _) 1) ?_
              simp only []
              repeat (first
               | go_big_quiet_skip
               | (go_big_quiet_want; go_big_quiet_op; first
                 | go_big_quiet_on
                 | (refine ⟨_, fun _ _ => rfl, ?_⟩; go_big_quiet_on)
                 | (refine ⟨.int .i64 (d x : Int), ?_, ?_⟩
                    ·intro w1 hb
                     have e := P0 w1 hb
                     simp [e, go_sem]
                     done
                    go_big_quiet_on)
                 | (refine ⟨.int .i64 (c x : Int), ?_, ?_⟩
                    ·intro w1 hb
                     have e := P2 w1 hb
                     simp [e, go_sem]
                     done
                    go_big_quiet_on)
                 | (refine ⟨.int .i64 (c k : Int), ?_, ?_⟩
                    ·intro w1 hb
                     have e := P3 w1 hb
                     simp [e, go_sem]
                     done
                    go_big_quiet_on)))
              refine wpQuiet_nil ?_
              rintro w3 hb3
              go_wp2
              go_meet
              exact ⟨by rw [HX.out], hb3⟩
            ·have e1 : ((d x : Int) == x) = false := by simp; omega
             have HX := Lib.hid (show (decide (d x = x) && lsN G (itC G m) x k) = false by rw [decide_eq_false h1, Bool.false_and])
             clear h1 HLS HNO HD HC
             refine wp_region_quiet (C := fun w' => Below wr.heap.size wr w') (by kernel_rfl) (by kernel_rfl) (below_drewN' (Below.refl _ _) 1) ?_
             simp only []
             repeat (first
              | go_big_quiet_skip
              | (go_big_quiet_want; go_big_quiet_op; first
                | go_big_quiet_on
                | (refine ⟨_, fun _ _ => rfl, ?_⟩; go_big_quiet_on)
                | (refine ⟨.int .i64 (d x : Int), ?_, ?_⟩
                   ·intro w1 hb
                    have e := P0 w1 hb
                    simp [e, go_sem]
                    done
                   go_big_quiet_on)))
             refine wpQuiet_nil ?_
             rintro w3 hb3
             go_wp2
             go_meet
             exact ⟨by rw [HX.out], hb3⟩
           case rest =>
           obtain ⟨rfl, hbx⟩ := hcut
           obtain ⟨bb, hbb⟩ : ∃ bb, (decide (d x = x) && lsN G (itC G m) x k) = bb := ⟨_, rfl⟩
           rw [hbb]
           have hbw3 := hbw.trans (hbx.mono hbw.size)
           have hro3 := hro.below hbx
           have hrn3 := hrn.below hbx
           cases bb
           ·have HN1 := Lib.hid (show (∀ q, q < k → d q = fN G (itC G m) q) ∧ ((d k = k ∧ ∀ q, q < x + 1 → lsN G (itC G m) q k = false) ∨ (d k = fN G (itC G m) k ∧ d k ≠ k)) from ⟨HD.out.1, .inl ⟨hdk, fun q hq => by
              rcases Nat.lt_or_ge q x with h | h
              ·exact HNO.out q h
              ·obtain rfl : q = x := by omega
               rw [Bool.eq_false_iff]
               intro e
               have h1 := (fN_own hkG hxk HNO.out e).1
               rw [HD.out.1 q hxk, decide_eq_true h1, e] at hbb
               cases hbb⟩⟩)
            clear HD hbb P0 P2 P3 HLS HNO cnk hbw hro hrn hbx
            go_wp2
            go_roundg (k - (x + 1))
            case measure => omega
            case rel => exact ⟨x + 1, d, by omega, rfl, by go_num, hbw3, hro3, hrn3, HN1⟩
           ·have hlx : lsN G (itC G m) x k = true := by rw [Bool.and_eq_true] at hbb; exact hbb.2
            have hfk := (fN_own hkG hxk HNO.out hlx).2
            have cnk3 := hrn3.at hlt
            have fnk3 := hrn3.fz k
            have hb4 := below_set hbw3 (Nat.le_refl _) hng k (.int .i64 x)
            have hro4 := hro3.other k (.int .i64 x) hne
            have hrn4 := hrn3.set k x
            obtain ⟨d2, hd2⟩ : ∃ d2 : Nat → Nat, (fun q => if q = k then x else d q) = d2 := ⟨_, rfl⟩
            rw [hd2] at hrn4
            have HN1 := Lib.hid (show (∀ q, q < k → d2 q = fN G (itC G m) q) ∧ ((d2 k = k ∧ ∀ q, q < x + 1 → lsN G (itC G m) q k = false) ∨ (d2 k = fN G (itC G m) k ∧ d2 k ≠ k)) from by
             subst hd2
             dsimp only
             exact ⟨fun q hq => by rw [if_neg (by omega)]; exact HD.out.1 q hq, .inr ⟨by rw [if_pos rfl, hfk], by rw [if_pos rfl]; omega⟩⟩)
            clear HD hbb P0 P2 P3 HLS HNO cnk hbw hro hrn hbx hbw3 hro3 hrn3 hd2 hfk hlx
            go_wp2
            go_roundg (k - (x + 1))
            case measure => omega
            case rel => exact ⟨x + 1, d2, by omega, rfl, by go_num, hb4, hro4, hrn4, HN1⟩
          ·have hdk' : ((d k : Int) == k) = false := by simp; omega
           have HZ := unhide HNX (unhide HE2 hdk)
           clear HE1 HE2 HNX hdk HD
           go_wp2
           go_roundg (n - (k + 1))
           case measure => omega
           case rel => exact ⟨k + 1, d, by omega, rfl, by go_num, hbw, hro, hrn, HZ⟩
         ·have hxk' : ¬ (x : Int) < k := by omega
          have hdd : d k = fN G (itC G m) k := by
           by_cases hdk : d k = k
           ·exact unhide HE1 hdk (by omega)
           ·exact unhide HE2 hdk
          have HZ := unhide HNX hdd
          clear HE1 HE2 HNX hdd HD
          go_wp2
          go_roundg (n - (k + 1))
          case measure => omega
          case rel => exact ⟨k + 1, d, by omega, rfl, by go_num, hbw, hro, hrn, HZ⟩
       ·have hge : ¬ (k : Int) < n := by omega
        have HZ := Lib.hid (show ∀ q, q < n → d q = (itC G (m + 1)).getD q 0 from fun q hq => (HD.out q (by omega)).trans (itC_succ G m q).symm)
        clear HD
        go_wp2
        go_roundg (n + 1 - (m + 1))
        case measure => omega
        case rel => exact ⟨m + 1, ng, d, by omega, rfl, rfl, by go_num, hng, hbw, hrn, HZ⟩
     ·have hge2 : ¬ (m : Int) ≤ n := by omega
      have hmn : m = n + 1 := by omega
      have hfin := hr.congr (fun i hi => show c i = clF G i by rw [HC.out i hi, hmn, ← HN.out]; exact itC_end G i)
      clear HC hmn
      go_wp2
      go_ret
      exact ⟨og, rfl, hfin, hbw⟩
end Go.Proofs.YteaokkaidcbdlaaGreatDoor

