/- Part 22 of 53: the texts Wb, Pt, Wd, Yj, one behind the other. -/
import Derived.Test.YteaokkaidcbdlaaGreatDoorM20
import Derived.Test.YteaokkaidcbdlaaGreatDoorM4
import Derived.Test.YteaokkaidcbdlaaGreatDoorM16
import Derived.Test.YteaokkaidcbdlaaGreatDoorM1
import Derived.Sort.OwnSortedInts
import Derived.Test.YteaokkaidcbdlaaGreatDoorM17
namespace Go.Proofs.YteaokkaidcbdlaaGreatDoor
open Go Go.RowKit Go.Shelf
theorem reverse_row {base : Nat} {v : Value} (l : List Int) (w : World) (h : w.ownsRow base 3 1 v l.length (l.map (.int .i64))) (hl : l.length ≤ 1000000) :
    Calls Tryz.prog 161 #[v] w fun e w' => e = .returned (.tuple #[]) ∧ w'.ownsRow base 3 1 v l.length (l.reverse.map (.int .i64)) ∧ w.grownBy w' v.ownBlock := by
  rcases h.2 with ⟨rfl, h0⟩ | ⟨g, cap, cur, rfl, hg, hgb, hn, hcap, hsz, htk⟩
  ·obtain rfl := List.eq_nil_of_length_eq_zero h0
   refine (Tryz.slices_Reverse_int_empty none 0 w).mono ?_
   rintro e w' ⟨rfl, rfl⟩
   exact ⟨rfl, h, ⟨rfl, rfl, rfl, Nat.le_refl _, fun _ _ _ => rfl⟩⟩
  ·rw [Nat.mul_one] at htk hsz
   refine (Tryz.slices_Reverse_int g 0 cap l w (holds_of_blockI hgb htk) (by omega)).mono ?_
   rintro e w' ⟨rfl, n, rfl⟩
   have := ownsRow_sortedI (os := #[]) (n := n) (ss := l) (ts := l.reverse) (by simp) hg hgb hn hcap (by omega)
   have h2 := grownBy_sortedI (w := w) (g := g) (n := n) (os := #[]) l.reverse.toArray
   rw [Sort.grow_empty] at this h2
   exact ⟨rfl, this, h2⟩
abbrev Came := List ((Nat × Nat) × (Nat × Nat) × Nat)
def strideV (s : (Nat × Nat) × Nat) : Value := .agg #[.int .i64 s.1.1, .int .i64 s.1.2, .int .i64 s.2]
def cameA (C : Came) : List ((Nat × Nat) × Value) := C.map fun c => (c.1, strideV c.2)
abbrev MapC (w : World) (b : Nat) (C : Came) : Prop := AMap w b 64 prV (cameA C)
def backL (C : Came) (first : Nat × Nat) : Nat → Nat × Nat → List Nat
 | 0, _ => []
 | n + 1, a => if a = first then [] else match C.find? (fun c => decide (c.1 = a)) with | some c => c.2.2 :: backL C first n c.2.1 | none => []
def Chain (C : Came) (first : Nat × Nat) : Prop := ∀ m (h : m < C.length), C[m].1 = first ∨ ∃ q, ∃ h2 : q < m, C[q].1 = C[m].2.1
theorem find_key {C : Came} (hn : (C.map (·.1)).Nodup) {m : Nat} (h : m < C.length) : C.find? (fun c => decide (c.1 = C[m].1)) = some C[m] := by
 rw [List.find?_eq_some_iff_getElem]
 refine ⟨by simp, m, h, rfl, fun j hj => ?_⟩
 simp only [Bool.not_eq_eq_eq_not, Bool.not_true, decide_eq_false_iff_not]
 have := List.pairwise_iff_getElem.1 hn j m (by simp; omega) (by simpa using h) hj
 simpa using this
theorem lookA_came {C : Came} (hn : (C.map (·.1)).Nodup) {m : Nat} (h : m < C.length) : lookA (cameA C) C[m].1 = some (strideV C[m].2) := by
 apply lookA_mem
 ·unfold cameA; rw [List.map_map]; exact hn
 ·unfold cameA; exact List.mem_map.2 ⟨C[m], List.getElem_mem h, rfl⟩
theorem came_keys (C : Came) : (cameA C).map (·.1) = C.map (·.1) := by unfold cameA; rw [List.map_map]; rfl
def sliceLen : Value → Nat | .slice _ n _ => n | _ => 0
def wayL (C : Came) (first last : Nat × Nat) : List Int := ((backL C first (C.length + 1) last).map Int.ofNat).reverse
structure WbI (w wr : World) (mb : Nat) (C : Came) (first last : Nat × Nat) (m0 : Nat) (vW vA : Value) (a : Nat × Nat) (m fuel ab : Nat) (pre : List Nat) : Prop where
 va : vA = .pointer (some ⟨ab, 0, none⟩)
 ba : Blk wr ab [.int .i64 a.1, .int .i64 a.2] 64
 ge : w.heap.size + 2 ≤ ab
 key : ∃ h : m < C.length, C[m].1 = a
 fu : m < fuel
 bk : backL C first (C.length + 1) last = pre ++ backL C first fuel a
 le : pre.length + m ≤ m0
 row : wr.ownsRow (w.heap.size + 2) 3 1 vW pre.length (natsV pre)
 bel : Below w.heap.size w wr
 mp : MapC wr mb C
 bf : Blk wr w.heap.size [.int .i64 first.1, .int .i64 first.2] 64
set_option maxRecDepth 100000 in
set_option maxHeartbeats 8000000 in
theorem wayBack_any (mb : Nat) (C : Came) (first last : Nat × Nat) (w : World) (hM : MapC w mb C) (hC : Chain C first) (hl : ∃ m, ∃ h : m < C.length, C[m].1 = last) (hlen : C.length ≤ 200000)
    (hsm : ∀ c ∈ C, c.1.1 < 1000 ∧ c.1.2 < 1000) :
    Calls Tryz.prog 112 #[.map (some mb), prV first, prV last] w fun e w' => ∃ v, e = .returned v ∧ w'.ownsRow w.heap.size 3 1 v (wayL C first last).length ((wayL C first last).map (.int .i64)) ∧ Below w.heap.size w w' := by
  have hnd : (C.map (·.1)).Nodup := by have := hM.nodup; rwa [came_keys] at this
  obtain ⟨m0, hm0, hl0⟩ := hl
  have hmb := hM.lt
  unfold prV pairV
  go_enter Tryz.func112, Tryz.ntmps112
  go_wp2
  go_loopw [7, 8] (fun vW vA wr => ∃ a m fuel ab pre, WbI w wr mb C first last m0 vW vA a m fuel ab pre) (fun vW _ _ => C.length - sliceLen vW)
  case atStart =>
   have hbl : Below w.heap.size w (((w.alloc (.cells #[.int .i64 first.1, .int .i64 first.2] 64)).alloc (.cells #[.int .i64 last.1, .int .i64 last.2] 64)).alloc (.cells #[.int .i64 last.1, .int .i64 last.2] 64)) :=
    (((Below.refl _ _).alloc (Nat.le_refl _) _).alloc (by simp) _).alloc (by simp; omega) _
   refine ⟨last, m0, C.length + 1, _, [], rfl, ?ba, (by omega), ⟨hm0, hl0⟩, by omega, rfl, by simp, World.ownsRow_nil _ _ _ _, hbl, hM.below hbl hmb, ?bf⟩
   case ba =>
    have := Blk.new ((w.alloc (.cells #[.int .i64 first.1, .int .i64 first.2] 64)).alloc (.cells #[.int .i64 last.1, .int .i64 last.2] 64)) [.int .i64 last.1, .int .i64 last.2] 64
    simpa using this
   case bf => exact ((Blk.new w [.int .i64 first.1, .int .i64 first.2] 64).alloc _).alloc _
  case round =>
   obtain ⟨a, m, fuel, ab, pre, hI⟩ := hrel
   obtain ⟨rfl, ba, hge, ⟨hm, hk⟩, hfu, hbk, hle, hrow, hbel, hmp, hbf⟩ := hI
   obtain ⟨ov, cv, rfl⟩ : ∃ o c, u7 = .slice o pre.length c := by
    rcases hrow.2 with ⟨rfl, h0⟩ | ⟨g, c2, cur, rfl, _⟩
    ·exact ⟨_, _, by rw [h0]⟩
    ·exact ⟨_, _, rfl⟩
   have ca0 := ba.cell 0
   have ca1 := ba.cell 1
   have cf0 := hbf.cell 0
   have cf1 := hbf.cell 1
   simp only [List.getElem?_cons_zero, List.getElem?_cons_succ] at ca0 ca1 cf0 cf1
   have e64 := eqP64 a.1 a.2 first.1 first.2
   by_cases haf : a = first
   ·subst haf
    have hb : (((a.1 : Int) == a.1) && ((a.2 : Int) == a.2)) = true := by simp
    rw [hb] at e64
    have hbl : backL C a fuel a = [] := by cases fuel <;> simp [backL]
    rw [hbl, List.append_nil] at hbk
    have HBK := Lib.hid hbk
    have HR := hide (reverse_row (pre.map Int.ofNat) wr (by rw [← natsV_ints]; simpa using hrow) (by simp; omega))
    have hlr : (pre.map Int.ofNat).length = pre.length := by simp
    clear hbk
    go_wp2_with (first | (go_at_call 161; refine (unhide HR).mono ?_; clear HR; rintro e w2 ⟨rfl, hrow2, hg2⟩))
    go_ret
    have hwl : wayL C a last = (pre.map Int.ofNat).reverse := by unfold wayL; rw [HBK.out]
    rw [hwl, List.length_reverse, hlr]
    rw [hlr] at hrow2
    exact ⟨_, rfl, Row.mono hrow2 (by omega), hbel.grown hg2 hbel.size (fun j e => by have := (hrow.lt j e).1; omega)⟩
   ·have hb : (((a.1 : Int) == first.1) && ((a.2 : Int) == first.2)) = false := by
      rw [Bool.eq_false_iff]; intro h; simp at h; exact haf (Prod.ext (by omega) (by omega))
    rw [hb] at e64
    obtain ⟨s1, s2⟩ := hsm C[m] (List.getElem_mem hm)
    rw [hk] at s1 s2
    obtain ⟨kl, hkl⟩ := key_pr (p := a) (by omega) (by omega)
    have hlook := hmp.lookup law64 prV_inj Tryz.underlying142 (Tryz.zeroValue141 wr) false hkl
    have hla := lookA_came hnd hm
    rw [hk] at hla
    rw [hla] at hlook
    unfold prV pairV strideV at hlook
    simp only [Option.getD_some, Bool.false_eq_true, if_false] at hlook
    obtain ⟨q, hqm, hq⟩ : ∃ q, ∃ h2 : q < m, C[q].1 = C[m].2.1 := by
     rcases hC m hm with h | h
     ·exact absurd (hk ▸ h) haf
     ·exact h
    obtain ⟨fu', rfl⟩ : ∃ f, fuel = f + 1 := ⟨fuel - 1, by omega⟩
    have hstep : backL C first (fu' + 1) a = C[m].2.2 :: backL C first fu' C[m].2.1 := by
     have := find_key hnd hm
     rw [hk] at this
     simp [backL, haf, this]
    rw [hstep] at hbk
    have hla2 := hla
    clear hstep hla
    generalize C[m].2 = nb at hq hlook hbk hla2
    obtain ⟨nx, by_⟩ := nb
    simp only at hq hlook hbk hla2
    have f0 := field141_0 nx.1 nx.2 by_
    have f1 := field141_1 nx.1 nx.2 by_
    have HBK := Lib.hid hbk
    have hrl := natsV_len pre
    clear hbk
    go_wp2_with (first | (at_builtin; refine app_lies _ _ 37 3 (.int .i64 0) 8 info3 Tryz.underlying37 rfl (by decide) rfl rfl (w.heap.size + 2) _ (natsV pre) rfl (by rw [hrl]; exact hrow.alloc _) _ (.int .i64 by_) rfl ?c1 rfl (by rw [hrl]; omega) ?c2 ?_))
    case c1 => exact (Blk.new wr [.int .i64 by_] 3).cell 0
    case c2 => have := ba.lt; simp; omega
    intro g cap2 w2 hown' hgrow hg hbl
    rw [show (Value.int .i64 by_) = natI by_ from rfl, ← natsV_snoc] at hown'
    have ba2 := (ba.alloc (.cells #[.int .i64 by_] 3)).kept hgrow ((ba.alloc (.cells #[.int .i64 by_] 3)).not_row (by decide) (hrow.alloc (.cells #[.int .i64 by_] 3)))
    have hb2 : Below w.heap.size w w2 := hbl _ _ (hbel.alloc hbel.size _) (by omega)
    have bf2 := (hbf.alloc (.cells #[.int .i64 by_] 3)).kept hgrow ((hbf.alloc (.cells #[.int .i64 by_] 3)).not_row (by decide) (hrow.alloc (.cells #[.int .i64 by_] 3)))
    have mp2 : MapC w2 mb C := hM.below hb2 hmb
    have ca0 := ba2.cell 0
    have ca1 := ba2.cell 1
    simp only [List.getElem?_cons_zero, List.getElem?_cons_succ] at ca0 ca1
    have hl2 := fun o => ((mp2.alloc o).lookup law64 prV_inj Tryz.underlying142 (Tryz.zeroValue141 (w2.alloc o)) false hkl)
    rw [hla2] at hl2
    unfold prV pairV strideV at hl2
    simp only [Option.getD_some, Bool.false_eq_true, if_false] at hl2
    have hsz2 : w.heap.size + 2 ≤ w2.heap.size := by have := ba2.lt; omega
    clear hlook hmp hbf ba hbel
    go_wp2
    refine ⟨⟨nx, q, fu', _, pre ++ [by_], ⟨rfl, Blk.new w2 _ 64, hsz2, ⟨by omega, hq⟩, by omega, by rw [HBK.out]; simp, by simp; omega, by simpa using hown'.alloc _, hb2.alloc hb2.size _, mp2.alloc _, bf2.alloc _⟩⟩, ?_⟩
    simp only [sliceLen]; omega
end Go.Proofs.YteaokkaidcbdlaaGreatDoor

namespace Go.Proofs.YteaokkaidcbdlaaGreatDoor
open Go Go.RowKit Go.Shelf
theorem places_ty (b k : Nat) (t : TyD) (w : World) (ht : TyAt w b k t) : ∃ L : List Addr, L.map w.cell? = (refsOf t).map cellI ∧
    ∀ (cb l : Nat) (J : List Addr → World → Prop), (∀ p W, J p W → W.cell? ⟨cb, 0, none⟩ = some (.pointer (some ⟨b, k, none⟩)) ∧ Holds w W) →
     (∀ p x W, p ++ [x] <+: L → J p W → YieldAt Fence.wide 0 Tryz.prog l #[.pointer (some x)] W fun e W' => e = .returned (.bool true) ∧ J (p ++ [x]) W') →
     ∀ W, J [] W → CallsIn Fence.wide 1 Tryz.prog 168 #[.func (.yield l) #[] #[], .pointer (some ⟨cb, 0, none⟩)] W fun e W' => (∃ v, e = .returned v) ∧ J L W' := by
  obtain ⟨vp, vm, vo, hl, k0, k1, k2, k3, k4, k5, k6, k7, k8, k9⟩ := ht
  obtain ⟨op, cp, rfl⟩ := hl.parts.form
  obtain ⟨om, cm, rfl⟩ := hl.meths.form
  obtain ⟨-, hpm, hpl, hpat⟩ := hl.parts.at
  obtain ⟨-, hmm, hml, hmat⟩ := hl.meths.at
  have hnp : t.parts.length ≤ 9223372036854775807 := by unfold maxLen at hpm; omega
  have hnm : t.meths.length ≤ 9223372036854775807 := by unfold maxLen at hmm; omega
  obtain ⟨S, hSl, hSP⟩ := choose_list (P := fun i s => ∀ h : i < t.meths.length, SigAt w om i t.meths[i] s ∧ s.n ≤ 9223372036854775807 ∧ (0 < s.n → ∃ ab aoff, s.o = some ⟨ab, aoff, none⟩)) t.meths.length (fun i hi => by
   obtain ⟨mb, moff, rfl, va, vr, hv, m0, m1, m2, m3, m4⟩ := hmat i t.meths[i] (List.getElem?_eq_getElem hi)
   have hargs := hv.args
   obtain ⟨oa, ca, rfl⟩ := hv.args.form
   obtain ⟨-, ham, hal, haat⟩ := hv.args.at
   refine ⟨⟨oa, t.meths[i].args.length, ca, t.meths[i].result⟩, fun _ => ⟨⟨?_, ?_, rfl, rfl, hargs⟩, ?_, ?_⟩⟩
   ·intro b' o' e; cases e; exact m1
   ·intro b' o' e; cases e; exact m2
   ·show t.meths[i].args.length ≤ _
    unfold maxLen at ham; omega
   ·intro h0
    obtain ⟨ab, aoff, e, _⟩ := haat 0 t.meths[i].args[0] (List.getElem?_eq_getElem h0)
    exact ⟨ab, aoff, e⟩)
  refine ⟨placesL (supB t.kind) b k op t.parts.length om S, ?_, ?_⟩
  ·unfold placesL refsOf
   rw [List.map_append, List.map_append, List.map_append, List.map_append, partAts_cells hl.parts]
   congr 1
   ·unfold superAts
    split
    ·simp [cellI]; exact k6
    ·rfl
   ·congr 1
    by_cases h0 : S.length = 0
    ·have : t.meths = [] := List.eq_nil_of_length_eq_zero (by omega)
     rw [h0, this]; simp [methAts]
    ·obtain ⟨mb, moff, rfl, _⟩ := hmat 0 t.meths[0] (List.getElem?_eq_getElem (by omega))
     rw [methAts_cells (M := t.meths) hSl (fun i h1 h2 => (hSP i h1 h2).1) S.length (Nat.le_refl _), hSl, List.take_length]
  ·intro cb l J hJ hY W h0
   refine places_in l cb b k t.kind op t.parts.length cp om cm S hnp (by omega) (fun s hs => by
       obtain ⟨i, hi, rfl⟩ := List.mem_iff_getElem.1 hs
       exact (hSP i hi (by omega)).2)
     (fun h0 => by
      obtain ⟨ab, aoff, e, _⟩ := hpat 0 t.parts[0] (List.getElem?_eq_getElem h0)
      exact ⟨ab, aoff, e⟩)
     (fun h0 => by
      obtain ⟨ab, aoff, e, _⟩ := hmat 0 t.meths[0] (List.getElem?_eq_getElem (by omega))
      exact ⟨ab, aoff, e⟩)
     J (fun p W h => ?_) (fun m h p W hj mb moff e => ?_) (fun m h j W hj hJ' mb moff e => ?_) hY W h0
   ·obtain ⟨h1, h2⟩ := hJ p W h
    exact ⟨h1, h2 _ _ k0, h2 _ _ k7, by rw [hSl]; exact h2 _ _ k8⟩
   ·exact (hJ _ _ hj).2 _ _ ((hSP m h (by omega)).1.hdr mb moff e)
   ·exact (hJ _ _ hJ').2 _ _ ((hSP m h (by omega)).1.res mb moff e)
end Go.Proofs.YteaokkaidcbdlaaGreatDoor

namespace Go.Proofs.YteaokkaidcbdlaaGreatDoor
open Go Go.RowKit Go.Shelf
theorem checkedR_ok {G : List TyD} {l : List Int} (h : checkedR G l = 0) : (checkR G).2 = 0 ∧ ∀ i ∈ l, 0 ≤ i ∧ i < G.length := by
 unfold checkedR at h
 split at h
 ·rename_i h1; exact absurd h h1
 ·rename_i h1
  split at h
  ·rename_i h2
   exact ⟨Classical.byContradiction fun hc => h1 hc, fun i hi => of_decide_eq_true (List.all_eq_true.1 h2 i hi)⟩
  ·cases h
end Go.Proofs.YteaokkaidcbdlaaGreatDoor

namespace Go.Proofs.YteaokkaidcbdlaaGreatDoor
open Go Go.RowKit Go.Shelf
end Go.Proofs.YteaokkaidcbdlaaGreatDoor

