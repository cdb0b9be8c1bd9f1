/- Part 7 of 53: the texts Ld, Ty, one behind the other. -/
import Derived.Test.YteaokkaidcbdlaaGreatDoorM6
namespace Go.Proofs.YteaokkaidcbdlaaGreatDoor
open Go Go.RowKit Go.Shelf
theorem nothing_any (a b : Value) (w : World) : Calls Tryz.prog 148 #[a, b] w fun e w' => e = .returned (.tuple #[]) ∧ w' = w := by
 go_enter Tryz.func148, Tryz.ntmps148
 go_wp2
 go_end0
 exact ⟨rfl, rfl⟩
theorem TyL.turn {W : World} {vp vm vo : Value} {t t' : TyD} (h : TyL W vp vm vo t) (h1 : t'.parts = t.parts) (h2 : t'.meths = t.meths) (h3 : t'.overs = t.overs) : TyL W vp vm vo t' :=
 ⟨h1 ▸ h.parts, h2 ▸ h.meths, h3 ▸ h.overs⟩
theorem SliceOf.none' {α : Type} {sz : Nat} {At : Nat → Nat → α → Prop} : SliceOf sz At (.slice none 0 0) ([] : List α) := ⟨none, 0, rfl, Nat.le_refl _, Nat.zero_le _, fun i x h => by simp at h⟩
structure TyZ (t : TyD) : Prop where
 brand : t.brand.size ≤ maxLen
 opq : t.opq.size ≤ maxLen
 parts : ∀ p ∈ t.parts, p.name.size ≤ maxLen
 meths : ∀ p ∈ t.meths, p.name.size ≤ maxLen ∧ p.proc.size ≤ maxLen ∧ ∀ r ∈ p.raises, r.size ≤ maxLen
 overs : ∀ p ∈ t.overs, p.name.size ≤ maxLen ∧ p.proc.size ≤ maxLen
set_option maxRecDepth 100000 in
set_option maxHeartbeats 4000000 in
theorem onePart_chk {W0 W : World} {o : Option Addr} {n cap : Nat} {bc bt : Nat} {f : Bool} {t : TyD} {vp vm vo : Value} (hz : TyZ t) (hl : TyL W0 vp vm vo t) (h : Own2 W0 W (.slice o n cap) bc bt f (tyC t vp vm vo)) :
    Calls Tryz.prog 149 #[.iface 125 (.pointer (some ⟨bc, 0, none⟩)), .pointer (some ⟨bt, 0, none⟩)] W fun e w' => e = .returned (.tuple #[]) ∧
     Own2 W0 w' (.slice o n cap) bc bt ((f && brandedB t) && partB n t) (tyC { t with branded := false, brand := ⟨#[]⟩ } (.slice none 0 0) vm vo) := by
  go_enter Tryz.func149, Tryz.ntmps149
  go_wp2_with (first | (go_at_call 263; refine (brand_any hz.brand h).mono ?_; rintro e w1 ⟨rfl, h1⟩) | (go_at_call 269; refine (part_any (by exact hl.turn rfl rfl rfl) h1).mono ?_; rintro e w2 ⟨rfl, h2⟩))
  go_end0
  exact ⟨rfl, h2⟩
set_option maxRecDepth 100000 in
set_option maxHeartbeats 4000000 in
theorem record_chk {W0 W : World} {o : Option Addr} {n cap : Nat} {bc bt : Nat} {f : Bool} {t : TyD} {vp vm vo : Value} (hz : TyZ t) (hl : TyL W0 vp vm vo t) (h : Own2 W0 W (.slice o n cap) bc bt f (tyC t vp vm vo)) :
    Calls Tryz.prog 150 #[.iface 125 (.pointer (some ⟨bc, 0, none⟩)), .pointer (some ⟨bt, 0, none⟩)] W fun e w' => e = .returned (.tuple #[]) ∧
     Own2 W0 w' (.slice o n cap) bc bt ((f && brandedB t) && fieldsB n t) (tyC { t with branded := false, brand := ⟨#[]⟩ } (.slice none 0 0) vm vo) := by
  go_enter Tryz.func150, Tryz.ntmps150
  go_wp2_with (first | (go_at_call 263; refine (brand_any hz.brand h).mono ?_; rintro e w1 ⟨rfl, h1⟩) | (go_at_call 264; refine (fields_any (by exact hl.turn rfl rfl rfl) (by exact hz.parts) h1).mono ?_; rintro e w2 ⟨rfl, h2⟩))
  go_end0
  exact ⟨rfl, h2⟩
set_option maxRecDepth 100000 in
set_option maxHeartbeats 4000000 in
theorem opaque_chk {W0 W : World} {o : Option Addr} {n cap : Nat} {G : List TyD} {bc bt : Nat} {f : Bool} {t : TyD} {vp vm vo : Value} (hG : GrAt W0 (.slice o n cap) G) (hz : TyZ t) (h : Own2 W0 W (.slice o n cap) bc bt f (tyC t vp vm vo)) :
    Calls Tryz.prog 152 #[.iface 125 (.pointer (some ⟨bc, 0, none⟩)), .pointer (some ⟨bt, 0, none⟩)] W fun e w' => e = .returned (.tuple #[]) ∧
     Own2 W0 w' (.slice o n cap) bc bt ((f && symB (bs t.opq)) && superB G t) (tyC { t with opq := ⟨#[]⟩, super := 0 } vp vm vo) := by
  go_enter Tryz.func152, Tryz.ntmps152
  go_wp2_with (first | (go_at_call 267; refine (opaque_any hz.opq h).mono ?_; rintro e w1 ⟨rfl, h1⟩) | (go_at_call 270; refine (super_any hG h1).mono ?_; rintro e w2 ⟨rfl, h2⟩))
  go_end0
  exact ⟨rfl, h2⟩
set_option maxRecDepth 100000 in
set_option maxHeartbeats 4000000 in
theorem object_chk {W0 W : World} {o : Option Addr} {n cap : Nat} {G : List TyD} {bc bt : Nat} {f : Bool} {t : TyD} {vp vm vo : Value} (hG : GrAt W0 (.slice o n cap) G) (hz : TyZ t) (hl : TyL W0 vp vm vo t) (h : Own2 W0 W (.slice o n cap) bc bt f (tyC t vp vm vo)) :
    Calls Tryz.prog 151 #[.iface 125 (.pointer (some ⟨bc, 0, none⟩)), .pointer (some ⟨bt, 0, none⟩)] W fun e w' => e = .returned (.tuple #[]) ∧
     Own2 W0 w' (.slice o n cap) bc bt (((((f && brandedB t) && superB G t) && fieldsB n t) && methsB n t) && oversB t) (tyC { t with branded := false, brand := ⟨#[]⟩, super := 0 } (.slice none 0 0) (.slice none 0 0) (.slice none 0 0)) := by
  have hl3 : TyL W0 (.slice none 0 0) vm vo { t with branded := false, brand := ⟨#[]⟩, super := 0, parts := [] } := ⟨.none', hl.meths, hl.overs⟩
  have hl4 : TyL W0 (.slice none 0 0) (.slice none 0 0) vo { t with branded := false, brand := ⟨#[]⟩, super := 0, parts := [], meths := [] } := ⟨.none', .none', hl.overs⟩
  go_enter Tryz.func151, Tryz.ntmps151
  go_wp2_with (first | (go_at_call 263; refine (brand_any hz.brand h).mono ?_; rintro e w1 ⟨rfl, h1⟩) | (go_at_call 270; refine (super_any hG h1).mono ?_; rintro e w2 ⟨rfl, h2⟩) | (go_at_call 264; refine (fields_any (by exact hl.turn rfl rfl rfl) (by exact hz.parts) h2).mono ?_; rintro e w3 ⟨rfl, h3⟩) | (go_at_call 266; refine (methods_any (vp := (.slice none 0 0)) hl3 hz.meths h3).mono ?_; rintro e w4 ⟨rfl, h4⟩) | (go_at_call 268; refine (overs_any (vp := (.slice none 0 0)) (vm := (.slice none 0 0)) hl4 hz.overs h4).mono ?_; rintro e w5 ⟨rfl, h5⟩))
  go_end0
  exact ⟨rfl, h5⟩
end Go.Proofs.YteaokkaidcbdlaaGreatDoor

namespace Go.Proofs.YteaokkaidcbdlaaGreatDoor
open Go Go.RowKit Go.Shelf
structure GrZ (G : List TyD) : Prop where
 len : G.length ≤ 410
 tys : ∀ t ∈ G, TyZ t ∧ t.parts.length ≤ 10 ∧ t.meths.length ≤ 10 ∧ t.overs.length ≤ 10 ∧ t.kind < 256
def tyB (G : List TyD) (t : TyD) : Bool :=
 match t.kind with
 | 1 | 2 | 4 | 5 | 6 | 7 | 8 => bareB t (t.parts.length + t.meths.length + t.overs.length)
 | 3 => boundsB t && bareB { t with low := 0, high := 0 } (t.parts.length + t.meths.length + t.overs.length)
 | 9 | 11 => (brandedB t && partB G.length t) && bareB { t with branded := false, brand := ⟨#[]⟩ } (0 + t.meths.length + t.overs.length)
 | 10 => (brandedB t && fieldsB G.length t) && bareB { t with branded := false, brand := ⟨#[]⟩ } (0 + t.meths.length + t.overs.length)
 | 12 => ((((brandedB t && superB G t) && fieldsB G.length t) && methsB G.length t) && oversB t) && bareB { t with branded := false, brand := ⟨#[]⟩, super := 0 } (0 + 0 + 0)
 | 13 => (symB (bs t.opq) && superB G t) && bareB { t with opq := ⟨#[]⟩, super := 0 } (t.parts.length + t.meths.length + t.overs.length)
 | _ => false
theorem tyB_no {G : List TyD} {t : TyD} (h : ¬ (1 ≤ t.kind ∧ t.kind ≤ 13)) : tyB G t = false := by
 unfold tyB
 split <;> first | omega | rfl
def firstNo {α : Type} (p : α → Bool) (l : List α) : Int := match l.findIdx? (fun x => !p x) with | some i => i | none => -1
theorem firstNo_at {α : Type} {p : α → Bool} {l : List α} {k : Nat} (h : k < l.length) (ha : (l.take k).all p = true) (hp : p l[k] = false) : firstNo p l = k := by
 unfold firstNo
 have : l.findIdx? (fun x => !p x) = some k := by
  rw [List.findIdx?_eq_some_iff_getElem]
  refine ⟨h, by simp [hp], fun j hj => ?_⟩
  have := List.all_eq_true.1 ha l[j] (by rw [List.mem_take_iff_getElem]; exact ⟨j, by omega, rfl⟩)
  simp [this]
 rw [this]
theorem firstNo_none {α : Type} {p : α → Bool} {l : List α} (ha : l.all p = true) : firstNo p l = -1 := by
 unfold firstNo
 have : l.findIdx? (fun x => !p x) = none := by
  rw [List.findIdx?_eq_none_iff]
  intro x hx
  simp [List.all_eq_true.1 ha x hx]
 rw [this]
end Go.Proofs.YteaokkaidcbdlaaGreatDoor

