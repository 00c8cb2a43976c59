/-
 Has.
-/
import Derived.Test.YtjgddagladmgoaaHas
namespace Go.Proofs.Ytjgddagladmgoaa
open Go.RowKit

/-- The error of a question for a point, and its answer. -/
def hasErr (S : List SideD × List CondD) (xs : List Int) : Int := if setErr S == 0 then (if xs.length = S.1.length then 0 else 3) else setErr S
def hasOf (S : List SideD × List CondD) (xs : List Int) : Bool := hasErr S xs == 0 && pointB S xs

def HasPost (b : Bool) (err : Int) (w : World) (e : Ending) (w' : World) : Prop := e = .returned (.tuple #[.bool b, .int .i64 err]) ∧ w.grownBy w' none

set_option maxHeartbeats 1000000 in
theorem has_any (S : List SideD × List CondD) (sv cv xv : Value) (xs : List Int) (w : World) (hS : SetAt w sv cv S) (hx : IntsAt w xv xs) :
    Calls Try.prog 7 #[.agg #[sv, cv], xv] w (HasPost (hasOf S xs) (hasErr S xs) w) := by
  obtain ⟨⟨p, cap, rfl, ⟨hsl, hscc⟩, hsc⟩, ⟨pc, ccap, rfl, hcl, hcc⟩⟩ := id hS
  obtain ⟨px, xcap, rfl, hxl, hxc⟩ := id hx
  have HS := Lib.hid hS
  have HX := Lib.hid hx
  clear hS hsc hcc hx hxc
  by_cases hE : setErr S = 0
  · have hE0 : (setErr S != 0) = false := by simp [hE]
    have HE := Lib.hid hE
    by_cases hl : xs.length = S.1.length
    · have hq : ((xs.length : Int) != (S.1.length : Int)) = false := by simp [hl]
      have HP := Lib.hid (pointP_eq hE hl)
      have HEr := Lib.hid (show hasErr S xs = 0 by simp [hasErr, hE, hl])
      have HL := Lib.hid hl
      clear hE hl
      go_enter Try.func7, Try.ntmps7
      go_wp2_with (first
        | (go_at_call 30; go_must (refine (spaceOf_any S _ _ _ (HS.out.kept (World.grownBy_alloc _ _ _))).mono ?_; rintro e w1 ⟨hg1, _, hk0⟩; obtain ⟨kv, rfl, hk1⟩ := hk0 HE.out; clear hk0; obtain ⟨pk, kcap, rfl, hkl, hkc⟩ := id hk1; have G1 := Lib.hid hg1; have K1 := Lib.hid hk1; clear hg1 hk1 hkc))
        | (go_at_call 31; go_must (refine (spaceHas_any S _ _ _ xs _ (HS.out.1.kept (grownBy_trans (World.grownBy_alloc _ _ _) (grownBy_trans G1.out (World.grownBy_alloc _ _ _)))) (K1.out.kept (World.grownBy_alloc _ _ _)) (HX.out.kept (grownBy_trans (World.grownBy_alloc _ _ _) (grownBy_trans G1.out (World.grownBy_alloc _ _ _)))) HE.out HL.out).mono ?_; rintro e w2 ⟨rfl, hg2⟩; have G2 := Lib.hid hg2; clear hg2)))
      go_ret2
      exact ⟨by simp [hasOf, HEr.out, HP.out], grownBy_trans (World.grownBy_alloc _ _ _) (grownBy_trans G1.out (grownBy_trans (World.grownBy_alloc _ _ _) G2.out))⟩
    · have hq : ((xs.length : Int) != (S.1.length : Int)) = true := by simp; omega
      have HEr := Lib.hid (show hasErr S xs = 3 by simp [hasErr, hE, hl])
      clear hE hl
      go_enter Try.func7, Try.ntmps7
      go_wp2_with (first
        | (go_at_call 30; go_must (refine (spaceOf_any S _ _ _ (HS.out.kept (World.grownBy_alloc _ _ _))).mono ?_; rintro e w1 ⟨hg1, _, hk0⟩; obtain ⟨kv, rfl, hk1⟩ := hk0 HE.out; clear hk0; obtain ⟨pk, kcap, rfl, hkl, hkc⟩ := id hk1; have G1 := Lib.hid hg1; clear hg1 hk1 hkc)))
      go_ret2
      exact ⟨by simp [hasOf, HEr.out], grownBy_trans (World.grownBy_alloc _ _ _) (grownBy_trans G1.out (World.grownBy_alloc _ _ _))⟩
  · have hE0 : (setErr S != 0) = true := by simp [hE]
    have HE := Lib.hid hE
    have HEr := Lib.hid (show hasErr S xs = setErr S by simp [hasErr, hE])
    clear hE
    go_enter Try.func7, Try.ntmps7
    go_wp2_with (first
      | (go_at_call 30; go_must (refine (spaceOf_any S _ _ _ (HS.out.kept (World.grownBy_alloc _ _ _))).mono ?_; rintro e w1 ⟨hg1, hk0, _⟩; obtain rfl := hk0 HE.out; have G1 := Lib.hid hg1; clear hg1 hk0)))
    go_ret2
    exact ⟨by simp [hasOf, HEr.out, HE.out], grownBy_trans (World.grownBy_alloc _ _ _) (grownBy_trans G1.out (World.grownBy_alloc _ _ _))⟩

end Go.Proofs.Ytjgddagladmgoaa
