/-
 each's recursion: its end, and the whole, where count visits.
-/
import Derived.Test.YtjgddagladmgoaaFrom
namespace Go.Proofs.Ytjgddagladmgoaa
open Go.RowKit
attribute [local go_sem ↓] Go.wp_at_zero Go.wp_at_succ

variable {wE : World} {V V2 Bb n : Nat} {I : List (List Int) → World → Prop} {go : List (List Int) → Bool} {H Db Dm Fb : Nat} {sv : Value} {S : List SideD × List CondD}

/-- What a visit does. -/
def VisitOkC (wE : World) (V V2 Bb n : Nat) (I : List (List Int) → World → Prop) (go : List (List Int) → Bool) : Prop :=
  ∀ d pt w, FromSt wE w V V2 Bb n I d pt → near pt → d.length ≤ 900000 →
    Calls Try.prog 53 #[.slice (some ⟨Bb, 0, none⟩) n n, .pointer (some ⟨V, 0, none⟩)] w (fun e w' => e = .returned (.bool (go (d ++ [pt]))) ∧ FromSt wE w' V V2 Bb n I (d ++ [pt]) pt)

def fvC (V : Nat) : Value := .func (.func 53) #[] #[.pointer (some ⟨V, 0, none⟩)]

set_option maxRecDepth 100000 in
set_option maxHeartbeats 2000000 in
theorem from_endC (hM : ∀ W, Framed wE W V V2 → FromMem W H Db Dm Fb S sv (fvC V)) (hI : Steady Bb I) (hgood : setErr S = 0) (hn : n = S.1.length) (hV : VisitOkC wE V V2 Bb n I go) : FromGives wE V V2 Bb n I go H Db Fb S [] := by
  intro i w xs d hd hi h hb hR
  have hi' : i = n := by
    have := congrArg List.length hd
    simp at this
    omega
  subst hi'
  have ht : xs.take i = xs := List.take_of_length_le (by rw [h.len]; omega)
  cases hbad : (rowsLen (rowsOf S) i).any (negRow (xs.take i))
  case true => exact from_bad hM hI hgood hn i w xs d [] hi h hb hbad
  have hn8 := (set_good hgood).1
  have hm := hM w h.framed
  have hd0 := hm.d0
  have ha0 := hm.a0
  have hv0 := hm.v0
  unfold fvC at hv0
  obtain ⟨dv, hdv, hrl⟩ := hm.dec i (by omega)
  obtain ⟨pd, dcap, rfl, hdl, hdc⟩ := id hrl
  obtain ⟨p, cap, rfl, ⟨hl, hlc⟩, hc⟩ := hm.sides
  have hpl : (xs.take i).length = i := by have := h.len; simp; omega
  have HX := Lib.hid (h.ints (by omega) i i hi hb)
  have HRl := Lib.hid hrl
  have HB := Lib.hid hb
  have HG := Lib.hid (rowsLen_good hgood i)
  have HS := Lib.hid h
  have HN := Lib.hid hbad
  have HPl := Lib.hid hpl
  have HF := Lib.hid (show fromP (rowsOf S) (xs.take i) [] = [xs] by simp only [fromP, hpl, hbad]; simp [ht])
  have HC := Lib.hid (fun W (hg : w.grownBy W none) => hV d xs W (h.kept hI hg) (by rwa [ht] at hb) (by rw [HF.out] at hR; simp at hR; omega))
  have HT := Lib.hid ht
  have hI2 : (i : Int) < (S.1.length : Int) + 1 := by omega
  have hI3 : (0 : Int) ≤ (i : Int) := by omega
  have hin : ((i : Int) == (S.1.length : Int)) = true := by simp; omega
  have hpl2 : (xs.take i).length ≤ S.1.length := by omega
  clear hrl hb h hbad hm hpl hdc hd hR hc hgood hM hn ht hV hi
  generalize (rowsLen (rowsOf S) i).length = dl at *
  go_enter Try.func56, Try.ntmps56
  go_wp2_with (first
    | (go_at_call 52; go_must (refine (areMet_any S.1.length (rowsLen (rowsOf S) i) _ _ (xs.take i) _ HRl.out HG.out (by omega) HX.out hpl2 HB.out).mono ?_; rintro e w1 ⟨rfl, hg1⟩; rw [HN.out]; have hG1 := Lib.hid hg1; have d1 := hg1.cell ha0 (by simp); have d2 := hg1.cell hv0 (by simp); clear hg1))
    | (go_at_call 53; go_must (refine (HC.out _ hG1.out).mono ?_; rintro e w2 ⟨rfl, hs2⟩; have HS2 := Lib.hid hs2; clear hs2)))
  go_ret
  have hw : walkP go d (fromP (rowsOf S) (xs.take i) []) = (d ++ [xs], go (d ++ [xs])) := by
    rw [HF.out]
    simp only [walkP]
    cases go (d ++ [xs]) <;> rfl
  refine ⟨ret_bool (by rw [hw]), xs, by rw [hw]; exact HS2.out, by rw [HPl.out]⟩

theorem from_allC (hM : ∀ W, Framed wE W V V2 → FromMem W H Db Dm Fb S sv (fvC V)) (hI : Steady Bb I) (hgood : setErr S = 0) (hne : emptyB S.1 = false) (hn : n = S.1.length) (hV : VisitOkC wE V V2 Bb n I go) : ∀ rest, FromGives wE V V2 Bb n I go H Db Fb S rest
  | [] => from_endC hM hI hgood hn hV
  | s :: r => from_step hM hI hgood hne hn s r (from_allC hM hI hgood hne hn hV r)

end Go.Proofs.Ytjgddagladmgoaa
