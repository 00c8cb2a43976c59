/-
 FormsOverSets: the walk of the law.
-/
import Derived.Test.YtfilcaolgfghcaaGreatIter
import Derived.Test.YtfilcaolgfghcaaGreatProjIn
import Derived.Test.YtfilcaolgfghcaaGreatOverEq
import Derived.Test.YtfilcaolgfghcaaGreatImage
import Derived.Test.YtfilcaolgfghcaaGreatProj
import Derived.Test.YtfilcaolgfghcaaGreatNamesC
import Derived.Test.YtfilcaolgfghcaaGreatEachC
import Derived.Test.YtfilcaolgfghcaaGreatASet3
import Derived.Test.YtfilcaolgfghcaaGreatFormOver
import Derived.BigQuiet
namespace Go.Proofs.YtfilcaolgfghcaaGreat
open Go.RowKit

def oneSet : List SideD × List CondD := ([(⟨#[105]⟩, 1, 4)], [])
theorem nameI : nameB ⟨#[105]⟩ = true := by
  have e : containsB resL ⟨#[105]⟩ = false := by rw [resB_eq, ByteArray.toList_eq]; decide
  have a : allOk ⟨#[105]⟩ 1 = true := by decide
  have s : (⟨#[105]⟩ : ByteArray).size = 1 := rfl
  unfold nameB
  rw [s, a, e]
  rfl
theorem oneSet_err : setErr oneSet = 0 := by
  have h : sidesErr [] oneSet.1 = 0 := by
    simp only [oneSet, sidesErr, nameI]
    simp [containsB, sideBad, inB]
  rw [setErr_4 (by decide) h (by decide) rfl]
  decide
theorem oneSet_count : countOf oneSet = 4 := by
  unfold countOf
  rw [oneSet_err]
  simp [oneSet, pointsFrom, rangeI, pointB, insideB, inB, List.range_succ]

theorem oneSet_at (w : World) : SetAt (w.alloc (.cells #[.string ⟨#[105]⟩, .int .i64 1, .int .i64 4] 64)) (.slice (some ⟨w.heap.size, 0, none⟩) 1 1) (.slice none 0 0) oneSet := by
  refine ⟨⟨_, 1, rfl, ⟨by decide, by decide⟩, fun j s hj => ?_⟩, ⟨none, 0, rfl, by decide, fun j f hj => by simp [oneSet] at hj⟩⟩
  cases j with
  | zero =>
    simp [oneSet] at hj
    subst hj
    exact ⟨w.heap.size, 0, rfl, by decide, ⟨by decide, by decide⟩, ⟨by decide, by decide⟩, by simp, by simp, by simp⟩
  | succ j => simp [oneSet] at hj

set_option maxHeartbeats 1000000 in
theorem counted_any (w : World) : Calls Tryz.prog 23 #[] w (Gives (.bool true) w) := by
  have HC := Lib.hid (count_any oneSet _ _ _ (oneSet_at w))
  rw [oneSet_err, oneSet_count] at HC
  go_enter Tryz.func23, Tryz.ntmps23
  go_wp2_with (go_at_call 61; go_must (refine HC.out.mono ?_; rintro e w1 ⟨rfl, hg⟩; have HG := Lib.hid hg; clear hg))
  go_ret
  exact ⟨rfl, grownBy_trans (World.grownBy_alloc _ _ _) HG.out⟩


attribute [local go_sem ↓] Go.wp_at_zero Go.wp_at_succ

theorem stream_start {w : World} {L : Value} (hL : ListAt w w.heap.size L) : StreamAt (w.alloc (.cells #[L, .int .i64 0] 25)) w.heap.size 0 :=
  ⟨L, 0, Nat.le_refl _, heap_alloc_new _ _, hL.kept (World.grownBy_alloc _ _ _)⟩

theorem sameRows_self (xs : List (List Int)) : sameRows xs xs = true := by simp [sameRows]

/-- What stands when all is drawn: the boxes of the set and of the form, the set, the form, the forms, the names. -/
structure TopR (A F : Nat) (S : List SideD × List CondD) (sv cv : Value) (c : Int) (ts : List TermD) (tv : Value) (fl : List CondD) (lv : Value) (ns : List ByteArray) (nv : Value) (w : World) : Prop where
  ba : w.heap[A]? = some (.cells #[sv, cv] 29 (0, 0))
  bf : w.heap[F]? = some (.cells #[.int .i64 c, tv] 33 (0, 0))
  set : SetAt w sv cv S
  terms : TermsAt w tv ts
  conds : CondsAt w lv fl
  strs : StrsAt w nv ns
variable {A F B : Nat} {S : List SideD × List CondD} {sv cv tv lv nv : Value} {c : Int} {ts : List TermD} {fl : List CondD} {ns : List ByteArray} {w w' : World}
theorem TopR.kept (h : TopR A F S sv cv c ts tv fl lv ns nv w) (hg : w.grownBy w' none) : TopR A F S sv cv c ts tv fl lv ns nv w' := ⟨heap_keep h.ba hg (by simp), heap_keep h.bf hg (by simp), h.set.kept hg, h.terms.kept hg, h.conds.kept hg, h.strs.kept hg⟩
theorem TopR.a0 (h : TopR A F S sv cv c ts tv fl lv ns nv w) : w.cell? ⟨A, 0, none⟩ = some sv := by simp [World.cell?, h.ba]
theorem TopR.a1 (h : TopR A F S sv cv c ts tv fl lv ns nv w) : w.cell? ⟨A, 1, none⟩ = some cv := by simp [World.cell?, h.ba]
theorem TopR.f0 (h : TopR A F S sv cv c ts tv fl lv ns nv w) : w.cell? ⟨F, 0, none⟩ = some (.int .i64 c) := by simp [World.cell?, h.bf]
theorem TopR.f1 (h : TopR A F S sv cv c ts tv fl lv ns nv w) : w.cell? ⟨F, 1, none⟩ = some tv := by simp [World.cell?, h.bf]

theorem strs_take {w : World} {p : Option Addr} {n cap k : Nat} {ns : List ByteArray} (h : StrsAt w (.slice p n cap) ns) (hk : k ≤ ns.length) : StrsAt w (.slice p k cap) (ns.take k) := by
  obtain ⟨p', cap', hv, hl, hc⟩ := h
  obtain ⟨rfl, rfl, rfl⟩ := Value.slice.inj hv
  refine ⟨p, cap, by simp [Nat.min_eq_left hk], by simp; omega, fun j s hj => hc j s ?_⟩
  rw [List.getElem?_take] at hj
  split at hj
  · exact hj
  · cases hj

/-- What stands still when the stream is drawn from. -/
def TopB (B A F : Nat) (S : List SideD × List CondD) (sv cv : Value) (c : Int) (ts : List TermD) (tv : Value) (fl : List CondD) (lv : Value) (ns : List ByteArray) (nv : Value) (w : World) : Prop := ∀ w2, w.grownBy w2 (some B) → TopR A F S sv cv c ts tv fl lv ns nv w2
theorem TopB.kept (h : TopB B A F S sv cv c ts tv fl lv ns nv w) (hg : w.grownBy w' (some B)) : TopB B A F S sv cv c ts tv fl lv ns nv w' := fun w2 h2 => h w2 (grownBy_trans hg h2)
theorem TopB.now (h : TopB B A F S sv cv c ts tv fl lv ns nv w) : TopR A F S sv cv c ts tv fl lv ns nv w := h w (grownBy_refl _ _)

/-- What the names of the law give. -/
def namesIn (S : List SideD × List CondD) (ns : List ByteArray) : Int := if setErr S = 0 then namesGo (namesOf S.1) [] ns else setErr S

theorem namesErr_few {sn ns : List ByteArray} (h : ns.length ≤ 2) : namesErr sn ns = namesGo sn [] ns := by
  unfold namesErr
  rw [if_neg (by omega)]
theorem imageErr_few {S : List SideD × List CondD} {fl : List CondD} (h : fl.length ≤ 3) (hS : setErr S = 0) : imageErr S fl = firstErr (namesOf S.1) fl := by
  unfold imageErr
  rw [if_pos hS, if_neg (by omega)]
theorem imageErr_bad {S : List SideD × List CondD} {fl : List CondD} (hS : setErr S ≠ 0) : imageErr S fl = setErr S := by
  unfold imageErr
  rw [if_neg hS]
theorem overErr_bad {S : List SideD × List CondD} {f : CondD} (hS : setErr S ≠ 0) : overErr S f = setErr S := by
  unfold overErr
  rw [if_neg hS]
theorem overErr_good {S : List SideD × List CondD} {f : CondD} (hS : setErr S = 0) : overErr S f = aroundErr (namesOf S.1) f := by
  unfold overErr
  rw [if_pos hS]
theorem around_form {sn : List ByteArray} {f : CondD} (h : aroundErr sn f = 0) : formErr f.1 f.2 = 0 := by
  unfold aroundErr at h
  by_cases h1 : formErr f.1 f.2 = 0
  · exact h1
  · rw [if_neg (by simpa using h1)] at h
    exact h
theorem image_good {S : List SideD × List CondD} {fl : List CondD} (h : imageErr S fl = 0) (hl : fl.length ≤ 3) : setErr S = 0 ∧ ∀ f ∈ fl, formErr f.1 f.2 = 0 := by
  by_cases hS : setErr S = 0
  · rw [imageErr_few hl hS] at h
    exact ⟨hS, fun f hf => around_form (firstErr_all h f hf)⟩
  · rw [imageErr_bad hS] at h
    exact absurd h hS
theorem names_good {S : List SideD × List CondD} {ns : List ByteArray} (h : namesIn S ns = 0) : setErr S = 0 ∧ namesGo (namesOf S.1) [] ns = 0 ∧ ∀ x ∈ ns, nameB x = true := by
  unfold namesIn at h
  by_cases hS : setErr S = 0
  · rw [if_pos hS] at h
    refine ⟨hS, h, fun x hx => ?_⟩
    have h1 := namesGo_all ns [] h x hx
    unfold nameErr at h1
    by_cases h2 : nameB x = true
    · exact h2
    · rw [if_neg h2] at h1
      omega
  · rw [if_neg hS] at h
    exact absurd h hS
theorem proj_bad {S : List SideD × List CondD} {ns : List ByteArray} (h : namesIn S ns ≠ 0) (hn : ns.length ≤ 2) : projErr S ns = namesIn S ns := by
  unfold projErr namesIn at *
  by_cases hS : setErr S = 0
  · rw [if_pos hS] at h
    rw [if_pos hS, if_pos hS, namesErr_few hn, if_neg h]
  · rw [if_neg hS, if_neg hS]
theorem proj_good {S : List SideD × List CondD} {ns : List ByteArray} (h : namesIn S ns = 0) (hn : ns.length ≤ 2) : projErr S ns = if (distL (ns.map (varRow S)) (pointsFrom S [] S.1)).length ≤ 5000 then 0 else 12 := by
  obtain ⟨hS, hg, _⟩ := names_good h
  unfold projErr
  rw [if_pos hS, namesErr_few hn, if_pos hg]

theorem top_start {w1 w2 w3 W : World} {S : List SideD × List CondD} {sv cv : Value} {c : Int} {ts : List TermD} {pt : Option Addr} {nt tcap : Nat} {fl : List CondD} {lv : Value} {tvs : List Value} {z1 z2 : ByteArray} {B A F nb : Nat}
    (hset : ∀ w2, w1.grownBy w2 (some B) → SetAt w2 sv cv S) (ht : TermRow w2 w1.heap.size (.slice pt nt tcap) ts) (hgt : ∀ t ∈ ts, goodTerm t) (hn : nt ≤ 3) (hts : ts.length = nt) (hc : CSt w3 w2.heap.size lv fl tvs) (hfl : fl.length ≤ 3)
    (h12 : w1.grownBy w2 (some B)) (h23 : w2.grownBy w3 (some B)) (h3 : w3.grownBy W (some B)) (hB : B < w1.heap.size)
    (ba : W.heap[A]? = some (.cells #[sv, cv] 29 (0, 0))) (hA : A ≠ B) (bf : W.heap[F]? = some (.cells #[.int .i64 c, .slice pt nt tcap] 33 (0, 0))) (hF : F ≠ B)
    (bn : W.heap[nb]? = some (.cells #[.string z1, .string z2] 9 (0, 0))) (hnb : nb ≠ B) : TopB B A F S sv cv c ts (.slice pt nt tcap) fl lv [z1, z2] (.slice (some ⟨nb, 0, none⟩) 2 2) W := by
  intro W2 g
  have s12 := h12.size
  refine ⟨heap_keep ba g (by simpa using fun e => hA e.symm), heap_keep bf g (by simpa using fun e => hF e.symm), hset W2 (grownBy_trans h12 (grownBy_trans h23 (grownBy_trans h3 g))), terms_of_owns (World.ownsRow.kept ht (grownBy_trans h23 (grownBy_trans h3 g)) (own_ne ht hB)) (by omega) hgt, (hc.kept (grownBy_trans h3 g) (fun k hk => by cases hk; omega)).conds (by omega), ⟨_, 2, rfl, by simp [maxLen], fun j s hj => ⟨nb, 0, rfl, ?_⟩⟩⟩
  have hw := heap_keep bn g (by simpa using fun e => hnb e.symm)
  match j, hj with
  | 0, hj => obtain rfl := Option.some.inj hj; simp [World.cell?, hw]
  | 1, hj => obtain rfl := Option.some.inj hj; simp [World.cell?, hw]
  | j + 2, hj => simp at hj

theorem three_new (w : World) (a b c : Obj) : (((w.alloc a).alloc b).alloc c).heap[w.heap.size]? = some a ∧ (((w.alloc a).alloc b).alloc c).heap[w.heap.size + 1]? = some b ∧ (((w.alloc a).alloc b).alloc c).heap[w.heap.size + 1 + 1]? = some c ∧ w.grownBy (((w.alloc a).alloc b).alloc c) none := by
  refine ⟨?_, ?_, ?_, grownBy_trans (World.grownBy_alloc _ _ _) (grownBy_trans (World.grownBy_alloc _ _ _) (World.grownBy_alloc _ _ _))⟩
  · show (((w.heap.push _).push _).push _)[w.heap.size]? = _
    simp only [Array.getElem?_push, Array.size_push]
    rw [if_neg (by omega), if_neg (by omega), if_pos trivial]
  · show (((w.heap.push _).push _).push _)[w.heap.size + 1]? = _
    simp only [Array.getElem?_push, Array.size_push]
    rw [if_neg (by omega), if_pos trivial]
  · show (((w.heap.push _).push _).push _)[w.heap.size + 1 + 1]? = _
    simp only [Array.getElem?_push, Array.size_push]
    rw [if_pos trivial]

set_option maxRecDepth 100000 in
set_option maxHeartbeats 8000000 in
theorem formsOver_any (L : Value) (w : World) (hL : ListAt w w.heap.size L) :
    Calls Tryz.prog 3 #[L] w (Gives (.bool true) w) := by
  have HP : Hid PolyFormOk := fun x Bm w0 h1 h2 => polyForm_any x Bm w0 h1 h2
  have HSt := Lib.hid (stream_start hL)
  obtain ⟨pL, nL, cL, rfl⟩ : ∃ p n c, L = .slice p n c := by rcases hL with h | ⟨b, off, len, cap, h, _⟩ <;> exact ⟨_, _, _, h⟩
  clear hL
  have tok1 : True := trivial
  go_enter Tryz.func3, Tryz.ntmps3
  go_upto_if 47 with (first
    | (go_at_call 4; go_must (refine (aSet_any w.heap.size 0 _ HSt.out (by omega)).mono ?_; rintro e w1 ⟨sv, cv, S, rfl, hset, hS100, hd⟩; obtain ⟨⟨p, cap, rfl, ⟨hl, hlc⟩, _⟩, ⟨pc, ccap, rfl, hcl, _⟩⟩ := hset w1 (grownBy_refl _ _); have HSet := Lib.hid hset; have HD := Lib.hid hd; have hlt := HSt.out.lt; have hs1 := hd.1.size; clear hset hd))
    | (go_at_call 5; go_must (refine (anyForm_any w.heap.size 1000 w1 HD.out.2 (by omega)).mono ?_; rintro e w2 ⟨c, pt, nt, tcap, ts, rfl, hts, hn3, hc2, ht2, hgt, hd2⟩; have HTs := Lib.hid hts; have HC2 := Lib.hid hc2; have HT2 := Lib.hid ht2; have HGt := Lib.hid hgt; have HD2 := Lib.hid hd2; have hs2 := hd2.1.size; clear hts hc2 ht2 hgt hd2))
    | (go_at_call 6; go_must (refine (formList_any w.heap.size 1010 w2 HD2.out.2 (by omega)).mono ?_; rintro e w3 ⟨lv, fl, tvs, rfl, hfl, hc3, hd3⟩; obtain ⟨pf, fcap, rfl⟩ := own_form hc3.row; have HFl := Lib.hid hfl; have HC3 := Lib.hid hc3; have HD3 := Lib.hid hd3; have hs3 := hd3.1.size; clear hfl hc3 hd3))
    | (go_at_call 7; go_must (first
        | (have _t := tok1; refine (some_lit' w.heap.size 1110 _ [⟨#[105]⟩, ⟨#[106]⟩, ⟨#[105]⟩, ⟨#[122, 122]⟩, ⟨#[]⟩] _ w3 rfl HD3.out.2 (by omega) (by simp) (by simp)).mono ?_; rintro e w4 ⟨z1, hz1, rfl, hd4⟩; have HZ1 := Lib.hid ((by decide : ∀ z ∈ [(⟨#[105]⟩ : ByteArray), ⟨#[106]⟩, ⟨#[105]⟩, ⟨#[122, 122]⟩, ⟨#[]⟩], z.size ≤ 2) z1 hz1); have HD4 := Lib.hid hd4; have hs4 := hd4.1.size; clear hz1 hd4 tok1)
        | (refine (some_lit' w.heap.size 1111 _ [⟨#[106]⟩, ⟨#[107]⟩, ⟨#[105]⟩] _ w4 rfl HD4.out.2 (by omega) (by simp) (by simp)).mono ?_; rintro e w5 ⟨z2, hz2, rfl, hd5⟩; have HZ2 := Lib.hid ((by decide : ∀ z ∈ [(⟨#[106]⟩ : ByteArray), ⟨#[107]⟩, ⟨#[105]⟩], z.size ≤ 2) z2 hz2); have HD5 := Lib.hid hd5; have hs5 := hd5.1.size; clear hz2 hd5)))
    | (go_at_call 8; go_must (refine (flip_any w.heap.size 1112 4 _ (HD5.out.2.kept (three_new _ _ _ _).2.2.2) (by omega) (by omega) (by omega)).mono ?_; rintro e w6 ⟨bF, rfl, hd6⟩; have hs0 : w.heap.size < w1.heap.size := (by omega); have hx := three_new w5 (.cells #[.string z1, .string z2] 9) (.cells #[.slice p S.1.length cap, .slice pc S.2.length ccap] 29) (.cells #[.int .i64 c, .slice pt nt tcap] 33); have HTB := Lib.hid (TopB.kept (top_start (B := w.heap.size) HSet.out HT2.out HGt.out hn3 HTs.out HC3.out HFl.out HD2.out.1 HD3.out.1 (grownBy_trans HD4.out.1 (grownBy_trans HD5.out.1 (grownBy_any _ hx.2.2.2))) hs0 hx.2.1 (by omega) hx.2.2.1 (by omega) hx.1 (by omega)) hd6.1); have HG6 := Lib.hid (grown_own (World.grownBy_alloc w (.cells #[.slice pL nL cL, .int .i64 0] 25) none) (grownBy_trans HD.out.1 (grownBy_trans HD2.out.1 (grownBy_trans HD3.out.1 (grownBy_trans HD4.out.1 (grownBy_trans HD5.out.1 (grownBy_trans (grownBy_any _ hx.2.2.2) hd6.1)))))) (fun k hk => by cases hk; exact Nat.le_refl _)); have HDr := Lib.hid hd6.2; clear hx hd6 HSt HD HD2 HD3 HD4 HD5 HSet HT2 HC3 HC2)))
  go_cut [7] from 46 to 51 (fun s7 wx => ∃ ns : List ByteArray, s7 = .slice (some ⟨w5.heap.size, 0, none⟩) ns.length 2 ∧ ns.length ≤ 2 ∧ Hid (∀ x ∈ ns, x.size ≤ 2) ∧ Hid (TopR (w5.heap.size + 1) (w5.heap.size + 1 + 1) S (.slice p S.1.length cap) (.slice pc S.2.length ccap) c ts (.slice pt nt tcap) fl (.slice pf fl.length fcap) ns (.slice (some ⟨w5.heap.size, 0, none⟩) ns.length 2) wx) ∧ Hid (w.grownBy wx none))
  case first =>
    have HZ : Hid (∀ x ∈ [z1, z2], x.size ≤ 2) := fun x hx => by
      rcases List.mem_cons.1 hx with rfl | hx
      · exact HZ1.out
      · obtain rfl := List.mem_singleton.1 hx
        exact HZ2.out
    cases bF
    · go_wp2_with fail
      go_meet
      case rel => exact ⟨[z1, z2], rfl, by simp, HZ, HTB.out.now, HG6.out⟩
    · go_wp2_with (go_at_call 9; go_must (refine (next_any w.heap.size 1113 2 w6 HDr.out (by omega) (by omega) (by omega)).mono ?_; rintro e w7 ⟨k, hk0, hk1, rfl, hd7⟩; obtain ⟨kn, rfl⟩ := Int.eq_ofNat_of_zero_le hk0; have HTB7 := Lib.hid (HTB.out.kept hd7.1); have HG7 := Lib.hid (grown_own HG6.out hd7.1 (fun k hk => by cases hk; exact Nat.le_refl _)); clear hd7 HTB HG6))
      go_meet
      case rel =>
        have hr := HTB7.out.now
        refine ⟨[z1, z2].take kn, ?_, by simp; omega, fun x hx => HZ.out x (List.mem_of_mem_take hx), ⟨hr.ba, hr.bf, hr.set, hr.terms, hr.conds, ?_⟩, HG7.out⟩
        · rw [List.length_take, Nat.min_eq_left (by simp; omega)]
        · have h := strs_take hr.strs (k := kn) (by simp; omega)
          rw [List.length_take, Nat.min_eq_left (by simp; omega)]
          exact h
  case rest =>
    obtain ⟨ns, rfl, hns, HZ, R0, G0⟩ := hcut
    have a0 := R0.out.a0; have a1 := R0.out.a1; have f0 := R0.out.f0; have f1 := R0.out.f1
    clear HTB HG6 HDr HZ1 HZ2
    obtain ⟨rl, hrl⟩ : ∃ x, (rangeF S (c, ts)).1 = x := ⟨_, rfl⟩
    obtain ⟨rh, hrh⟩ : ∃ x, (rangeF S (c, ts)).2.1 = x := ⟨_, rfl⟩
    obtain ⟨ri, hri⟩ : ∃ x, (rangeF S (c, ts)).2.2 = x := ⟨_, rfl⟩
    have HRL := Lib.hid hrl; have HRH := Lib.hid hrh; have HRI := Lib.hid hri
    clear hrl hrh hri
    go_upto_if 84 with (first
      | (go_at_call 10; go_must (refine (setFault_any S _ _ _ R0.out.set).mono ?_; rintro e v1 ⟨rfl, hg⟩; have R1 := Lib.hid (R0.out.kept hg); have G1 := Lib.hid (grownBy_trans G0.out hg); have K1 := Lib.hid hg; have a0 := R1.out.a0; have a1 := R1.out.a1; have f0 := R1.out.f0; have f1 := R1.out.f1; clear hg))
      | (go_at_call 11; go_must (refine (rangeF_any S c ts _ _ _ _ R1.out.set R1.out.terms).mono ?_; rintro e v2 ⟨rfl, hg⟩; rw [HRL.out, HRH.out, HRI.out]; have R2 := Lib.hid (R1.out.kept hg); have G2 := Lib.hid (grownBy_trans G1.out hg); have K2 := Lib.hid hg; have a0 := R2.out.a0; have a1 := R2.out.a1; have f0 := R2.out.f0; have f1 := R2.out.f1; clear hg))
      | (go_at_call 12; go_must (refine (implies_any S c ts _ _ _ _ R2.out.set R2.out.terms).mono ?_; rintro e v3 ⟨rfl, hg⟩; have R3 := Lib.hid (R2.out.kept hg); have G3 := Lib.hid (grownBy_trans G2.out hg); have K3 := Lib.hid hg; have a0 := R3.out.a0; have a1 := R3.out.a1; have f0 := R3.out.f0; have f1 := R3.out.f1; clear hg))
      | (go_at_call 13; go_must (refine (image_any S fl _ _ _ _ R3.out.set R3.out.conds).mono ?_; rintro e v4 ⟨rfl, hg⟩; have R4 := Lib.hid (R3.out.kept hg); have G4 := Lib.hid (grownBy_trans G3.out hg); have K4 := Lib.hid hg; have a0 := R4.out.a0; have a1 := R4.out.a1; have f0 := R4.out.f0; have f1 := R4.out.f1; clear hg))
      | (go_at_call 14; go_must (refine (projected_any S ns _ _ _ _ R4.out.set R4.out.strs (fun x hx => by have := HZ.out x hx; unfold maxLen; omega) ⟨_, _, rfl, hns⟩).mono ?_; rintro e v5 ⟨pv, T, rfl, hpv, hg, hT0, hT1⟩; have R5 := Lib.hid (R4.out.kept hg); have G5 := Lib.hid (grownBy_trans G4.out hg); have K5 := Lib.hid hg; have HPv := Lib.hid hpv; have HT0 := Lib.hid hT0; have HT1 := Lib.hid hT1; have a0 := R5.out.a0; have a1 := R5.out.a1; have f0 := R5.out.f0; have f1 := R5.out.f1; clear hg hpv hT0 hT1)))
    --CUT2
    have V5 := HPv
    have HFl3 := HFl
    clear K1 K2 K3 K4 K5 R1 R2 R3 R4 G1 G2 G3 G4 HPv
    go_cut [19, 20, 21] from 84 to 103 (fun s19 s20 s21 wx => s19 = .int .i64 (overErr S (c, ts)) ∧ s20 = .int .i64 (imageErr S fl) ∧ s21 = .int .i64 (namesIn S ns) ∧ Hid (TopR (w5.heap.size + 1) (w5.heap.size + 1 + 1) S (.slice p S.1.length cap) (.slice pc S.2.length ccap) c ts (.slice pt nt tcap) fl (.slice pf fl.length fcap) ns (.slice (some ⟨w5.heap.size, 0, none⟩) ns.length 2) wx) ∧ Hid (w.grownBy wx none) ∧ Hid (RowsAt wx pv T))
    case first =>
      by_cases hE : setErr S = 0
      case neg =>
        have hE0 : (setErr S == 0) = false := by simpa using hE
        have HE := Lib.hid hE
        clear hE
        go_wp2_with fail
        go_meet
        case rel => exact ⟨by rw [overErr_bad HE.out], by rw [imageErr_bad HE.out], by simp [namesIn, HE.out], R5, G5, V5⟩
      case pos =>
        have hE0 : (setErr S == 0) = true := by simp [hE]
        have HE := Lib.hid hE
        clear hE
        go_wp2_with (go_at_call 15; go_must (refine (formOver_any S.1 c ts _ _ _ _ R5.out.set.1 R5.out.terms).mono ?_; rintro e v6 ⟨rfl, hg⟩; have R6 := Lib.hid (R5.out.kept hg); have G6 := Lib.hid (grownBy_trans G5.out hg); have V6 := Lib.hid (V5.out.kept hg); have a0 := R6.out.a0; have a1 := R6.out.a1; have f0 := R6.out.f0; have f1 := R6.out.f1; clear hg))
        go_loopw [20, 90] (fun s20 i wr => ∃ k : Nat, k ≤ fl.length ∧ i = .int .i64 k ∧ s20 = .int .i64 (firstErr (namesOf S.1) (fl.take k)) ∧ Hid (TopR (w5.heap.size + 1) (w5.heap.size + 1 + 1) S (.slice p S.1.length cap) (.slice pc S.2.length ccap) c ts (.slice pt nt tcap) fl (.slice pf fl.length fcap) ns (.slice (some ⟨w5.heap.size, 0, none⟩) ns.length 2) wr) ∧ Hid (w.grownBy wr none) ∧ Hid (RowsAt wr pv T)) (fun _ i _ => fl.length - (intOf i).toNat)
        case atStart => exact ⟨0, Nat.zero_le _, rfl, by simp [firstErr, HE.out], R6, G6, V6⟩
        case round =>
          obtain ⟨k, hk, rfl, rfl, HR, HG, HV⟩ := hrel
          by_cases hlt : k < fl.length
          · have h0 := List.getElem?_eq_getElem hlt
            obtain ⟨pf', fcap', hv, _, hcs⟩ := HR.out.conds
            obtain ⟨rfl, _, rfl⟩ := Value.slice.inj hv
            obtain ⟨b, off, tvk, rfl, c1, c2, htk, hb1, hb2⟩ := hcs k _ h0
            obtain ⟨pk, kcap, rfl, hkl, _⟩ := id htk
            have HTk := Lib.hid htk
            have HTake := Lib.hid (List.take_succ_eq_append_getElem hlt)
            clear hv hcs htk h0 a0 a1 f0 f1
            generalize fl[k] = fk at *
            have hx := World.grownBy_alloc wr (.cells #[.int .i64 fk.1, .slice pk fk.2.length kcap] 33) none
            have a0 := HR.out.a0; have a1 := HR.out.a1
            have b0 := (HR.out.kept hx).a0; have b1 := (HR.out.kept hx).a1
            clear hx
            go_wp2_with (first
              | (go_at_call 15; go_must (refine (formOver_any S.1 fk.1 fk.2 _ _ _ _ (HR.out.set.1.kept (World.grownBy_alloc _ _ _)) (HTk.out.kept (World.grownBy_alloc _ _ _))).mono ?_; rintro e v7 ⟨rfl, hg⟩; have K7 := Lib.hid (grownBy_trans (World.grownBy_alloc _ _ _) hg); clear hg))
              | (go_at_call 16; go_must (refine (errs_any (firstErr (namesOf S.1) (fl.take k)) (aroundErr (namesOf S.1) (fk.1, fk.2)) v7.heap.size _ (by simp) (by simp)).mono ?_; rintro e v8 ⟨rfl, hg⟩; have K8 := Lib.hid (grownBy_trans K7.out (grownBy_trans (World.grownBy_alloc _ _ _) hg)); clear hg)))
            go_roundw
            case rel => exact ⟨k + 1, by omega, by go_num, by rw [HTake.out, firstErr_split], HR.out.kept K8.out, grownBy_trans HG.out K8.out, HV.out.kept K8.out⟩
            case measure => simp [intOf]; omega
          · obtain rfl : k = fl.length := by omega
            rw [List.take_length]
            have R7 := HR; have G7 := HG; have V7 := HV
            have a0 := HR.out.a0; have a1 := HR.out.a1; have f0 := HR.out.f0; have f1 := HR.out.f1
            go_wp2_with (go_at_call 17; go_must (refine (namesFault_any S ns _ _ _ _ R7.out.set R7.out.strs (fun x hx => by have := HZ.out x hx; unfold maxLen; omega) ⟨_, _, rfl, hns⟩).mono ?_; rintro e v8 ⟨rfl, hg⟩; have R8 := Lib.hid (R7.out.kept hg); have G8 := Lib.hid (grownBy_trans G7.out hg); have V8 := Lib.hid (V7.out.kept hg); have a0 := R8.out.a0; have a1 := R8.out.a1; have f0 := R8.out.f0; have f1 := R8.out.f1; clear hg))
            go_meet
            case rel => exact ⟨by rw [overErr_good HE.out], by rw [imageErr_few HFl3.out HE.out], by simp [namesIn, HE.out], R8, G8, V8⟩
    case rest =>
    obtain ⟨rfl, rfl, rfl, R0, G0, V0⟩ := hcut
    clear a0 a1 f0 f1
    have a0 := R0.out.a0; have a1 := R0.out.a1; have f0 := R0.out.f0; have f1 := R0.out.f1
    clear R5 G5 V5
    go_upto_if 105 with fail
    go_cut [24, 25, 27, 28] from 104 to 118 (fun s24 s25 s27 s28 wx => s24 = .int .i64 rl ∧ s25 = .int .i64 rh ∧ s27 = .bool ri ∧ s28 = .bool (impliesOf S (c, ts)) ∧ Hid (TopR (w5.heap.size + 1) (w5.heap.size + 1 + 1) S (.slice p S.1.length cap) (.slice pc S.2.length ccap) c ts (.slice pt nt tcap) fl (.slice pf fl.length fcap) ns (.slice (some ⟨w5.heap.size, 0, none⟩) ns.length 2) wx) ∧ Hid (w.grownBy wx none) ∧ Hid (RowsAt wx pv T))
    case first =>
      by_cases hO : overErr S (c, ts) = 0
      case neg =>
        have hO0 : (overErr S (c, ts) == 0) = false := by simpa using hO
        have h1 : rangeF S (c, ts) = (0, 0, false) := by unfold rangeF; rw [if_neg hO]
        have h2 : impliesOf S (c, ts) = false := by unfold impliesOf; rw [if_neg hO]
        have h3 := HRL.out; have h4 := HRH.out; have h5 := HRI.out
        rw [h1] at h3 h4 h5
        have HQ := Lib.hid (And.intro h2 (And.intro h3 (And.intro h4 h5)))
        clear h1 h2 h3 h4 h5 hO
        go_wp2_with fail
        go_meet
        case rel =>
          obtain ⟨h2, h3, h4, h5⟩ := HQ.out
          exact ⟨by rw [← h3], by rw [← h4], by rw [← h5], by rw [h2], R0, G0, V0⟩
      case pos =>
        have hO0 : (overErr S (c, ts) == 0) = true := by simp [hO]
        obtain ⟨hS0, har⟩ := over_good hO
        have hcon := rangeIn_any S c ts _ _ _ wc R0.out.set hS0 R0.out.terms (around_form har)
        rw [← rangeF_eq hO] at hcon
        have HCon := Lib.hid hcon
        have him := implies_range hO
        rw [HRL.out, HRI.out] at him
        have HIm := Lib.hid him
        clear hcon him hO hS0 har
        go_upto_region 23 with (go_at_call 18; go_must (refine HCon.out.mono ?_; rintro e v9 ⟨rfl, hg⟩; rw [HRL.out, HRH.out, HRI.out]; have R9 := Lib.hid (R0.out.kept hg); have G9 := Lib.hid (grownBy_trans G0.out hg); have V9 := Lib.hid (V0.out.kept hg); clear hg))
        cases ri
        · go_wp2_with fail
          go_meet
          case rel => exact ⟨rfl, rfl, rfl, by rw [HIm.out]; rfl, R9, G9, V9⟩
        · go_wp2_with fail
          go_meet
          case rel => exact ⟨rfl, rfl, rfl, by rw [HIm.out]; rfl, R9, G9, V9⟩
    case rest =>
    --CUT4
    clear a0 a1 f0 f1
    obtain ⟨rfl, rfl, rfl, rfl, R0, G0, V0⟩ := hcut
    have a0 := R0.out.a0; have a1 := R0.out.a1; have f0 := R0.out.f0; have f1 := R0.out.f1
    go_upto_if 120 with fail
    go_cut [26] from 119 to 123 (fun s26 wx => s26 = .int .i64 (imageOf S fl) ∧ Hid (TopR (w5.heap.size + 1) (w5.heap.size + 1 + 1) S (.slice p S.1.length cap) (.slice pc S.2.length ccap) c ts (.slice pt nt tcap) fl (.slice pf fl.length fcap) ns (.slice (some ⟨w5.heap.size, 0, none⟩) ns.length 2) wx) ∧ Hid (w.grownBy wx none) ∧ Hid (RowsAt wx pv T))
    case first =>
      by_cases hI : imageErr S fl = 0
      case neg =>
        have hI0 : (imageErr S fl == 0) = false := by simpa using hI
        have HI := Lib.hid hI
        clear hI
        go_wp2_with fail
        go_meet
        case rel => exact ⟨by unfold imageOf; rw [if_neg HI.out], R0, G0, V0⟩
      case pos =>
        have hI0 : (imageErr S fl == 0) = true := by simp [hI]
        obtain ⟨hS0, hfs⟩ := image_good hI HFl3.out
        have hf3 := HFl3.out
        have HCon := Lib.hid (imageIn_any S fl _ _ _ wc R0.out.set hS0 R0.out.conds hfs (by omega))
        have HI := Lib.hid hI
        clear hI hS0 hfs hf3
        go_wp2_with (go_at_call 19; go_must (refine HCon.out.mono ?_; rintro e v9 ⟨t, rfl, ht, hr, hg⟩; have HIm := Lib.hid (image_table HI.out ht hr); have R9 := Lib.hid (R0.out.kept hg); have G9 := Lib.hid (grownBy_trans G0.out hg); have V9 := Lib.hid (V0.out.kept hg); clear hg ht hr))
        go_meet
        case rel => exact ⟨by rw [HIm.out], R9, G9, V9⟩
    case rest =>
    clear a0 a1 f0 f1
    obtain ⟨rfl, R0, G0, V0⟩ := hcut
    have a0 := R0.out.a0; have a1 := R0.out.a1; have f0 := R0.out.f0; have f1 := R0.out.f1
    go_upto_if 125 with fail
    go_cut [21, 29] from 124 to 134 (fun s21 s29 wx => s21 = .int .i64 (projErr S ns) ∧ Hid (TopR (w5.heap.size + 1) (w5.heap.size + 1 + 1) S (.slice p S.1.length cap) (.slice pc S.2.length ccap) c ts (.slice pt nt tcap) fl (.slice pf fl.length fcap) ns (.slice (some ⟨w5.heap.size, 0, none⟩) ns.length 2) wx) ∧ Hid (w.grownBy wx none) ∧ Hid (RowsAt wx pv T) ∧ Hid (RowsAt wx s29 T))
    case first =>
      by_cases hN : namesIn S ns = 0
      case neg =>
        have hN0 : (namesIn S ns == 0) = false := by simpa using hN
        have HPr := Lib.hid (proj_bad hN hns)
        have hT : T = [] := HT1.out (by rw [HPr.out]; exact hN)
        have HTn := Lib.hid hT
        clear hN hT
        go_wp2_with fail
        go_meet
        case rel => exact ⟨by rw [HPr.out], R0, G0, V0, by rw [HTn.out]; exact rowsNil _⟩
      case pos =>
        have hN0 : (namesIn S ns == 0) = true := by simp [hN]
        obtain ⟨hS0, hgo, hnm⟩ := names_good hN
        have HCon := Lib.hid (projectedIn_any HP.out S ns _ _ _ wc R0.out.set hS0 R0.out.strs hnm (by omega))
        have HPr := Lib.hid (proj_good hN hns)
        have HS0 := Lib.hid hS0
        have HGo := Lib.hid hgo
        clear hN hS0 hgo hnm
        go_upto_region 28 with (go_at_call 20; go_must (refine HCon.out.mono ?_; rintro e v9 ⟨wv, u, rfl, hu, hr, hrows, hg⟩; have HU := Lib.hid (And.intro hu hr); have HLe := Lib.hid (proj_len HS0.out HGo.out hu hr); obtain ⟨pw, wcap, rfl, hwl, _⟩ := id hrows; have HRw := Lib.hid hrows; have R9 := Lib.hid (R0.out.kept hg); have G9 := Lib.hid (grownBy_trans G0.out hg); have V9 := Lib.hid (V0.out.kept hg); clear hg hu hr hrows))
        by_cases h5 : (compactL u).length ≤ 5000
        · have h50 : projErr S ns = 0 := by rw [HPr.out, ← HLe.out, if_pos h5]
          obtain ⟨q1, q2⟩ := HT0.out h50
          have HEq := Lib.hid (proj_table HS0.out HGo.out q1 q2 HU.out.1 HU.out.2)
          have HZ0 := Lib.hid h50
          have hq : decide ((5000 : Int) < ((compactL u).length : Int)) = false := by simp; omega
          clear h50 q1 q2
          go_wp2_with (go_at_call 21; go_must (refine (whenLaw_any _ _ _).mono ?_; rintro e v10 ⟨rfl, hg⟩; have R10 := Lib.hid (R9.out.kept hg); have G10 := Lib.hid (grownBy_trans G9.out hg); have V10 := Lib.hid (V9.out.kept hg); have W10 := Lib.hid (HRw.out.kept hg); clear hg))
          go_meet
          case rel => exact ⟨by rw [HZ0.out], R10, G10, V10, by rw [← HEq.out]; exact W10.out⟩
        · have h50 : projErr S ns = 12 := by rw [HPr.out, ← HLe.out, if_neg h5]
          have hT : T = [] := HT1.out (by rw [h50]; decide)
          have HTn := Lib.hid hT
          have HZ0 := Lib.hid h50
          have hq : decide ((5000 : Int) < ((compactL u).length : Int)) = true := by simp; omega
          clear h50 hT
          go_wp2_with (go_at_call 21; go_must (refine (whenLaw_any _ _ _).mono ?_; rintro e v10 ⟨rfl, hg⟩; have R10 := Lib.hid (R9.out.kept hg); have G10 := Lib.hid (grownBy_trans G9.out hg); have V10 := Lib.hid (V9.out.kept hg); clear hg))
          go_meet
          case rel => exact ⟨by rw [HZ0.out], R10, G10, V10, by rw [HTn.out]; exact rowsNil _⟩
    case rest =>
    clear a0 a1 f0 f1
    obtain ⟨rfl, R0, G0, V0, W0⟩ := hcut
    go_wp2_with (first
      | (go_at_call 22; go_must (refine (sameLists_any _ _ T T _ (V0.out.kept (grownBy_refl _ _)) (W0.out.kept (grownBy_refl _ _))).mono ?_; rintro e v11 ⟨rfl, hg⟩; rw [sameRows_self]; have G11 := Lib.hid (grownBy_trans G0.out hg); clear hg))
      | (go_at_call 23; go_must (refine (counted_any _).mono ?_; rintro e v12 ⟨rfl, hg⟩; have G12 := Lib.hid (grownBy_trans G11.out hg); clear hg)))
    go_ret
    exact ⟨rfl, G12.out⟩

end Go.Proofs.YtfilcaolgfghcaaGreat
