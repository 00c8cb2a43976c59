/-
 The order of a right point; slices.BinarySearchFunc at points. nest.Value, for all forms and points.
-/
import Derived.Deep.DeepMust
import Derived.Test.YtblpknkgjkbacaaGreatDoorQ06
import Derived.Test.YtblpknkgjkbacaaGreatDoorQ08
import Derived.Test.YtblpknkgjkbacaaGreatDoorQ10
import Derived.Test.YtblpknkgjkbacaaGreatDoorQ17
namespace Go.Proofs.YtblpknkgjkbacaaGreatDoor
set_option linter.unusedVariables false
open Go.RowKit Go.Sort
variable {w w' : World}
/-- How names compare. -/
def cN (a b : ByteArray) : Int := Lib.compareBytes a.data.toList b.data.toList
theorem cN_trans {a b c : ByteArray} (h : cN a b < 0) (k : cN b c < 0) : cN a c < 0 := by
  unfold cN at *
  rw [cmpB_lex] at *
  exact cmpL_trans _ _ _ h k
theorem cN_anti (a b : ByteArray) : cN b a = - cN a b := by
  unfold cN
  rw [cmpB_lex, cmpB_lex]
  exact cmpL_anti _ _
theorem cN_self (a : ByteArray) : cN a a = 0 := by
  unfold cN
  rw [cmpB_lex]
  exact cmpL_self _
theorem cN_zero {a b : ByteArray} (h : cN a b = 0) : a = b := by
  unfold cN at h
  rw [cmpB_lex] at h
  have h1 := cmpL_zero _ _ h
  have h2 : a.data.toList = b.data.toList := (List.map_inj_right (fun x y e => UInt8.toNat_inj.1 (Int.ofNat.inj e))).1 h1
  apply bytes_ext
  rw [ByteArray.toList_eq, ByteArray.toList_eq, h2]
theorem cN_le {a b : ByteArray} (h : leB b a = false) : cN a b < 0 := by
  unfold leB at h
  rw [Bool.or_eq_false_iff] at h
  obtain ⟨h1, h2⟩ := h
  rw [ByteArray.toList_eq, ByteArray.toList_eq] at h1
  have h3 : ¬ cN b a < 0 := by
    unfold cN
    rw [less_cmp]
    simp [h1]
  have h4 : cN b a ≠ 0 := fun e => by
    rw [cN_zero e] at h2
    simp at h2
  have := cN_anti b a
  omega
theorem pt_good : ∀ {ts : List (ByteArray × Int)} {last : ByteArray}, ptErr last ts = 0 → (∀ t ∈ ts, cN last t.1 < 0) ∧ ts.Pairwise (fun a b => cN a.1 b.1 < 0) ∧ ∀ t ∈ ts, nameB t.1 = true ∧ -1000000 ≤ t.2 ∧ t.2 ≤ 1000000
  | [], _, _ => ⟨by simp, List.Pairwise.nil, by simp⟩
  | t :: r, last, h => by
    unfold ptErr at h
    cases h1 : nameB t.1 with
    | false => rw [h1] at h; simp at h
    | true =>
      rw [h1] at h
      cases h2 : inB t.2 (-1000000) 1000000 with
      | false => rw [h2] at h; simp at h
      | true =>
        rw [h2] at h
        cases h3 : leB t.1 last with
        | true => rw [h3] at h; simp at h
        | false =>
          rw [h3] at h
          simp only [if_true, Bool.not_true, Bool.false_eq_true, if_false] at h
          obtain ⟨i1, i2, i3⟩ := pt_good h
          have hl := cN_le h3
          refine ⟨fun u hu => ?_, List.Pairwise.cons (fun u hu => i1 u hu) i2, fun u hu => ?_⟩
          · rcases List.mem_cons.1 hu with rfl | hu
            · exact hl
            · exact cN_trans hl (i1 u hu)
          · rcases List.mem_cons.1 hu with rfl | hu
            · unfold inB at h2
              exact ⟨h1, by simpa using h2⟩
            · exact i3 u hu
theorem pt_less {ts : List (ByteArray × Int)} (h : ts.Pairwise (fun a b => cN a.1 b.1 < 0)) {i j : Nat} {a b : ByteArray × Int} (hij : i < j) (hi : ts[i]? = some a) (hj : ts[j]? = some b) : cN a.1 b.1 < 0 := by
  obtain ⟨h1, rfl⟩ := List.getElem?_eq_some_iff.1 hi
  obtain ⟨h2, rfl⟩ := List.getElem?_eq_some_iff.1 hj
  exact List.pairwise_iff_getElem.1 h i j h1 h2 hij
set_option maxHeartbeats 2000000 in
theorem compareSlot_any (n : ByteArray) (z : Int) (x : ByteArray) (w : World) : Calls Tryz.prog 29 #[.agg #[.string n, .int .i64 z], .string x] w (Gives (.int .i64 (cN n x)) w) := by
  have hcon := fun W' => Any.strings_Compare Tryz.strCmp n x W'
  change ∀ W', Calls Tryz.prog 51 _ _ _ at hcon
  have e0 : Lib.compareBytes n.data.toList x.data.toList = cN n x := rfl
  rw [e0] at hcon
  generalize cN n x = r at hcon ⊢
  clear e0
  go_enter Tryz.func29, Tryz.ntmps29
  go_wp2_with (go_at_call 51; refine (hcon _).mono ?_; rintro e w' ⟨rfl, rfl⟩)
  go_ret
  exact ⟨rfl, World.grownBy_alloc _ _ _⟩
/-- A search: found, and where; or not there. -/
def Searched (ts : List (ByteArray × Int)) (x : ByteArray) (w : World) (e : Ending) (w' : World) : Prop :=
  ∃ (i : Nat) (b : Bool), e = .returned (.tuple #[.int .i64 i, .bool b]) ∧ w.grownBy w' none ∧ (b = true → ∃ t, ts[i]? = some t ∧ t.1 = x) ∧ (b = false → ∀ t ∈ ts, t.1 ≠ x)
set_option maxRecDepth 100000 in
set_option maxHeartbeats 4000000 in
theorem search_any (ts : List (ByteArray × Int)) (v : Value) (x : ByteArray) (w : World) (ht : TermsAt w v ts) (hs : ts.Pairwise (fun a b => cN a.1 b.1 < 0)) (hl : ts.length ≤ 1000000) :
    Calls Tryz.prog 28 #[v, .string x, .func (.func 29) #[] #[]] w (Searched ts x w) := by
  obtain ⟨p, cap, rfl, hlm, hc⟩ := ht
  have H := Lib.hid hc
  have HS := Lib.hid hs
  have hlI : (ts.length : Int) ≤ 1000000 := by omega
  clear hc hs hlm
  go_enter Tryz.func28, Tryz.ntmps28
  go_wp2
  go_loopw [9, 10] (fun s9 s10 wr => ∃ lo hi : Nat, s9 = .int .i64 lo ∧ s10 = .int .i64 hi ∧ lo ≤ hi ∧ hi ≤ ts.length ∧ Hid (w.grownBy wr none) ∧ Hid ((∀ t a, t < lo → ts[t]? = some a → cN a.1 x < 0) ∧ (∀ t a, hi ≤ t → ts[t]? = some a → 0 ≤ cN a.1 x))) (fun s9 s10 _ => (intOf s10).toNat - (intOf s9).toNat)
  case atStart => exact ⟨0, ts.length, rfl, rfl, Nat.zero_le _, Nat.le_refl _, grownBy_refl _ _, ⟨fun t a h => absurd h (Nat.not_lt_zero _), fun t a h1 h2 => by obtain ⟨h3, _⟩ := List.getElem?_eq_some_iff.1 h2; omega⟩⟩
  case round =>
    obtain ⟨lo, hi, rfl, rfl, hlh, hin, HG, I⟩ := hrel
    by_cases hlt : lo < hi
    · have hm : (lo + hi) / 2 < ts.length := by omega
      have h0 := List.getElem?_eq_getElem hm
      obtain ⟨b, off, rfl, h3, h4, h5, h6, h7⟩ := (H.out _ _ h0).kept HG.out
      have HX := Lib.hid h0
      generalize ts[(lo + hi) / 2] = y at *
      obtain ⟨n, z⟩ := y
      simp only at h3 h4 h5 h6 h7
      clear h0
      by_cases hyx : cN n x < 0
      · go_wp2_with (go_at_call 29; go_must (refine (compareSlot_any n z x _).mono ?_; rintro e w' ⟨rfl, hg⟩; have HG2 := Lib.hid (grownBy_trans HG.out hg); clear hg))
        go_roundw
        case rel =>
          refine ⟨(lo + hi) / 2 + 1, hi, by rw [show ((lo : Int) + (hi : Int)) / 2 + 1 = (((lo + hi) / 2 + 1 : Nat) : Int) by omega], rfl, by omega, hin, HG2.out, ⟨fun t a h1 h2 => ?_, I.out.2⟩⟩
          rcases Nat.lt_or_ge t ((lo + hi) / 2) with h | h
          · exact cN_trans (pt_less HS.out h h2 HX.out) hyx
          · obtain rfl : t = (lo + hi) / 2 := by omega
            rw [HX.out] at h2
            obtain rfl := Option.some.inj h2
            exact hyx
        case measure => simp [intOf]; omega
      · go_wp2_with (go_at_call 29; go_must (refine (compareSlot_any n z x _).mono ?_; rintro e w' ⟨rfl, hg⟩; have HG2 := Lib.hid (grownBy_trans HG.out hg); clear hg))
        go_roundw
        case rel =>
          refine ⟨lo, (lo + hi) / 2, rfl, by rw [show ((lo : Int) + (hi : Int)) / 2 = (((lo + hi) / 2 : Nat) : Int) by omega], by omega, by omega, HG2.out, ⟨I.out.1, fun t a h1 h2 => ?_⟩⟩
          rcases Nat.lt_or_ge ((lo + hi) / 2) t with h | h
          · have hlt2 := pt_less HS.out h HX.out h2
            refine Int.not_lt.1 fun h9 => by
              have h8 : cN n x < 0 := cN_trans hlt2 h9
              omega
          · obtain rfl : t = (lo + hi) / 2 := by omega
            rw [HX.out] at h2
            obtain rfl := Option.some.inj h2
            simp only
            omega
        case measure => simp [intOf]; omega
    · obtain rfl : hi = lo := by omega
      by_cases hn : hi < ts.length
      · have h0 := List.getElem?_eq_getElem hn
        obtain ⟨b, off, rfl, h3, h4, h5, h6, h7⟩ := (H.out _ _ h0).kept HG.out
        have HX := Lib.hid h0
        generalize ts[hi] = y at *
        obtain ⟨n, z⟩ := y
        simp only at h3 h4 h5 h6 h7
        have hnI : (hi : Int) < (ts.length : Int) := by omega
        clear h0
        by_cases hyx : cN n x = 0
        · have hb : (cN n x == 0) = true := by simp [hyx]
          have HE := Lib.hid (cN_zero hyx)
          clear hyx
          go_wp2_with (go_at_call 29; go_must (refine (compareSlot_any n z x _).mono ?_; rintro e w' ⟨rfl, hg⟩; have HG2 := Lib.hid (grownBy_trans HG.out hg); clear hg))
          go_ret2
          exact ⟨hi, true, rfl, HG2.out, fun _ => ⟨_, HX.out, HE.out⟩, fun h => by cases h⟩
        · have hb : (cN n x == 0) = false := by simpa using hyx
          go_wp2_with (go_at_call 29; go_must (refine (compareSlot_any n z x _).mono ?_; rintro e w' ⟨rfl, hg⟩; have HG2 := Lib.hid (grownBy_trans HG.out hg); clear hg))
          go_ret2
          refine ⟨hi, false, rfl, HG2.out, (fun h => by cases h), fun _ t ht e => ?_⟩
          obtain ⟨k, hk, rfl⟩ := List.getElem_of_mem ht
          have hk0 := List.getElem?_eq_getElem hk
          rcases Nat.lt_trichotomy k hi with h | h | h
          · have := I.out.1 _ _ h hk0
            rw [e, cN_self] at this
            omega
          · subst h
            rw [HX.out] at hk0
            have e2 := Option.some.inj hk0
            rw [← e2] at e
            simp only at e
            rw [e] at hyx
            exact hyx (cN_self _)
          · have h1 := pt_less HS.out h HX.out hk0
            have h2 := I.out.2 hi _ (Nat.le_refl _) HX.out
            rw [e] at h1
            simp only at h1 h2
            omega
      · have hnI : ¬ (hi : Int) < (ts.length : Int) := by omega
        go_wp2
        go_ret2
        refine ⟨hi, false, rfl, HG.out, (fun h => by cases h), fun _ t ht e => ?_⟩
        obtain ⟨k, hk, rfl⟩ := List.getElem_of_mem ht
        have := I.out.1 k _ (by omega) (List.getElem?_eq_getElem hk)
        rw [e, cN_self] at this
        omega
end Go.Proofs.YtblpknkgjkbacaaGreatDoor
namespace Go.Proofs.YtblpknkgjkbacaaGreatDoor
open Go.RowKit Go.Sort
variable {w w' : World}
/-- What Value answers. -/
def valR (c : Int) (ts pt : List (ByteArray × Int)) : Int × Int :=
  if formErr c ts ≠ 0 then (0, formErr c ts) else if ptErr ByteArray.empty pt ≠ 0 then (0, ptErr ByteArray.empty pt) else (valueOf (coefX pt) c ts, 0)
theorem coefX_range {pt : List (ByteArray × Int)} (h : ∀ t ∈ pt, -1000000 ≤ t.2 ∧ t.2 ≤ 1000000) (n : ByteArray) : -1000000 ≤ coefX pt n ∧ coefX pt n ≤ 1000000 := by
  by_cases e : coefX pt n = 0
  · omega
  · exact h _ (coefX_hit e)
theorem prodV_bound {a b : Int} (ha : -1000 ≤ a ∧ a ≤ 1000) (hb : -1000000 ≤ b ∧ b ≤ 1000000) : -1000000000 ≤ a * b ∧ a * b ≤ 1000000000 := by
  obtain ⟨h1, h2⟩ := ha
  obtain ⟨h3, h4⟩ := hb
  rcases Int.le_total 0 b with h | h
  · have e1 : -1000 * b ≤ a * b := Int.mul_le_mul_of_nonneg_right h1 h
    have e2 : a * b ≤ 1000 * b := Int.mul_le_mul_of_nonneg_right h2 h
    omega
  · have e1 : a * b ≤ -1000 * b := Int.mul_le_mul_of_nonpos_right h1 h
    have e2 : 1000 * b ≤ a * b := Int.mul_le_mul_of_nonpos_right h2 h
    omega
theorem valueOf_step {X : ByteArray → Int} {c : Int} {ts : List (ByteArray × Int)} {k : Nat} {t : ByteArray × Int} (h : ts[k]? = some t) : valueOf X c (ts.take (k + 1)) = valueOf X c (ts.take k) + t.2 * X t.1 := by
  obtain ⟨hk, rfl⟩ := List.getElem?_eq_some_iff.1 h
  unfold valueOf
  rw [List.take_succ_eq_append_getElem hk, List.map_append, List.sum_append]
  simp
  omega
theorem valueOf_bound {X : ByteArray → Int} {c : Int} {ts : List (ByteArray × Int)} (hc : -1000000 ≤ c ∧ c ≤ 1000000) (ht : ∀ t ∈ ts, -1000 ≤ t.2 ∧ t.2 ≤ 1000) (hX : ∀ n, -1000000 ≤ X n ∧ X n ≤ 1000000) : ∀ k : Nat, k ≤ ts.length → -1000000 - 1000000000 * (k : Int) ≤ valueOf X c (ts.take k) ∧ valueOf X c (ts.take k) ≤ 1000000 + 1000000000 * (k : Int)
  | 0, _ => by simp [valueOf]; omega
  | k + 1, hk => by
    obtain ⟨h1, h2⟩ := valueOf_bound hc ht hX k (by omega)
    have h0 := List.getElem?_eq_getElem (show k < ts.length by omega)
    rw [valueOf_step h0]
    have hp := prodV_bound (ht _ (List.mem_of_getElem? h0)) (hX (ts[k]).1)
    omega
set_option maxRecDepth 100000 in
set_option maxHeartbeats 8000000 in
theorem value_nest (c : Int) (ts pt : List (ByteArray × Int)) (tv pv : Value) (w : World) (ht : TermsAt w tv ts) (hp : TermsAt w pv pt) (hpl : pt.length ≤ 1000000) :
    Calls Tryz.prog 8 #[.agg #[.int .i64 c, tv], pv] w (Gives (.tuple #[.int .i64 (valR c ts pt).1, .int .i64 (valR c ts pt).2]) w) := by
  obtain ⟨p, cap, rfl, hl, hc⟩ := id ht
  obtain ⟨q, qap, rfl, -, hq⟩ := id hp
  have HT := Lib.hid ht
  have HP := Lib.hid hp
  have HC := Lib.hid hc
  have HQ := Lib.hid hq
  have HG := Lib.hid (World.grownBy_alloc w (.cells #[.int .i64 c, .slice p ts.length cap] 28) none)
  have HB := Lib.hid (heap_alloc_new w (.cells #[.int .i64 c, .slice p ts.length cap] 28))
  clear ht hp hc hq
  go_enter Tryz.func8, Tryz.ntmps8
  go_upto_region 1 with fail
  generalize w.alloc (.cells #[.int .i64 c, .slice p ts.length cap] 28) = w1 at *
  obtain ⟨x0, x1, xf⟩ := cell_of_two HB.out
  by_cases hf : formErr c ts = 0
  case neg =>
    have hf0 : (formErr c ts != 0) = true := by simpa using hf
    have HR : Hid (valR c ts pt = (0, formErr c ts)) := by show _ = _; unfold valR; rw [if_pos hf]
    go_wp2_with (go_at_call 26; go_must (refine (checkForm_at c ts p cap _ hl (fun j t h => (HC.out j t h).kept HG.out)).mono ?_; rintro e w2 ⟨rfl, hg⟩; have G2 := Lib.hid (grownBy_trans HG.out hg); clear hg))
    go_ret2
    exact ⟨by rw [HR.out]; rfl, G2.out⟩
  case pos =>
  have hf0 : (formErr c ts != 0) = false := by simp [hf]
  by_cases hpt : ptErr ByteArray.empty pt = 0
  case neg =>
    have hp0 : (ptErr ByteArray.empty pt != 0) = true := by simpa using hpt
    have HR : Hid (valR c ts pt = (0, ptErr ByteArray.empty pt)) := by show _ = _; unfold valR; rw [if_neg (by simp [hf]), if_pos hpt]
    go_wp2_with (first
      | (go_at_call 26; go_must (refine (checkForm_at c ts p cap _ hl (fun j t h => (HC.out j t h).kept HG.out)).mono ?_; rintro e w2 ⟨rfl, hg⟩; have G2 := Lib.hid (grownBy_trans HG.out hg); clear hg))
      | (go_at_call 27; go_must (refine (checkPoint_any pt _ _ (HP.out.kept G2.out)).mono ?_; rintro e w3 ⟨rfl, hg⟩; have G3 := Lib.hid (grownBy_trans G2.out hg); clear hg)))
    go_ret2
    exact ⟨by rw [HR.out]; rfl, G3.out⟩
  case pos =>
  have hp0 : (ptErr ByteArray.empty pt != 0) = false := by simp [hpt]
  have HR : Hid (valR c ts pt = (valueOf (coefX pt) c ts, 0)) := by show _ = _; unfold valR; rw [if_neg (by simp [hf]), if_neg (by simp [hpt])]
  obtain ⟨hcr, h12, htr, -⟩ := form_good hf
  obtain ⟨-, hpw, hpr⟩ := pt_good hpt
  have HW := Lib.hid hpw
  have HD : Hid (pt.Pairwise fun a b => a.1 ≠ b.1) := hpw.imp (fun {a b} h e => by rw [e, cN_self] at h; omega)
  have HXr := Lib.hid (fun n => coefX_range (fun t h => (hpr t h).2) n)
  have HTr := Lib.hid (fun t (h : t ∈ ts) => (htr t h).2)
  have HBd := Lib.hid (valueOf_bound (X := coefX pt) hcr (fun t h => (htr t h).2) (fun n => coefX_range (fun t h => (hpr t h).2) n))
  clear hf hpt htr hpw hpr
  go_upto_region 9 with (first
    | (go_at_call 26; go_must (refine (checkForm_at c ts p cap _ hl (fun j t h => (HC.out j t h).kept HG.out)).mono ?_; rintro e w2 ⟨rfl, hg⟩; have G2 := Lib.hid (grownBy_trans HG.out hg); have HB2 := Lib.hid (heap_keep HB.out hg (by simp)); clear hg))
    | (go_at_call 27; go_must (refine (checkPoint_any pt _ _ (HP.out.kept G2.out)).mono ?_; rintro e w3 ⟨rfl, hg⟩; have G3 := Lib.hid (grownBy_trans G2.out hg); obtain ⟨x0, x1, xf⟩ := cell_of_two (heap_keep HB2.out hg (by simp)); clear hg)))
  go_loopw [8, 28] (fun n i wr => ∃ k : Nat, k ≤ ts.length ∧ i = .int .i64 k ∧ n = .int .i64 (valueOf (coefX pt) c (ts.take k)) ∧ Hid (w.grownBy wr none)) (fun _ i _ => ts.length - (intOf i).toNat)
  case atStart => exact ⟨0, Nat.zero_le _, rfl, by simp [valueOf], G3.out⟩
  case round =>
    obtain ⟨k, hk, rfl, rfl, Gr⟩ := hrel
    by_cases hlt : k < ts.length
    · have h0 := List.getElem?_eq_getElem hlt
      obtain ⟨b, off, rfl, h3, h4, h5, h6, h7⟩ := (HC.out k _ h0).kept Gr.out
      have HSt := Lib.hid (valueOf_step (X := coefX pt) (c := c) h0)
      have hb0 := HBd.out k hk
      have htb := HTr.out _ (List.mem_of_getElem? h0)
      generalize ts[k] = t at *
      obtain ⟨n, z⟩ := t
      simp only at h3 h4 h5 h6 h7 htb
      have hxb := HXr.out n
      have hpb := prodV_bound htb hxb
      generalize hv : valueOf (coefX pt) c (ts.take k) = V at *
      have hkI : (k : Int) < (ts.length : Int) := by omega
      have HGa := Lib.hid (grownBy_trans Gr.out (World.grownBy_alloc wr (.cells #[.string n, .int .i64 z] 54) none))
      obtain ⟨b0, b1, bf⟩ := cell_of_two (heap_alloc_new wr (.cells #[.string n, .int .i64 z] 54))
      clear h0 x0 x1 xf
      go_upto_region 12 with (go_at_call 28; go_must (refine (search_any pt _ n _ (HP.out.kept HGa.out) HW.out hpl).mono ?_; rintro e w4 ⟨i, fd, rfl, hg, hy, hn⟩; have HY := Lib.hid hy; have HN := Lib.hid hn; have G4 := Lib.hid (grownBy_trans HGa.out hg); obtain ⟨c0, c1, cf⟩ := cell_of_two (heap_keep (heap_alloc_new wr (.cells #[.string n, .int .i64 z] 54)) hg (by simp)); clear hg hy hn))
      cases fd with
      | true =>
        obtain ⟨t, ht1, ht2⟩ := HY.out rfl
        obtain ⟨m, v⟩ := t
        simp only at ht2
        subst ht2
        obtain ⟨bq, oq, rfl, -, hv1, hv2, -, hcv⟩ := (HQ.out i _ ht1).kept G4.out
        have hcx : coefX pt m = v := coefX_mem HD.out (List.mem_of_getElem? ht1)
        simp only at hv1 hv2 hcv
        rw [hcx] at hpb HSt
        have hw1 : IntKind.i64.wrap (z * v) = z * v := wrap_near (by omega)
        have hw2 : IntKind.i64.wrap (V + z * v) = V + z * v := wrap_near (by omega)
        have hil : i < pt.length := (List.getElem?_eq_some_iff.1 ht1).1
        have hiI : (i : Int) < (pt.length : Int) := by omega
        go_upto_region 13 with fail
        go_quiet (fail)
        go_wp2
        go_roundw
        case rel => exact ⟨k + 1, by omega, by go_num, by rw [HSt.out], grownBy_trans G4.out (grownBy_drewN _ _ _)⟩
        case measure => simp [intOf]; omega
      | false =>
        have hcx : coefX pt n = 0 := coefX_none (HN.out rfl)
        rw [hcx] at HSt
        go_wp2
        go_roundw
        case rel => exact ⟨k + 1, by omega, by go_num, by rw [HSt.out]; simp, G4.out⟩
        case measure => simp [intOf]; omega
    · obtain rfl : k = ts.length := by omega
      rw [List.take_length]
      go_wp2
      go_ret2
      exact ⟨by rw [HR.out]; rfl, Gr.out⟩
end Go.Proofs.YtblpknkgjkbacaaGreatDoor
