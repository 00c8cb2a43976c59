/-
 What the functions answer, in words that both sides share. slices.Repeat of conditions: the new block is told whole. A set that is drawn, the row of its conditions being the call's own.
-/
import Derived.Test.YtgeklmigfhhpfaaGreatDoorQ08
import Derived.Test.YtgeklmigfhhpfaaGreatDoorQ11
import Derived.Test.YtgeklmigfhhpfaaGreatDoorQ12
import Derived.Test.YtgeklmigfhhpfaaGreatDoorQ21
import Derived.Test.YtgeklmigfhhpfaaGreatDoorQ25
import Derived.Test.YtgeklmigfhhpfaaGreatDoorQ26
import Derived.Test.YtgeklmigfhhpfaaGreatDoorQ29
import Derived.Test.YtgeklmigfhhpfaaGreatDoorQ33
import Derived.Test.YtgeklmigfhhpfaaGreatDoorQ34
namespace Go.Proofs.YtgeklmigfhhpfaaGreatDoor
open Go.RowKit
noncomputable def condsOf (L : List SideD) (R : List RowD) : List CondD := by
 classical
 exact if h : ∃ C, Twin (RowF L) R C then h.choose else []
theorem condsOf_eq {L : List SideD} {R : List RowD} {C : List CondD} (h : Twin (RowF L) R C) : condsOf L R = C := by
 have hx : ∃ C, Twin (RowF L) R C := ⟨C, h⟩
 unfold condsOf
 rw [dif_pos hx]
 exact rowF_uniq hx.choose_spec h
def qOf (S : List SideD × List CondD) (x : ByteArray) : Nat := (firstI (sameName x) S.1).toNat
def sOf (S : List SideD × List CondD) (x : ByteArray) : SideD := (S.1[qOf S x]?).getD (ByteArray.empty, 0, 0)
def lOf (S : List SideD × List CondD) (x : ByteArray) : List SideD := S.1.eraseIdx (qOf S x)
structure PlaceX (S : List SideD × List CondD) (x : ByteArray) : Prop where
 set : setErr S = 0
 name : nameErr (namesOf S.1) x = 0
 first : firstI (sameName x) S.1 = (qOf S x : Int)
 get : S.1[qOf S x]? = some (sOf S x)
 same : (sOf S x).1 = x
 word : nameB x = true
theorem place_x {S : List SideD × List CondD} {x : ByteArray} (h : placeErr S x = 0) : PlaceX S x := by
 unfold placeErr at h
 by_cases h0 : setErr S = 0
 · rw [if_pos h0] at h
   obtain ⟨q, s, h1, h2, h3⟩ := place_get h
   have hq : qOf S x = q := by unfold qOf; rw [h1]; rfl
   have hs : sOf S x = s := by unfold sOf; rw [hq, h2]; rfl
   refine ⟨h0, h, by rw [h1, hq], by rw [hq, h2, hs], by rw [hs, h3], ?_⟩
   unfold nameErr at h
   by_cases h4 : nameB x = true
   · exact h4
   · rw [if_neg h4] at h; cases h
 · rw [if_neg h0] at h
   exact absurd h h0
theorem erase_not {l : List SideD} {q : Nat} {s : SideD} {x : ByteArray} (hA : Apart l) (hq : l[q]? = some s) (hs : s.1 = x) (h : containsB (namesOf (l.eraseIdx q)) x = true) : False := by
 rw [← sameName_any] at h
 obtain ⟨r, hr, he⟩ := List.any_eq_true.1 h
 have he := sameName_iff.1 he
 obtain ⟨i, hi, hne, hg⟩ := List.mem_eraseIdx_iff_getElem.1 hr
 obtain ⟨hql, hqe⟩ := List.getElem?_eq_some_iff.1 hq
 have hp := List.pairwise_iff_getElem.1 hA
 rcases Nat.lt_or_gt_of_ne hne with h1 | h1
 · have := hp i q hi hql h1
   rw [hg, hqe, he, hs] at this
   exact this rfl
 · have := hp q i hql hi h1
   rw [hg, hqe, he, hs] at this
   exact this rfl
def meetS (S T : List SideD × List CondD) : List SideD × List CondD := (meetL S.1 T.1, S.2 ++ T.2)
def meetZ (S T : List SideD × List CondD) : Int := if bothErr S T = 0 then setErr (meetS S T) else bothErr S T
def meetD (S T : List SideD × List CondD) : List SideD × List CondD := if bothErr S T = 0 then okSet (meetS S T) else ([], [])
theorem meet_both (S T : List SideD × List CondD) (sv cv tv dv : Value) (w : World) (hS : SetAt w sv cv S) (hT : SetAt w tv dv T) :
  Calls Tryz.prog 9 #[.agg #[sv, cv], .agg #[tv, dv]] w (Res (meetZ S T) (meetD S T) w) := by
 unfold meetZ meetD
 by_cases hE : bothErr S T = 0
 · rw [if_pos hE, if_pos hE]
   exact (meet_set S T sv cv tv dv w hS hT hE).mono fun _ _ h => h.res
 · rw [if_neg hE, if_neg hE]
   exact (meet_err S T sv cv tv dv w hS hT hE).mono fun _ _ h => h.res
theorem meet_ref (S T : List SideD × List CondD) (sv cv tv dv : Value) (w : World) (hS : SetAt w sv cv S) (hT : SetAt w tv dv T) (hE : bothErr S T = 0) :
  Calls Tryz.prog 18 #[.agg #[sv, cv], .agg #[tv, dv]] w (SetGot (meetS S T) w) := by
 obtain ⟨h1, h2, h3⟩ := both_good hE
 obtain ⟨a1, a2, a3⟩ := set_good h1
 obtain ⟨b1, b2, b3⟩ := set_good h2
 refine meetOf_any S T sv cv tv dv w hS hT ?_ ?_ ?_ (meet_good (set_sides h1).2.2.1 (set_sides h2).2.2.1)
 · unfold fitB at h3
   simp at h3
   exact h3.1
 · omega
 · have := a3.1
   have := b3.1
   omega
def tightS (S : List SideD × List CondD) : List SideD × List CondD := (S.1, tightC S.2)
def tightZ (S : List SideD × List CondD) : Int := if setErr S = 0 then setErr (tightS S) else setErr S
def tightD (S : List SideD × List CondD) : List SideD × List CondD := if setErr S = 0 then okSet (tightS S) else ([], [])
theorem tight_both (S : List SideD × List CondD) (sv cv : Value) (w : World) (hS : SetAt w sv cv S) :
  Calls Tryz.prog 11 #[.agg #[sv, cv]] w (Res (tightZ S) (tightD S) w) := by
 unfold tightZ tightD
 by_cases hE : setErr S = 0
 · rw [if_pos hE, if_pos hE]
   exact (tight_set S sv cv w hS hE).mono fun _ _ h => h.res
 · rw [if_neg hE, if_neg hE]
   exact (tight_err S sv cv w hS hE).mono fun _ _ h => h.res
theorem tight_ref (S : List SideD × List CondD) (sv cv : Value) (w : World) (hp : PowTab w) (hS : SetAt w sv cv S) (hE : setErr S = 0) :
  Calls Tryz.prog 21 #[.agg #[sv, cv]] w (SetGot (tightS S) w) := by
 obtain ⟨a1, a2, a3⟩ := set_good hE
 refine tightOf_any S sv cv w hp hS (by omega) (set_sides hE).2.2.1 ?_ ?_
 · have := a3.1
   omega
 · exact fun f hf => right_ok (conds_good a3.2 f hf).1
noncomputable def shadowS (S : List SideD × List CondD) (x : ByteArray) : List SideD × List CondD := (lOf S x, condsOf (lOf S x) (shadowR S (qOf S x) (sOf S x)))
noncomputable def shadowZ (S : List SideD × List CondD) (x : ByteArray) : Int := if placeErr S x = 0 then setErr (shadowS S x) else placeErr S x
noncomputable def shadowD (S : List SideD × List CondD) (x : ByteArray) : List SideD × List CondD := if placeErr S x = 0 then okSet (shadowS S x) else ([], [])
theorem shadow_both (S : List SideD × List CondD) (x : ByteArray) (sv cv : Value) (w : World) (hx : x.size ≤ maxLen) (hS : SetAt w sv cv S) :
  Calls Tryz.prog 12 #[.agg #[sv, cv], .string x] w (Res (shadowZ S x) (shadowD S x) w) := by
 unfold shadowZ shadowD
 by_cases hE : placeErr S x = 0
 · rw [if_pos hE, if_pos hE]
   have hp := place_x hE
   refine (shadow_core S x (qOf S x) (sOf S x) (lOf S x) _ _ _ (shadowR S (qOf S x) (sOf S x)) rfl rfl rfl rfl rfl sv cv w hx hS hp.set hp.name hp.get hp.first).mono ?_
   rintro e w' ⟨C, hC, hr⟩
   unfold shadowS
   rw [condsOf_eq hC]
   exact hr
 · rw [if_neg hE, if_neg hE]
   exact (shadow_err S x sv cv w hx hS hE).mono fun _ _ h => h.res
theorem shadow_ref (S : List SideD × List CondD) (x : ByteArray) (sv cv : Value) (w : World) (hp : PowTab w) (hS : SetAt w sv cv S) (hE : placeErr S x = 0) :
  Calls Tryz.prog 23 #[.agg #[sv, cv], .string x] w (SetGot (shadowS S x) w) := by
 have hx := place_x hE
 obtain ⟨hA, hN, hG, _⟩ := set_sides hx.set
 have hne : (sOf S x).1 ≠ ByteArray.empty := hN _ (List.mem_of_getElem? hx.get)
 refine (shadowOf_any S x (qOf S x) (sOf S x) (lOf S x) _ rfl rfl sv cv w hp hS hx.set hx.first hx.get hx.same hx.word).mono ?_
 rintro e w' ⟨C, hC, hr⟩
 have h1 := elim_twin hA hx.get hne (ends_twin hx.set hx.get) (by rw [hx.same]; exact hC)
 have h2 := tight_twin (apart_erase hA (qOf S x)) (fun s hs => hN s ((List.eraseIdx_sublist _ _).subset hs)) h1
 unfold shadowS
 rw [show condsOf (lOf S x) (shadowR S (qOf S x) (sOf S x)) = mergeAll (C.filterMap tightF) from condsOf_eq h2]
 exact hr
noncomputable def mappedS (S : List SideD × List CondD) (x : ByteArray) (b : CondD) : List SideD × List CondD := (lOf S x, condsOf (lOf S x) (((endsR S (qOf S x) (sOf S x)).map (putR (qOf S x) (b.1, coefsOf S.1 b.2))).map (lessR (qOf S x))))
def aroundX (S : List SideD × List CondD) (x : ByteArray) (b : CondD) : Int := if placeErr S x = 0 then aroundErr (namesOf (lOf S x)) b else placeErr S x
noncomputable def mappedZ (S : List SideD × List CondD) (x : ByteArray) (b : CondD) : Int := if aroundX S x b = 0 then setErr (mappedS S x b) else aroundX S x b
noncomputable def mappedD (S : List SideD × List CondD) (x : ByteArray) (b : CondD) : List SideD × List CondD := if aroundX S x b = 0 then okSet (mappedS S x b) else ([], [])
theorem around_x {S : List SideD × List CondD} {x : ByteArray} {b : CondD} (h : aroundX S x b = 0) : placeErr S x = 0 ∧ aroundErr (namesOf (lOf S x)) b = 0 := by
 unfold aroundX at h
 by_cases h0 : placeErr S x = 0
 · rw [if_pos h0] at h
   exact ⟨h0, h⟩
 · rw [if_neg h0] at h
   exact absurd h h0
theorem mapped_both (S : List SideD × List CondD) (x : ByteArray) (b : CondD) (sv cv tv : Value) (w : World) (hx : x.size ≤ maxLen) (hS : SetAt w sv cv S) (ht : TermsAt w tv b.2) :
  Calls Tryz.prog 13 #[.agg #[sv, cv], .string x, .agg #[.int .i64 b.1, tv]] w (Res (mappedZ S x b) (mappedD S x b) w) := by
 unfold mappedZ mappedD
 by_cases hE : aroundX S x b = 0
 · rw [if_pos hE, if_pos hE]
   obtain ⟨h1, h2⟩ := around_x hE
   have hp := place_x h1
   refine (mapped_core S x (qOf S x) (sOf S x) b.1 b.2 _ (lOf S x) _ _ _ rfl rfl rfl rfl rfl sv cv tv w hx hS ht hp.set hp.name hp.get hp.first h2).mono ?_
   rintro e w' ⟨C, hC, hr⟩
   unfold mappedS
   rw [condsOf_eq hC]
   exact hr
 · rw [if_neg hE, if_neg hE]
   unfold aroundX at hE ⊢
   by_cases h0 : placeErr S x = 0
   · rw [if_pos h0] at hE ⊢
     have hp := place_x h0
     exact (mapped_err2 S x (qOf S x) (sOf S x) b.1 b.2 (lOf S x) rfl sv cv tv w hx hS ht hp.set hp.name hp.get hp.first hE).mono fun _ _ h => h.res
   · rw [if_neg h0]
     exact (mapped_err S x b.1 b.2 sv cv tv w hx hS ht h0).mono fun _ _ h => h.res
theorem mapped_ref (S : List SideD × List CondD) (x : ByteArray) (b : CondD) (sv cv bv : Value) (w : World) (hS : SetAt w sv cv S) (hb : TermsAt w bv b.2) (hE : aroundX S x b = 0) :
  Calls Tryz.prog 26 #[.agg #[sv, cv], .string x, .agg #[.int .i64 b.1, bv]] w (SetGot (mappedS S x b) w) := by
 obtain ⟨g1, g2⟩ := around_x hE
 obtain ⟨f1, f2⟩ := around_ok g2
 have hx := place_x g1
 obtain ⟨hA, hN, hG, _⟩ := set_sides hx.set
 have hne : (sOf S x).1 ≠ ByteArray.empty := hN _ (List.mem_of_getElem? hx.get)
 have hc : coefX b.2 x = 0 := by
  refine coefX_none fun t ht e => ?_
  have h1 : containsB (namesOf (lOf S x)) t.1 = true := List.all_eq_true.1 f2 t ht
  rw [e] at h1
  exact erase_not hA hx.get hx.same h1
 refine (mappedOf_any S x (qOf S x) (sOf S x) (lOf S x) _ rfl rfl b.1 b.2 sv cv bv w hS hx.set hb f1 hc hx.first hx.get hx.same hx.word).mono ?_
 rintro e w' ⟨C, hC, hr⟩
 have h0 : RowF S.1 (b.1, coefsOf S.1 b.2) b := rowF_coefs f1 (terms_erase f2)
 have h1 := put_twin hA hx.get hne h0 (ends_twin hx.set hx.get) (by rw [hx.same]; exact hC)
 unfold mappedS
 rw [show condsOf (lOf S x) (((endsR S (qOf S x) (sOf S x)).map (putR (qOf S x) (b.1, coefsOf S.1 b.2))).map (lessR (qOf S x))) = C from condsOf_eq h1]
 exact hr
end Go.Proofs.YtgeklmigfhhpfaaGreatDoor
namespace Go.Proofs.YtgeklmigfhhpfaaGreatDoor
open Go.RowKit
attribute [local go_sem ↓] Go.wp_at_zero Go.wp_at_succ
def RepeatB (xs : List Value) (n c : Nat) (w : World) (e : Ending) (w' : World) : Prop :=
 ∃ g, e = .returned (.slice (some ⟨g, 0, none⟩) (n * c) (n * c)) ∧ w.heap.size ≤ g ∧ w.grownBy w' none ∧ (∀ j, j < n * c * 2 → w'.cell? ⟨g, j, none⟩ = xs[j % (n * 2)]?) ∧ ∃ cur : Array Value, w'.heap[g]? = some (.cells cur 35 (0, 0)) ∧ cur.size = n * c * 2
set_option maxRecDepth 100000 in
set_option maxHeartbeats 2000000 in
theorem repeatB_some (xs : List Value) (n : Nat) (ad : Addr) (cap : Nat) (w : World) (hn : n ≤ 1000) (hl : xs.length = n * 2) (hp : ∀ j v, xs[j]? = some v → w.cell? (ad.add j) = some v)
  (h1 : ∀ v ∈ xs, v.oneCell' = true) :
  Calls Tryz.prog 33 #[.slice (some ad) n cap, .int .i64 40] w (RepeatB xs n 40 w) := by
 obtain ⟨N, hN⟩ : ∃ N : Nat, n * 40 = N := ⟨_, rfl⟩
 have e1 : n * 40 / 18446744073709551616 = 0 := by omega
 have e2 : n * 40 % 18446744073709551616 = N := by omega
 have hdN : decide ((9223372036854775807 : Int) < (N : Int)) = false := by simp; omega
 go_enter Tryz.func33, Tryz.ntmps33
 obtain ⟨j0, hj0, hy0, hy1, hy2⟩ := info_parts Tryz.infoFormR
 have HN := uH hN
 have HP := uH hp
 have HX := uH hl
 have H1 := uH h1
 have hN40 : N ≤ 40000 := by omega
 clear hN hp hl h1
 go_wp2_with (first
  | (go_at_call 83; refine (mul_any n 40 (by omega) (by omega) _).mono ?_; rintro e w' ⟨rfl, hw⟩; rw [e1, e2, hw]; clear hw)
  | (at_make; go_must (refine wpList_make_full w rfl _ _ 27 rfl w.heap.size 35 j0 (.agg #[.int .i64 0, .slice none 0 0]) 2 Tryz.underlying27 hj0 hy0 hy1 .i64 .i64 _ _ N rfl rfl rfl rfl (by rw [hy2]; omega) (by unfold maxLen; omega) (Nat.le_refl _) ?_; intro w1 hown hg1; obtain ⟨cur, hcur, hcs⟩ := made_cells hown; have HG1 := uH hg1; have HC1 := uH hcur; have hsz1 := hg1.size; clear hown hg1 hcur))
  | (refine wpList_copy_wide rfl _ _ _ _ rfl 35 2 n Tryz.underlying27 Tryz.infoForm2 w.heap.size 0 N N ad n cap rfl rfl cur _ HC1.out xs (Nat.min_eq_left (by have := HN.out; omega)) HX.out (fun j v hj => HG1.out.cell (HP.out j v hj) (by simp)) (by have := HN.out; have := HX.out; omega) H1.out ?_))
 have HF := uH (filled_first HC1.out hcs HX.out (n := n) (by have := HN.out; omega))
 have HGr := uH (show w.grownBy (w1.setRow w.heap.size (xs ++ cur.toList.drop xs.length).toArray) none from ⟨HG1.out.os, HG1.out.tape, HG1.out.output, by simpa using hsz1, fun k hk hne => (setRow_other _ _ _ _ (by omega)).trans (HG1.out.block k hk hne)⟩)
 simp only [List.take_zero, List.nil_append, Nat.zero_add] at HF
 generalize w1.setRow w.heap.size (xs ++ cur.toList.drop xs.length).toArray = w2 at *
 go_loopw [8] (fun i wr => ∃ D : Nat, D ≤ N ∧ i = .int .i64 D ∧ n ≤ D ∧ Hid (n ∣ D) ∧ Hid (w.grownBy wr none) ∧ Hid (Filled wr w.heap.size N n D xs)) (fun i _ => N - (intOf i).toNat)
 case atStart => exact ⟨n, by have := HN.out; omega, rfl, Nat.le_refl _, Nat.dvd_refl _, HGr.out, HF.out⟩
 case round =>
  obtain ⟨D, hD, rfl, hnD, HDv, HGw, HFl⟩ := hrel
  by_cases hlt : D < N
  · go_wp2_with (fail)
    obtain ⟨cur2, h2g, h2s, h2c⟩ := HFl.out
    obtain ⟨m, hm⟩ : ∃ m, Nat.min D (N - D) = m := ⟨_, rfl⟩
    have hm1 : m ≤ D := hm ▸ Nat.min_le_left _ _
    have hm2 : m ≤ N - D := hm ▸ Nat.min_le_right _ _
    have hpos : 0 < m := hm ▸ (by rw [Nat.lt_min]; have := HN.out; omega)
    have hne : ¬ N = D := by omega
    have hwr := IntWalk.i64_in (↑D + ↑m) (by omega)
    have H2 := uH h2g
    have H3 := uH h2c
    have HM := uH hm
    clear h2g h2c hm
    have hcl : (cur2.toList.take (m * 2)).length = m * 2 := by simp [h2s]; omega
    have HCL := uH hcl
    have HSrc := uH (fun j v (hj : (cur2.toList.take (m * 2))[j]? = some v) => show wr.cell? ((⟨w.heap.size, 0, none⟩ : Addr).add j) = some v from copy_src H2.out hj)
    have HOne := uH (fun v (hv : v ∈ cur2.toList.take (m * 2)) => filled_one H1.out H3.out (by omega) hv)
    have HFit := uH (show D * 2 + (cur2.toList.take (m * 2)).length ≤ cur2.size by rw [hcl, h2s]; omega)
    clear hcl
    go_region_law ((refine step_copy_wide (by rfl) (.tmp 41) (.tmp 44) 27 27 (by rfl) 35 2 m Tryz.underlying27 Tryz.infoForm2 w.heap.size (D * 2) (N - D) (N - D) ⟨w.heap.size, 0, none⟩ D N ?hd ?hs cur2 _ H2.out (cur2.toList.take (m * 2)) HM.out HCL.out HSrc.out HFit.out HOne.out ?_; (case hd => (simp [Act.eval, Act.put])); (case hs => (simp [Act.eval, Act.put])); intro w3 hw3; have HW3 := uH hw3; clear hw3))
    simp [Act.put]
    go_roundw
    case rel =>
     have hn1 : n ∣ N := ⟨40, HN.out.symm⟩
     have hdm : n ∣ m := by
      rw [← HM.out]
      show n ∣ min D (N - D)
      rcases Nat.le_total D (N - D) with h | h
      · rw [Nat.min_eq_left h]; exact HDv.out
      · rw [Nat.min_eq_right h]; exact Nat.dvd_sub hn1 HDv.out
     (repeat apply Exists.intro)
     refine ⟨⟨D + m, by omega, ?_, by omega, Nat.dvd_add HDv.out hdm, ?_, ?_⟩, rfl⟩
     · go_num
     · show World.grownBy _ _ _
       rw [HW3.out]
       exact ⟨HGw.out.os, HGw.out.tape, HGw.out.output, by have := HGw.out.size; simpa using this, fun k hk hne => (setRow_other _ _ _ _ (by omega)).trans (HGw.out.block k hk hne)⟩
     · show Filled _ _ _ _ _ _
       rw [HW3.out]
       exact filled_step H2.out h2s H3.out HDv.out hm1 (by omega)
    case measure => simp [intOf]; omega
  · obtain rfl : D = N := by omega
    go_wp2_with (fail)
    go_ret
    obtain ⟨cur2, h2g, h2s, h2c⟩ := HFl.out
    have hnn := HN.out
    refine ⟨w.heap.size, ?_, Nat.le_refl _, HGw.out, fun j hj => ?_, cur2, h2g, by rw [h2s, hnn]⟩
    · simp [hnn]
    · rw [hnn] at hj
      rw [← h2c j hj]
      simp [World.cell?, h2g]
set_option maxRecDepth 100000 in
set_option maxHeartbeats 2000000 in
theorem repeatB_nil (xs : List Value) (w : World) :
  Calls Tryz.prog 33 #[.slice none 0 0, .int .i64 40] w (RepeatB xs 0 40 w) := by
 go_enter Tryz.func33, Tryz.ntmps33
 obtain ⟨j0, hj0, hy0, hy1, hy2⟩ := info_parts Tryz.infoFormR
 go_wp2_with (first
  | (go_at_call 83; refine (mul_any 0 40 (by omega) (by omega) _).mono ?_; rintro e w' ⟨rfl, hw⟩; rw [hw]; clear hw; simp only [Nat.zero_mul, Nat.zero_div, Nat.zero_mod])
  | (at_make; go_must (refine wpList_make_full w rfl _ _ 27 rfl w.heap.size 35 j0 (.agg #[.int .i64 0, .slice none 0 0]) 2 Tryz.underlying27 hj0 hy0 hy1 .i64 .i64 _ _ 0 rfl rfl rfl rfl (by rw [hy2]; omega) (by unfold maxLen; omega) (Nat.le_refl _) ?_; intro w1 hown hg1; obtain ⟨cur0, hc0, hs0⟩ := made_cells hown; have HC0 := uH hc0; have HS0 := uH hs0; have HG1 := uH hg1; clear hown hg1 hc0 hs0))
  | (refine wpList_copy_nil rfl _ _ _ _ rfl 35 2 Tryz.underlying27 Tryz.infoForm2 w.heap.size 0 0 rfl rfl ?_))
 go_loopw [8] (fun i wr => i = .int .i64 0 ∧ Hid (w.grownBy wr none) ∧ Hid (∃ cur : Array Value, wr.heap[w.heap.size]? = some (.cells cur 35 (0, 0)) ∧ cur.size = 0 * 40 * 2)) (fun i _ => 0)
 case atStart => exact ⟨rfl, HG1.out, ⟨cur0, HC0.out, by rw [HS0.out]⟩⟩
 case round =>
  obtain ⟨rfl, HGw, HSh⟩ := hrel
  go_wp2_with (fail)
  go_ret
  exact ⟨w.heap.size, rfl, Nat.le_refl _, HGw.out, fun j hj => by omega, HSh.out⟩
theorem repeatB_any {w : World} {P cap n : Nat} {p : Option Addr} {cs : List CondD} {tvs : List Value} (h : CSt w P (.slice p n cap) cs tvs) (hn : cs.length = n) (hl : n ≤ 1000) :
  Calls Tryz.prog 33 #[.slice p n cap, .int .i64 40] w (RepeatB ((cs.zip tvs).flatMap condCells) n 40 w) := by
 subst hn
 rcases h.row.2 with ⟨hv, hz⟩ | ⟨g, c, cur, hv, _⟩
 · obtain ⟨rfl, _, rfl⟩ := Value.slice.inj hv
   rw [hz]
   exact repeatB_nil _ w
 · obtain ⟨rfl, _, rfl⟩ := Value.slice.inj hv
   refine repeatB_some _ _ _ _ _ hl h.row.1 (fun j v hj => ?_) (fun v hv => ?_)
   · obtain ⟨g2, c2, e, _, k⟩ := own_cell h.row hj
     obtain ⟨e1, _, _⟩ := Value.slice.inj e
     cases e1
     have hadd : (⟨g, 0, none⟩ : Addr).add j = ⟨g, j, none⟩ := by unfold Addr.add; split <;> simp_all
     rw [hadd]
     exact k
   · obtain ⟨⟨f, tv⟩, hm, hv⟩ := List.mem_flatMap.1 hv
     obtain ⟨j, hj⟩ := List.mem_iff_getElem?.1 hm
     rw [List.getElem?_zip_eq_some] at hj
     obtain ⟨q, c3, htv⟩ := own_form (h.terms j f tv hj.1 hj.2).1
     simp [condCells] at hv
     rcases hv with rfl | rfl
     · rfl
     · rw [htv]; rfl
end Go.Proofs.YtgeklmigfhhpfaaGreatDoor
namespace Go.Proofs.YtgeklmigfhhpfaaGreatDoor
open Go.RowKit
structure Grown2 (w w2 : World) (B : Nat) (o : Option Nat) : Prop where
 size : w.heap.size ≤ w2.heap.size
 block : ∀ k, k < w.heap.size → k ≠ B → some k ≠ o → w2.heap[k]? = w.heap[k]?
theorem Grown2.of {w w2 : World} {B : Nat} {o : Option Nat} (h : w.grownBy w2 o) : Grown2 w w2 B o := ⟨h.size, fun k hk _ ho => h.block k hk ho⟩
theorem Grown2.ofB {w w2 : World} {B : Nat} {o : Option Nat} (h : w.grownBy w2 (some B)) : Grown2 w w2 B o := ⟨h.size, fun k hk hB _ => h.block k hk (fun e => hB (Option.some.inj e))⟩
theorem Grown2.trans {a b c : World} {B : Nat} {o : Option Nat} (h : Grown2 a b B o) (k : Grown2 b c B o) : Grown2 a c B o := ⟨Nat.le_trans h.size k.size, fun i hi h1 h2 => (k.block i (Nat.lt_of_lt_of_le hi h.size) h1 h2).trans (h.block i hi h1 h2)⟩
theorem owns_block {w w2 : World} {base : Nat} {e : TypeId} {size : Nat} {v : Value} {n : Nat} {xs : List Value} (h : w.ownsRow base e size v n xs) (hk : ∀ g, v.ownBlock = some g → w2.heap[g]? = w.heap[g]?) : w2.ownsRow base e size v n xs := by
 obtain ⟨a1, a2⟩ := h
 refine ⟨a1, ?_⟩
 rcases a2 with h0 | ⟨g, cap, cur, rfl, r⟩
 · exact .inl h0
 · obtain ⟨r1, r2, r3⟩ := r
   exact .inr ⟨g, cap, cur, rfl, r1, by rw [hk g rfl]; exact r2, r3⟩
theorem owns_two {w w2 : World} {base : Nat} {e : TypeId} {size : Nat} {v : Value} {n : Nat} {xs : List Value} {B : Nat} {o : Option Nat} (h : w.ownsRow base e size v n xs) (hg : Grown2 w w2 B o) (hB : B < base) (ho : v.ownBlock = none ∨ v.ownBlock ≠ o) : w2.ownsRow base e size v n xs := by
 refine owns_block h fun g hv => ?_
 obtain ⟨l1, l2⟩ := h.lt g hv
 refine hg.block g l2 (by omega) (fun e => ?_)
 rcases ho with ho | ho
 · rw [ho] at hv; cases hv
 · exact ho (hv.trans e)
def CondOwn (w : World) (n B : Nat) (cv : Value) (cs : List CondD) : Prop :=
 ∃ tvs : List Value, tvs.length = cs.length ∧ w.ownsRow n 35 2 cv cs.length ((cs.zip tvs).flatMap condCells) ∧
   ∀ (j : Nat) (f : CondD) (tv : Value), cs[j]? = some f → tvs[j]? = some tv → (-9223372036854775808 ≤ f.1 ∧ f.1 ≤ 9223372036854775807) ∧ ∀ w2, Grown2 w w2 B cv.ownBlock → TermsAt w2 tv f.2
def SetOwn (w : World) (n B : Nat) (sv cv : Value) (S : List SideD × List CondD) : Prop := SetAt w sv cv S ∧ S.2.length ≤ 40000 ∧ CondOwn w n B cv S.2
theorem CSt.own {w : World} {P n B : Nat} {cv : Value} {cs : List CondD} {tvs : List Value} (h : CSt w P cv cs tvs) (hn : n ≤ P) (hB : B < P) : CondOwn w n B cv cs := by
 refine ⟨tvs, h.len, owns_lower h.row hn, fun j f tv h1 h2 => ?_⟩
 obtain ⟨⟨g1, g2⟩, g3, g4⟩ := h.good f (List.mem_of_getElem? h1)
 obtain ⟨t1, t2⟩ := h.terms j f tv h1 h2
 exact ⟨by omega, fun w2 hg => terms_of_owns (owns_two t1 hg hB t2) (by omega) g4⟩
theorem zip_rep {α β : Type} (a : List α) (b : List β) (h : b.length = a.length) : ∀ c : Nat, ((List.replicate c a).flatten).zip ((List.replicate c b).flatten) = (List.replicate c (a.zip b)).flatten
 | 0 => rfl
 | c + 1 => by
   rw [List.replicate_succ, List.replicate_succ, List.replicate_succ, List.flatten_cons, List.flatten_cons, List.flatten_cons, List.zip_append h.symm, zip_rep a b h c]
theorem flat_rep {α β : Type} (f : α → List β) (a : List α) : ∀ c : Nat, ((List.replicate c a).flatten).flatMap f = (List.replicate c (a.flatMap f)).flatten
 | 0 => rfl
 | c + 1 => by
   rw [List.replicate_succ, List.replicate_succ, List.flatten_cons, List.flatten_cons, List.flatMap_append, flat_rep f a c]
theorem repeat_own {w : World} {P n g m B : Nat} {cv : Value} {cs : List CondD} {tvs : List Value} {cur : Array Value} (h : CSt w P cv cs tvs) (hn : cs.length = n) (hm : m ≤ g ∧ n ≤ 1000) (hB : B < P) (hg : w.heap[g]? = some (.cells cur 35 (0, 0))) (hs : cur.size = n * 40 * 2)
  (hc : ∀ j, j < n * 40 * 2 → w.cell? ⟨g, j, none⟩ = ((cs.zip tvs).flatMap condCells)[j % (n * 2)]?) (hne : ∀ b tv, tv.ownBlock = some b → tv ∈ tvs → b < g) : CondOwn w m B (.slice (some ⟨g, 0, none⟩) (n * 40) (n * 40)) ((List.replicate 40 cs).flatten) := by
 have hl1 : ((List.replicate 40 cs).flatten).length = n * 40 := by rw [rep_len, hn]
 have hl2 : ((List.replicate 40 tvs).flatten).length = n * 40 := by rw [rep_len, h.len, hn]
 have hx : ((cs.zip tvs).flatMap condCells).length = n * 2 := by have := h.row.1; rw [hn] at this; exact this
 have hxs : cur.toList = (((List.replicate 40 cs).flatten).zip ((List.replicate 40 tvs).flatten)).flatMap condCells := by
  rw [zip_rep cs tvs h.len, flat_rep]
  refine List.ext_getElem? fun j => ?_
  by_cases hj : j < n * 40 * 2
  · have e := hc j hj
    unfold World.cell? at e
    rw [hg] at e
    simp only [Option.isSome_none, Bool.false_eq_true, if_false] at e
    rw [Array.getElem?_toList, e, rep_get _ 40 j (by rw [hx]; omega), hx]
  · rw [List.getElem?_eq_none (by simp; omega), List.getElem?_eq_none (by rw [rep_len, hx]; omega)]
 refine ⟨(List.replicate 40 tvs).flatten, by rw [hl1, hl2], ⟨by rw [← hxs, hl1]; simp; omega, .inr ⟨g, n * 40, cur, by rw [hl1], hm.1, hg, by rw [hl1]; exact Nat.le_refl _, by unfold maxLen; omega, hs, ?_⟩⟩, fun j f tv h1 h2 => ?_⟩
 · rw [hxs]
   refine List.take_of_length_le ?_
   rw [← hxs, hl1]
   simp
   omega
 · have hjl : j < n * 40 := by rw [← hl1]; exact (List.getElem?_eq_some_iff.1 h1).1
   rw [rep_get cs 40 j (by rw [hn]; omega), hn] at h1
   rw [rep_get tvs 40 j (by rw [h.len, hn]; omega), h.len, hn] at h2
   obtain ⟨⟨g1, g2⟩, g3, g4⟩ := h.good f (List.mem_of_getElem? h1)
   obtain ⟨t1, _⟩ := h.terms _ f tv h1 h2
   refine ⟨by omega, fun w2 hgr => terms_of_owns (owns_two t1 hgr hB ?_) (by omega) g4⟩
   cases hb : tv.ownBlock with
   | none => exact .inl rfl
   | some b =>
     refine .inr fun e => ?_
     have h9 := hne b tv hb (List.mem_of_getElem? h2)
     have e3 : b = g := Option.some.inj e
     omega
def ASetOwn (B m : Nat) (w : World) (e : Ending) (w' : World) : Prop := ∃ sv cv S, e = .returned (.agg #[sv, cv]) ∧ (∀ w2, w'.grownBy w2 (some B) → SetOwn w2 w.heap.size B sv cv S) ∧ S.1.length ≤ 100 ∧ Drawn B m w w'
variable {B m m' : Nat} {w0 w w' : World} {sv cv : Value}
def ReadyB (B M : Nat) (w0 wx : World) : Prop :=
 ∃ (p q : Option Addr) (n c k d : Nat) (S : List SideD × List CondD), LSt B M w0 wx (.slice p n c) (.slice q k d) ∧ S.1.length ≤ 100 ∧ ∀ w1 w2, wx.grownBy w1 (some w0.heap.size) → w1.grownBy w2 (some B) → SetOwn w2 w0.heap.size B (.slice p n c) (.slice q k d) S
theorem readyB_of {M : Nat} {S : List SideD × List CondD} {p q : Option Addr} {n c k d : Nat} (h : LSt B m w0 w sv cv) (hS : ∀ w1 w2, w.grownBy w1 (some w0.heap.size) → w1.grownBy w2 (some B) → SetOwn w2 w0.heap.size B sv cv S) (hl : S.1.length ≤ 100) (hm : m ≤ M) (e1 : sv = .slice p n c) (e2 : cv = .slice q k d) : Hid (ReadyB B M w0 w) := by
 subst e1 e2
 exact ⟨p, q, n, c, k, d, S, h.more hm, hl, hS⟩
theorem LSt.finishB {M : Nat} {S : List SideD × List CondD} (h : LSt B m w0 w sv cv) (hS : ∀ w1 w2, w.grownBy w1 (some w0.heap.size) → w1.grownBy w2 (some B) → SetOwn w2 w0.heap.size B sv cv S) (hl : S.1.length ≤ 100) (hm : m ≤ M) :
  ((w.setCell ⟨w0.heap.size, 0, none⟩ sv).setCell ⟨w0.heap.size, 1, none⟩ cv).heap[w0.heap.size]? = some (.cells #[sv, cv] 29 (0, 0)) ∧
  ASetOwn B M w0 (.returned (.agg #[sv, cv])) ((w.setCell ⟨w0.heap.size, 0, none⟩ sv).setCell ⟨w0.heap.size, 1, none⟩ cv) := by
 have hg : w.grownBy ((w.setCell ⟨w0.heap.size, 0, none⟩ sv).setCell ⟨w0.heap.size, 1, none⟩ cv) (some w0.heap.size) := gT (gS _ _ _ _) (gS _ _ _ _)
 have hr := h.res
 refine ⟨by simp [World.setCell, Array.getElem?_modify, hr], sv, cv, S, rfl, fun w2 h2 => hS _ _ hg h2, hl, (h.drawn.own hg h.lt (fun k hk => by cases hk; exact Nat.le_refl _)).more hm⟩
theorem setOwn_of {P k : Nat} {l : List SideD} {cs : List CondD} {tvs : List Value} {n : Nat} (ho : w.ownsRow (n + 3) 63 3 sv k (l.flatMap sideCells)) (hk : l.length = k) (hl : k ≤ 1000000) (hg : ∀ s ∈ l, goodSide s) (hc : CSt w P cv cs tvs) (hcl : cs.length ≤ 40000) (hP : n < P) (hB : B < n) :
  ∀ w1 w2, w.grownBy w1 (some n) → w1.grownBy w2 (some B) → SetOwn w2 n B sv cv (l, cs) := fun w1 w2 hw hw2 => by
 subst hk
 have hne : ∀ j, j < n + 3 → sv.ownBlock = none ∨ sv.ownBlock ≠ some j := fun j hj => by
  cases hb : sv.ownBlock with
  | none => exact .inl rfl
  | some b =>
    refine .inr fun e => ?_
    have := (ho.lt b hb).1
    have := Option.some.inj e
    omega
 have hc2 := (hc.kept hw (fun k hk => by cases hk; exact hP)).kept hw2 (fun k hk => by cases hk; omega)
 exact ⟨⟨sides_of_owns ((ho.kept hw (hne n (by omega))).kept hw2 (hne B (by omega))) hl hg, hc2.conds (by omega)⟩, hcl, hc2.own (by omega) (by omega)⟩
theorem case1_readyB {M P k ncap g cl : Nat} {w0 wP w4 : World} {l : List SideD} {cs : List CondD} {tvs : List Value} {ps pc : Option Addr} {scap ccap : Nat} {zs : ByteArray} {z : Int}
  (HLQ : Hid (LSt B m w0 (w4.setCell ⟨w0.heap.size + 1, 1, none⟩ (.slice (some ⟨g, 0, none⟩) (cs.length + 1) ncap)) (.slice ps k scap) (.slice (some ⟨g, 0, none⟩) (cs.length + 1) ncap)))
  (HOP : Hid (wP.ownsRow (w0.heap.size + 3) 63 3 (.slice ps k scap) k (l.flatMap sideCells))) (HCP : Hid (CSt wP P (.slice pc cs.length ccap) cs tvs)) (HZ : Hid (zs.size ≤ 100)) (HZ2 : Hid (z = 1 ∨ z = 0 ∨ z = 1001))
  (G4 : Hid ((wP.alloc (.cells #[.string zs, .int .i64 z] 65)).grownBy w4 (Value.slice pc cs.length ccap).ownBlock))
  (O4 : Hid (w4.ownsRow P 35 2 (.slice (some ⟨g, 0, none⟩) (cs.length + 1) ncap) (cs.length + 1) ((cs.zip tvs).flatMap condCells ++ condCells ((0, [(zs, z)]), .slice (some ⟨wP.heap.size, 0, none⟩) 1 1))))
  (A4 : Hid ((Value.slice pc cs.length ccap).ownBlock = some g ∨ g = wP.heap.size + 1 + 1)) (HLen : Hid (l.length = k)) (HGd : Hid (∀ s ∈ l, goodSide s)) (HCl : Hid (cs.length = cl)) (hA : w0.heap.size + 3 ≤ P) (hB : B < w0.heap.size)
  (hOA : ∀ b, (Value.slice ps k scap).ownBlock = some b → b < P) (hP : P ≤ wP.heap.size) (hk : k ≤ 100) (hcl : cl ≤ 1000) (hM : m ≤ M) : Hid (ReadyB B M w0 (w4.setCell ⟨w0.heap.size + 1, 1, none⟩ (.slice (some ⟨g, 0, none⟩) (cs.length + 1) ncap))) := by
 have hterm : World.ownsRow (wP.alloc (.cells #[.string zs, .int .i64 z] 65)) wP.heap.size 65 2 (.slice (some ⟨wP.heap.size, 0, none⟩) 1 1) 1 ([(zs, z)].flatMap termCells) := owns_fresh _ _ _ _ _ rfl (by decide)
 have hz1 := HZ2.out
 have hC4 := (HCP.out.push (w1 := wP.alloc (.cells #[.string zs, .int .i64 z] 65)) (c := 0) (ts := [(zs, z)]) (B := B) (by omega) hP (grownBy_any _ (gA _ _ _)) hterm G4.out O4.out rfl (by rcases A4.out with h | h; exact .inl h; exact .inr (by simp; omega)) ⟨⟨by omega, by omega⟩, by simp, fun t ht => by obtain rfl := List.mem_singleton.1 ht; exact ⟨HZ.out, by simp only; constructor <;> omega⟩⟩).kept (gS _ (w0.heap.size + 1) 1 (.slice (some ⟨g, 0, none⟩) (cs.length + 1) ncap)) (fun k hk => by cases hk; omega)
 have hcl2 := HCl.out
 exact readyB_of HLQ.out (setOwn_of ((owns_keep2 HOP.out (gT (grownBy_any _ (gA _ _ _)) G4.out) HCP.out hOA).kept (gS _ (w0.heap.size + 1) 1 _) (own_ne HOP.out (by omega))) HLen.out (by omega) HGd.out hC4 (by simp; omega) (by omega) hB) (by have := HLen.out; simp only; omega) hM rfl rfl
theorem case2_readyB {M P k n g : Nat} {w0 wN wR : World} {l : List SideD} {cs : List CondD} {tvs : List Value} {ps : Option Addr} {scap : Nat} {cv : Value}
  (HLQ : Hid (LSt B m w0 (wR.setCell ⟨w0.heap.size + 1, 1, none⟩ (.slice (some ⟨g, 0, none⟩) (n * 40) (n * 40))) (.slice ps k scap) (.slice (some ⟨g, 0, none⟩) (n * 40) (n * 40))))
  (HON : Hid (wN.ownsRow (w0.heap.size + 3) 63 3 (.slice ps k scap) k (l.flatMap sideCells))) (HCN : Hid (CSt wN P cv cs tvs)) (HGR : Hid (wN.grownBy wR none))
  (HSh : Hid (∃ cur : Array Value, wR.heap[g]? = some (.cells cur 35 (0, 0)) ∧ cur.size = n * 40 * 2)) (HGC : Hid (∀ j, j < n * 40 * 2 → wR.cell? ⟨g, j, none⟩ = ((cs.zip tvs).flatMap condCells)[j % (n * 2)]?)) (HLen : Hid (l.length = k)) (HGd : Hid (∀ s ∈ l, goodSide s)) (hn : cs.length = n) (hnl : n ≤ 1000)
  (hA : w0.heap.size + 3 ≤ P) (hB : B < w0.heap.size) (hg : wN.heap.size ≤ g) (hP : P ≤ wN.heap.size) (hk : k ≤ 100) (hM : m ≤ M) : Hid (ReadyB B M w0 (wR.setCell ⟨w0.heap.size + 1, 1, none⟩ (.slice (some ⟨g, 0, none⟩) (n * 40) (n * 40)))) := by
 have hk2 := HLen.out
 subst hk2
 have hgs := gS wR (w0.heap.size + 1) 1 (.slice (some ⟨g, 0, none⟩) (n * 40) (n * 40))
 have hC := (HCN.out.kept HGR.out (fun k hk => by cases hk)).kept hgs (fun k hk => by cases hk; omega)
 have hO := (HON.out.kept HGR.out (Classical.em _)).kept hgs (own_ne HON.out (by omega))
 have hx := HCN.out.row.1
 rw [hn] at hx
 refine readyB_of (S := (l, (List.replicate 40 cs).flatten)) HLQ.out (fun w1 w2 hw hw2 => ?_) hk hM rfl rfl
 have hcell : ∀ j, j < n * 40 * 2 → w2.cell? ⟨g, j, none⟩ = ((cs.zip tvs).flatMap condCells)[j % (n * 2)]? := fun j hj => by
  have hlt : j % (n * 2) < ((cs.zip tvs).flatMap condCells).length := by
   rw [hx]
   exact Nat.mod_lt _ (by omega)
  have e := HGC.out j hj
  obtain ⟨v, hv⟩ : ∃ v, ((cs.zip tvs).flatMap condCells)[j % (n * 2)]? = some v := ⟨_, List.getElem?_eq_getElem hlt⟩
  rw [hv] at e ⊢
  exact hw2.cell (hw.cell (hgs.cell e (by simp; omega)) (by simp; omega)) (by simp; omega)
 have hC2 := (hC.kept hw (fun k hk => by cases hk; omega)).kept hw2 (fun k hk => by cases hk; omega)
 obtain ⟨cur, hc1, hc2⟩ := HSh.out
 have hsh : w2.heap[g]? = some (.cells cur 35 (0, 0)) := kH (kH (kH hc1 hgs (by simp; omega)) hw (by simp; omega)) hw2 (by simp; omega)
 have hgw : wN.heap.size ≤ g := hg
 refine ⟨⟨sides_of_owns ((hO.kept hw (own_ne HON.out (by omega))).kept hw2 (own_ne HON.out (by omega))) (show l.length ≤ 1000000 by omega) HGd.out, conds_repeat hC2 hn (by omega) hcell⟩, (by show ((List.replicate 40 cs).flatten).length ≤ 40000; rw [rep_len, hn]; omega), repeat_own hC2 hn (by omega) (by omega) hsh hc2 hcell (fun b tv hb hm => ?_)⟩
 obtain ⟨q, hq⟩ := List.mem_iff_getElem?.1 hm
 have hql : q < cs.length := by
  have := (List.getElem?_eq_some_iff.1 hq).1
  rw [HCN.out.len] at this
  exact this
 have := ((HCN.out.terms q _ tv (List.getElem?_eq_getElem hql) hq).1.lt b hb).2
 omega
theorem case0_readyB {M P k g ncap n c : Nat} {w0 wP w4 : World} {l : List SideD} {cs : List CondD} {tvs : List Value} {ps pc : Option Addr} {scap : Nat} {zs : ByteArray} {lo hi : Int}
  (HLQ : Hid (LSt B m w0 (w4.setCell ⟨w0.heap.size + 1, 0, none⟩ (.slice (some ⟨g, 0, none⟩) (k + 1) ncap)) (.slice (some ⟨g, 0, none⟩) (k + 1) ncap) (.slice pc n c)))
  (O4 : Hid (w4.ownsRow (w0.heap.size + 3) 63 3 (.slice (some ⟨g, 0, none⟩) (k + 1) ncap) (k + 1) (l.flatMap sideCells ++ sideCells (zs, lo, hi))))
  (HCP : Hid (CSt wP P (.slice pc n c) cs tvs)) (G4 : Hid ((wP.alloc (.cells #[.string zs, .int .i64 lo, .int .i64 hi] 63)).grownBy w4 (Value.slice ps k scap).ownBlock))
  (hOA : ∀ b, (Value.slice ps k scap).ownBlock = some b → b < P) (HLen : Hid (l.length = k)) (HGd : Hid (∀ s ∈ l, goodSide s)) (hz : goodSide (zs, lo, hi)) (hcl : cs.length ≤ 40000)
  (hA : w0.heap.size + 3 ≤ P) (hB : B < w0.heap.size) (hk : k ≤ 99) (hM : m ≤ M) : Hid (ReadyB B M w0 (w4.setCell ⟨w0.heap.size + 1, 0, none⟩ (.slice (some ⟨g, 0, none⟩) (k + 1) ncap))) := by
 have hl0 := HLen.out
 have hl1 : (l ++ [(zs, lo, hi)]).length = k + 1 := by simp [hl0]
 have hO : World.ownsRow (w4.setCell ⟨w0.heap.size + 1, 0, none⟩ (.slice (some ⟨g, 0, none⟩) (k + 1) ncap)) (w0.heap.size + 3) 63 3 (.slice (some ⟨g, 0, none⟩) (k + 1) ncap) (k + 1) ((l ++ [(zs, lo, hi)]).flatMap sideCells) := by
  rw [List.flatMap_append]
  exact ownsRow_setCell_below O4.out (show w0.heap.size + 1 < w0.heap.size + 3 by omega) _
 have hC := (HCP.out.kept (gT (grownBy_any _ (gA _ _ _)) G4.out) (fun b hb => hOA b hb)).kept (gS w4 (w0.heap.size + 1) 0 (.slice (some ⟨g, 0, none⟩) (k + 1) ncap)) (fun k hk => by cases hk; omega)
 refine readyB_of HLQ.out (setOwn_of hO hl1 (by omega) (fun s hs => ?_) hC hcl (by omega) hB) (show (l ++ [(zs, lo, hi)]).length ≤ 100 by rw [hl1]; omega) hM rfl rfl
 rcases List.mem_append.1 hs with hs | hs
 · exact HGd.out s hs
 · obtain rfl := List.mem_singleton.1 hs
   exact hz
end Go.Proofs.YtgeklmigfhhpfaaGreatDoor
