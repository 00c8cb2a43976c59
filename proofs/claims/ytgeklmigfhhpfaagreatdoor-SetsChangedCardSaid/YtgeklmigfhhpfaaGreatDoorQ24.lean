/-
 each's recursion: its end, and the whole, where count visits. each, where count visits. count, Count.
-/
import Derived.Deep.AppendLies
import Derived.WalkSpells
import Derived.Deep.CutRange
import Derived.Test.YtgeklmigfhhpfaaGreatDoorQ13
import Derived.Test.YtgeklmigfhhpfaaGreatDoorQ14
namespace Go.Proofs.YtgeklmigfhhpfaaGreatDoor
open Go.RowKit
attribute [local go_sem ↓] Go.wp_at_zero Go.wp_at_succ
variable {wE : World} {V V2 Bb n : Nat} {I : List (List Int) → World → Prop} {go : List (List Int) → Bool} {H Db Dm Fb : Nat} {sv : Value} {S : List SideD × List CondD}
def VisitOkC (wE : World) (V V2 Bb n : Nat) (I : List (List Int) → World → Prop) (go : List (List Int) → Bool) : Prop :=
 ∀ d pt w, FromSt wE w V V2 Bb n I d pt → near pt → d.length ≤ 900000 →
   Calls Tryz.prog 96 #[.slice (some ⟨Bb, 0, none⟩) n n, .pointer (some ⟨V, 0, none⟩)] w (fun e w' => e = .returned (.bool (go (d ++ [pt]))) ∧ FromSt wE w' V V2 Bb n I (d ++ [pt]) pt)
def fvC (V : Nat) : Value := .func (.func 96) #[] #[.pointer (some ⟨V, 0, none⟩)]
set_option maxRecDepth 100000 in
set_option maxHeartbeats 2000000 in
theorem from_endC (hM : ∀ W, Framed wE W V V2 → FromMem W H Db Dm Fb S sv (fvC V)) (hI : Steady Bb I) (hgood : setErr S = 0) (hn : n = S.1.length) (hV : VisitOkC wE V V2 Bb n I go) : FromGives wE V V2 Bb n I go H Db Fb S [] := by
 intro i w xs d hd hi h hb hR
 have hi' : i = n := by
  have := congrArg List.length hd
  simp at this
  omega
 subst hi'
 have ht : xs.take i = xs := List.take_of_length_le (by rw [h.len]; omega)
 cases hbad : (rowsLen (rowsOf S) i).any (negRow (xs.take i))
 case true => exact from_bad hM hI hgood hn i w xs d [] hi h hb hbad
 have hn8 := (set_good hgood).1
 have hm := hM w h.framed
 have hd0 := hm.d0
 have ha0 := hm.a0
 have hv0 := hm.v0
 unfold fvC at hv0
 obtain ⟨dv, hdv, hrl⟩ := hm.dec i (by omega)
 obtain ⟨pd, dcap, rfl, hdl, hdc⟩ := id hrl
 obtain ⟨p, cap, rfl, ⟨hl, hlc⟩, hc⟩ := hm.sides
 have hpl : (xs.take i).length = i := by have := h.len; simp; omega
 have HX := uH (h.ints (by omega) i i hi hb)
 have HRl := uH hrl
 have HB := uH hb
 have HG := uH (rowsLen_good hgood i)
 have HS := uH h
 have HN := uH hbad
 have HPl := uH hpl
 have HF := uH (show fromP (rowsOf S) (xs.take i) [] = [xs] by simp only [fromP, hpl, hbad]; simp [ht])
 have HC := uH (fun W (hg : w.grownBy W none) => hV d xs W (h.kept hI hg) (by rwa [ht] at hb) (by rw [HF.out] at hR; simp at hR; omega))
 have HT := uH ht
 have hI2 : (i : Int) < (S.1.length : Int) + 1 := by omega
 have hI3 : (0 : Int) ≤ (i : Int) := by omega
 have hin : ((i : Int) == (S.1.length : Int)) = true := by simp; omega
 have hpl2 : (xs.take i).length ≤ S.1.length := by omega
 clear hrl hb h hbad hm hpl hdc hd hR hc hgood hM hn ht hV hi
 generalize (rowsLen (rowsOf S) i).length = dl at *
 go_enter Tryz.func99, Tryz.ntmps99
 go_wp2_with (first
  | (go_at_call 100; go_must (refine (areMet_any S.1.length (rowsLen (rowsOf S) i) _ _ (xs.take i) _ HRl.out HG.out (by omega) HX.out hpl2 HB.out).mono ?_; rintro e w1 ⟨rfl, hg1⟩; rw [HN.out]; have hG1 := uH hg1; have d1 := hg1.cell ha0 (by simp); have d2 := hg1.cell hv0 (by simp); clear hg1))
  | (go_at_call 96; go_must (refine (HC.out _ hG1.out).mono ?_; rintro e w2 ⟨rfl, hs2⟩; have HS2 := uH hs2; clear hs2)))
 go_ret
 have hw : walkP go d (fromP (rowsOf S) (xs.take i) []) = (d ++ [xs], go (d ++ [xs])) := by
  rw [HF.out]
  simp only [walkP]
  cases go (d ++ [xs]) <;> rfl
 refine ⟨ret_bool (by rw [hw]), xs, by rw [hw]; exact HS2.out, by rw [HPl.out]⟩
theorem from_allC (hM : ∀ W, Framed wE W V V2 → FromMem W H Db Dm Fb S sv (fvC V)) (hI : Steady Bb I) (hgood : setErr S = 0) (hne : emptyB S.1 = false) (hn : n = S.1.length) (hV : VisitOkC wE V V2 Bb n I go) : ∀ rest, FromGives wE V V2 Bb n I go H Db Fb S rest
 | [] => from_endC hM hI hgood hn hV
 | s :: r => from_step hM hI hgood hne hn s r (from_allC hM hI hgood hne hn hV r)
end Go.Proofs.YtgeklmigfhhpfaaGreatDoor
namespace Go.Proofs.YtgeklmigfhhpfaaGreatDoor
open Go.RowKit
attribute [local go_sem ↓] Go.wp_at_zero Go.wp_at_succ
variable {wE : World} {V V2 n : Nat} {I : List (List Int) → World → Prop} {go : List (List Int) → Bool} {H Db Fb Bb : Nat} {S : List SideD × List CondD}
theorem from_beginC (hgood : setErr S = 0) (hne : emptyB S.1 = false) (hall : FromGives wE V V2 Bb S.1.length I go H Db Fb S S.1) (hst : FromSt wE (wE.alloc (.cells (zeros S.1.length) 3)) V V2 Bb S.1.length I [] (List.replicate S.1.length 0)) (hI : Steady Bb I) (W : World) (hg : (wE.alloc (.cells (zeros S.1.length) 3)).grownBy W none) :
  Calls Tryz.prog 99 #[.slice (some ⟨Bb, 0, none⟩) 0 S.1.length, .pointer (some ⟨Db, 0, none⟩), .pointer (some ⟨H, 0, none⟩), .pointer (some ⟨H + 1, 0, none⟩), .pointer (some ⟨Fb, 0, none⟩)] W
   (fun e w' => e = .returned (.bool (walkP go [] (pointsFrom S [] S.1)).2) ∧ Framed wE w' V V2 ∧ I (walkP go [] (pointsFrom S [] S.1)).1 w') := by
 have h := hall 0 W (List.replicate S.1.length 0) [] rfl (Nat.zero_le _) (hst.kept hI hg) (by intro x hx; simp at hx) (by
  have h1 := fromP_length (rowsOf S) S.1 ((List.replicate S.1.length 0).take 0)
  have h2 := box_ok hgood hne
  simp only [List.length_nil]
  omega)
 rw [List.take_zero, fromP_all hgood] at h
 refine h.mono ?_
 rintro e w' ⟨he, x, hs, _⟩
 exact ⟨he, hs.framed, hs.inv⟩
def EachPostC (S : List SideD × List CondD) (V V2 : Nat) (I : Nat → List (List Int) → World → Prop) (go : List (List Int) → Bool) (w : World) (e : Ending) (w' : World) : Prop :=
 e = .returned (.bool (walkP go [] (pointsFrom S [] S.1)).2) ∧ Framed w w' V V2 ∧ ∃ Bb, w.heap.size ≤ Bb ∧ I Bb (walkP go [] (pointsFrom S [] S.1)).1 w'
set_option maxRecDepth 100000 in
set_option maxHeartbeats 4000000 in
theorem eachC_any (S : List SideD × List CondD) (sv kv : Value) (V V2 : Nat) (I : Nat → List (List Int) → World → Prop) (go : List (List Int) → Bool) (wp w : World) (hs : SidesAt wp sv S.1) (hk : RowLAt wp kv (rowsOf S)) (hgood : setErr S = 0)
  (hp : wp.grownBy w none) (hpV : wp.heap.size ≤ V) (hV2 : V2 ≤ w.heap.size) (hI0 : ∀ Bb, I Bb [] w) (hI : ∀ Bb, w.heap.size ≤ Bb → Steady Bb (I Bb)) (hV : ∀ wE Bb, w.grownBy wE none → wE.heap.size ≤ Bb → VisitOkC wE V V2 Bb S.1.length (I Bb) go) :
  Calls Tryz.prog 47 #[.agg #[sv, kv], fvC V] w (EachPostC S V V2 I go w) := by
 have hn8 := (set_good hgood).1
 have hc60 : (rowsOf S).length ≤ 60 := by have := (set_good hgood).2.2.1; simpa [rowsOf] using this
 obtain ⟨p, cap, rfl, ⟨hsl, hscc⟩, hsc⟩ := id hs
 obtain ⟨pk, kcap, rfl, hkl, hkc⟩ := id hk
 have HS := uH hs
 have HKc := uH hkc
 have HP := uH hp
 have HE := uH hgood
 have HI0 := uH hI0
 have HI := uH hI
 have HV := uH hV
 clear hs hk hsc hkc hp hgood hI0 hI hV
 unfold fvC
 cases hne : emptyB S.1
 case true =>
  have HN := uH hne
  clear hne
  go_enter Tryz.func47, Tryz.ntmps47
  go_wp2_with (first | (go_at_call 97; go_must (refine (isEmpty_any _ S.1 _ (HS.out.kept (gT HP.out (gT (gA _ _ _) (gA _ _ _))))).mono ?_; rintro e w1 ⟨rfl, hg1⟩; rw [HN.out]; have G1 := uH (gT (gA _ _ _) (gT (gA _ _ _) hg1)); clear hg1)))
  go_ret
  have hz := points_empty S S.1 [] HN.out
  refine ⟨by rw [hz]; rfl, (Framed.refl w V V2).grown G1.out, w.heap.size, Nat.le_refl _, ?_⟩
  rw [hz]
  exact HI.out w.heap.size (Nat.le_refl _) _ _ _ (HI0.out _) (grownBy_any _ G1.out)
 case false =>
  have HN := uH hne
  clear hne
  have hmk := fun (W : World) => run_make_nils (S.1.length + 1) (by omega) W
  rw [show ((S.1.length + 1 : Nat) : Int) = (S.1.length : Int) + 1 by omega] at hmk
  go_enter Tryz.func47, Tryz.ntmps47
  go_wp2_with (first | (go_at_call 97; go_must (refine (isEmpty_any _ S.1 _ (HS.out.kept (gT HP.out (gT (gA _ _ _) (gA _ _ _))))).mono ?_; rintro e w1 ⟨rfl, hg1⟩; rw [HN.out]; have HB := uH (each_boxes hg1); have b0 : w1.cell? ⟨w.heap.size, 0, none⟩ = some (.slice p S.1.length cap) := (by simp [World.cell?, HB.out.2.2.1]); have b1 : w1.cell? ⟨w.heap.size, 1, none⟩ = some (.slice pk (rowsOf S).length kcap) := (by simp [World.cell?, HB.out.2.2.1]); have b1b : ((w1.alloc (.cells (nils (S.1.length + 1)).toArray 79)).alloc (.cells #[.slice (some ⟨w1.heap.size, 0, none⟩) (S.1.length + 1) (S.1.length + 1)] 138)).cell? ⟨w.heap.size, 1, none⟩ = some (.slice pk (rowsOf S).length kcap) := ((gA _ _ none).cell ((gA _ _ none).cell b1 (by simp)) (by simp)); clear hg1)))
  obtain ⟨jr, hjr, hyr0, hyr1, hyr2⟩ := info_parts Tryz.infoRow
  have HD0 := uH (DecSt.start wp w1 S.1.length)
  have HB2 := uH ((HB.out.own (gA w1 (.cells (nils (S.1.length + 1)).toArray 79) none) (fun k hk => by cases hk)).own (gA _ (.cells #[.slice (some ⟨w1.heap.size, 0, none⟩) (S.1.length + 1) (S.1.length + 1)] 138) none) (fun k hk => by cases hk))
  have hDw := HB.out.2.1
  have HGd := uH (rows_good HE.out)
  clear HB b0 b1 b1b
  generalize hDm : w1.heap.size = Dm at *
  go_loopw [21] (fun i wr => ∃ (k : Nat) (vs : List Value) (gs : Nat → List (RowD × Value)), k ≤ (rowsOf S).length ∧ i = .int .i64 k ∧ Hid (DecSt wp wr Dm (Dm + 1) (Dm + 1 + 1) S.1.length ((rowsOf S).take k) vs gs) ∧ Hid (EachBoxes w wr (.slice p S.1.length cap) (.slice pk (rowsOf S).length kcap) (fvC V))) (fun i _ => (rowsOf S).length - (intOf i).toNat)
  case atStart => exact ⟨0, _, _, Nat.zero_le _, rfl, HD0.out, HB2.out⟩
  case round =>
   obtain ⟨k, vs, gs, hk, rfl, HD, HBx⟩ := hrel
   by_cases hlt : k < (rowsOf S).length
   · have h0 := List.getElem?_eq_getElem hlt
     obtain ⟨b, off, cv, rfl, h1, h2, h3⟩ := HKc.out k _ h0
     have hgr := HD.out.lt
     have HIc := uH h3
     obtain ⟨pv, vcap, rfl, hvl, hvc⟩ := h3
     have hgw : wp.grownBy wr none := gT HP.out HBx.out.1
     have h1' := hgw.cell h1 (by simp)
     have h2' := hgw.cell h2 (by simp)
     have HIw := uH (HIc.out.kept hgw)
     obtain ⟨q1, _, _⟩ := HGd.out _ (List.getElem_mem hlt)
     have hml : rowLen (rowsOf S)[k].2 ≤ S.1.length := by have := rowLen_le (rowsOf S)[k].2; omega
     have hmv : rowLen (rowsOf S)[k].2 < vs.length := by rw [HD.out.len]; omega
     obtain ⟨v, hv⟩ : ∃ v, vs[rowLen (rowsOf S)[k].2]? = some v := ⟨_, List.getElem?_eq_getElem hmv⟩
     clear hmv
     have HVv := uH hv
     have HTk := uH (List.take_succ_eq_append_getElem hlt)
     have HGl := uH (show (gs (rowLen (rowsOf S)[k].2)).length ≤ 60 by
      have h := congrArg List.length (HD.out.rows (rowLen (rowsOf S)[k].2))
      rw [List.length_map] at h
      rw [h]
      refine Nat.le_trans (List.length_filter_le _ _) ?_
      rw [List.length_take]
      omega)
     have hd0 : wr.cell? ⟨Dm + 1, 0, none⟩ = some (.slice (some ⟨Dm, 0, none⟩) (S.1.length + 1) (S.1.length + 1)) := by simp [World.cell?, HD.out.var]
     have hdv : wr.cell? ⟨Dm, rowLen (rowsOf S)[k].2, none⟩ = some v := by simp [World.cell?, HD.out.arr, hv]
     generalize hrk : (rowsOf S)[k] = r at *
     obtain ⟨num, cs⟩ := r
     simp only at h1' h2' HIc HIw hml hv hvl hvc HVv HGl hdv
     obtain ⟨m, hm⟩ : ∃ m, rowLen cs = m := ⟨_, rfl⟩
     rw [hm] at hml HVv HGl hdv
     have HM := uH hm
     have hI1 : (m : Int) < (S.1.length : Int) + 1 := by omega
     have hI2 : (0 : Int) ≤ (m : Int) := by omega
     have hHs := HBx.out.2.1
     generalize hcl : cs.length = cl at *
     clear h0 h1 h2 hv hvc hvl hm hrk hgw q1
     go_wp2_with (first | (go_at_call 98; go_must (refine (rowLength_any num cs _ _ (HIw.out.kept (gA _ _ _))).mono ?_; rintro e w3 ⟨rfl, hg3⟩; rw [HM.out]; have G3 := uH (gT (gA _ _ _) hg3); have d0 := G3.out.cell hd0 (by simp); have dv := G3.out.cell hdv (by simp); have r0 := hg3.cell (a := ⟨wr.heap.size, 0, none⟩) (v := .int .i64 num) (by simp) (by simp); have r1 := hg3.cell (a := ⟨wr.heap.size, 1, none⟩) (v := .slice pv cl vcap) (by simp) (by simp); clear hg3)))
     have hs3 := G3.out.size
     have d0a := (gA w3 (.cells #[.int .i64 num, .slice pv cl vcap] 86) none).cell d0 (by simp)
     have dva := (gA w3 (.cells #[.int .i64 num, .slice pv cl vcap] 86) none).cell dv (by simp)
     obtain ⟨pvv, vvcap, rfl⟩ := own_form (HD.out.own m v HVv.out)
     refine wp_last fun K8 hK8 => ?_
     go_cut [] from 27 to 36 (fun wx => ∃ (vs' : List Value) (gs' : Nat → List (RowD × Value)), Hid (DecSt wp wx Dm (Dm + 1) (Dm + 1 + 1) S.1.length ((rowsOf S).take (k + 1)) vs' gs') ∧ Hid (EachBoxes w wx (.slice p S.1.length cap) (.slice (some ⟨b, off, none⟩) (rowsOf S).length kcap) (fvC V)))
     case first =>
      go_region_law (first
       | (refine step_append_lies _ (by rfl) _ _ 79 (by rfl) (Dm + 1 + 1) 86 jr (.agg #[.int .i64 0, .slice none 0 0]) 2 32 Tryz.underlying79 hjr hyr0 hyr1 hyr2 (by rfl) (by decide) (.slice pvv (gs m).length vvcap) (gs m).length ((gs m).flatMap rowCells) (by rfl) (World.ownsRow.alloc (owns_kept (HD.out.own m _ HVv.out) G3.out) _) ⟨w3.heap.size, 0, none⟩ 1 1 (rowCells ((num, cs), .slice pv cl vcap)) (by rfl) (by rfl) news_at (by simp [rowCells, Value.oneCell']) (by decide) (by have := HGl.out; unfold maxLen; omega) (by have := HGl.out; omega) (by simp; omega) (w3.heap.size + 1) (by simp) ?_; intro g ncap w4 hown4 hgrow4 hat _; have O4 := uH hown4; have A4 := uH hat; have hgrow4 := gT (grown_d (w3.alloc (.cells #[.int .i64 num, .slice pv cl vcap] 86)) _) hgrow4; have G4 := uH hgrow4; have hD4 := (HD.out.kept G3.out).kept (gA w3 (.cells #[.int .i64 num, .slice pv cl vcap] 86) none); have e0 : w4.heap[Dm + 1]? = some (.cells #[.slice (some ⟨Dm, 0, none⟩) (S.1.length + 1) (S.1.length + 1)] 138 (0, 0)) := kH hD4.var hgrow4 (fun e => by have := ((HD.out.own m _ HVv.out).lt _ e).1; omega); have e1 : w4.heap[Dm]? = some (.cells vs.toArray 79 (0, 0)) := kH hD4.arr hgrow4 (fun e => by have := ((HD.out.own m _ HVv.out).lt _ e).1; omega); have d4 : w4.cell? ⟨Dm + 1, 0, none⟩ = some (.slice (some ⟨Dm, 0, none⟩) (S.1.length + 1) (S.1.length + 1)) := (by simp [World.cell?, e0]); have d5 : w4.cell? ⟨Dm, m, none⟩ = some (.slice pvv (gs m).length vvcap) := (by simp [World.cell?, e1, HVv.out]); have d6 : w4.frozen? ⟨Dm, m, none⟩ = false := (by simp [World.frozen?, e1]); clear hD4 e0 e1 hown4 hgrow4 hat))
      all_goals
       go_wp2_with fail
       go_meet
       case rel =>
        exact ⟨_, _, dec_step HTk HD HM HVv HIc G3 G4 O4 A4, box_step HBx HD HVv G3 G4 hDw⟩
     case rest =>
      obtain ⟨vs', gs', HD', HB'⟩ := hcut
      refine hK8 _ _ ?_
      go_wp2
      go_roundw
      case rel => exact ⟨k + 1, vs', gs', by omega, by go_num, HD'.out, HB'.out⟩
      case measure => simp [intOf]; omega
   · obtain rfl : k = (rowsOf S).length := by omega
     have hDD := HD.out
     rw [List.take_length] at hDD
     have HD2 := uH hDD
     have HHs := HBx.out.2.1
     have c0 : wr.cell? ⟨w.heap.size, 0, none⟩ = some (.slice p S.1.length cap) := by simp [World.cell?, HBx.out.2.2.1]
     have c0a := (gA wr (.cells #[fromFn w.heap.size (Dm + 1) wr.heap.size] 60) none).cell c0 (by simp)
     unfold fromFn at c0a
     clear hDD HD HB2 HD0
     have hmk2 := fun (W : World) => run_make_room S.1.length (by omega) W
     have HFM := uH (fromMem (V := V) (V2 := V2) HBx.out HD2.out HS.out HP.out hpV hV2 (by omega) (by omega) (by omega))
     have hw1 := gT HBx.out.1 (gA wr (.cells #[fromFn w.heap.size (Dm + 1) wr.heap.size] 60) none)
     have hws := hw1.size
     have hfn : (wr.alloc (.cells #[fromFn w.heap.size (Dm + 1) wr.heap.size] 60)).cell? ⟨wr.heap.size, 0, none⟩ = some (fromFn w.heap.size (Dm + 1) wr.heap.size) := by simp
     have HSt := fromStart (V := V) (V2 := V2) (wE := wr.alloc (.cells #[fromFn w.heap.size (Dm + 1) wr.heap.size] 60)) (I := I (wr.alloc (.cells #[fromFn w.heap.size (Dm + 1) wr.heap.size] 60)).heap.size) (by omega) (HI.out _ (by omega)) (HI.out _ (by omega) _ _ _ (HI0.out _) (grownBy_any _ hw1)) S.1.length
     have HAll := from_allC (Bb := (wr.alloc (.cells #[fromFn w.heap.size (Dm + 1) wr.heap.size] 60)).heap.size) (I := I (wr.alloc (.cells #[fromFn w.heap.size (Dm + 1) wr.heap.size] 60)).heap.size) HFM.out (HI.out _ (by omega)) HE.out HN.out rfl (HV.out _ _ hw1 (Nat.le_refl _)) S.1
     have HC := uH (fun W hg => from_beginC HE.out HN.out HAll HSt (HI.out _ (by omega)) W hg)
     have HGw := uH hw1
     have hsz : (wr.alloc (.cells #[fromFn w.heap.size (Dm + 1) wr.heap.size] 60)).heap.size = wr.heap.size + 1 := by simp
     rw [hsz] at HC
     unfold fromFn at hfn HC
     clear hw1 HSt HAll hsz
     go_wp2
     go_region_law (first
      | (go_simp; go_at_call 99; go_must (refine (HC.out _ (grown_d _ _)).mono ?_; rintro e w5 ⟨rfl, hfr, hinv⟩; have HFr := uH hfr; have HInv := uH hinv; clear hfr hinv)))
     all_goals
      go_wp2
      go_ret
      exact ⟨rfl, HFr.out.front HGw.out, wr.heap.size + 1, by omega, HInv.out⟩
end Go.Proofs.YtgeklmigfhhpfaaGreatDoor
namespace Go.Proofs.YtgeklmigfhhpfaaGreatDoor
open Go.RowKit
def CountInv (V : Nat) (_ : Nat) (d : List (List Int)) (w : World) : Prop := w.heap[V]? = some (.cells #[.int .i64 d.length] 3 (0, 0))
def goOn (_ : List (List Int)) : Bool := true
theorem walkP_on : ∀ (ps d : List (List Int)), walkP goOn d ps = (d ++ ps, true)
 | [], d => by simp [walkP]
 | p :: r, d => by simp [walkP, goOn, walkP_on r]
theorem count_steady {V Bb B : Nat} (h : V < Bb) : Steady Bb (CountInv V B) := fun d w w' hi hg => kH (show w.heap[V]? = _ from hi) hg (by simp; omega)
set_option maxHeartbeats 1000000 in
theorem count_visit {wE : World} {V Bb n : Nat} (hV : V < wE.heap.size) : VisitOkC wE V (V + 1) Bb n (CountInv V Bb) goOn := by
 intro d pt w h hb hd
 have hlo := h.lo
 have hh : w.heap[V]? = some (.cells #[.int .i64 d.length] 3 (0, 0)) := h.inv
 have hv : w.cell? ⟨V, 0, none⟩ = some (.int .i64 d.length) := by simp [World.cell?, hh]
 have hf : w.frozen? ⟨V, 0, none⟩ = false := by simp [World.frozen?, hh]
 have HH := uH hh
 have HS := uH h
 clear h hh hb
 go_enter Tryz.func96, Tryz.ntmps96
 go_wp2
 go_ret
 have hg := gS w V 0 (.int .i64 ((d.length : Int) + 1))
 refine ⟨rfl, HS.out.framed.more hg (fun k hk => by cases hk; exact .inr ⟨Nat.le_refl _, by omega⟩), HS.out.lo, HS.out.hi, kH HS.out.buf hg (by simp; omega), HS.out.len, ?_⟩
 show (w.heap.modify V _)[V]? = _
 rw [Array.getElem?_modify, if_pos rfl, HH.out]
 simp
set_option maxHeartbeats 1000000 in
theorem spaceCount_any (S : List SideD × List CondD) (sv kv : Value) (w : World) (hs : SidesAt w sv S.1) (hk : RowLAt w kv (rowsOf S)) (hgood : setErr S = 0) :
  Calls Tryz.prog 46 #[.agg #[sv, kv]] w (Gives (.int .i64 (pointsFrom S [] S.1).length) w) := by
 obtain ⟨p, cap, rfl, ⟨hsl, hscc⟩, hsc⟩ := id hs
 obtain ⟨pk, kcap, rfl, hkl, hkc⟩ := id hk
 have HC := uH (fun (W : World) (hp : w.grownBy W none) (V : Nat) (hV : w.heap.size ≤ V) (hV2 : V + 1 = W.heap.size) (h0 : W.heap[V]? = some (.cells #[.int .i64 0] 3 (0, 0))) =>
  eachC_any S (.slice p S.1.length cap) (.slice pk (rowsOf S).length kcap) V (V + 1) (CountInv V) goOn w W hs hk hgood hp hV (by omega) (fun _ => h0) (fun Bb hB => count_steady (by omega)) (fun wE Bb hg hB => count_visit (by have := hg.size; omega)))
 clear hs hk hsc hkc
 go_enter Tryz.func46, Tryz.ntmps46
 have h0 : ((w.alloc (.cells #[.slice p S.1.length cap, .slice pk (rowsOf S).length kcap] 81)).alloc (.cells #[.int .i64 0] 3)).heap[w.heap.size + 1]? = some (.cells #[.int .i64 0] 3 (0, 0)) := by
  show ((w.heap.push _).push _)[w.heap.size + 1]? = _
  simp only [Array.getElem?_push, Array.size_push]
  rw [if_pos trivial]
 have H := uH (HC.out _ (gT (gA _ _ _) (gA _ _ _)) (w.heap.size + 1) (by omega) (by simp) h0)
 unfold fvC at H
 clear h0
 go_wp2_with (first | (go_at_call 47; go_must (refine H.out.mono ?_; rintro e w1 ⟨rfl, hf, Bb, _, hi⟩; rw [walkP_on, List.nil_append] at hi; have HF := uH hf; have hi : w1.heap[w.heap.size + 1]? = some (.cells #[.int .i64 (pointsFrom S [] S.1).length] 3 (0, 0)) := hi; have hv : w1.cell? ⟨w.heap.size + 1, 0, none⟩ = some (.int .i64 (pointsFrom S [] S.1).length) := (by simp [World.cell?, hi]); clear hf hi)))
 go_ret
 exact ⟨rfl, HF.out.pre (w := w) (gT (gA _ _ _) (gA _ _ _)) (by omega)⟩
def countOf (S : List SideD × List CondD) : Int := if setErr S == 0 then (pointsFrom S [] S.1).length else 0
set_option maxHeartbeats 1000000 in
theorem count_any (S : List SideD × List CondD) (sv cv : Value) (w : World) (hS : SetAt w sv cv S) :
  Calls Tryz.prog 80 #[.agg #[sv, cv]] w (Gives (.tuple #[.int .i64 (countOf S), .int .i64 (setErr S)]) w) := by
 obtain ⟨⟨p, cap, rfl, ⟨hsl, hscc⟩, hsc⟩, ⟨pc, ccap, rfl, hcl, hcc⟩⟩ := id hS
 have HS := uH hS
 clear hS hsc hcc
 by_cases hE : setErr S = 0
 · have hE0 : (setErr S != 0) = false := by simp [hE]
   have HE := uH hE
   clear hE
   go_enter Tryz.func80, Tryz.ntmps80
   go_wp2_with (first
    | (go_at_call 49; go_must (refine (spaceOf_any S _ _ _ (HS.out.kept (gA _ _ _))).mono ?_; rintro e w1 ⟨hg1, _, hk0⟩; obtain ⟨kv, rfl, hk1⟩ := hk0 HE.out; clear hk0; obtain ⟨pk, kcap, rfl, hkl, hkc⟩ := id hk1; have G1 := uH hg1; have K1 := uH hk1; clear hg1 hk1 hkc))
    | (go_at_call 46; go_must (refine (spaceCount_any S _ _ _ (HS.out.1.kept (gT (gA _ _ _) (gT G1.out (gA _ _ _)))) (K1.out.kept (gA _ _ _)) HE.out).mono ?_; rintro e w2 ⟨rfl, hg2⟩; have G2 := uH hg2; clear hg2)))
   go_ret2
   exact ⟨by simp [countOf, HE.out], gT (gA _ _ _) (gT G1.out (gT (gA _ _ _) G2.out))⟩
 · have hE0 : (setErr S != 0) = true := by simp [hE]
   have HE := uH hE
   clear hE
   go_enter Tryz.func80, Tryz.ntmps80
   go_wp2_with (first
    | (go_at_call 49; go_must (refine (spaceOf_any S _ _ _ (HS.out.kept (gA _ _ _))).mono ?_; rintro e w1 ⟨hg1, hk0, _⟩; obtain rfl := hk0 HE.out; have G1 := uH hg1; clear hg1 hk0)))
   go_ret2
   exact ⟨by simp [countOf, HE.out], gT (gA _ _ _) (gT G1.out (gA _ _ _))⟩
end Go.Proofs.YtgeklmigfhhpfaaGreatDoor
