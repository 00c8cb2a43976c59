/-
 The reference's Mapped, before it is checked.
-/
import Derived.Deep.AppendLies
import Derived.Deep.RegionHeld3
import Derived.Deep.DeepMust
import Derived.Test.YtgeklmigfhhpfaaGreatDoorQ32
namespace Go.Proofs.YtgeklmigfhhpfaaGreatDoor
open Go.RowKit Go.Maps Go.WideMaps
attribute [local go_sem ↓] Go.wp_at_zero Go.wp_at_succ
structure MbSt (w wr : World) (sv cv bv : Value) (bc : Int) : Prop where
 grown : w.grownBy wr none
 b0 : wr.heap[w.heap.size]? = some (.cells #[sv, cv] 29 (0, 0))
 b1 : wr.heap[w.heap.size + 1]? = some (.cells #[.int .i64 bc, bv] 35 (0, 0))
 res : wr.heap[w.heap.size + 2]? = some (.cells #[.slice none 0 0, .slice none 0 0] 29 (0, 0))
theorem MbSt.start (w : World) (sv cv bv : Value) (bc : Int) : MbSt w (((w.alloc (.cells #[sv, cv] 29)).alloc (.cells #[.int .i64 bc, bv] 35)).alloc (.cells #[.slice none 0 0, .slice none 0 0] 29)) sv cv bv bc := by
 have h1 := heap_alloc_new (w.alloc (.cells #[sv, cv] 29)) (.cells #[.int .i64 bc, bv] 35)
 have h2 := heap_alloc_new ((w.alloc (.cells #[sv, cv] 29)).alloc (.cells #[.int .i64 bc, bv] 35)) (.cells #[.slice none 0 0, .slice none 0 0] 29)
 have ga := gA (w.alloc (.cells #[sv, cv] 29)) (.cells #[.int .i64 bc, bv] 35) none
 have gb := gA ((w.alloc (.cells #[sv, cv] 29)).alloc (.cells #[.int .i64 bc, bv] 35)) (.cells #[.slice none 0 0, .slice none 0 0] 29) none
 simp only [World.size_alloc] at h1 h2
 exact ⟨gT (gA _ _ _) (gT ga gb), kH (kH (heap_alloc_new w _) ga (by simp)) gb (by simp), kH h1 gb (by simp), h2⟩
theorem MbSt.size {w wr : World} {sv cv bv : Value} {bc : Int} (h : MbSt w wr sv cv bv bc) : w.heap.size + 2 < wr.heap.size := (Array.getElem?_eq_some_iff.1 h.res).1
theorem MbSt.kept {w wr w' : World} {sv cv bv : Value} {bc : Int} {o : Option Nat} (h : MbSt w wr sv cv bv bc) (hg : wr.grownBy w' o) (ho : ∀ k, o = some k → w.heap.size + 3 ≤ k) : MbSt w w' sv cv bv bc :=
 ⟨gO h.grown hg (fun k hk => by have := ho k hk; omega), kH h.b0 hg (fun e => by have := ho _ e; omega), kH h.b1 hg (fun e => by have := ho _ e; omega), kH h.res hg (fun e => by have := ho _ e; omega)⟩
theorem formX_same {X Y : ByteArray → Int} {c d : Int} {f : CondD} (h : FormX X c f) (he : ∀ n, n ≠ ByteArray.empty → X n = Y n) (hc : c = d) : FormX Y d f := by
 refine ⟨h.num.trans hc, h.ups, fun n z => ?_⟩
 rw [h.mem]
 constructor
 · rintro ⟨h1, h2, h3⟩
   exact ⟨h1, h2, by rw [← he n h1]; exact h3⟩
 · rintro ⟨h1, h2, h3⟩
   exact ⟨h1, h2, by rw [he n h1]; exact h3⟩
theorem polyX_empty (c : Int) (ts : List (ByteArray × Int)) : polyX c ts ByteArray.empty = c := if_pos rfl
theorem polyX_ne (c : Int) (ts : List (ByteArray × Int)) {n : ByteArray} (h : n ≠ ByteArray.empty) : polyX c ts n = coefX ts n := if_neg h
theorem put_formX {x : ByteArray} {f b h : CondD} (hx : x ≠ ByteArray.empty) (hb : coefX b.2 x = 0) {c : Int} (hh : FormX (putX (polyX f.1 f.2) (polyX b.1 b.2) x) c h) (hc : c = putX (polyX f.1 f.2) (polyX b.1 b.2) x ByteArray.empty) : PutF x b f h := by
 refine formX_same hh (fun n hn => ?_) ?_
 · unfold putX
   rw [polyX_ne _ _ hx, polyX_ne _ _ hn, polyX_ne _ _ hn]
   by_cases e : n = x
   · subst e
     simp [hb]
   · rw [if_neg e, if_neg (fun e2 => e e2.symm)]
 · rw [hc]
   unfold putX
   rw [if_neg (fun e => hx e.symm), polyX_empty, polyX_empty, polyX_ne _ _ hx]
theorem polyTab_any (f : CondD) (tv : Value) (w : World) (ht : TermsAt w tv f.2) (hf : formErr f.1 f.2 = 0) :
  Calls Tryz.prog 75 #[.agg #[.int .i64 f.1, tv]] w (fun e w' => ∃ B, e = .returned (.map (some B)) ∧ w.heap.size ≤ B ∧ TabW w' B 20 (polyX f.1 f.2) ∧ w.grownBy w' none) := by
 refine (polyOf_any f.1 f.2 tv w ht hf).mono ?_
 rintro e w' ⟨D, B, n, rfl, hB, hM, hn, hP, hg⟩
 exact ⟨B, rfl, hB, ⟨D, World.ownsMap.mono hM hn, hP.tab hf⟩, hg⟩
theorem TabW.put2 {X Y : ByteArray → Int} {B C n m : Nat} {w : World} {x : ByteArray} (h : TabW w B n X) (k : TabW w C m Y) (hn : n + m ≤ 900) (hx : x.size ≤ maxLen)
  (hb : ∀ n, (-1000000000000000 ≤ X n ∧ X n ≤ 1000000000000000) ∧ (-1000000000000000 ≤ X x * Y n ∧ X x * Y n ≤ 1000000000000000)) :
  Calls Tryz.prog 77 #[.map (some B), .string x, .map (some C)] w (fun e w' => ∃ G, e = .returned (.map (some G)) ∧ w.heap.size ≤ G ∧ TabW w' G (n + m) (putX X Y x) ∧ w.grownBy w' none) := by
 obtain ⟨D, h1, h2⟩ := h
 obtain ⟨E, k1, k2⟩ := k
 refine (put_any X Y x D E B n C m w h1 k1 h2 k2 hn hx hb).mono ?_
 rintro e w' ⟨F, G, rfl, hG, hM, hT, hg⟩
 exact ⟨G, rfl, hG, ⟨F, hM, hT⟩, hg⟩
theorem TabW.plus2 {X Y : ByteArray → Int} {B C n m : Nat} {w : World} {a : Int} (h : TabW w B n X) (k : TabW w C m Y) (hn : n + m ≤ 900)
  (hb : ∀ n, (-1000000000000000 ≤ X n ∧ X n ≤ 1000000000000000) ∧ (-1000000000000000 ≤ a * Y n ∧ a * Y n ≤ 1000000000000000)) :
  Calls Tryz.prog 76 #[.map (some B), .int .i64 a, .map (some C)] w (fun e w' => ∃ G, e = .returned (.map (some G)) ∧ w.heap.size ≤ G ∧ TabW w' G (n + m) (fun p => X p + a * Y p) ∧ w.grownBy w' none) := by
 obtain ⟨D, h1, h2⟩ := h
 obtain ⟨E, k1, k2⟩ := k
 refine (plus_any a X Y D E B n C m w h1 k1 h2 k2 hn hb).mono ?_
 rintro e w' ⟨F, G, rfl, hG, hM, hT, hg⟩
 exact ⟨G, rfl, hG, ⟨F, hM, hT⟩, hg⟩
theorem put_bound {x : ByteArray} {f b : CondD} (hf : formErr f.1 f.2 = 0) (hb : formErr b.1 b.2 = 0) (hx : x ≠ ByteArray.empty) (n : ByteArray) :
  (-1000000000000000 ≤ polyX f.1 f.2 n ∧ polyX f.1 f.2 n ≤ 1000000000000000) ∧ (-1000000000000000 ≤ polyX f.1 f.2 x * polyX b.1 b.2 n ∧ polyX f.1 f.2 x * polyX b.1 b.2 n ≤ 1000000000000000) := by
 have h1 := polyX_right hf n
 have h2 := polyX_right hb n
 have h3 := coefX_right hf x
 rw [polyX_ne _ _ hx]
 have := mul_abs (a := coefX f.2 x) (x := polyX b.1 b.2 n) (A := 1000) (X := 1000000) (by omega) (by omega)
 omega
def MapOut (x : ByteArray) (b : CondD) (L : List SideD) (all : List CondD) (w : World) (e : Ending) (w' : World) : Prop := ∃ C, Twin (PutF x b) all C ∧ SetGot (L, C) w e w'
set_option maxRecDepth 100000 in
set_option maxHeartbeats 16000000 in
theorem mappedOf_any (S : List SideD × List CondD) (x : ByteArray) (q : Nat) (s : SideD) (L : List SideD) (all : List CondD) (hL : L = S.1.eraseIdx q) (hall : all = sideC s ++ S.2) (bc : Int) (bts : List TermD) (sv cv bv : Value) (w : World) (hS : SetAt w sv cv S) (hE : setErr S = 0) (hb : TermsAt w bv bts) (hbg : formErr bc bts = 0) (hbx : coefX bts x = 0) (hq : firstI (sameName x) S.1 = (q : Int)) (hsq : S.1[q]? = some s) (hsx : s.1 = x) (hnx : nameB x = true) :
  Calls Tryz.prog 26 #[.agg #[sv, cv], .string x, .agg #[.int .i64 bc, bv]] w (MapOut x (bc, bts) L all w) := by
 obtain ⟨ps, scap, rfl, _, _⟩ := id hS.1
 obtain ⟨pc, ccap, rfl, _, _⟩ := id hS.2
 obtain ⟨pb, bcap, rfl, _, _⟩ := id hb
 obtain ⟨i0, hi0, hz0, hz1, hz2⟩ := info_parts Tryz.infoForm
 have hsm : s ∈ S.1 := List.mem_of_getElem? hsq
 obtain ⟨ha, hne, hgs, hbd⟩ := set_sides hE
 have hx0 : x ≠ ByteArray.empty := by rw [← hsx]; exact hne s hsm
 have hxs : x.size ≤ 100 := by rw [← hsx]; exact (hgs s hsm).1
 have HX0 := uH hx0
 have HR : Hid (∀ f ∈ all, formErr f.1 f.2 = 0) := by rw [hall]; exact allC_right hE hsm (by rw [hsx]; exact hnx)
 have hal : all.length ≤ 62 := by rw [hall]; exact allC_len hE
 have hal2 : 2 ≤ all.length := by rw [hall]; simp [sideC]
 have HAl := uH hall
 have HLe : Hid (otherL x S.1 = L) := by rw [hL, ← hsx]; exact other_erase ha hsq
 have hLl : L.length ≤ 8 := by
  have h1 := (set_good hE).1
  rw [hL]
  have := List.length_eraseIdx_le S.1 q
  omega
 have HGl : Hid (∀ s ∈ L, goodSide s) := fun t ht => hgs t (by rw [hL] at ht; exact List.mem_of_mem_eraseIdx ht)
 have HSC := uH (fun (W : World) (h : SetAt W (.slice ps S.1.length scap) (.slice pc S.2.length ccap) S) => sideConds_any S.1 x q s (.slice ps S.1.length scap) (.slice pc S.2.length ccap) W h.1 hq hsq hsx (hgs s hsm).2 hx0 hxs)
 have HOt := uH (fun (W : World) (h : SetAt W (.slice ps S.1.length scap) (.slice pc S.2.length ccap) S) => others_any x S.1 (.slice ps S.1.length scap) (.slice pc S.2.length ccap) W h.1 (by have := (set_good hE).1; omega) hgs)
 have hsl := (set_good hE).2.2.1
 have HS := uH hS
 have HB := uH hb
 have HBg : Hid (formErr (bc, bts).1 (bc, bts).2 = 0) := hbg
 have HBx : Hid (coefX (bc, bts).2 x = 0) := hbx
 have HT := uH (MbSt.start w (.slice ps S.1.length scap) (.slice pc S.2.length ccap) (.slice pb bts.length bcap) bc)
 clear hS hE hb hbg hbx hq hsq hsx hnx hsm ha hne hgs hbd hx0 hL hall
 go_enter Tryz.func26, Tryz.ntmps26
 go_upto_region 1 with fail
 generalize ((w.alloc (.cells #[.slice ps S.1.length scap, .slice pc S.2.length ccap] 29)).alloc (.cells #[.int .i64 bc, .slice pb bts.length bcap] 35)).alloc (.cells #[.slice none 0 0, .slice none 0 0] 29) = w1 at *
 obtain ⟨x0, x1, _⟩ := cO HT.out.b0
 go_upto_region 2 with (go_at_call 73; go_must (refine (HOt.out _ (HS.out.kept HT.out.grown)).mono ?_; rintro e w6 ⟨p6, cap6, rfl, hrow6, hg6⟩; rw [HLe.out] at hrow6 ⊢; have HSd : Hid (SidesAt w6 (.slice p6 L.length cap6) L) := sides_of_owns hrow6 (by omega) HGl.out; have HT6 := uH (HT.out.kept hg6 (by simp)); clear hrow6 hg6))
 have HTx := uH (HT6.out.kept (gA w6 (.cells #[.slice p6 L.length cap6, .slice none 0 0] 29) none) (by simp))
 have HBo := uH (heap_alloc_new w6 (.cells #[.slice p6 L.length cap6, .slice none 0 0] 29))
 have HGx := uH (gA w6 (.cells #[.slice p6 L.length cap6, .slice none 0 0] 29) none)
 generalize w6.alloc (.cells #[.slice p6 L.length cap6, .slice none 0 0] 29) = wx at *
 have hX : w6.heap.size < wx.heap.size := (Array.getElem?_eq_some_iff.1 HBo.out).1
 obtain ⟨x0, x1, _⟩ := cO HTx.out.b0
 have hsz6 := HT6.out.size
 go_cut [19, 20, 21] from 14 to 21 (fun s19 s20 s21 wc => ∃ (pa : Option Addr) (acap : Nat) (tvs : List Value), s19 = .slice pa all.length acap ∧ s20 = .int .i64 all.length ∧ s21 = .int .i64 0 ∧ Hid (CW wc wx.heap.size (.slice pa all.length acap) all tvs) ∧ Hid (wx.grownBy wc none))
 case first =>
  go_region_held3 (fun W => W.cell? ⟨w.heap.size, 0, none⟩ = some (.slice ps S.1.length scap) ∧ W.cell? ⟨w.heap.size, 1, none⟩ = some (.slice pc S.2.length ccap)) (first
   | go_keep
   | (with_reducible exact ⟨q0, q1⟩)
   | (with_reducible exact ⟨K4.out.cell x0 (by simp), K4.out.cell x1 (by simp)⟩)) (first
   | (go_at_call 74; go_must (refine (HSC.out _ (HS.out.kept (gT HTx.out.grown (by first | exact gR _ _ | exact gD _ _)))).mono ?_; rintro e w4 ⟨kv4, tvs4, rfl, hcw, hg4⟩; have K4 : Hid (wx.grownBy w4 none) := gT (by first | exact gR _ _ | exact gD _ _) hg4; have hcw4 : CW w4 wx.heap.size kv4 (sideC s) tvs4 := hcw; obtain ⟨v5, w5, us5, hr5, hc5, hg5, _⟩ := conds_append 27 hcw4 HS.out.2 (gT HTx.out.grown K4.out) (by have := HTx.out.grown.size; exact this) (by have := K4.out.size; exact this) (by simp [sideC]; omega); rw [← HAl.out] at hc5; obtain ⟨pv, vcap, rfl⟩ := own_form hc5.row; have HR5 := uH hr5; have HC5 := uH hc5; have K5 : Hid (wx.grownBy w5 none) := gO K4.out hg5 (fun k hk => by have := (hcw4.row.lt k hk).1; exact this); have q0 := K5.out.cell x0 (by simp); have q1 := K5.out.cell x1 (by simp); clear hr5 hc5 hg5 hcw hcw4 hg4))
   | (refine step_append_run (by rfl) _ _ 27 (by rfl) _ _ (.slice pv all.length vcap) (by rfl) (by rfl) HR5.out ?_))
  all_goals
   go_wp2_with fail
   go_meet
   case rel => exact ⟨_, _, _, rfl, rfl, rfl, HC5.out, K5.out⟩
 case rest =>
  obtain ⟨pa, acap, tvs, rfl, rfl, rfl, HC, HG7⟩ := hcut
  have HCd : Hid (CondsAt wc (.slice pa all.length acap) all) := HC.out.conds (by omega)
  have hXw : w6.heap.size < wc.heap.size := Nat.lt_of_lt_of_le hX HG7.out.size
  have hb7 := kH HBo.out HG7.out (by simp)
  have HS7 : Hid (SlBox wc w6.heap.size) := slBox_two hb7
  have HO := uH (OcSt.start hXw (Nat.le_refl _) hb7)
  have HT7 := uH (HTx.out.kept HG7.out (by simp))
  have HSd7 := uH (HSd.out.kept (gT HGx.out HG7.out))
  obtain ⟨pa', acap', hpe, _, hcs⟩ := HCd.out
  obtain ⟨rfl, _, rfl⟩ := Value.slice.inj hpe
  have HCs := uH hcs
  clear hpe hcs hb7 x0 x1 HC
  generalize wc = w7 at *
  go_wp2_with fail
  go_loopw [21] (fun i wr => ∃ (k : Nat) (pv : Value) (fs : List CondD) (tvs2 : List Value), k ≤ all.length ∧ i = .int .i64 k ∧ fs.length = k ∧ Hid (Twin (PutF x (bc, bts)) (all.take k) fs) ∧ Hid (OcSt w6.heap.size w7.heap.size w7 wr (.slice p6 L.length cap6) pv fs tvs2)) (fun i _ => all.length - (intOf i).toNat)
  case atStart => exact ⟨0, _, [], [], Nat.zero_le _, rfl, rfl, .nil, HO.out⟩
  case round =>
   obtain ⟨k, pv, fs, tvs2, hk, rfl, hfl, HTw, HO⟩ := hrel
   have hfl2 : fs.length ≤ k := by omega
   have HFl := uH hfl
   clear hfl
   by_cases hlt : k < all.length
   · have h0 := List.getElem?_eq_getElem hlt
     obtain ⟨b, off, tv, rfl, a1, a2, hta, hb1, hb2⟩ := HCs.out k _ h0
     have hbX := over_ne HS7.out a1 (by intro p n c; simp)
     have c1 := far_cell hbX HO.out.grown a1
     have c2 := far_cell hbX HO.out.grown a2
     have HRf := uH (HR.out _ (List.getElem_mem hlt))
     have HTk := uH (List.take_succ_eq_append_getElem hlt)
     generalize all[k] = f at *
     obtain ⟨c, ts⟩ := f
     simp only at c1 c2 hta hb1 hb2
     obtain ⟨pt, tcap, rfl, _, _⟩ := id hta
     have HTa := uH (hta.over HS7.out HO.out.grown)
     have hI1 : (k : Int) < (all.length : Int) := by omega
     obtain ⟨pl, lcap, rfl⟩ := own_form HO.out.conds.row
     have hT := HT7.out.kept HO.out.grown (fun k hk => by cases hk; omega)
     have HTr := uH hT
     clear h0 a1 a2 hta hT
     go_upto_region 5 with fail
     have HGa := uH (gA wr (.cells #[.int .i64 c, .slice pt ts.length tcap] 35) none)
     have HFx := uH (heap_alloc_new wr (.cells #[.int .i64 c, .slice pt ts.length tcap] 35))
     generalize wr.alloc (.cells #[.int .i64 c, .slice pt ts.length tcap] 35) = wf at *
     have HOf := uH (HO.out.kept HGa.out)
     have HTf := uH (HTr.out.kept HGa.out (by simp))
     have HTaf := uH (HTa.out.kept HGa.out)
     have HBf := uH (HB.out.kept HTf.out.grown)
     obtain ⟨y0, y1, _⟩ := cO HFx.out
     obtain ⟨z0, z1, _⟩ := cO HTf.out.b1
     obtain ⟨m0, m1, _⟩ := cO HOf.out.box
     have C0 := uH y0
     have C1 := uH y1
     have C2 := uH z0
     have C3 := uH z1
     have C4 := uH m0
     have C5 := uH m1
     have HSf : Hid (wf.grownBy wf.drew none) := gD _ _
     clear c1 c2 y0 y1 z0 z1 m0 m1
     refine region_late (n := 10) (S := fun W => wf.grownBy W none) (by kernel_rfl) ⟨by kernel_rfl, by kernel_rfl, by kernel_rfl, by decide⟩ ?_
     refine late_take (i := 0) (v := ?vm_0) ⟨by kernel_rfl, by kernel_rfl, by kernel_rfl, by decide⟩ rfl (by decide +kernel) (by decide +kernel) (by decide +kernel) (fun _ _ _ h => h) (Or.inl ⟨by rfl, ?hm_0⟩) HSf.out ?rm_0
     case hm_0 =>
      intro W hW
      have t0 := hW.cell C0.out (by simp)
      have t1 := hW.cell C1.out (by simp)
      have t2 := hW.cell C2.out (by simp)
      have t3 := hW.cell C3.out (by simp)
      have t4 := hW.cell C4.out (by simp)
      have t5 := hW.cell C5.out (by simp)
      go_simp
      with_reducible rfl
     go_frame
     refine late_take (i := 1) (v := ?vm_1) ⟨by kernel_rfl, by kernel_rfl, by kernel_rfl, by decide⟩ rfl (by decide +kernel) (by decide +kernel) (by decide +kernel) (fun _ _ _ h => h) (Or.inl ⟨by rfl, ?hm_1⟩) HSf.out ?rm_1
     case hm_1 =>
      intro W hW
      have t0 := hW.cell C0.out (by simp)
      have t1 := hW.cell C1.out (by simp)
      have t2 := hW.cell C2.out (by simp)
      have t3 := hW.cell C3.out (by simp)
      have t4 := hW.cell C4.out (by simp)
      have t5 := hW.cell C5.out (by simp)
      go_simp
      with_reducible rfl
     go_frame
     refine late_take (i := 2) (v := ?vm_2) ⟨by kernel_rfl, by kernel_rfl, by kernel_rfl, by decide⟩ rfl (by decide +kernel) (by decide +kernel) (by decide +kernel) (fun _ _ _ h => h) (Or.inl ⟨by rfl, ?hm_2⟩) HSf.out ?rm_2
     case hm_2 =>
      intro W hW
      have t0 := hW.cell C0.out (by simp)
      have t1 := hW.cell C1.out (by simp)
      have t2 := hW.cell C2.out (by simp)
      have t3 := hW.cell C3.out (by simp)
      have t4 := hW.cell C4.out (by simp)
      have t5 := hW.cell C5.out (by simp)
      go_simp
      with_reducible rfl
     go_frame
     refine late_take (i := 4) (v := ?vm_4) ⟨by kernel_rfl, by kernel_rfl, by kernel_rfl, by decide⟩ rfl (by decide +kernel) (by decide +kernel) (by decide +kernel) (fun _ _ _ h => h) (Or.inl ⟨by rfl, ?hm_4⟩) HSf.out ?rm_4
     case hm_4 =>
      intro W hW
      have t0 := hW.cell C0.out (by simp)
      have t1 := hW.cell C1.out (by simp)
      have t2 := hW.cell C2.out (by simp)
      have t3 := hW.cell C3.out (by simp)
      have t4 := hW.cell C4.out (by simp)
      have t5 := hW.cell C5.out (by simp)
      go_simp
      with_reducible rfl
     go_frame
     refine late_take (i := 5) (v := ?vm_5) ⟨by kernel_rfl, by kernel_rfl, by kernel_rfl, by decide⟩ rfl (by decide +kernel) (by decide +kernel) (by decide +kernel) (fun _ _ _ h => h) (Or.inl ⟨by rfl, ?hm_5⟩) HSf.out ?rm_5
     case hm_5 =>
      intro W hW
      have t0 := hW.cell C0.out (by simp)
      have t1 := hW.cell C1.out (by simp)
      have t2 := hW.cell C2.out (by simp)
      have t3 := hW.cell C3.out (by simp)
      have t4 := hW.cell C4.out (by simp)
      have t5 := hW.cell C5.out (by simp)
      go_simp
      with_reducible rfl
     go_frame
     refine late_one (i := 3) rfl (by kernel_rfl) (by kernel_rfl) (fun K hK => ?_)
     have HK := uH hK
     clear hK
     refine op_enter (by rfl) 75 #[.agg #[.int .i64 c, .slice pt ts.length tcap]] (by kernel_rfl) ((polyTab_any (c, ts) _ _ (HTaf.out.kept HSf.out) HRf.out).mono ?_)
     rintro e wa ⟨Ba, rfl, _, hta, hga⟩
     have HSa := uH (gT HSf.out hga)
     have HTb := uH hta
     refine ⟨_, rfl, HK.out _ _ HSa.out ?_⟩
     clear HK hga hta
     go_frame
     refine late_one (i := 6) rfl (by kernel_rfl) (by kernel_rfl) (fun K hK => ?_)
     have HK := uH hK
     clear hK
     refine op_enter (by rfl) 75 #[.agg #[.int .i64 bc, .slice pb bts.length bcap]] (by kernel_rfl) ((polyTab_any (bc, bts) _ _ (HBf.out.kept HSa.out) HBg.out).mono ?_)
     rintro e wb ⟨Bb, rfl, _, htb, hgb⟩
     have HSb := uH (gT HSa.out hgb)
     have HTa2 := uH (HTb.out.kept hgb)
     have HTb2 := uH htb
     refine ⟨_, rfl, HK.out _ _ HSb.out ?_⟩
     clear HK hgb htb HTb
     go_frame
     refine late_one (i := 7) rfl (by kernel_rfl) (by kernel_rfl) (fun K hK => ?_)
     have HK := uH hK
     clear hK
     refine op_enter (by rfl) 77 #[.map (some Ba), .string x, .map (some Bb)] (by kernel_rfl) ((HTa2.out.put2 HTb2.out (by omega) (by unfold maxLen; omega) (put_bound HRf.out HBg.out HX0.out)).mono ?_)
     rintro e wp ⟨Bp, rfl, _, htp, hgp⟩
     have HSp := uH (gT HSb.out hgp)
     have HTp := uH htp
     refine ⟨_, rfl, HK.out _ _ HSp.out ?_⟩
     clear HK hgp htp HTa2 HTb2
     go_frame
     refine late_one (i := 8) rfl (by kernel_rfl) (by kernel_rfl) (fun K hK => ?_)
     have HK := uH hK
     clear hK
     refine op_enter (by rfl) 67 #[.map (some Bp)] (by kernel_rfl) ((HTp.out.form (by omega)).mono ?_)
     rintro e wq ⟨us, p5, cap5, rfl, hf, hrow, hul, hgq⟩
     have HSq := uH (gT HSp.out hgq)
     have HPu := uH (put_formX HX0.out HBx.out hf rfl)
     have HRw := uH hrow
     have hszp := HSp.out.size
     obtain ⟨h, hh⟩ : ∃ h, h = putX (polyX (c, ts).1 (c, ts).2) (polyX (bc, bts).1 (bc, bts).2) x ByteArray.empty := ⟨_, rfl⟩
     rw [← hh] at HPu ⊢
     have hok := put_ok HRf.out HBg.out HPu.out
     have hhn : h.natAbs ≤ 1000000000000 := hok.num
     have HOk := uH hok
     refine ⟨_, rfl, HK.out _ _ HSq.out ?_⟩
     clear HK hgq hf hrow hh hok HTp
     go_frame
     refine late_one (i := 9) rfl (by kernel_rfl) (by kernel_rfl) (fun K hK => ?_)
     have HK := uH hK
     clear hK
     go_simp
     refine HK.out _ _ (gT HSq.out (gA _ _ _)) ?_
     clear HK
     have HOq := uH (HOf.out.kept HSq.out)
     refine late_done (by decide +kernel) ?_
     simp only [List.drop_succ_cons, List.drop_zero]
     have hszf := HSq.out.size
     go_wp2_with (at_builtin; go_must (refine wpList_append_lies _ rfl _ _ 27 rfl w7.heap.size 35 i0 (.agg #[.int .i64 0, .slice none 0 0]) 2 32 Tryz.underlying27 hi0 hz0 hz1 hz2 rfl (by decide) _ fs.length ((fs.zip tvs2).flatMap condCells) rfl (World.ownsRow.alloc HOq.out.conds.row _) ⟨wq.heap.size, 0, none⟩ 1 1 (condCells ((h, us), .slice p5 us.length cap5)) rfl rfl news_at (by simp [condCells, Value.oneCell']) (by decide) (by unfold maxLen; omega) (by omega) (by have := HO.out.grown.size; have := HGa.out.size; simp; omega) (wq.heap.size + 1) (by simp) ?_; intro g' ncap w9 hown9 hgrow9 hat _; have G9 := uH hgrow9; have O9 := uH hown9; have A9 := uH hat; have hb9 := kH HOq.out.box (gT (gA _ _ _) hgrow9) (fun e => by have := (HOq.out.conds.row.lt _ e).1; omega); obtain ⟨n0, n1, nf⟩ := cO hb9; clear hown9 hgrow9 hat hb9))
     have hp := OcSt.push (f := (h, us)) HOq.out (gR wq none) ⟨by simp only; omega, by simp only; omega⟩ (fun w2 h2 => terms_after HRw.out h2 (fun q hq => by have := (HO.out.conds.row.lt q hq).2; have := HGa.out.size; omega) (show us.length ≤ 1000000 by omega) HOk.out.good) G9.out O9.out (by rcases A9.out with h | h; exact .inl h; exact .inr (by omega))
     go_roundw
     case rel => exact ⟨k + 1, .slice (some ⟨g', 0, none⟩) (fs.length + 1) ncap, fs ++ [(h, us)], tvs2 ++ [.slice p5 us.length cap5], by omega, by go_num, by have := HFl.out; simp; omega, by show Twin _ _ _; rw [HTk.out]; exact HTw.out.append (.cons HPu.out .nil), uH hp⟩
     case measure => simp [intOf]; omega
   · obtain rfl : k = all.length := by omega
     have htw := HTw.out
     rw [List.take_length] at htw
     have HTw2 := uH htw
     have HTr := uH (HT7.out.kept HO.out.grown (fun k hk => by cases hk; omega))
     have HSw := uH (HSd7.out.over HS7.out HO.out.grown)
     have HCw : Hid (CondsAt wr pv fs) := HO.out.conds.conds (by omega)
     obtain ⟨p3, cap3, rfl⟩ := own_form HO.out.conds.row
     obtain ⟨m0, m1, mf⟩ := cO HO.out.box
     obtain ⟨d0, d1, df⟩ := cO HTr.out.res
     clear htw HTw
     go_wp2
     obtain ⟨f1, f2⟩ := two_set HTr.out.res (.slice p6 L.length cap6) (.slice p3 fs.length cap3)
     exact bodyPost_ret (results_cell_row rfl _ _ (w.heap.size + 2) _ _ _ _ rfl f1 Tryz.underlying29 rfl Tryz.infoSet2) rfl ⟨fs, HTw2.out, gO HTr.out.grown f2 (fun k hk => by cases hk; omega), _, _, rfl, SetAt.over (S := (L, fs)) ⟨HSw.out, HCw.out⟩ (slBox_two HTr.out.res) f2⟩
end Go.Proofs.YtgeklmigfhhpfaaGreatDoor
