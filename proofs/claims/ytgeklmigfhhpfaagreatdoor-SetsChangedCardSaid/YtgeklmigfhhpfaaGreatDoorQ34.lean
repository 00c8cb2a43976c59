/-
 The reference's Shadow, before it is checked.
-/
import Derived.Test.YtgeklmigfhhpfaaGreatDoorQ33
namespace Go.Proofs.YtgeklmigfhhpfaaGreatDoor
open Go.RowKit Go.Maps Go.WideMaps
attribute [local go_sem ↓] Go.wp_at_zero Go.wp_at_succ
def posF (x : ByteArray) (f : CondD) : Bool := decide (0 < coefX f.2 x)
def negF (x : ByteArray) (f : CondD) : Bool := decide (coefX f.2 x < 0)
def zeroF (x : ByteArray) (f : CondD) : Bool := decide (coefX f.2 x = 0)
def pairsOne (x : ByteArray) (f : CondD) (l : List CondD) : List (CondD × CondD) := if 0 < coefX f.2 x then (l.filter (negF x)).map fun g => (f, g) else []
theorem pairsOne_snoc (x : ByteArray) (f : CondD) (l : List CondD) (g : CondD) : pairsOne x f (l ++ [g]) = pairsOne x f l ++ (if 0 < coefX f.2 x ∧ coefX g.2 x < 0 then [(f, g)] else []) := by
 unfold pairsOne
 by_cases h : 0 < coefX f.2 x
 · rw [if_pos h, if_pos h, List.filter_append, List.map_append]
   by_cases h2 : coefX g.2 x < 0
   · rw [if_pos ⟨h, h2⟩]
     simp [negF, h2]
   · rw [if_neg (fun e => h2 e.2)]
     simp [negF, h2]
 · rw [if_neg h, if_neg h, if_neg (fun e => h e.1)]
   rfl
theorem pairs_next (x : ByteArray) (l all : List CondD) (f : CondD) : pairsFG ((l ++ [f]).filter (posF x)) (all.filter (negF x)) = pairsFG (l.filter (posF x)) (all.filter (negF x)) ++ pairsOne x f all := by
 unfold pairsFG pairsOne
 rw [List.filter_append, List.flatMap_append]
 by_cases h : 0 < coefX f.2 x
 · rw [if_pos h]
   simp [posF, h]
 · rw [if_neg h]
   simp [posF, h]
def combX (a b : Int) (f g : CondD) (p : ByteArray) : Int := (0 + -b * polyX f.1 f.2 p) + a * polyX g.1 g.2 p
theorem comb_formX {x : ByteArray} {f g h : CondD} {a b c : Int} (ha : a = coefX f.2 x) (hb : b = coefX g.2 x) (hh : FormX (combX a b f g) c h) (hc : c = combX a b f g ByteArray.empty) : CombF x (f, g) h := by
 unfold combX at hc
 refine formX_same hh (fun n hn => ?_) ?_
 · unfold combX
   simp only
   rw [polyX_ne _ _ hn, polyX_ne _ _ hn, ha, hb, Int.zero_add]
 · rw [hc, polyX_empty, polyX_empty, ha, hb, Int.zero_add]
theorem comb_bound {f : CondD} {a : Int} (hf : formErr f.1 f.2 = 0) (ha : -1000 ≤ a ∧ a ≤ 1000) (n : ByteArray) : -1000000000 ≤ a * polyX f.1 f.2 n ∧ a * polyX f.1 f.2 n ≤ 1000000000 := by
 have h1 := polyX_right hf n
 have := mul_abs (a := a) (x := polyX f.1 f.2 n) (A := 1000) (X := 1000000) (by omega) (by omega)
 omega
theorem TabW.look {w : World} {B n : Nat} {X : ByteArray → Int} (h : TabW w B n X) {x : ByteArray} (hx : x.size ≤ maxLen) : (Instr.lookup 110 (.map (some B)) (.string x) false).run Tryz.prog w = .ok (.int .i64 (X x)) w := by
 obtain ⟨D, h1, h2⟩ := h
 exact tab_look h1 h2 hx
theorem TabW.comb {x : ByteArray} {f g : CondD} {a b : Int} {B n : Nat} {w : World} (h : TabW w B n (combX a b f g)) (hn : n ≤ 900) (ha : a = coefX f.2 x) (hb : b = coefX g.2 x) (hf : formErr f.1 f.2 = 0) (hg : formErr g.1 g.2 = 0) :
  Calls Tryz.prog 67 #[.map (some B)] w (fun e w' => ∃ (h : Int) (vs : List TermD) (p : Option Addr) (cap : Nat), e = .returned (.agg #[.int .i64 h, .slice p vs.length cap]) ∧ CombF x (f, g) (h, vs) ∧ OkForm (h, vs) ∧ h.natAbs ≤ 1000000000000 ∧ TermRow w' w.heap.size (.slice p vs.length cap) vs ∧ vs.length ≤ 900 ∧ w.grownBy w' none) := by
 refine (h.form hn).mono ?_
 rintro e w' ⟨us, p, cap, rfl, hX, hrow, hul, hgr⟩
 have hc := comb_formX ha hb hX rfl
 have hok := comb_ok hf hg hc
 exact ⟨_, us, p, cap, rfl, hc, hok, hok.num, hrow, hul, hgr⟩
def ShOut (x : ByteArray) (L : List SideD) (all : List CondD) (w : World) (e : Ending) (w' : World) : Prop := ∃ C, ElimF x all C ∧ SetGot (L, mergeAll (C.filterMap tightF)) w e w'
set_option maxRecDepth 100000 in
set_option maxHeartbeats 16000000 in
theorem shadowOf_any (S : List SideD × List CondD) (x : ByteArray) (q : Nat) (s : SideD) (L : List SideD) (all : List CondD) (hL : L = S.1.eraseIdx q) (hall : all = sideC s ++ S.2) (sv cv : Value) (w : World) (hp : PowTab w) (hS : SetAt w sv cv S) (hE : setErr S = 0) (hq : firstI (sameName x) S.1 = (q : Int)) (hsq : S.1[q]? = some s) (hsx : s.1 = x) (hnx : nameB x = true) :
  Calls Tryz.prog 23 #[.agg #[sv, cv], .string x] w (ShOut x L all w) := by
 obtain ⟨ps, scap, rfl, _, _⟩ := id hS.1
 obtain ⟨pc, ccap, rfl, _, _⟩ := id hS.2
 obtain ⟨i0, hi0, hz0, hz1, hz2⟩ := info_parts Tryz.infoForm
 have hsm : s ∈ S.1 := List.mem_of_getElem? hsq
 obtain ⟨ha, hne, hgs, hbd⟩ := set_sides hE
 have hx0 : x ≠ ByteArray.empty := by rw [← hsx]; exact hne s hsm
 have hxs : x.size ≤ 100 := by rw [← hsx]; exact (hgs s hsm).1
 have HX0 := uH hx0
 have HR : Hid (∀ f ∈ all, formErr f.1 f.2 = 0) := by rw [hall]; exact allC_right hE hsm (by rw [hsx]; exact hnx)
 have hal : all.length ≤ 62 := by rw [hall]; exact allC_len hE
 have HAl := uH hall
 have HLe : Hid (otherL x S.1 = L) := by rw [hL, ← hsx]; exact other_erase ha hsq
 have hLl : L.length ≤ 8 := by
  have h1 := (set_good hE).1
  rw [hL]
  have := List.length_eraseIdx_le S.1 q
  omega
 have HGl : Hid (∀ s ∈ L, goodSide s) := fun t ht => hgs t (by rw [hL] at ht; exact List.mem_of_mem_eraseIdx ht)
 have HSC := uH (fun (W : World) (h : SetAt W (.slice ps S.1.length scap) (.slice pc S.2.length ccap) S) => sideConds_any S.1 x q s (.slice ps S.1.length scap) (.slice pc S.2.length ccap) W h.1 hq hsq hsx (hgs s hsm).2 hx0 hxs)
 have HOt := uH (fun (W : World) (h : SetAt W (.slice ps S.1.length scap) (.slice pc S.2.length ccap) S) => others_any x S.1 (.slice ps S.1.length scap) (.slice pc S.2.length ccap) W h.1 (by have := (set_good hE).1; omega) hgs)
 have hsl := (set_good hE).2.2.1
 have HS := uH hS
 have HPw := uH hp
 have hxm : x.size ≤ maxLen := by unfold maxLen; omega
 have HT := uH (TbSt.start w (.slice ps S.1.length scap) (.slice pc S.2.length ccap))
 clear hS hE hq hsq hsx hnx hsm ha hne hgs hbd hx0 hL hall hp
 go_enter Tryz.func23, Tryz.ntmps23
 go_upto_region 1 with fail
 generalize (w.alloc (.cells #[.slice ps S.1.length scap, .slice pc S.2.length ccap] 29)).alloc (.cells #[.slice none 0 0, .slice none 0 0] 29) = w1 at *
 obtain ⟨x0, x1, _⟩ := cO HT.out.b0
 go_upto_region 2 with (go_at_call 73; go_must (refine (HOt.out _ (HS.out.kept HT.out.grown)).mono ?_; rintro e w6 ⟨p6, cap6, rfl, hrow6, hg6⟩; rw [HLe.out] at hrow6 ⊢; have HSd : Hid (SidesAt w6 (.slice p6 L.length cap6) L) := sides_of_owns hrow6 (by omega) HGl.out; have HT6 := uH (HT.out.kept hg6 (by simp)); clear hrow6 hg6))
 have HTx := uH (HT6.out.kept (gA w6 (.cells #[.slice p6 L.length cap6, .slice none 0 0] 29) none) (by simp))
 have HBo := uH (heap_alloc_new w6 (.cells #[.slice p6 L.length cap6, .slice none 0 0] 29))
 have HGx := uH (gA w6 (.cells #[.slice p6 L.length cap6, .slice none 0 0] 29) none)
 generalize w6.alloc (.cells #[.slice p6 L.length cap6, .slice none 0 0] 29) = wx at *
 have hX : w6.heap.size < wx.heap.size := (Array.getElem?_eq_some_iff.1 HBo.out).1
 obtain ⟨x0, x1, _⟩ := cO HTx.out.b0
 have hsz6 := HT6.out.size
 go_cut [6] from 19 to 24 (fun s6 wc => ∃ (pa : Option Addr) (acap : Nat) (tvs : List Value), s6 = .slice pa all.length acap ∧ Hid (CW wc wx.heap.size (.slice pa all.length acap) all tvs) ∧ Hid (wx.grownBy wc none))
 case first =>
  go_region_held3 (fun W => W.cell? ⟨w.heap.size, 0, none⟩ = some (.slice ps S.1.length scap) ∧ W.cell? ⟨w.heap.size, 1, none⟩ = some (.slice pc S.2.length ccap)) (first
   | go_keep
   | (with_reducible exact ⟨q0, q1⟩)
   | (with_reducible exact ⟨K4.out.cell x0 (by simp), K4.out.cell x1 (by simp)⟩)) (first
   | (go_at_call 74; go_must (refine (HSC.out _ (HS.out.kept (gT HTx.out.grown (by first | exact gR _ _ | exact gD _ _)))).mono ?_; rintro e w4 ⟨kv4, tvs4, rfl, hcw, hg4⟩; have K4 : Hid (wx.grownBy w4 none) := gT (by first | exact gR _ _ | exact gD _ _) hg4; have hcw4 : CW w4 wx.heap.size kv4 (sideC s) tvs4 := hcw; obtain ⟨v5, w5, us5, hr5, hc5, hg5, _⟩ := conds_append 27 hcw4 HS.out.2 (gT HTx.out.grown K4.out) (by have := HTx.out.grown.size; exact this) (by have := K4.out.size; exact this) (by simp [sideC]; omega); rw [← HAl.out] at hc5; obtain ⟨pv, vcap, rfl⟩ := own_form hc5.row; have HR5 := uH hr5; have HC5 := uH hc5; have K5 : Hid (wx.grownBy w5 none) := gO K4.out hg5 (fun k hk => by have := (hcw4.row.lt k hk).1; exact this); have q0 := K5.out.cell x0 (by simp); have q1 := K5.out.cell x1 (by simp); clear hr5 hc5 hg5 hcw hcw4 hg4))
   | (refine step_append_run (by rfl) _ _ 27 (by rfl) _ _ (.slice pv all.length vcap) (by rfl) (by rfl) HR5.out ?_))
  all_goals
   go_wp2_with fail
   go_meet
   case rel => exact ⟨_, _, _, rfl, HC5.out, K5.out⟩
 case rest =>
  obtain ⟨pa, acap, tvs, rfl, HC, HG7⟩ := hcut
  have HCd : Hid (CondsAt wc (.slice pa all.length acap) all) := HC.out.conds (by omega)
  have hXw : w6.heap.size < wc.heap.size := Nat.lt_of_lt_of_le hX HG7.out.size
  have hb7 := kH HBo.out HG7.out (by simp)
  have HS7 : Hid (SlBox wc w6.heap.size) := slBox_two hb7
  have HO := uH (OcSt.start hXw (Nat.le_refl _) hb7)
  have HT7 := uH (HTx.out.kept HG7.out (by simp))
  have HSd7 := uH (HSd.out.kept (gT HGx.out HG7.out))
  obtain ⟨pa', acap', hpe, _, hcs⟩ := HCd.out
  obtain ⟨rfl, _, rfl⟩ := Value.slice.inj hpe
  have HCs := uH hcs
  clear hpe hcs hb7 x0 x1 HC
  generalize wc = w7 at *
  go_wp2_with fail
  go_loopw [27] (fun i wr => ∃ (k : Nat) (pv : Value) (fs : List CondD) (tvs2 : List Value), k ≤ all.length ∧ i = .int .i64 k ∧ fs.length ≤ k ∧ Hid (fs = (all.take k).filter (zeroF x)) ∧ Hid (OcSt w6.heap.size w7.heap.size w7 wr (.slice p6 L.length cap6) pv fs tvs2)) (fun i _ => all.length - (intOf i).toNat)
  case atStart => exact ⟨0, _, [], [], Nat.zero_le _, rfl, Nat.zero_le _, rfl, HO.out⟩
  case round =>
   obtain ⟨k, pv, fs, tvs2, hk, rfl, hfl, HFs, HO⟩ := hrel
   by_cases hlt : k < all.length
   · have h0 := List.getElem?_eq_getElem hlt
     obtain ⟨b, off, tv, rfl, a1, a2, hta, hb1, hb2⟩ := HCs.out k _ h0
     have hbX := over_ne HS7.out a1 (by intro p n c; simp)
     have c1 := far_cell hbX HO.out.grown a1
     have c2 := far_cell hbX HO.out.grown a2
     have HRf := uH (HR.out _ (List.getElem_mem hlt))
     have HTk := uH (List.take_succ_eq_append_getElem hlt)
     generalize all[k] = f at *
     obtain ⟨c, ts⟩ := f
     simp only at c1 c2 hta hb1 hb2
     obtain ⟨pt, tcap, rfl, _, _⟩ := id hta
     have HTa7 := uH hta
     have HTa := uH (hta.over HS7.out HO.out.grown)
     have hI1 : (k : Int) < (all.length : Int) := by omega
     obtain ⟨pl, lcap, rfl⟩ := own_form HO.out.conds.row
     clear h0 a1 a2 hta
     go_upto_region 6 with fail
     have HGa := uH (gA wr (.cells #[.int .i64 c, .slice pt ts.length tcap] 35) none)
     have HFx := uH (heap_alloc_new wr (.cells #[.int .i64 c, .slice pt ts.length tcap] 35))
     generalize wr.alloc (.cells #[.int .i64 c, .slice pt ts.length tcap] 35) = wf at *
     have HOf := uH (HO.out.kept HGa.out)
     obtain ⟨y0, y1, _⟩ := cO HFx.out
     have HPc := uH (polyX_ne c ts HX0.out)
     clear c1 c2
     by_cases hz : coefX ts x = 0
     · have HZ : Hid (zeroF x (c, ts) = true) := decide_eq_true hz
       go_wp2_with (first
        | (go_at_call 75; go_must (refine (polyTab_any (c, ts) _ _ (HTa.out.kept HGa.out) HRf.out).mono ?_; rintro e wa ⟨Ba, rfl, _, hta, hga⟩; have hlk := hta.look hxm; rw [show polyX (c, ts).1 (c, ts).2 x = 0 from HPc.out.trans hz] at hlk; have HOa := uH (HOf.out.kept hga); have HGf := uH (gT HGa.out hga); have u0 := hga.cell y0 (by simp); have u1 := hga.cell y1 (by simp); obtain ⟨m0, m1, mf⟩ := cO HOa.out.box; have hsza := HGf.out.size; clear hta hga))
        | (at_builtin; go_must (refine wpList_append_lies _ rfl _ _ 27 rfl w7.heap.size 35 i0 (.agg #[.int .i64 0, .slice none 0 0]) 2 32 Tryz.underlying27 hi0 hz0 hz1 hz2 rfl (by decide) _ fs.length ((fs.zip tvs2).flatMap condCells) rfl (World.ownsRow.alloc HOa.out.conds.row _) ⟨wa.heap.size, 0, none⟩ 1 1 (condCells ((c, ts), .slice pt ts.length tcap)) rfl rfl news_at (by simp [condCells, Value.oneCell']) (by decide) (by unfold maxLen; omega) (by omega) (by have := HO.out.grown.size; simp; omega) (wa.heap.size + 1) (by simp) ?_; intro g' ncap w9 hown9 hgrow9 hat _; have G9 := uH hgrow9; have O9 := uH hown9; have A9 := uH hat; have hb9 := kH HOa.out.box (gT (gA _ _ _) hgrow9) (fun e => by have := (HOa.out.conds.row.lt _ e).1; omega); obtain ⟨n0, n1, nf⟩ := cO hb9; clear hown9 hgrow9 hat hb9)))
       have hp := OcSt.push (f := (c, ts)) HOa.out (gR wa none) ⟨hb1, hb2⟩ (fun w2 h2 => HTa7.out.over HS7.out (HOa.out.old (gR _ _) h2)) G9.out O9.out (by rcases A9.out with h | h; exact .inl h; exact .inr (by omega))
       go_roundw
       case rel => exact ⟨k + 1, .slice (some ⟨g', 0, none⟩) (fs.length + 1) ncap, fs ++ [(c, ts)], tvs2 ++ [.slice pt ts.length tcap], by omega, by go_num, by simp; omega, by show _ = _; rw [HTk.out, List.filter_append, ← HFs.out]; simp [HZ.out], uH hp⟩
       case measure => simp [intOf]; omega
     · have HZ : Hid (zeroF x (c, ts) = false) := decide_eq_false hz
       have hz2 : (coefX ts x == 0) = false := by simpa using hz
       go_wp2_with (first
        | (go_at_call 75; go_must (refine (polyTab_any (c, ts) _ _ (HTa.out.kept HGa.out) HRf.out).mono ?_; rintro e wa ⟨Ba, rfl, _, hta, hga⟩; have hlk := hta.look hxm; rw [show polyX (c, ts).1 (c, ts).2 x = coefX ts x from HPc.out] at hlk; have HOa := uH (HOf.out.kept hga); clear hta hga)))
       go_roundw
       case rel => exact ⟨k + 1, _, fs, tvs2, by omega, by go_num, by omega, by show _ = _; rw [HTk.out, List.filter_append, ← HFs.out]; simp [HZ.out], HOa.out⟩
       case measure => simp [intOf]; omega
   · obtain rfl : k = all.length := by omega
     have hfs := HFs.out
     rw [List.take_length] at hfs
     have HF0 : Hid (fs = all.filter (zeroF x)) := hfs
     clear hfs HFs
     obtain ⟨pl, lcap, rfl⟩ := own_form HO.out.conds.row
     go_wp2_with fail
     go_loopw [45] (fun i wr => ∃ (k : Nat) (pv : Value) (gs : List CondD) (tvs2 : List Value) (hs : List CondD), k ≤ all.length ∧ i = .int .i64 k ∧ gs.length ≤ 62 + k * 62 ∧ Hid (gs = all.filter (zeroF x) ++ hs) ∧ Hid (Twin (CombF x) (pairsFG ((all.take k).filter (posF x)) (all.filter (negF x))) hs) ∧ Hid (OcSt w6.heap.size w7.heap.size w7 wr (.slice p6 L.length cap6) pv gs tvs2)) (fun i _ => all.length - (intOf i).toNat)
     case atStart => exact ⟨0, _, fs, tvs2, [], Nat.zero_le _, rfl, by omega, by show _ = _; rw [HF0.out, List.append_nil], .nil, HO.out⟩
     case round =>
      obtain ⟨k, pv, gs, tvs2, hs, hk, rfl, hgl, HGs, HTw, HO⟩ := hrel
      by_cases hlt : k < all.length
      · have h0 := List.getElem?_eq_getElem hlt
        obtain ⟨b, off, tv, rfl, a1, a2, hta, hb1, hb2⟩ := HCs.out k _ h0
        have hbX := over_ne HS7.out a1 (by intro p n c; simp)
        have c1 := far_cell hbX HO.out.grown a1
        have c2 := far_cell hbX HO.out.grown a2
        have HRf := uH (HR.out _ (List.getElem_mem hlt))
        have HTk := uH (List.take_succ_eq_append_getElem hlt)
        generalize all[k] = f at *
        obtain ⟨c, ts⟩ := f
        simp only at c1 c2 hta hb1 hb2
        obtain ⟨pt, tcap, rfl, _, _⟩ := id hta
        have HTa7 := uH hta
        have hI1 : (k : Int) < (all.length : Int) := by omega
        clear h0 a1 a2 hta
        go_upto_region 12 with fail
        have HGa := uH (gA wr (.cells #[.int .i64 c, .slice pt ts.length tcap] 35) none)
        have HFx := uH (heap_alloc_new wr (.cells #[.int .i64 c, .slice pt ts.length tcap] 35))
        generalize wr.alloc (.cells #[.int .i64 c, .slice pt ts.length tcap] 35) = wf at *
        have HOf := uH (HO.out.kept HGa.out)
        have hXo : w6.heap.size < wr.heap.size := (Array.getElem?_eq_some_iff.1 HO.out.box).1
        have HNo : Hid (pv.ownBlock ≠ some wr.heap.size) := fun e => by have := (HO.out.conds.row.lt _ e).2; omega
        clear c1 c2
        go_wp2_with fail
        generalize wr = wo at *
        go_loopw [51] (fun i wr => ∃ (j : Nat) (pv : Value) (gs : List CondD) (tvs2 : List Value) (hs : List CondD), j ≤ all.length ∧ i = .int .i64 j ∧ gs.length ≤ 62 + k * 62 + j ∧ Hid (gs = all.filter (zeroF x) ++ hs) ∧ Hid (Twin (CombF x) (pairsFG ((all.take k).filter (posF x)) (all.filter (negF x)) ++ pairsOne x (c, ts) (all.take j)) hs) ∧ Hid (OcSt w6.heap.size w7.heap.size w7 wr (.slice p6 L.length cap6) pv gs tvs2) ∧ Hid (wr.heap[wo.heap.size]? = some (.cells #[.int .i64 c, .slice pt ts.length tcap] 35 (0, 0))) ∧ Hid (pv.ownBlock ≠ some wo.heap.size)) (fun i _ => all.length - (intOf i).toNat)
        case atStart => exact ⟨0, _, gs, tvs2, hs, Nat.zero_le _, rfl, by omega, HGs.out, by have h : pairsOne x (c, ts) (all.take 0) = [] := (by unfold pairsOne; split <;> rfl); show Twin _ _ _; rw [h, List.append_nil]; exact HTw.out, HOf.out, HFx.out, HNo.out⟩
        case round =>
         obtain ⟨j, pv, gs, tvs2, hs, hj, rfl, hgl, HGs, HTw, HO, HFx, HNo⟩ := hrel
         by_cases hlt2 : j < all.length
         · have h0 := List.getElem?_eq_getElem hlt2
           obtain ⟨b2, off2, tv, hpe, a1, a2, hta, hb1', hb2'⟩ := HCs.out j _ h0
           obtain ⟨rfl, rfl, _⟩ := Addr.mk.inj (Option.some.inj hpe)
           have hbX := over_ne HS7.out a1 (by intro p n c; simp)
           have c1 := far_cell hbX HO.out.grown a1
           have c2 := far_cell hbX HO.out.grown a2
           have HRg := uH (HR.out _ (List.getElem_mem hlt2))
           have HTj := uH (List.take_succ_eq_append_getElem hlt2)
           generalize all[j] = g at *
           obtain ⟨d, us⟩ := g
           simp only at c1 c2 hta hb1' hb2'
           obtain ⟨pu, ucap, rfl, _, _⟩ := id hta
           have HTg := uH (hta.over HS7.out HO.out.grown)
           have HTf := uH (HTa7.out.over HS7.out HO.out.grown)
           have hI2 : (j : Int) < (all.length : Int) := by omega
           obtain ⟨pl, lcap, rfl⟩ := own_form HO.out.conds.row
           clear h0 a1 a2 hta hpe
           go_upto_region 15 with fail
           have HGb := uH (gA wr (.cells #[.int .i64 d, .slice pu us.length ucap] 35) none)
           have HGx2 := uH (heap_alloc_new wr (.cells #[.int .i64 d, .slice pu us.length ucap] 35))
           have HFb := uH (kH HFx.out (gA wr (.cells #[.int .i64 d, .slice pu us.length ucap] 35) none) (by simp))
           generalize wr.alloc (.cells #[.int .i64 d, .slice pu us.length ucap] 35) = wb at *
           obtain ⟨y0, y1, _⟩ := cO HFb.out
           obtain ⟨z0, z1, _⟩ := cO HGx2.out
           have HTf2 := uH (HTf.out.kept HGb.out)
           have HTg2 := uH (HTg.out.kept HGb.out)
           have HPf := uH (polyX_ne c ts HX0.out)
           have HPg := uH (polyX_ne d us HX0.out)
           clear c1 c2
           go_cut [13, 14] from 55 to 62 (fun s13 s14 wc => s13 = .int .i64 (coefX ts x) ∧ s14 = .int .i64 (coefX us x) ∧ Hid (wb.grownBy wc none))
           case first =>
            go_region_held3 (fun W => W.cell? ⟨wo.heap.size, 0, none⟩ = some (.int .i64 c) ∧ W.cell? ⟨wo.heap.size, 1, none⟩ = some (.slice pt ts.length tcap) ∧ W.cell? ⟨wr.heap.size, 0, none⟩ = some (.int .i64 d) ∧ W.cell? ⟨wr.heap.size, 1, none⟩ = some (.slice pu us.length ucap)) (go_keep) (first
             | (go_at_call 75; refine (polyTab_any (d, us) _ _ (HTg2.out.kept HGp.out) HRg.out).mono ?_; rintro e wq ⟨Bb, rfl, _, htq, hgq⟩; have hlq := htq.look hxm; rw [show polyX (d, us).1 (d, us).2 x = coefX us x from HPg.out] at hlq; have hlk2 := (HTp.out.kept hgq).look hxm; rw [show polyX (c, ts).1 (c, ts).2 x = coefX ts x from HPf.out] at hlk2; have HGq := uH (gT HGp.out hgq); have r0 := HGq.out.cell y0 (by simp); have r1 := HGq.out.cell y1 (by simp); have r2 := HGq.out.cell z0 (by simp); have r3 := HGq.out.cell z1 (by simp); clear htq hgq)
             | (go_at_call 75; refine (polyTab_any (c, ts) _ _ (HTf2.out.kept (by first | exact gR _ _ | exact gD _ _)) HRf.out).mono ?_; rintro e wp ⟨Ba, rfl, _, htp, hgp⟩; have hlk := htp.look hxm; rw [show polyX (c, ts).1 (c, ts).2 x = coefX ts x from HPf.out] at hlk; have HTp := uH htp; have HGp : Hid (wb.grownBy wp none) := gT (by first | exact gR _ _ | exact gD _ _) hgp; have q0 := HGp.out.cell y0 (by simp); have q1 := HGp.out.cell y1 (by simp); have q2 := HGp.out.cell z0 (by simp); have q3 := HGp.out.cell z1 (by simp); clear htp hgp))
            all_goals
             go_wp2_with fail
             go_meet
             case rel => exact ⟨rfl, rfl, HGq.out⟩
           case rest =>
            obtain ⟨rfl, rfl, HGc⟩ := hcut
            have HPs := uH (pairsOne_snoc x (c, ts) (all.take j) (d, us))
            have HOc := uH (HO.out.kept (gT HGb.out HGc.out))
            have HFc := uH (kH HFb.out HGc.out (by simp))
            have HGc2 := uH (kH HGx2.out HGc.out (by simp))
            have hXr : w6.heap.size < wo.heap.size := hXo
            have hzc : wr.heap.size ≤ wc.heap.size := (gT HGb.out HGc.out).size
            have hwor : wo.heap.size < wr.heap.size := (Array.getElem?_eq_some_iff.1 HFx.out).1
            obtain ⟨y0, y1, _⟩ := cO HFc.out
            obtain ⟨z0, z1, _⟩ := cO HGc2.out
            obtain ⟨m0, m1, _⟩ := cO HOc.out.box
            by_cases hpn : 0 < coefX ts x ∧ coefX us x < 0
            · have HPN : Hid (0 < coefX (c, ts).2 x ∧ coefX (d, us).2 x < 0) := hpn
              obtain ⟨hpa, hnb⟩ := hpn
              obtain ⟨a0, ha0⟩ : ∃ a, a = coefX ts x := ⟨_, rfl⟩
              obtain ⟨b0, hb0⟩ : ∃ b, b = coefX us x := ⟨_, rfl⟩
              have HA : Hid (a0 = coefX (c, ts).2 x) := ha0
              have HB : Hid (b0 = coefX (d, us).2 x) := hb0
              have hab := coefX_right (f := (c, ts)) HRf.out x
              have hbb := coefX_right (f := (d, us)) HRg.out x
              simp only at hab hbb
              rw [← ha0] at hpa hab ⊢
              rw [← hb0] at hnb hbb ⊢
              have hpa' : a0 > 0 := hpa
              have hwb : IntKind.i64.wrap (-b0) = -b0 := wrap_near (by omega)
              clear ha0 hb0 HPf HPg
              go_upto_region 17 with fail
              have C0 := uH y0
              have C1 := uH y1
              have C2 := uH z0
              have C3 := uH z1
              have C4 := uH m0
              have C5 := uH m1
              have HSf : Hid (wc.grownBy wc.drew none) := gD _ _
              clear y0 y1 z0 z1 m0 m1
              refine region_late (n := 14) (S := fun W => wc.grownBy W none) (by kernel_rfl) ⟨by kernel_rfl, by kernel_rfl, by kernel_rfl, by decide⟩ ?_
              refine late_take (i := 0) (v := ?vs_0) ⟨by kernel_rfl, by kernel_rfl, by kernel_rfl, by decide⟩ rfl (by decide +kernel) (by decide +kernel) (by decide +kernel) (fun _ _ _ h => h) (Or.inl ⟨by rfl, ?hs_0⟩) HSf.out ?rs_0
              case hs_0 =>
               intro W hW
               have t0 := hW.cell C0.out (by simp)
               have t1 := hW.cell C1.out (by simp)
               have t2 := hW.cell C2.out (by simp)
               have t3 := hW.cell C3.out (by simp)
               have t4 := hW.cell C4.out (by simp)
               have t5 := hW.cell C5.out (by simp)
               go_simp
               with_reducible rfl
              go_frame
              refine late_take (i := 1) (v := ?vs_1) ⟨by kernel_rfl, by kernel_rfl, by kernel_rfl, by decide⟩ rfl (by decide +kernel) (by decide +kernel) (by decide +kernel) (fun _ _ _ h => h) (Or.inl ⟨by rfl, ?hs_1⟩) HSf.out ?rs_1
              case hs_1 =>
               intro W hW
               have t0 := hW.cell C0.out (by simp)
               have t1 := hW.cell C1.out (by simp)
               have t2 := hW.cell C2.out (by simp)
               have t3 := hW.cell C3.out (by simp)
               have t4 := hW.cell C4.out (by simp)
               have t5 := hW.cell C5.out (by simp)
               go_simp
               with_reducible rfl
              go_frame
              refine late_take (i := 3) (v := ?vs_3) ⟨by kernel_rfl, by kernel_rfl, by kernel_rfl, by decide⟩ rfl (by decide +kernel) (by decide +kernel) (by decide +kernel) (fun _ _ _ h => h) (Or.inl ⟨by rfl, ?hs_3⟩) HSf.out ?rs_3
              case hs_3 =>
               intro W hW
               have t0 := hW.cell C0.out (by simp)
               have t1 := hW.cell C1.out (by simp)
               have t2 := hW.cell C2.out (by simp)
               have t3 := hW.cell C3.out (by simp)
               have t4 := hW.cell C4.out (by simp)
               have t5 := hW.cell C5.out (by simp)
               go_simp
               with_reducible rfl
              go_frame
              refine late_take (i := 4) (v := ?vs_4) ⟨by kernel_rfl, by kernel_rfl, by kernel_rfl, by decide⟩ rfl (by decide +kernel) (by decide +kernel) (by decide +kernel) (fun _ _ _ h => h) (Or.inl ⟨by rfl, ?hs_4⟩) HSf.out ?rs_4
              case hs_4 =>
               intro W hW
               have t0 := hW.cell C0.out (by simp)
               have t1 := hW.cell C1.out (by simp)
               have t2 := hW.cell C2.out (by simp)
               have t3 := hW.cell C3.out (by simp)
               have t4 := hW.cell C4.out (by simp)
               have t5 := hW.cell C5.out (by simp)
               go_simp
               with_reducible rfl
              go_frame
              refine late_take (i := 5) (v := ?vs_5) ⟨by kernel_rfl, by kernel_rfl, by kernel_rfl, by decide⟩ rfl (by decide +kernel) (by decide +kernel) (by decide +kernel) (fun _ _ _ h => h) (Or.inl ⟨by rfl, ?hs_5⟩) HSf.out ?rs_5
              case hs_5 =>
               intro W hW
               have t0 := hW.cell C0.out (by simp)
               have t1 := hW.cell C1.out (by simp)
               have t2 := hW.cell C2.out (by simp)
               have t3 := hW.cell C3.out (by simp)
               have t4 := hW.cell C4.out (by simp)
               have t5 := hW.cell C5.out (by simp)
               go_simp
               with_reducible rfl
              go_frame
              refine late_take (i := 8) (v := ?vs_8) ⟨by kernel_rfl, by kernel_rfl, by kernel_rfl, by decide⟩ rfl (by decide +kernel) (by decide +kernel) (by decide +kernel) (fun _ _ _ h => h) (Or.inl ⟨by rfl, ?hs_8⟩) HSf.out ?rs_8
              case hs_8 =>
               intro W hW
               have t0 := hW.cell C0.out (by simp)
               have t1 := hW.cell C1.out (by simp)
               have t2 := hW.cell C2.out (by simp)
               have t3 := hW.cell C3.out (by simp)
               have t4 := hW.cell C4.out (by simp)
               have t5 := hW.cell C5.out (by simp)
               go_simp
               with_reducible rfl
              go_frame
              refine late_take (i := 9) (v := ?vs_9) ⟨by kernel_rfl, by kernel_rfl, by kernel_rfl, by decide⟩ rfl (by decide +kernel) (by decide +kernel) (by decide +kernel) (fun _ _ _ h => h) (Or.inl ⟨by rfl, ?hs_9⟩) HSf.out ?rs_9
              case hs_9 =>
               intro W hW
               have t0 := hW.cell C0.out (by simp)
               have t1 := hW.cell C1.out (by simp)
               have t2 := hW.cell C2.out (by simp)
               have t3 := hW.cell C3.out (by simp)
               have t4 := hW.cell C4.out (by simp)
               have t5 := hW.cell C5.out (by simp)
               go_simp
               with_reducible rfl
              go_frame
              refine late_some 2 [6] (by kernel_rfl) ?_
              refine List.forall_mem_cons.2 ⟨?_, List.forall_mem_cons.2 ⟨?_, List.forall_mem_nil _⟩⟩
              · refine ⟨by decide, _, rfl, fun K hK => ?_⟩
                have HK := uH hK
                clear hK
                have HSm := uH (gT HSf.out (gA wc.drew (.map #[] 0) none))
                have HTm0 := uH (TabW.made wc.drew)
                refine op_makeMap (by rfl) _ (by rfl) (HK.out _ _ HSm.out ?_)
                clear HK
                go_frame
                generalize wc.drew.alloc (.map #[] 0) = wm at *
                refine late_one (i := 6) rfl (by kernel_rfl) (by kernel_rfl) (fun K hK => ?_)
                have HK := uH hK
                clear hK
                refine op_enter (by rfl) 75 #[.agg #[.int .i64 c, .slice pt ts.length tcap]] (by kernel_rfl) (((polyTab_any (c, ts) _ _ (HTf2.out.kept (gT HGc.out HSm.out)) HRf.out)).mono ?_)
                rintro e wa ⟨Bf, rfl, _, hta, hga⟩
                have HSa := uH (gT HSm.out hga)
                have HTq := uH hta
                have HTm := uH (HTm0.out.kept hga)
                refine ⟨_, rfl, HK.out _ _ HSa.out ?_⟩
                clear HK hga hta HTm0
                go_frame
                refine late_one (i := 7) rfl (by kernel_rfl) (by kernel_rfl) (fun K hK => ?_)
                have HK := uH hK
                clear hK
                refine op_enter (by rfl) 76 #[.map (some wc.drew.heap.size), .int .i64 (-b0), .map (some Bf)] (by kernel_rfl) ((HTm.out.plus2 HTq.out (by omega) (fun n => ⟨by omega, by have := comb_bound (f := (c, ts)) (a := -b0) HRf.out (by omega) n; omega⟩)).mono ?_)
                rintro e w1' ⟨G1, rfl, _, ht1, hg1⟩
                have HS1 := uH (gT HSa.out hg1)
                have HT1 := uH ht1
                refine ⟨_, rfl, HK.out _ _ HS1.out ?_⟩
                clear HK ht1 hg1 HTm HTq
                go_frame
                refine late_one (i := 10) rfl (by kernel_rfl) (by kernel_rfl) (fun K hK => ?_)
                have HK := uH hK
                clear hK
                refine op_enter (by rfl) 75 #[.agg #[.int .i64 d, .slice pu us.length ucap]] (by kernel_rfl) ((polyTab_any (d, us) _ _ (HTg2.out.kept (gT HGc.out HS1.out)) HRg.out).mono ?_)
                rintro e w2' ⟨Bg, rfl, _, ht2, hg2⟩
                have HS2 := uH (gT HS1.out hg2)
                have HT2 := uH ht2
                have HT3 := uH (HT1.out.kept hg2)
                refine ⟨_, rfl, HK.out _ _ HS2.out ?_⟩
                clear HK ht2 hg2 HT1
                go_frame
                refine late_one (i := 11) rfl (by kernel_rfl) (by kernel_rfl) (fun K hK => ?_)
                have HK := uH hK
                clear hK
                refine op_enter (by rfl) 76 #[.map (some G1), .int .i64 a0, .map (some Bg)] (by kernel_rfl) ((HT3.out.plus2 HT2.out (by omega) (fun n => ⟨by have := comb_bound (f := (c, ts)) (a := -b0) HRf.out (by omega) n; omega, by have := comb_bound (f := (d, us)) (a := a0) HRg.out (by omega) n; omega⟩)).mono ?_)
                rintro e wp ⟨G2, rfl, _, ht4, hg4⟩
                have HSp := uH (gT HS2.out hg4)
                have HTp : Hid (TabW wp G2 40 (combX a0 b0 (c, ts) (d, us))) := ht4
                refine ⟨_, rfl, HK.out _ _ HSp.out ?_⟩
                clear HK ht4 hg4 HT2 HT3
                go_frame
                refine late_one (i := 12) rfl (by kernel_rfl) (by kernel_rfl) (fun K hK => ?_)
                have HK := uH hK
                clear hK
                refine op_enter (by rfl) 67 #[.map (some G2)] (by kernel_rfl) ((HTp.out.comb (x := x) (f := (c, ts)) (g := (d, us)) (by omega) HA.out HB.out HRf.out HRg.out).mono ?_)
                rintro e wq ⟨h, vs, p5, cap5, rfl, hcomb, hok, hhn, hrow, hul, hgq⟩
                have HSq := uH (gT HSp.out hgq)
                have HPu := uH hcomb
                have HRw := uH hrow
                have hszp := HSp.out.size
                have HOk := uH hok
                refine ⟨_, rfl, HK.out _ _ HSq.out ?_⟩
                clear HK hgq hcomb hrow hok HTp
                go_frame
                refine late_one (i := 13) rfl (by kernel_rfl) (by kernel_rfl) (fun K hK => ?_)
                have HK := uH hK
                clear hK
                go_simp
                refine HK.out _ _ (gT HSq.out (gA _ _ _)) ?_
                clear HK
                have HOq := uH (HOc.out.kept HSq.out)
                refine late_done (by decide +kernel) ?_
                simp only [List.drop_succ_cons, List.drop_zero]
                have hszf := HSq.out.size
                go_wp2_with (at_builtin; go_must (refine wpList_append_lies _ rfl _ _ 27 rfl w7.heap.size 35 i0 (.agg #[.int .i64 0, .slice none 0 0]) 2 32 Tryz.underlying27 hi0 hz0 hz1 hz2 rfl (by decide) _ gs.length ((gs.zip tvs2).flatMap condCells) rfl (World.ownsRow.alloc HOq.out.conds.row _) ⟨wq.heap.size, 0, none⟩ 1 1 (condCells ((h, vs), .slice p5 vs.length cap5)) rfl rfl news_at (by simp [condCells, Value.oneCell']) (by decide) (by unfold maxLen; omega) (by omega) (by have := HOc.out.grown.size; simp; omega) (wq.heap.size + 1) (by simp) ?_; intro g' ncap w9 hown9 hgrow9 hat _; have G9 := uH hgrow9; have O9 := uH hown9; have A9 := uH hat; have hb9 := kH HOq.out.box (gT (gA _ _ _) hgrow9) (fun e => by have := (HOq.out.conds.row.lt _ e).1; omega); have hf9 := kH HFc.out (gT HSq.out (gA wq (.cells #[.int .i64 h, .slice p5 vs.length cap5] 35) none)) (by simp); have hf9 := kH hf9 hgrow9 (fun e => HNo.out e); have HF9 := uH hf9; obtain ⟨n0, n1, nf⟩ := cO hb9; clear hown9 hgrow9 hat hb9 hf9))
                have hp := OcSt.push (f := (h, vs)) HOq.out (gR wq none) ⟨by simp only; omega, by simp only; omega⟩ (fun w2 h2 => terms_after HRw.out h2 (fun q hq => by have := (HOc.out.conds.row.lt q hq).2; omega) (show vs.length ≤ 1000000 by omega) HOk.out.good) G9.out O9.out (by rcases A9.out with h | h; exact .inl h; exact .inr (by omega))
                have hf10 := kH HF9.out (gS w9 w6.heap.size 1 (.slice (some ⟨g', 0, none⟩) (gs.length + 1) ncap)) (by simp; omega)
                go_roundw
                case rel => exact ⟨j + 1, .slice (some ⟨g', 0, none⟩) (gs.length + 1) ncap, gs ++ [(h, vs)], tvs2 ++ [.slice p5 vs.length cap5], hs ++ [(h, vs)], by omega, by go_num, by simp; omega, by show _ = _; rw [HGs.out, List.append_assoc], by show Twin _ _ _; rw [HTj.out, HPs.out, if_pos HPN.out, ← List.append_assoc]; exact HTw.out.append (.cons HPu.out .nil), uH hp, hf10, by rcases A9.out with h | h; exact (fun e => HNo.out (h.trans e)); exact (fun e => by have h2 : g' = wo.heap.size := Option.some.inj e; omega)⟩
                case measure => simp [intOf]; omega
              · refine ⟨by decide, _, rfl, fun K hK => ?_⟩
                have HK := uH hK
                clear hK
                refine op_enter (by rfl) 75 #[.agg #[.int .i64 c, .slice pt ts.length tcap]] (by kernel_rfl) (((polyTab_any (c, ts) _ _ (HTf2.out.kept (gT HGc.out HSf.out)) HRf.out)).mono ?_)
                rintro e wn ⟨Bf, rfl, _, hta, hga⟩
                have HSn := uH (gT HSf.out hga)
                refine ⟨_, rfl, HK.out _ _ HSn.out ?_⟩
                have HTq0 := uH hta
                clear HK hga hta
                go_frame
                refine late_one (i := 2) rfl (by kernel_rfl) (by kernel_rfl) (fun K hK => ?_)
                have HK := uH hK
                clear hK
                have HSa := uH (gT HSn.out (gA wn (.map #[] 0) none))
                have HTm := uH (TabW.made wn)
                have HTq := uH (HTq0.out.kept (gA wn (.map #[] 0) none))
                refine op_makeMap (by rfl) _ (by rfl) (HK.out _ _ HSa.out ?_)
                clear HK HTq0
                go_frame
                generalize wn.alloc (.map #[] 0) = wa at *
                refine late_one (i := 7) rfl (by kernel_rfl) (by kernel_rfl) (fun K hK => ?_)
                have HK := uH hK
                clear hK
                refine op_enter (by rfl) 76 #[.map (some wn.heap.size), .int .i64 (-b0), .map (some Bf)] (by kernel_rfl) ((HTm.out.plus2 HTq.out (by omega) (fun n => ⟨by omega, by have := comb_bound (f := (c, ts)) (a := -b0) HRf.out (by omega) n; omega⟩)).mono ?_)
                rintro e w1' ⟨G1, rfl, _, ht1, hg1⟩
                have HS1 := uH (gT HSa.out hg1)
                have HT1 := uH ht1
                refine ⟨_, rfl, HK.out _ _ HS1.out ?_⟩
                clear HK ht1 hg1 HTm HTq
                go_frame
                refine late_one (i := 10) rfl (by kernel_rfl) (by kernel_rfl) (fun K hK => ?_)
                have HK := uH hK
                clear hK
                refine op_enter (by rfl) 75 #[.agg #[.int .i64 d, .slice pu us.length ucap]] (by kernel_rfl) ((polyTab_any (d, us) _ _ (HTg2.out.kept (gT HGc.out HS1.out)) HRg.out).mono ?_)
                rintro e w2' ⟨Bg, rfl, _, ht2, hg2⟩
                have HS2 := uH (gT HS1.out hg2)
                have HT2 := uH ht2
                have HT3 := uH (HT1.out.kept hg2)
                refine ⟨_, rfl, HK.out _ _ HS2.out ?_⟩
                clear HK ht2 hg2 HT1
                go_frame
                refine late_one (i := 11) rfl (by kernel_rfl) (by kernel_rfl) (fun K hK => ?_)
                have HK := uH hK
                clear hK
                refine op_enter (by rfl) 76 #[.map (some G1), .int .i64 a0, .map (some Bg)] (by kernel_rfl) ((HT3.out.plus2 HT2.out (by omega) (fun n => ⟨by have := comb_bound (f := (c, ts)) (a := -b0) HRf.out (by omega) n; omega, by have := comb_bound (f := (d, us)) (a := a0) HRg.out (by omega) n; omega⟩)).mono ?_)
                rintro e wp ⟨G2, rfl, _, ht4, hg4⟩
                have HSp := uH (gT HS2.out hg4)
                have HTp : Hid (TabW wp G2 40 (combX a0 b0 (c, ts) (d, us))) := ht4
                refine ⟨_, rfl, HK.out _ _ HSp.out ?_⟩
                clear HK ht4 hg4 HT2 HT3
                go_frame
                refine late_one (i := 12) rfl (by kernel_rfl) (by kernel_rfl) (fun K hK => ?_)
                have HK := uH hK
                clear hK
                refine op_enter (by rfl) 67 #[.map (some G2)] (by kernel_rfl) ((HTp.out.comb (x := x) (f := (c, ts)) (g := (d, us)) (by omega) HA.out HB.out HRf.out HRg.out).mono ?_)
                rintro e wq ⟨h, vs, p5, cap5, rfl, hcomb, hok, hhn, hrow, hul, hgq⟩
                have HSq := uH (gT HSp.out hgq)
                have HPu := uH hcomb
                have HRw := uH hrow
                have hszp := HSp.out.size
                have HOk := uH hok
                refine ⟨_, rfl, HK.out _ _ HSq.out ?_⟩
                clear HK hgq hcomb hrow hok HTp
                go_frame
                refine late_one (i := 13) rfl (by kernel_rfl) (by kernel_rfl) (fun K hK => ?_)
                have HK := uH hK
                clear hK
                go_simp
                refine HK.out _ _ (gT HSq.out (gA _ _ _)) ?_
                clear HK
                have HOq := uH (HOc.out.kept HSq.out)
                refine late_done (by decide +kernel) ?_
                simp only [List.drop_succ_cons, List.drop_zero]
                have hszf := HSq.out.size
                go_wp2_with (at_builtin; go_must (refine wpList_append_lies _ rfl _ _ 27 rfl w7.heap.size 35 i0 (.agg #[.int .i64 0, .slice none 0 0]) 2 32 Tryz.underlying27 hi0 hz0 hz1 hz2 rfl (by decide) _ gs.length ((gs.zip tvs2).flatMap condCells) rfl (World.ownsRow.alloc HOq.out.conds.row _) ⟨wq.heap.size, 0, none⟩ 1 1 (condCells ((h, vs), .slice p5 vs.length cap5)) rfl rfl news_at (by simp [condCells, Value.oneCell']) (by decide) (by unfold maxLen; omega) (by omega) (by have := HOc.out.grown.size; simp; omega) (wq.heap.size + 1) (by simp) ?_; intro g' ncap w9 hown9 hgrow9 hat _; have G9 := uH hgrow9; have O9 := uH hown9; have A9 := uH hat; have hb9 := kH HOq.out.box (gT (gA _ _ _) hgrow9) (fun e => by have := (HOq.out.conds.row.lt _ e).1; omega); have hf9 := kH HFc.out (gT HSq.out (gA wq (.cells #[.int .i64 h, .slice p5 vs.length cap5] 35) none)) (by simp); have hf9 := kH hf9 hgrow9 (fun e => HNo.out e); have HF9 := uH hf9; obtain ⟨n0, n1, nf⟩ := cO hb9; clear hown9 hgrow9 hat hb9 hf9))
                have hp := OcSt.push (f := (h, vs)) HOq.out (gR wq none) ⟨by simp only; omega, by simp only; omega⟩ (fun w2 h2 => terms_after HRw.out h2 (fun q hq => by have := (HOc.out.conds.row.lt q hq).2; omega) (show vs.length ≤ 1000000 by omega) HOk.out.good) G9.out O9.out (by rcases A9.out with h | h; exact .inl h; exact .inr (by omega))
                have hf10 := kH HF9.out (gS w9 w6.heap.size 1 (.slice (some ⟨g', 0, none⟩) (gs.length + 1) ncap)) (by simp; omega)
                go_roundw
                case rel => exact ⟨j + 1, .slice (some ⟨g', 0, none⟩) (gs.length + 1) ncap, gs ++ [(h, vs)], tvs2 ++ [.slice p5 vs.length cap5], hs ++ [(h, vs)], by omega, by go_num, by simp; omega, by show _ = _; rw [HGs.out, List.append_assoc], by show Twin _ _ _; rw [HTj.out, HPs.out, if_pos HPN.out, ← List.append_assoc]; exact HTw.out.append (.cons HPu.out .nil), uH hp, hf10, by rcases A9.out with h | h; exact (fun e => HNo.out (h.trans e)); exact (fun e => by have h2 : g' = wo.heap.size := Option.some.inj e; omega)⟩
                case measure => simp [intOf]; omega
            · have HPN : Hid (¬ (0 < coefX (c, ts).2 x ∧ coefX (d, us).2 x < 0)) := hpn
              by_cases hpa : 0 < coefX ts x
              · have hpa2 : coefX ts x > 0 := hpa
                have hnb : ¬ coefX us x < 0 := fun e => hpn ⟨hpa, e⟩
                clear hpn
                go_wp2
                go_roundw
                case rel => exact ⟨j + 1, _, gs, tvs2, hs, by omega, by go_num, by omega, HGs.out, by show Twin _ _ _; rw [HTj.out, HPs.out, if_neg HPN.out, List.append_nil]; exact HTw.out, HOc.out, HFc.out, HNo.out⟩
                case measure => simp [intOf]; omega
              · have hpa2 : ¬ coefX ts x > 0 := hpa
                clear hpn
                go_wp2
                go_roundw
                case rel => exact ⟨j + 1, _, gs, tvs2, hs, by omega, by go_num, by omega, HGs.out, by show Twin _ _ _; rw [HTj.out, HPs.out, if_neg HPN.out, List.append_nil]; exact HTw.out, HOc.out, HFc.out, HNo.out⟩
                case measure => simp [intOf]; omega
         · obtain rfl : j = all.length := by omega
           have htw := HTw.out
           rw [List.take_length, ← pairs_next, ← HTk.out] at htw
           have HTw2 := uH htw
           clear htw HTw
           go_wp2
           go_roundw
           case rel => exact ⟨k + 1, _, gs, tvs2, hs, by omega, by go_num, by omega, HGs.out, HTw2.out, HO.out⟩
           case measure => simp [intOf]; omega
      · obtain rfl : k = all.length := by omega
        have htw := HTw.out
        rw [List.take_length] at htw
        have hel : ElimF x all gs := ⟨hs, HGs.out, htw⟩
        obtain ⟨hok, hln⟩ := elim_ok HR.out hal hel
        have HTr := uH (HT7.out.kept HO.out.grown (fun k hk => by cases hk; omega))
        have HSw := uH (HSd7.out.over HS7.out HO.out.grown)
        have HCw : Hid (CondsAt wr pv gs) := HO.out.conds.conds (by omega)
        obtain ⟨p3, cap3, rfl⟩ := own_form HO.out.conds.row
        obtain ⟨m0, m1, mf⟩ := cO HO.out.box
        have HPr := uH (HPw.out.kept HTr.out.grown)
        have HTg := uH (tightOf_any (L, gs) (.slice p6 L.length cap6) (.slice p3 gs.length cap3) wr HPr.out ⟨HSw.out, HCw.out⟩ (by simp only; omega) HGl.out hln hok)
        have HEl := uH hel
        clear htw hel hok hln HTw HGs
        go_wp2_with (go_at_call 21; go_must (refine HTg.out.mono ?_; rintro e w8 ⟨hg8, sv8, cv8, rfl, hS8⟩; have HT8 := uH (HTr.out.kept hg8 (by simp)); have HS8 := uH hS8; obtain ⟨p8, c8, rfl, _, _⟩ := id hS8.1; obtain ⟨p9, c9, rfl, _, _⟩ := id hS8.2; obtain ⟨d0, d1, df⟩ := cO HT8.out.res; clear hg8 hS8))
        obtain ⟨f1, f2⟩ := two_set HT8.out.res (.slice p8 L.length c8) (.slice p9 (mergeAll (gs.filterMap tightF)).length c9)
        exact bodyPost_ret (results_cell_row rfl _ _ (w.heap.size + 1) _ _ _ _ rfl f1 Tryz.underlying29 rfl Tryz.infoSet2) rfl ⟨gs, HEl.out, gO HT8.out.grown f2 (fun k hk => by cases hk; omega), _, _, rfl, HS8.out.over (slBox_two HT8.out.res) f2⟩
end Go.Proofs.YtgeklmigfhhpfaaGreatDoor
