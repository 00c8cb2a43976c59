/-
 The reference's Tight.
-/
import Derived.Deep.AppendLies
import Derived.Deep.RegionHeld3
import Derived.StillTailTactics
import Derived.Deep.DeepMust
import Derived.Test.YtgeklmigfhhpfaaGreatDoorQ09
import Derived.Test.YtgeklmigfhhpfaaGreatDoorQ17
import Derived.Test.YtgeklmigfhhpfaaGreatDoorQ28
import Derived.Test.YtgeklmigfhhpfaaGreatDoorQ29
import Derived.Test.YtgeklmigfhhpfaaGreatDoorQ30
namespace Go.Proofs.YtgeklmigfhhpfaaGreatDoor
open Go.RowKit Go.Maps Go.WideMaps
attribute [local go_sem ↓] Go.wp_at_zero Go.wp_at_succ
structure TbSt (w wr : World) (sv cv : Value) : Prop where
 grown : w.grownBy wr none
 b0 : wr.heap[w.heap.size]? = some (.cells #[sv, cv] 29 (0, 0))
 res : wr.heap[w.heap.size + 1]? = some (.cells #[.slice none 0 0, .slice none 0 0] 29 (0, 0))
theorem TbSt.start (w : World) (sv cv : Value) : TbSt w ((w.alloc (.cells #[sv, cv] 29)).alloc (.cells #[.slice none 0 0, .slice none 0 0] 29)) sv cv := by
 have h1 := heap_alloc_new (w.alloc (.cells #[sv, cv] 29)) (.cells #[.slice none 0 0, .slice none 0 0] 29)
 rw [World.size_alloc] at h1
 exact ⟨gT (gA _ _ _) (gA _ _ _), kH (heap_alloc_new w _) (gA _ _ none) (by simp), h1⟩
theorem TbSt.size {w wr : World} {sv cv : Value} (h : TbSt w wr sv cv) : w.heap.size + 1 < wr.heap.size := (Array.getElem?_eq_some_iff.1 h.res).1
theorem TbSt.kept {w wr w' : World} {sv cv : Value} {o : Option Nat} (h : TbSt w wr sv cv) (hg : wr.grownBy w' o) (ho : ∀ k, o = some k → w.heap.size + 2 ≤ k) : TbSt w w' sv cv :=
 ⟨gO h.grown hg (fun k hk => by have := ho k hk; omega), kH h.b0 hg (fun e => by have := ho _ e; omega), kH h.res hg (fun e => by have := ho _ e; omega)⟩
theorem terms_after {w1 w2 : World} {P : Nat} {v : Value} {us : List TermD} {o : Option Nat} (h : TermRow w1 P v us) (hg : w1.grownBy w2 o) (ho : ∀ k, o = some k → k < P) (hl : us.length ≤ 1000000) (hgd : ∀ t ∈ us, goodTerm t) : TermsAt w2 v us :=
 terms_of_owns (owns_under h hg ho) hl hgd
theorem polyX_snoc {c : Int} {us : List (ByteArray × Int)} {n : ByteArray} (z : Int) (hn : n ≠ ByteArray.empty) (h : ∀ t ∈ us, t.1 ≠ n) (m : ByteArray) : (if m = n then z else polyX c us m) = polyX c (us ++ [(n, z)]) m := by
 unfold polyX
 rw [coefX_snoc z h]
 by_cases e : m = n
 · rw [if_pos e, if_pos e, if_neg (by rw [e]; exact hn)]
 · rw [if_neg e, if_neg e]
theorem OkForm.div {c : Int} {ts : List TermD} {g : Nat} (h : OkForm (c, ts)) (hg : g = gcdL (ts.map Prod.snd)) (h0 : g ≠ 0) : OkForm (c / (g : Int), divT (g : Int) ts) ∧ ∀ t ∈ ts, (g : Int) ∣ t.2 := by
 have hd : ∀ t ∈ ts, (g : Int) ∣ t.2 := fun t ht => by rw [hg]; exact gcdL_dvd (List.mem_map_of_mem ht)
 have hp : 1 ≤ (g : Int) := by omega
 refine ⟨⟨?_, by simpa [divT] using h.len, ?_, fun t ht => ?_⟩, hd⟩
 · have := h.ups
   unfold Ups divT at *
   rw [List.pairwise_map]
   exact this
 · have h1 := h.num
   have := div_abs (a := c) hp (b := 1000000000000) (by omega) (by simp only at h1; omega)
   simp only
   omega
 · obtain ⟨u, hu, rfl⟩ := List.mem_map.1 ht
   obtain ⟨h1, h2, h3, h4⟩ := h.term u hu
   have hdu := hd u hu
   refine ⟨h1, fun e => h2 ?_, h3, ?_⟩
   · obtain ⟨q, hq⟩ := hdu
     have e' : u.2 / (g : Int) = 0 := e
     rw [hq, Int.mul_ediv_cancel_left _ (by omega)] at e'
     rw [hq, e', Int.mul_zero]
   · have := div_abs (a := u.2) hp (b := 1000000000) (by omega) (by omega)
     simp only
     omega
theorem gcd_le9 {a b : Nat} (ha : a ≤ 1000000000) (hb : b ≤ 1000000000) : Nat.gcd a b ≤ 1000000000 := by
 by_cases h : a = 0
 · rw [h, Nat.gcd_zero_left]
   exact hb
 · exact Nat.le_trans (Nat.gcd_le_left _ (by omega)) ha
theorem OkForm.good {f : CondD} (h : OkForm f) : ∀ t ∈ f.2, goodTerm t := fun t ht => by
 obtain ⟨_, _, h3, h4⟩ := h.term t ht
 exact ⟨h3, by unfold small; omega⟩
theorem tightF_ok {f d : CondD} (h : OkForm f) (hd : tightF f = some d) : OkForm d := by
 obtain ⟨c, ts⟩ := f
 unfold tightF at hd
 split at hd
 · split at hd
   · cases hd
   · cases hd
     exact h
 · rename_i h0
   cases hd
   exact (h.div rfl h0).1
def BoolAt (w : World) (B n : Nat) (D : Table) : Prop := w.ownsMap Tryz.prog 9 (plainElem Tryz.prog 4) B n D
theorem Tryz.zeroBool (w : World) : (zeroValue 4).run Tryz.prog w = .ok (.bool false) w := by kernel_rfl
theorem plainElem_bool_inv {P : Program} {e : TypeId} (he : P.underlying e = some .bool) {v : Value} {z : Table × List MemPlace} (h : plainElem P e v = some z) : ∃ b, v = .bool b ∧ z = (.lit (.bool b), []) := by
 unfold plainElem at h
 rw [he] at h
 split at h
 · rename_i h2 _
   cases h
   exact ⟨_, rfl, rfl⟩
 all_goals simp_all
theorem BoolAt.look {w : World} {B n : Nat} {D : Table} {us : List CondD} {ts : List TermD} (h : BoolAt w B n D) (hD : DoneT us D) (hp : Plain us) (hd : ∀ t ∈ ts, plainN t.1) (hs : (kw ts).size ≤ maxLen) :
  (Instr.lookup 114 (.map (some B)) (.string (kw ts)) false).run Tryz.prog w = .ok (.bool (decide (ts ∈ keysIn us))) w := by
 obtain ⟨x, ps, hrun, hx⟩ := World.ownsMap.lookup h Tryz.lawStr Tryz.underlying114 (Tryz.zeroBool w) (plainElem_bool Tryz.underlying4 false) (key_str hs)
 obtain ⟨b, rfl, hb⟩ := plainElem_bool_inv Tryz.underlying4 hx
 rw [hrun]
 have hb' := congrArg Prod.fst hb
 simp only at hb'
 rw [DoneT.at_in (d := (0, ts)) hD hp hd] at hb'
 have e : decide (ts ∈ keysIn us) = b := by simpa using hb'
 rw [e]
theorem BoolAt.enter {w : World} {B n : Nat} {D : Table} {ts : List TermD} (h : BoolAt w B n D) (hn : n < maxLen) (hs : (kw ts).size ≤ maxLen) :
  ∃ w', (Instr.mapUpdate 114 (.map (some B)) (.string (kw ts)) (.bool true)).run Tryz.prog w = .ok () w' ∧ BoolAt w' B (n + 1) (D.put (strL (kw ts)) (.lit (.bool true))) ∧ w.grownBy w' (some B) :=
 World.ownsMap.update h Tryz.lawStr Tryz.underlying114 hn (key_str hs) (plainElem_bool Tryz.underlying4 true)
structure OutSt (w6 wr : World) (sv2 pv : Value) (fs : List CondD) (tvs : List Value) : Prop where
 grown : w6.grownBy wr none
 far : w6.heap.size + 1 < wr.heap.size
 box : wr.heap[w6.heap.size]? = some (.cells #[sv2, pv] 29 (0, 0))
 len : tvs.length = fs.length
 row : wr.ownsRow (w6.heap.size + 2) 35 2 pv fs.length ((fs.zip tvs).flatMap condCells)
 terms : ∀ (j : Nat) (f : CondD) (tv : Value), fs[j]? = some f → tvs[j]? = some tv → (-9223372036854775808 ≤ f.1 ∧ f.1 ≤ 9223372036854775807) ∧ TermsAt w6 tv f.2
theorem OutSt.kept {w6 wr w' : World} {sv2 pv : Value} {fs : List CondD} {tvs : List Value} {o : Option Nat} (h : OutSt w6 wr sv2 pv fs tvs) (hg : wr.grownBy w' o) (ho : ∀ k, o = some k → w6.heap.size < k ∧ pv.ownBlock ≠ some k) : OutSt w6 w' sv2 pv fs tvs :=
 ⟨gO h.grown hg (fun k hk => by have := (ho k hk).1; omega), Nat.lt_of_lt_of_le h.far hg.size, kH h.box hg (fun e => by have := (ho _ e).1; omega), h.len, World.ownsRow.kept h.row hg (by
   cases hb : pv.ownBlock with
   | none => exact .inl rfl
   | some k => exact .inr (fun e => (ho k e.symm).2 hb)), h.terms⟩
theorem OutSt.push {w6 w8 w9 : World} {sv2 pv tv : Value} {fs : List CondD} {tvs : List Value} {f : CondD} {o : Obj} {g cap : Nat} (h : OutSt w6 w8 sv2 pv fs tvs) (hd : (-9223372036854775808 ≤ f.1 ∧ f.1 ≤ 9223372036854775807) ∧ TermsAt w6 tv f.2) (k2 : (w8.alloc o).grownBy w9 pv.ownBlock)
  (row : w9.ownsRow (w6.heap.size + 2) 35 2 (.slice (some ⟨g, 0, none⟩) (fs.length + 1) cap) (fs.length + 1) ((fs.zip tvs).flatMap condCells ++ condCells (f, tv))) :
  OutSt w6 (w9.setCell ⟨w6.heap.size, 1, none⟩ (.slice (some ⟨g, 0, none⟩) (fs.length + 1) cap)) sv2 (.slice (some ⟨g, 0, none⟩) (fs.length + 1) cap) (fs ++ [f]) (tvs ++ [tv]) := by
 have hob : ∀ k, pv.ownBlock = some k → w6.heap.size + 2 ≤ k := fun k hk => (World.ownsRow.lt h.row k hk).1
 have k12 : w8.grownBy w9 pv.ownBlock := gT (gA w8 o pv.ownBlock) k2
 have g2 := gS w9 w6.heap.size 1 (.slice (some ⟨g, 0, none⟩) (fs.length + 1) cap)
 have h9 := h.far
 have hz := k12.size
 refine ⟨gO (gO h.grown k12 (fun k hk => by have := hob k hk; omega)) g2 (fun k hk => by cases hk; exact Nat.le_refl _), Nat.lt_of_lt_of_le h9 (Nat.le_trans hz g2.size), ?_, by simp [h.len], ?_, fun j q tv' hj hcv' => ?_⟩
 · show (w9.heap.modify w6.heap.size _)[w6.heap.size]? = _
   rw [Array.getElem?_modify, if_pos rfl, kH h.box k12 (fun e => by have := hob _ e; omega)]
   simp
 · rw [List.length_append, List.zip_append (by rw [h.len]), List.flatMap_append]
   have hr := owns_under row g2 (fun k hk => by cases hk; omega)
   simpa using hr
 · by_cases hj' : j < fs.length
   · rw [List.getElem?_append_left hj'] at hj
     rw [List.getElem?_append_left (by rw [h.len]; exact hj')] at hcv'
     exact h.terms j q tv' hj hcv'
   · have hj2 : j = fs.length := by
      have := (List.getElem?_eq_some_iff.1 hj).1
      simp at this
      omega
     subst hj2
     simp at hj
     subst hj
     rw [← h.len] at hcv'
     simp at hcv'
     subst hcv'
     exact hd
theorem OutSt.cw {w6 wr : World} {sv2 pv : Value} {fs : List CondD} {tvs : List Value} (h : OutSt w6 wr sv2 pv fs tvs) : CW wr (w6.heap.size + 2) pv fs tvs :=
 ⟨h.len, h.row, fun j f tv h1 h2 => ⟨(h.terms j f tv h1 h2).1, fun w2 h3 => (h.terms j f tv h1 h2).2.later h.grown h3 (fun k hk => by have := (World.ownsRow.lt h.row k hk).1; omega)⟩⟩
theorem kw_size {ts : List TermD} (hl : ts.length ≤ 900) (hg : ∀ t ∈ ts, t.1.size ≤ 100 ∧ t.2.natAbs ≤ 1000000000) : (kw ts).size ≤ maxLen := by
 have h := out_length hl hg
 have h2 : (wordsL (outL ts)).length ≤ (outL ts).length + 1 := by
  unfold wordsL
  split
  · simp; omega
  · split <;> (simp; try omega)
 show (wordsL (outL ts)).toArray.size ≤ maxLen
 unfold maxLen
 simp
 omega
theorem OutSt.start (w6 : World) (sv2 : Value) : OutSt w6 ((w6.alloc (.cells #[sv2, .slice none 0 0] 29)).alloc (.map #[] 0)) sv2 (.slice none 0 0) [] [] :=
 ⟨gT (gA _ _ _) (gA _ _ _), by simp, kH (heap_alloc_new w6 _) (gA _ _ none) (by simp), rfl, World.ownsRow_nil _ _ _ _, fun j f tv h => by simp at h⟩
theorem BoolAt.start (w6 : World) (o : Obj) : BoolAt ((w6.alloc o).alloc (.map #[] 0)) (w6.heap.size + 1) 0 (.map []) := by
 have h := World.ownsMap_made (H := Unit) (w6.alloc o) Tryz.prog 9 (plainElem Tryz.prog 4)
 rw [World.size_alloc] at h
 exact h
theorem LeastT.look {w : World} {B n : Nat} {D : Table} {us : List CondD} {d : CondD} (hM : MapAt w B n D) (h : LeastT us D) (hd : d ∈ us) (hs : (kw d.2).size ≤ maxLen) :
  (Instr.lookup 109 (.map (some B)) (.string (kw d.2)) false).run Tryz.prog w = .ok (.int .i64 (leastK us d.2)) w := by
 obtain ⟨c, hr, ha, _⟩ := World.ownsMap.lookup_int (q := .i64) hM Tryz.lawStr Tryz.underlying109 Tryz.underlying3 (Tryz.zeroInt w) (key_str hs)
 have : c = leastK us d.2 := lit64_inj (ha.symm.trans (h.at_in (mem_keysIn.2 ⟨d, hd, rfl⟩)))
 rw [← this]
 exact hr
theorem keysIn_len {K : Type} [DecidableEq K] (ds : List (Int × K)) : (keysIn ds).length ≤ ds.length := by
 induction ds using snocInd with
 | h0 => simp [keysIn]
 | h1 ds d ih =>
   rw [keysIn_snoc]
   split <;> (simp; omega)
theorem leastK_mem {K : Type} [DecidableEq K] {P : Int → Prop} (hmin : ∀ a b, P a → P b → P (min a b)) {ds : List (Int × K)} (h : ∀ d ∈ ds, P d.1) {d : Int × K} (hd : d ∈ ds) : P (leastK ds d.2) := by
 have h1 := merge_mem (R := fun _ => True) hmin (fun d hd => ⟨h d hd, trivial⟩)
 have h2 : (leastK ds d.2, d.2) ∈ mergeAll ds := by
  rw [mergeAll_eq]
  exact List.mem_map.2 ⟨d.2, mem_keysIn.2 ⟨d, hd, rfl⟩, rfl⟩
 exact (h1 _ h2).1
set_option maxRecDepth 100000 in
set_option maxHeartbeats 16000000 in
theorem tightOf_any (S : List SideD × List CondD) (sv cv : Value) (w : World) (hp : PowTab w) (hS : SetAt w sv cv S) (hl : S.1.length ≤ 1000) (hgs : ∀ s ∈ S.1, goodSide s) (hn : S.2.length ≤ 5000) (hF : ∀ f ∈ S.2, OkForm f) :
  Calls Tryz.prog 21 #[.agg #[sv, cv]] w (SetGot (S.1, mergeAll (S.2.filterMap tightF)) w) := by
 obtain ⟨pc, ccap, rfl, _, hcc⟩ := id hS.2
 obtain ⟨ps, scap, rfl, _, _⟩ := id hS.1
 obtain ⟨i0, hi0, hz0, hz1, hz2⟩ := info_parts Tryz.infoForm
 have HC := uH hcc
 have HS := uH hS
 have HP := uH hp
 have HF := uH hF
 have HGs := uH hgs
 have HT := uH (TbSt.start w (.slice ps S.1.length scap) (.slice pc S.2.length ccap))
 clear hp hS hcc hF hgs
 go_enter Tryz.func21, Tryz.ntmps21
 go_upto_region 2 with fail
 generalize (w.alloc (.cells #[.slice ps S.1.length scap, .slice pc S.2.length ccap] 29)).alloc (.cells #[.slice none 0 0, .slice none 0 0] 29) = w1 at *
 obtain ⟨x0, x1, _⟩ := cO HT.out.b0
 go_wp2_with fail
 go_loopw [25, 3] (fun i s3 wr => ∃ (k : Nat) (lv : Value) (us : List CondD) (tvs : List Value), k ≤ S.2.length ∧ i = .int .i64 k ∧ s3 = lv ∧ us.length ≤ k ∧ Hid (us = (S.2.take k).filterMap tightF) ∧ Hid (TbSt w wr (.slice ps S.1.length scap) (.slice pc S.2.length ccap)) ∧ Hid (CW wr (w.heap.size + 2) lv us tvs)) (fun i _ _ => S.2.length - (intOf i).toNat)
 case atStart => exact ⟨0, _, [], [], Nat.zero_le _, rfl, rfl, Nat.zero_le _, rfl, HT.out, CW.start _ _⟩
 case round =>
  obtain ⟨k, lv, us, tvs, hk, rfl, rfl, huk, HU, HT, HW⟩ := hrel
  by_cases hlt : k < S.2.length
  · have h0 := List.getElem?_eq_getElem hlt
    obtain ⟨b, off, tv, rfl, a1, a2, hta, hb1, hb2⟩ := HC.out k _ h0
    have c1 := HT.out.grown.cell a1 (by simp)
    have c2 := HT.out.grown.cell a2 (by simp)
    have HFk := uH (HF.out _ (List.getElem_mem hlt))
    have HTk := uH (List.take_succ_eq_append_getElem hlt)
    generalize S.2[k] = f at *
    obtain ⟨c, ts⟩ := f
    simp only at c1 c2 hta hb1 hb2
    obtain ⟨pt, tcap, rfl, _, htc⟩ := id hta
    have hts8 : ts.length ≤ 800 := HFk.out.len
    have HTa := uH hta
    have HTc := uH htc
    have hI1 : (k : Int) < (S.2.length : Int) := by omega
    obtain ⟨pl, lcap, rfl⟩ := own_form HW.out.row
    clear h0 a1 a2 hta htc
    go_upto_region 5 with fail
    have ga := gA wr (.cells #[.int .i64 c, .slice pt ts.length tcap] 35) none
    have HGa := uH ga
    have HBx := uH (heap_alloc_new wr (.cells #[.int .i64 c, .slice pt ts.length tcap] 35))
    generalize wr.alloc (.cells #[.int .i64 c, .slice pt ts.length tcap] 35) = wf at *
    obtain ⟨y0, y1, _⟩ := cO HBx.out
    clear ga c1 c2
    go_wp2_with fail
    generalize wr = wo at *
    go_loopw [32, 6] (fun i s6 wr => ∃ (j g : Nat), j ≤ ts.length ∧ i = .int .i64 j ∧ s6 = .int .i64 g ∧ g ≤ 1000000000 ∧ Hid (g = gcdL ((ts.take j).map Prod.snd)) ∧ Hid (wf.grownBy wr none)) (fun i _ _ => ts.length - (intOf i).toNat)
    case atStart => exact ⟨0, 0, Nat.zero_le _, rfl, rfl, by omega, rfl, gR _ _⟩
    case round =>
     obtain ⟨j, g, hj, rfl, rfl, hg9, HGj, HQ⟩ := hrel
     by_cases hlt2 : j < ts.length
     · have h0 := List.getElem?_eq_getElem hlt2
       obtain ⟨b2, off2, rfl, e1, e2, e3, e4, e5⟩ := ((HTc.out j _ h0).kept HT.out.grown).kept (gT HGa.out HQ.out)
       have HTj := uH (List.take_succ_eq_append_getElem hlt2)
       have hmz := (HFk.out.term _ (List.getElem_mem hlt2)).2.2.2
       generalize ts[j] = t at *
       obtain ⟨n, z⟩ := t
       simp only at e1 e2 e3 e4 e5 hmz
       have hI2 : (j : Int) < (ts.length : Int) := by omega
       clear h0
       go_wp2_with (go_at_call 65; go_must (refine (divisor_any (g : Int) z _ (by unfold near64; omega) (by unfold near64; omega)).mono ?_; rintro e wd ⟨rfl, hgd⟩; have HGd := uH hgd; clear hgd))
       go_roundw
       case rel => exact ⟨j + 1, Nat.gcd g z.natAbs, by omega, by go_num, by simp [Int.gcd], gcd_le9 hg9 hmz, by show _ = _; rw [HTj.out, List.map_append, List.map_cons, List.map_nil, gcdL_snoc, ← HGj.out], gT HQ.out (gT (gA _ _ _) HGd.out)⟩
       case measure => simp [intOf]; omega
     · obtain rfl : j = ts.length := by omega
       have hgg := HGj.out
       rw [List.take_length] at hgg
       have HGg := uH hgg
       clear hgg HGj
       have hcn : c.natAbs ≤ 1000000000000 := HFk.out.num
       have z0 := HQ.out.cell y0 (by simp)
       have z1 := HQ.out.cell y1 (by simp)
       have HTq := uH (HT.out.kept (gT HGa.out HQ.out) (by simp))
       have HWq := uH (HW.out.kept (gT HGa.out HQ.out))
       have hszq : wo.heap.size < wr.heap.size := Nat.lt_of_lt_of_le (Array.getElem?_eq_some_iff.1 HBx.out).1 HQ.out.size
       have hszr := HT.out.size
       by_cases hg0 : g = 0
       · have hz : (((g : Nat) : Int) == 0) = true := by simp [hg0]
         by_cases hc0 : c < 0
         · have HY := uH (show tightF (c, ts) = some (c, ts) by unfold tightF; rw [if_pos (by rw [← HGg.out]; exact hg0), if_neg (by simp only; omega)])
           clear hg0
           go_wp2_with (first
            | (at_builtin; go_must (refine wpList_append_lies _ rfl _ _ 27 rfl (w.heap.size + 2) 35 i0 (.agg #[.int .i64 0, .slice none 0 0]) 2 32 Tryz.underlying27 hi0 hz0 hz1 hz2 rfl (by decide) _ us.length ((us.zip tvs).flatMap condCells) rfl (World.ownsRow.alloc HWq.out.row _) ⟨wr.heap.size, 0, none⟩ 1 1 (condCells ((c, ts), .slice pt ts.length tcap)) rfl rfl news_at (by simp [condCells, Value.oneCell']) (by decide) (by unfold maxLen; omega) (by omega) (by simp; omega) (wr.heap.size + 1) (by simp) ?_; intro g' ncap w6 hown6 hgrow6 hat _; have G6 := uH hgrow6; have O6 := uH hown6; have A6 := uH hat; clear hown6 hgrow6 hat)))
           have hp := CW.push HWq.out (gR wr none) ⟨hb1, hb2⟩ (fun w2 h2 => HTa.out.later HTq.out.grown h2 (fun k hk => by have := (HWq.out.row.lt k hk).1; omega)) G6.out O6.out (by rcases A6.out with h | h; exact .inl h; exact .inr (by omega))
           go_roundw
           case rel => exact ⟨k + 1, _, us ++ [(c, ts)], tvs ++ [.slice pt ts.length tcap], by omega, by go_num, rfl, by simp; omega, by show _ = _; rw [HTk.out, List.filterMap_append, List.filterMap_cons, HY.out, List.filterMap_nil, HU.out], uH (HTq.out.kept (gT (gA _ _ _) G6.out) (fun k hk => (HWq.out.row.lt k hk).1)), uH hp⟩
           case measure => simp [intOf]; omega
         · have HY := uH (show tightF (c, ts) = none by unfold tightF; rw [if_pos (by rw [← HGg.out]; exact hg0), if_pos (by simp only; omega)])
           clear hg0
           go_wp2
           go_roundw
           case rel => exact ⟨k + 1, _, us, tvs, by omega, by go_num, rfl, by omega, by show _ = _; rw [HTk.out, List.filterMap_append, List.filterMap_cons, HY.out, List.filterMap_nil, List.append_nil, HU.out], HTq.out, HWq.out⟩
           case measure => simp [intOf]; omega
       · have hz : (((g : Nat) : Int) == 0) = false := by simp; omega
         have hgp : 0 < (g : Int) := by omega
         obtain ⟨hok, hdv⟩ := HFk.out.div HGg.out hg0
         have hcd : (c / (g : Int)).natAbs ≤ 1000000000000 := hok.num
         have HOk := uH hok
         have HDv := uH hdv
         have HY := uH (show tightF (c, ts) = some (c / (g : Int), divT (g : Int) ts) by unfold tightF; rw [if_neg (by rw [← HGg.out]; exact hg0), ← HGg.out])
         have hmm := @run_makeMap Tryz.prog
         obtain ⟨W2, hr2, ht2, hg2⟩ := (TabW.made wr).put (by omega) (x := ByteArray.empty) (Nat.zero_le _) (z := c / (g : Int)) (by omega)
         have hr2' : (Instr.mapUpdate 110 (.map (some wr.heap.size)) (.string ⟨#[]⟩) (.int .i64 (c / (g : Int)))).run Tryz.prog (wr.alloc (.map #[] 0)) = .ok () W2 := hr2
         have hw0 : (wr.alloc (.map #[] 0)).cell? ⟨wo.heap.size, 0, none⟩ = some (.int .i64 c) := (gA wr (.map #[] 0) none).cell z0 (by simp)
         have u1 : W2.cell? ⟨wo.heap.size, 1, none⟩ = some (.slice pt ts.length tcap) := hg2.cell ((gA wr (.map #[] 0) none).cell z1 (by simp)) (by simp; omega)
         have HG2 := uH (gO (gA wr (.map #[] 0) none) hg2 (fun k hk => by cases hk; exact Nat.le_refl _))
         have HT2 := uH ht2
         clear hok hdv hr2 ht2 hg2 hg0
         go_wp2_with (go_at_call 66; go_must (refine (floorDiv_any c (g : Int) _ (by unfold near64; omega) hgp (by unfold near64; omega)).mono ?_; rintro e wd ⟨rfl, rfl⟩))
         clear hr2' hmm hw0
         generalize wr = wq at *
         go_loopw [59] (fun i wr => ∃ j : Nat, j ≤ ts.length ∧ i = .int .i64 j ∧ Hid (TabW wr wq.heap.size (j + 1) (polyX (c / (g : Int)) (divT (g : Int) (ts.take j)))) ∧ Hid (wq.grownBy wr none)) (fun i _ => ts.length - (intOf i).toNat)
         case atStart => exact ⟨0, Nat.zero_le _, rfl, HT2.out.cong fun m => by simp [polyX, divT, coefX], HG2.out⟩
         case round =>
          obtain ⟨j, hj, rfl, HTb, HR⟩ := hrel
          by_cases hlt2 : j < ts.length
          · have h0 := List.getElem?_eq_getElem hlt2
            obtain ⟨b2, off2, rfl, e1, e2, e3, e4, e5⟩ := ((HTc.out j _ h0).kept HT.out.grown).kept (gT (gT HGa.out HQ.out) HR.out)
            have HTj := uH (List.take_succ_eq_append_getElem hlt2)
            have hdz := HDv.out _ (List.getElem_mem hlt2)
            have hmz := (HFk.out.term _ (List.getElem_mem hlt2)).2.2.2
            have hnn := HFk.out.ne _ (List.getElem_mem hlt2)
            have hap : ∀ u ∈ divT (g : Int) (ts.take j), u.1 ≠ (ts[j]).1 := fun u hu => by
             obtain ⟨v, hv, rfl⟩ := List.mem_map.1 hu
             obtain ⟨q, hq⟩ := List.mem_iff_getElem?.1 hv
             rw [List.getElem?_take] at hq
             split at hq
             · have hql := (List.getElem?_eq_some_iff.1 hq).1
               have := (List.pairwise_iff_getElem.1 (ups_apart HFk.out.ups)) q j hql hlt2 (by omega)
               have e := (List.getElem?_eq_some_iff.1 hq).2
               rw [e] at this
               exact this
             · cases hq
            generalize ts[j] = t at *
            obtain ⟨n, z⟩ := t
            simp only at e1 e2 e3 e4 e5 hmz hdz hnn hap
            have hI2 : (j : Int) < (ts.length : Int) := by omega
            have hq := Int.tdiv_eq_ediv_of_dvd hdz
            have hgn : (g : Int) ≠ 0 := by omega
            have hzq : (z / (g : Int)).natAbs ≤ 1000000000 := by
             have := div_abs (a := z) (g := (g : Int)) (by omega) (b := 1000000000) (by omega) (by omega)
             omega
            obtain ⟨W4, hr4, ht4, hg4⟩ := ((HTb.out.kept (gA wr (.cells #[.string n, .int .i64 z] 65) none)).kept (gD _ none)).put (by omega) (x := n) e1 (z := z / (g : Int)) (by omega)
            have HT4 := uH (ht4.cong (polyX_snoc (c := c / (g : Int)) (z / (g : Int)) hnn hap))
            have HG4 := uH (gO (gT HR.out (gT (gA wr (.cells #[.string n, .int .i64 z] 65) none) (gD _ none))) hg4 (fun k hk => by cases hk; exact Nat.le_refl _))
            clear h0 hap ht4 hg4 hdz
            go_upto_region 18 with fail
            have q0 : (wr.alloc (.cells #[.string n, .int .i64 z] 65)).cell? ⟨wr.heap.size, 0, none⟩ = some (.string n) := by simp
            have q1 : (wr.alloc (.cells #[.string n, .int .i64 z] 65)).cell? ⟨wr.heap.size, 1, none⟩ = some (.int .i64 z) := by simp
            generalize wr.alloc (.cells #[.string n, .int .i64 z] 65) = wb at *
            have HSb : Hid (wb.grownBy wb.drew none) := gD _ _
            have hg00 : (g = 0) = False := eq_false (by omega)
            have hq2 : IntKind.i64.wrap (z / (g : Int)) = z / (g : Int) := wrap_near (x := z / (g : Int)) (by omega)
            refine region_late (n := 7) (S := fun W => wb.grownBy W none) (by kernel_rfl) ⟨by kernel_rfl, by kernel_rfl, by kernel_rfl, by decide⟩ ?_
            refine late_take (i := 0) (v := ?v0_0) ⟨by kernel_rfl, by kernel_rfl, by kernel_rfl, by decide⟩ rfl (by decide +kernel) (by decide +kernel) (by decide +kernel) (fun _ _ _ h => h) (Or.inl ⟨by rfl, ?h0_0⟩) HSb.out ?r0_0
            case h0_0 =>
             intro W hW
             have t0 := hW.cell q0 (by simp)
             have t1 := hW.cell q1 (by simp)
             go_simp
             with_reducible rfl
            go_frame
            refine late_take (i := 1) (v := ?v1_0) ⟨by kernel_rfl, by kernel_rfl, by kernel_rfl, by decide⟩ rfl (by decide +kernel) (by decide +kernel) (by decide +kernel) (fun _ _ _ h => h) (Or.inl ⟨by rfl, ?h1_0⟩) HSb.out ?r1_0
            case h1_0 =>
             intro W hW
             have t0 := hW.cell q0 (by simp)
             have t1 := hW.cell q1 (by simp)
             go_simp
             with_reducible rfl
            go_frame
            refine late_take (i := 2) (v := ?v2_0) ⟨by kernel_rfl, by kernel_rfl, by kernel_rfl, by decide⟩ rfl (by decide +kernel) (by decide +kernel) (by decide +kernel) (fun _ _ _ h => h) (Or.inl ⟨by rfl, ?h2_0⟩) HSb.out ?r2_0
            case h2_0 =>
             intro W hW
             have t0 := hW.cell q0 (by simp)
             have t1 := hW.cell q1 (by simp)
             go_simp
             with_reducible rfl
            go_frame
            refine late_take (i := 3) (v := ?v3_0) ⟨by kernel_rfl, by kernel_rfl, by kernel_rfl, by decide⟩ rfl (by decide +kernel) (by decide +kernel) (by decide +kernel) (fun _ _ _ h => h) (Or.inl ⟨by rfl, ?h3_0⟩) HSb.out ?r3_0
            case h3_0 =>
             intro W hW
             have t0 := hW.cell q0 (by simp)
             have t1 := hW.cell q1 (by simp)
             go_simp
             with_reducible rfl
            go_frame
            refine late_take (i := 4) (v := ?v4_0) ⟨by kernel_rfl, by kernel_rfl, by kernel_rfl, by decide⟩ rfl (by decide +kernel) (by decide +kernel) (by decide +kernel) (fun _ _ _ h => h) (Or.inl ⟨by rfl, ?h4_0⟩) HSb.out ?r4_0
            case h4_0 =>
             intro W hW
             have t0 := hW.cell q0 (by simp)
             have t1 := hW.cell q1 (by simp)
             go_simp
             with_reducible rfl
            go_frame
            refine late_take (i := 5) (v := ?v5_0) ⟨by kernel_rfl, by kernel_rfl, by kernel_rfl, by decide⟩ rfl (by decide +kernel) (by decide +kernel) (by decide +kernel) (fun _ _ _ h => h) (Or.inl ⟨by rfl, ?h5_0⟩) HSb.out ?r5_0
            case h5_0 =>
             intro W hW
             have t0 := hW.cell q0 (by simp)
             have t1 := hW.cell q1 (by simp)
             go_simp
             with_reducible rfl
            go_frame
            refine late_take (i := 6) (v := ?v6_0) ⟨by kernel_rfl, by kernel_rfl, by kernel_rfl, by decide⟩ rfl (by decide +kernel) (by decide +kernel) (by decide +kernel) (fun _ _ _ h => h) (Or.inl ⟨by rfl, ?h6_0⟩) HSb.out ?r6_0
            case h6_0 =>
             intro W hW
             have t0 := hW.cell q0 (by simp)
             have t1 := hW.cell q1 (by simp)
             go_simp
             with_reducible rfl
            go_frame
            refine late_done (by decide +kernel) ?_
            simp only [List.drop_succ_cons, List.drop_zero]
            go_wp2
            go_roundw
            case rel =>
             have hdt : divT (g : Int) (ts.take (j + 1)) = divT (g : Int) (ts.take j) ++ [(n, z / (g : Int))] := by rw [HTj.out]; simp [divT]
             refine ⟨j + 1, by omega, by go_num, ?_, HG4.out⟩
             show TabW _ _ _ _
             rw [hdt]
             exact HT4.out
            case measure => simp [intOf]; omega
          · obtain rfl : j = ts.length := by omega
            have hTb := HTb.out
            rw [List.take_length] at hTb
            have HTb2 := uH hTb
            have HT3 := uH (HTq.out.kept HR.out (by simp))
            have HW3 := uH (HWq.out.kept HR.out)
            have hX0 : polyX (c / (g : Int)) (divT (g : Int) ts) ByteArray.empty = c / (g : Int) := if_pos rfl
            have hszw : wq.heap.size ≤ wr.heap.size := HR.out.size
            clear hTb HTb
            go_wp2_with (first
             | (go_at_call 67; go_must (refine (HTb2.out.form (by omega)).mono ?_; rintro e w5 ⟨us5, p5, cap5, rfl, hf, hrow, hul, hg5⟩; rw [hX0] at hf ⊢; have HE5 := uH (Prod.mk.inj (formX_eq hf (self_formX (c := c / (g : Int)) HOk.out.ups (fun t ht => ⟨HOk.out.ne t ht, (HOk.out.term t ht).2.1⟩)) (fun _ _ => rfl))).2; have HRw5 := uH hrow; have HG5 := uH hg5; have HT5 := uH (HT3.out.kept hg5 (by simp)); have HW5 := uH (HW3.out.kept hg5); have hsz5 := hg5.size; clear hf hrow hg5))
             | (at_builtin; go_must (refine wpList_append_lies _ rfl _ _ 27 rfl (w.heap.size + 2) 35 i0 (.agg #[.int .i64 0, .slice none 0 0]) 2 32 Tryz.underlying27 hi0 hz0 hz1 hz2 rfl (by decide) _ us.length ((us.zip tvs).flatMap condCells) rfl (World.ownsRow.alloc HW5.out.row _) ⟨w5.heap.size, 0, none⟩ 1 1 (condCells ((c / (g : Int), us5), .slice p5 us5.length cap5)) rfl rfl news_at (by simp [condCells, Value.oneCell']) (by decide) (by unfold maxLen; omega) (by omega) (by simp; omega) (w5.heap.size + 1) (by simp) ?_; intro g' ncap w6 hown6 hgrow6 hat _; have G6 := uH hgrow6; have O6 := uH hown6; have A6 := uH hat; clear hown6 hgrow6 hat)))
            have hp := CW.push (f := (c / (g : Int), us5)) HW5.out (gR w5 none) ⟨by simp only; omega, by simp only; omega⟩ (fun w2 h2 => terms_after HRw5.out h2 (fun k hk => (HW3.out.row.lt k hk).2) (show us5.length ≤ 1000000 by omega) (by rw [HE5.out]; exact HOk.out.good)) G6.out O6.out (by rcases A6.out with h | h; exact .inl h; exact .inr (by omega))
            go_roundw
            case rel => exact ⟨k + 1, _, us ++ [(c / (g : Int), us5)], tvs ++ [.slice p5 us5.length cap5], by omega, by go_num, rfl, by simp; omega, by show _ = _; rw [HTk.out, List.filterMap_append, List.filterMap_cons, HY.out, List.filterMap_nil, HU.out, HE5.out], uH (HT5.out.kept (gT (gA _ _ _) G6.out) (fun k hk => (HW5.out.row.lt k hk).1)), uH hp⟩
            case measure => simp [intOf]; omega
  · obtain rfl : k = S.2.length := by omega
    have hu := HU.out
    rw [List.take_length] at hu
    have HU2 : Hid (us = S.2.filterMap tightF) := hu
    clear hu HU
    obtain ⟨pl, lcap, rfl⟩ := own_form HW.out.row
    have HOks : Hid (∀ d ∈ us, OkForm d) := fun d hd => by
     rw [HU2.out] at hd
     obtain ⟨f, hf, e⟩ := List.mem_filterMap.1 hd
     exact tightF_ok (HF.out f hf) e
    have HPl : Hid (Plain us) := fun f hf t ht => ((HOks.out f hf).term t ht).1
    have HCs : Hid (CondsAt wr (.slice pl us.length lcap) us) := HW.out.conds (by omega)
    have hsz := HT.out.size
    obtain ⟨pl', lcap', hpe, _, hcs⟩ := HCs.out
    obtain ⟨rfl, _, rfl⟩ := Value.slice.inj hpe
    have HCd := uH hcs
    have HP4 := uH (HP.out.kept HT.out.grown)
    have hmm := @run_makeMap Tryz.prog
    clear hpe hcs HW
    generalize wr = w4 at *
    go_wp2_with fail
    clear hmm
    go_loopw [80] (fun i wr => ∃ (k : Nat) (D : Table), k ≤ us.length ∧ i = .int .i64 k ∧ Hid (MapAt wr w4.heap.size k D) ∧ Hid (LeastT (us.take k) D) ∧ Hid (w4.grownBy wr none)) (fun i _ => us.length - (intOf i).toNat)
    case atStart => exact ⟨0, _, Nat.zero_le _, rfl, World.ownsMap_made (H := Unit) w4 Tryz.prog 9 (plainElem Tryz.prog 3), LeastT.start, gA _ _ _⟩
    case round =>
     obtain ⟨k, D, hk, rfl, HM, HL, HG⟩ := hrel
     by_cases hlt : k < us.length
     · have h0 := List.getElem?_eq_getElem hlt
       obtain ⟨b, off, tv, rfl, a1, a2, hta, hb1, hb2⟩ := HCd.out k _ h0
       have c1 := HG.out.cell a1 (by simp)
       have c2 := HG.out.cell a2 (by simp)
       have HOk := uH (HOks.out _ (List.getElem_mem hlt))
       have HTk := uH (List.take_succ_eq_append_getElem hlt)
       generalize us[k] = f at *
       obtain ⟨c, ts⟩ := f
       simp only at c1 c2 hta hb1 hb2
       obtain ⟨pt, tcap, rfl, _, _⟩ := id hta
       have HTa := uH hta
       have hts8 : ts.length ≤ 800 := HOk.out.len
       have hI1 : (k : Int) < (us.length : Int) := by omega
       have HPk : Hid (Plain (us.take k)) := fun q hq => HPl.out q (List.mem_of_mem_take hq)
       have HPt : Hid (∀ t ∈ ts, plainN t.1) := fun t ht => (HOk.out.term t ht).1
       clear h0 a1 a2 hta
       go_upto_region 26 with fail
       have HGa := uH (gA wr (.cells #[.int .i64 c, .slice pt ts.length tcap] 35) none)
       have HBx := uH (heap_alloc_new wr (.cells #[.int .i64 c, .slice pt ts.length tcap] 35))
       generalize wr.alloc (.cells #[.int .i64 c, .slice pt ts.length tcap] 35) = wf at *
       obtain ⟨y0, y1, _⟩ := cO HBx.out
       have HMf : Hid (MapAt wf w4.heap.size k D) := World.ownsMap.kept HM.out HGa.out (by simp)
       have HGf := uH (gT HG.out HGa.out)
       have hszf : wr.heap.size < wf.heap.size := (Array.getElem?_eq_some_iff.1 HBx.out).1
       have hsz4 : w4.heap.size < wr.heap.size := World.ownsMap.lt HM.out
       clear c1 c2
       have HTb : Hid (∀ t ∈ ts, t.1.size ≤ 100 ∧ t.2.natAbs ≤ 1000000000) := fun t ht => ⟨(HOk.out.term t ht).2.2.1, (HOk.out.term t ht).2.2.2⟩
       have HKs : Hid ((kw ts).size ≤ maxLen) := kw_size (by omega) HTb.out
       have HKey : Hid (∀ W : World, w4.grownBy W none → Calls Tryz.prog 68 #[.agg #[.int .i64 c, .slice pt ts.length tcap]] W (Gives (.string (kw ts)) W)) := fun W hW => key_any c ts (.slice pt ts.length tcap) W (HP4.out.kept hW) (HTa.out.kept hW) (by omega) HTb.out
       have HHas := uH (HL.out.has_in HPk.out (d := (c, ts)) HPt.out)
       by_cases hk2 : ts ∈ keysIn (us.take k)
       · have HAt := uH (HL.out.at_in (d := (c, ts)) hk2)
         by_cases hc3 : c < leastK (us.take k) ts
         · have HUp : Hid (ts ∉ keysIn (us.take k) ∨ c < leastK (us.take k) ts) := Or.inr hc3
           go_upto_region 28 with (first
           | (go_at_call 68; go_must (refine (HKey.out _ HGf.out).mono ?_; rintro e wk ⟨rfl, hgk⟩; have HGk := uH (gT HGf.out hgk); have HMk : Hid (MapAt wk w4.heap.size k D) := World.ownsMap.kept HMf.out hgk (by simp); have u0 := hgk.cell y0 (by simp); have u1 := hgk.cell y1 (by simp); have hszk := hgk.size; clear hgk))
           | (at_lookup; go_must (refine wpList_lookup_own_ok_int _ rfl _ _ 109 rfl 9 3 .i64 Tryz.lawStr Tryz.underlying109 Tryz.underlying3 (Tryz.zeroInt _) w4.heap.size k D rfl HMk.out _ _ rfl (key_str HKs.out) ?_; intro c' hat hwc; rw [HHas.out, decide_eq_true hk2]; obtain rfl : c' = leastK (us.take k) ts := lit64_inj (hat.symm.trans HAt.out); clear hwc)))
           have HSk : Hid (wk.grownBy wk.drew none) := gD _ _
           refine region_late (n := 5) (S := fun W => wk.grownBy W none) (by kernel_rfl) ⟨by kernel_rfl, by kernel_rfl, by kernel_rfl, by decide⟩ ?_
           refine late_take (i := 0) (v := ?v0_1) ⟨by kernel_rfl, by kernel_rfl, by kernel_rfl, by decide⟩ rfl (by decide +kernel) (by decide +kernel) (by decide +kernel) (fun _ _ _ h => h) (Or.inl ⟨by rfl, ?h0_1⟩) HSk.out ?r0_1
           case h0_1 =>
            intro W hW
            have t0 := hW.cell u0 (by simp)
            have t1 := hW.cell u1 (by simp)
            go_simp
            with_reducible rfl
           go_frame
           refine late_take (i := 1) (v := ?v1_1) ⟨by kernel_rfl, by kernel_rfl, by kernel_rfl, by decide⟩ rfl (by decide +kernel) (by decide +kernel) (by decide +kernel) (fun _ _ _ h => h) (Or.inl ⟨by rfl, ?h1_1⟩) HSk.out ?r1_1
           case h1_1 =>
            intro W hW
            have t0 := hW.cell u0 (by simp)
            have t1 := hW.cell u1 (by simp)
            go_simp
            with_reducible rfl
           go_frame
           refine late_take (i := 3) (v := ?v3_1) ⟨by kernel_rfl, by kernel_rfl, by kernel_rfl, by decide⟩ rfl (by decide +kernel) (by decide +kernel) (by decide +kernel) (fun _ _ _ h => h) (Or.inl ⟨by rfl, ?h3_1⟩) HSk.out ?r3_1
           case h3_1 =>
            intro W hW
            have t0 := hW.cell u0 (by simp)
            have t1 := hW.cell u1 (by simp)
            go_simp
            with_reducible rfl
           go_frame
           refine late_take (i := 4) (v := ?v4_1) ⟨by kernel_rfl, by kernel_rfl, by kernel_rfl, by decide⟩ rfl (by decide +kernel) (by decide +kernel) (by decide +kernel) (fun _ _ _ h => h) (Or.inl ⟨by rfl, ?h4_1⟩) HSk.out ?r4_1
           case h4_1 =>
            intro W hW
            have t0 := hW.cell u0 (by simp)
            have t1 := hW.cell u1 (by simp)
            go_simp
            with_reducible rfl
           go_frame
           refine late_one (i := 2) rfl (by kernel_rfl) (by kernel_rfl) (fun K hK => ?_)
           have HK := uH hK
           clear hK
           refine op_enter (by rfl) 68 #[.agg #[.int .i64 c, .slice pt ts.length tcap]] (by kernel_rfl) ((HKey.out _ (gT HGk.out HSk.out)).mono ?_)
           rintro e wl ⟨rfl, hgl⟩
           have HSl := uH (gT HSk.out hgl)
           refine ⟨_, rfl, HK.out _ _ HSl.out ?_⟩
           clear HK hgl
           have HMl : Hid (MapAt wl w4.heap.size k D) := World.ownsMap.kept HMk.out HSl.out (by simp)
           obtain ⟨W9, hr9, hm9, hg9⟩ := World.ownsMap.update HMl.out Tryz.lawStr Tryz.underlying109 (show k < maxLen by unfold maxLen; omega) (key_str HKs.out) (plainElem_int Tryz.underlying3 (wf64 hb1 hb2))
           have HM9 := uH hm9
           have HG9 := uH (gO (gT HGk.out HSl.out) hg9 (fun k hk => by cases hk; exact Nat.le_refl _))
           clear hm9 hg9
           go_frame
           refine late_done (by decide +kernel) ?_
           simp only [List.drop_succ_cons, List.drop_zero]
           go_wp2
           go_roundw
           case rel => exact ⟨k + 1, _, by omega, by go_num, HM9.out, by show LeastT _ _; rw [HTk.out]; exact HL.out.put HPk.out (d := (c, ts)) HPt.out HUp.out, HG9.out⟩
           case measure => simp [intOf]; omega
         · have HSt := uH hc3
           go_wp2_with (first
           | (go_at_call 68; go_must (refine (HKey.out _ HGf.out).mono ?_; rintro e wk ⟨rfl, hgk⟩; have HGk := uH (gT HGf.out hgk); have HMk : Hid (MapAt wk w4.heap.size k D) := World.ownsMap.kept HMf.out hgk (by simp); have u0 := hgk.cell y0 (by simp); have u1 := hgk.cell y1 (by simp); have hszk := hgk.size; clear hgk))
           | (at_lookup; go_must (refine wpList_lookup_own_ok_int _ rfl _ _ 109 rfl 9 3 .i64 Tryz.lawStr Tryz.underlying109 Tryz.underlying3 (Tryz.zeroInt _) w4.heap.size k D rfl HMk.out _ _ rfl (key_str HKs.out) ?_; intro c' hat hwc; rw [HHas.out, decide_eq_true hk2]; obtain rfl : c' = leastK (us.take k) ts := lit64_inj (hat.symm.trans HAt.out); clear hwc)))
           go_roundw
           case rel => exact ⟨k + 1, D, by omega, by go_num, World.ownsMap.mono HMk.out (by omega), by show LeastT _ _; rw [HTk.out]; exact HL.out.stay (d := (c, ts)) hk2 (by have h := HSt.out; show ¬ c < leastK (us.take k) ts; omega), HGk.out⟩
           case measure => simp [intOf]; omega
       · have HUp : Hid (ts ∉ keysIn (us.take k) ∨ c < leastK (us.take k) ts) := Or.inl hk2
         go_upto_region 28 with (first
          | (go_at_call 68; go_must (refine (HKey.out _ HGf.out).mono ?_; rintro e wk ⟨rfl, hgk⟩; have HGk := uH (gT HGf.out hgk); have HMk : Hid (MapAt wk w4.heap.size k D) := World.ownsMap.kept HMf.out hgk (by simp); have u0 := hgk.cell y0 (by simp); have u1 := hgk.cell y1 (by simp); have hszk := hgk.size; clear hgk))
          | (at_lookup; go_must (refine wpList_lookup_own_ok_int _ rfl _ _ 109 rfl 9 3 .i64 Tryz.lawStr Tryz.underlying109 Tryz.underlying3 (Tryz.zeroInt _) w4.heap.size k D rfl HMk.out _ _ rfl (key_str HKs.out) ?_; intro c' hat hwc; rw [HHas.out, decide_eq_false hk2]; clear hat; clear hwc)))
         have HSk : Hid (wk.grownBy wk.drew none) := gD _ _
         refine region_late (n := 5) (S := fun W => wk.grownBy W none) (by kernel_rfl) ⟨by kernel_rfl, by kernel_rfl, by kernel_rfl, by decide⟩ ?_
         refine late_take (i := 0) (v := ?v0_2) ⟨by kernel_rfl, by kernel_rfl, by kernel_rfl, by decide⟩ rfl (by decide +kernel) (by decide +kernel) (by decide +kernel) (fun _ _ _ h => h) (Or.inl ⟨by rfl, ?h0_2⟩) HSk.out ?r0_2
         case h0_2 =>
          intro W hW
          have t0 := hW.cell u0 (by simp)
          have t1 := hW.cell u1 (by simp)
          go_simp
          with_reducible rfl
         go_frame
         refine late_take (i := 1) (v := ?v1_2) ⟨by kernel_rfl, by kernel_rfl, by kernel_rfl, by decide⟩ rfl (by decide +kernel) (by decide +kernel) (by decide +kernel) (fun _ _ _ h => h) (Or.inl ⟨by rfl, ?h1_2⟩) HSk.out ?r1_2
         case h1_2 =>
          intro W hW
          have t0 := hW.cell u0 (by simp)
          have t1 := hW.cell u1 (by simp)
          go_simp
          with_reducible rfl
         go_frame
         refine late_take (i := 3) (v := ?v3_2) ⟨by kernel_rfl, by kernel_rfl, by kernel_rfl, by decide⟩ rfl (by decide +kernel) (by decide +kernel) (by decide +kernel) (fun _ _ _ h => h) (Or.inl ⟨by rfl, ?h3_2⟩) HSk.out ?r3_2
         case h3_2 =>
          intro W hW
          have t0 := hW.cell u0 (by simp)
          have t1 := hW.cell u1 (by simp)
          go_simp
          with_reducible rfl
         go_frame
         refine late_take (i := 4) (v := ?v4_2) ⟨by kernel_rfl, by kernel_rfl, by kernel_rfl, by decide⟩ rfl (by decide +kernel) (by decide +kernel) (by decide +kernel) (fun _ _ _ h => h) (Or.inl ⟨by rfl, ?h4_2⟩) HSk.out ?r4_2
         case h4_2 =>
          intro W hW
          have t0 := hW.cell u0 (by simp)
          have t1 := hW.cell u1 (by simp)
          go_simp
          with_reducible rfl
         go_frame
         refine late_one (i := 2) rfl (by kernel_rfl) (by kernel_rfl) (fun K hK => ?_)
         have HK := uH hK
         clear hK
         refine op_enter (by rfl) 68 #[.agg #[.int .i64 c, .slice pt ts.length tcap]] (by kernel_rfl) ((HKey.out _ (gT HGk.out HSk.out)).mono ?_)
         rintro e wl ⟨rfl, hgl⟩
         have HSl := uH (gT HSk.out hgl)
         refine ⟨_, rfl, HK.out _ _ HSl.out ?_⟩
         clear HK hgl
         have HMl : Hid (MapAt wl w4.heap.size k D) := World.ownsMap.kept HMk.out HSl.out (by simp)
         obtain ⟨W9, hr9, hm9, hg9⟩ := World.ownsMap.update HMl.out Tryz.lawStr Tryz.underlying109 (show k < maxLen by unfold maxLen; omega) (key_str HKs.out) (plainElem_int Tryz.underlying3 (wf64 hb1 hb2))
         have HM9 := uH hm9
         have HG9 := uH (gO (gT HGk.out HSl.out) hg9 (fun k hk => by cases hk; exact Nat.le_refl _))
         clear hm9 hg9
         go_frame
         refine late_done (by decide +kernel) ?_
         simp only [List.drop_succ_cons, List.drop_zero]
         go_wp2
         go_roundw
         case rel => exact ⟨k + 1, _, by omega, by go_num, HM9.out, by show LeastT _ _; rw [HTk.out]; exact HL.out.put HPk.out (d := (c, ts)) HPt.out HUp.out, HG9.out⟩
         case measure => simp [intOf]; omega
     · obtain rfl : k = us.length := by omega
       have hL := HL.out
       rw [List.take_length] at hL
       have HL2 := uH hL
       have HT5 := uH (HT.out.kept HG.out (by simp))
       obtain ⟨x0, x1, _⟩ := cO HT5.out.b0
       have hmm := @run_makeMap Tryz.prog
       have hsz4 : w4.heap.size < wr.heap.size := World.ownsMap.lt HM.out
       clear hL HL
       go_wp2_with (first
        | (go_at_call 69; go_must (refine (cloneSides_any _ S.1 _ (HS.out.1.kept HT5.out.grown) hl).mono ?_; rintro e w6 ⟨q6, cap6, rfl, hrow6, hg6⟩; have HSd : Hid (SidesAt w6 (.slice q6 S.1.length cap6) S.1) := sides_of_owns hrow6 (by omega) HGs.out; have HG46 := uH (gT HG.out hg6); have HM6 : Hid (MapAt w6 w4.heap.size us.length D) := World.ownsMap.kept HM.out hg6 (by simp); have HT6 := uH (HT5.out.kept hg6 (by simp)); have hsz6 := hg6.size; clear hrow6 hg6)))
       clear hmm
       go_loopw [112] (fun i wr => ∃ (k : Nat) (pv : Value) (tvs2 : List Value) (D2 : Table), k ≤ us.length ∧ i = .int .i64 k ∧ Hid (OutSt w6 wr (.slice q6 S.1.length cap6) pv (outT us (us.take k)) tvs2) ∧ Hid (BoolAt wr (w6.heap.size + 1) k D2) ∧ Hid (DoneT (us.take k) D2)) (fun i _ => us.length - (intOf i).toNat)
       case atStart => exact ⟨0, _, [], _, Nat.zero_le _, rfl, OutSt.start _ _, BoolAt.start _ _, DoneT.start⟩
       case round =>
        obtain ⟨k, pv, tvs2, D2, hk, rfl, HO, HB, HD⟩ := hrel
        by_cases hlt : k < us.length
        · have h0 := List.getElem?_eq_getElem hlt
          obtain ⟨b, off, tv, rfl, a1, a2, hta, hb1, hb2⟩ := HCd.out k _ h0
          have c1 := (gT HG46.out HO.out.grown).cell a1 (by simp)
          have c2 := (gT HG46.out HO.out.grown).cell a2 (by simp)
          have HOk := uH (HOks.out _ (List.getElem_mem hlt))
          have HTk := uH (List.take_succ_eq_append_getElem hlt)
          have HIn := uH (List.getElem_mem hlt)
          generalize us[k] = f at *
          obtain ⟨c, ts⟩ := f
          simp only at c1 c2 hta hb1 hb2
          obtain ⟨pt, tcap, rfl, _, _⟩ := id hta
          have HTa := uH hta
          have hts8 : ts.length ≤ 800 := HOk.out.len
          have hI1 : (k : Int) < (us.length : Int) := by omega
          have HPk : Hid (Plain (us.take k)) := fun q hq => HPl.out q (List.mem_of_mem_take hq)
          have HPt : Hid (∀ t ∈ ts, plainN t.1) := fun t ht => (HOk.out.term t ht).1
          have hfar := HO.out.far
          clear h0 a1 a2 hta
          go_upto_region 35 with fail
          have HGa := uH (gA wr (.cells #[.int .i64 c, .slice pt ts.length tcap] 35) none)
          have HBx := uH (heap_alloc_new wr (.cells #[.int .i64 c, .slice pt ts.length tcap] 35))
          generalize wr.alloc (.cells #[.int .i64 c, .slice pt ts.length tcap] 35) = wf at *
          obtain ⟨y0, y1, _⟩ := cO HBx.out
          have HOf := uH (HO.out.kept HGa.out (fun k hk => by cases hk))
          have HGf := uH (gT HG46.out HOf.out.grown)
          have HBf : Hid (BoolAt wf (w6.heap.size + 1) k D2) := World.ownsMap.kept HB.out HGa.out (by simp)
          have HTb : Hid (∀ t ∈ ts, t.1.size ≤ 100 ∧ t.2.natAbs ≤ 1000000000) := fun t ht => ⟨(HOk.out.term t ht).2.2.1, (HOk.out.term t ht).2.2.2⟩
          have HKs : Hid ((kw ts).size ≤ maxLen) := kw_size (by omega) HTb.out
          have HKey : Hid (∀ W : World, w4.grownBy W none → Calls Tryz.prog 68 #[.agg #[.int .i64 c, .slice pt ts.length tcap]] W (Gives (.string (kw ts)) W)) := fun W hW => key_any c ts (.slice pt ts.length tcap) W (HP4.out.kept hW) (HTa.out.kept hW) (by omega) HTb.out
          clear c1 c2
          by_cases hk2 : ts ∈ keysIn (us.take k)
          · go_wp2_with (go_at_call 68; go_must (refine (HKey.out _ HGf.out).mono ?_; rintro e wk ⟨rfl, hgk⟩; have HOk2 := uH (HOf.out.kept hgk (fun k hk => by cases hk)); have HBk : Hid (BoolAt wk (w6.heap.size + 1) k D2) := World.ownsMap.kept HBf.out hgk (by simp); have hlook := HBk.out.look HD.out HPk.out HPt.out HKs.out; rw [decide_eq_true hk2] at hlook; clear hgk))
            go_roundw
            case rel =>
             refine ⟨k + 1, pv, tvs2, D2, by omega, by go_num, ?_, World.ownsMap.mono HBk.out (by omega), ?_⟩
             · show OutSt _ _ _ _ _ _
               rw [HTk.out, outT_old (d := (c, ts)) hk2]
               exact HOk2.out
             · show DoneT _ _
               rw [HTk.out]
               exact HD.out.stay (d := (c, ts)) hk2
            case measure => simp [intOf]; omega
          · go_upto_region 39 with (go_at_call 68; go_must (refine (HKey.out _ HGf.out).mono ?_; rintro e wk ⟨rfl, hgk⟩; have HOk2 := uH (HOf.out.kept hgk (fun k hk => by cases hk)); have HBk : Hid (BoolAt wk (w6.heap.size + 1) k D2) := World.ownsMap.kept HBf.out hgk (by simp); have hlook := HBk.out.look HD.out HPk.out HPt.out HKs.out; rw [decide_eq_false hk2] at hlook; obtain ⟨W7, hr7, hb7, hg7⟩ := HBk.out.enter (show k < maxLen by unfold maxLen; omega) HKs.out; have hob7 : ∀ q, pv.ownBlock = some q → w6.heap.size + 2 ≤ q := (fun q hq => (HOk2.out.row.lt q hq).1); have HO7 := uH (HOk2.out.kept hg7 (fun q hq => by cases hq; exact ⟨by omega, fun e => by have := hob7 _ e; omega⟩)); have hM7 : MapAt W7 w4.heap.size us.length D := World.ownsMap.kept HM6.out HO7.out.grown (by simp); have hlk7 := LeastT.look hM7 HL2.out HIn.out HKs.out; simp only at hlk7; have hx7 := kH (kH HBx.out hgk (by simp)) hg7 (by simp; omega); have HX7 := uH hx7; obtain ⟨v0, v1, vf⟩ := cO hx7; have HB7 := uH hb7; clear hgk hb7 hg7 hM7 hx7))
            have hpo : ∀ q, pv.ownBlock = some q → q < wr.heap.size := fun q hq => (HO.out.row.lt q hq).2
            have HOw := uH (HO7.out.kept (gS W7 wr.heap.size 0 (.int .i64 (leastK us ts))) (fun q hq => by cases hq; exact ⟨by omega, fun e => by have := hpo _ e; omega⟩))
            have HBw : Hid (BoolAt (W7.setCell ⟨wr.heap.size, 0, none⟩ (.int .i64 (leastK us ts))) (w6.heap.size + 1) (k + 1) (D2.put (strL (kw ts)) (.lit (.bool true)))) := World.ownsMap.kept HB7.out (gS W7 wr.heap.size 0 _) (by simp; omega)
            have hx8 : (W7.setCell ⟨wr.heap.size, 0, none⟩ (.int .i64 (leastK us ts))).heap[wr.heap.size]? = some (.cells #[.int .i64 (leastK us ts), .slice pt ts.length tcap] 35 (0, 0)) := by
             show (W7.heap.modify wr.heap.size _)[wr.heap.size]? = _
             rw [Array.getElem?_modify, if_pos rfl, HX7.out]
             simp
            have HLk : Hid (-9223372036854775808 ≤ leastK us ts ∧ leastK us ts ≤ 9223372036854775807) := leastK_mem (P := fun x => -9223372036854775808 ≤ x ∧ x ≤ 9223372036854775807) (fun a b h1 h2 => by omega) (fun d hd => by have := (HOks.out d hd).num; omega) HIn.out
            have HOut := uH (outT_new (L := us) (us := us.take k) (d := (c, ts)) hk2)
            have hfl : (outT us (us.take k)).length ≤ k := by
             have := keysIn_len (us.take k)
             simp [outT]
             simp at this
             omega
            simp only at HOut
            have HT6' := HTa.out.kept HG46.out
            have HTa6 := uH HT6'
            clear v0 v1 vf HT6' hk2
            generalize leastK us ts = m at *
            generalize outT us (us.take k) = fs at *
            generalize W7.setCell ⟨wr.heap.size, 0, none⟩ (.int .i64 m) = W8 at *
            obtain ⟨v0, v1, _⟩ := cO hx8
            obtain ⟨m0, m1, mf⟩ := cO HOw.out.box
            obtain ⟨p3, cap3, rfl⟩ := own_form HOw.out.row
            have hfar8 := HOw.out.far
            clear hx8
            go_wp2_with (at_builtin; go_must (refine wpList_append_lies _ rfl _ _ 27 rfl (w6.heap.size + 2) 35 i0 (.agg #[.int .i64 0, .slice none 0 0]) 2 32 Tryz.underlying27 hi0 hz0 hz1 hz2 rfl (by decide) _ fs.length ((fs.zip tvs2).flatMap condCells) rfl (World.ownsRow.alloc HOw.out.row _) ⟨W8.heap.size, 0, none⟩ 1 1 (condCells ((m, ts), .slice pt ts.length tcap)) rfl rfl news_at (by simp [condCells, Value.oneCell']) (by decide) (by unfold maxLen; omega) (by omega) (by simp; omega) (W8.heap.size + 1) (by simp) ?_; intro g' ncap w9 hown9 hgrow9 hat _; have G9 := uH hgrow9; have O9 := uH hown9; have A9 := uH hat; have hb9 := kH HOw.out.box (gT (gA _ _ _) hgrow9) (fun e => by have := (HOw.out.row.lt _ e).1; omega); obtain ⟨n0, n1, nf⟩ := cO hb9; clear hown9 hgrow9 hat hb9))
            have hp := OutSt.push (f := (m, ts)) HOw.out ⟨HLk.out, HTa6.out⟩ G9.out O9.out
            have hbb : BoolAt (w9.setCell ⟨w6.heap.size, 1, none⟩ (.slice (some ⟨g', 0, none⟩) (fs.length + 1) ncap)) (w6.heap.size + 1) (k + 1) (D2.put (strL (kw ts)) (.lit (.bool true))) := World.ownsMap.kept (World.ownsMap.kept (World.ownsMap.alloc HBw.out _) G9.out (fun e => by have := (HOw.out.row.lt _ e.symm).1; omega)) (gS w9 w6.heap.size 1 _) (by simp)
            go_roundw
            case rel =>
             refine ⟨k + 1, .slice (some ⟨g', 0, none⟩) (fs.length + 1) ncap, tvs2 ++ [.slice pt ts.length tcap], _, by omega, by go_num, ?_, hbb, ?_⟩
             · show OutSt _ _ _ _ _ _
               rw [HTk.out, HOut.out]
               exact hp
             · show DoneT _ _
               rw [HTk.out]
               exact HD.out.put (c, ts)
            case measure => simp [intOf]; omega
        · obtain rfl : k = us.length := by omega
          have HCw : Hid (CondsAt wr pv (mergeAll (S.2.filterMap tightF))) := by
           have h := HO.out.cw.conds (by have := keysIn_len (us.take us.length); simp [outT]; simp at this; omega)
           rw [List.take_length, outT_all, HU2.out] at h
           exact h
          have HSw := uH (HSd.out.kept HO.out.grown)
          have HTw := uH (HT6.out.kept HO.out.grown (by simp))
          obtain ⟨p3, cap3, rfl⟩ := own_form HO.out.row
          obtain ⟨m0, m1, mf⟩ := cO HO.out.box
          obtain ⟨d0, d1, df⟩ := cO HTw.out.res
          generalize (outT us (us.take us.length)).length = nn at *
          go_wp2
          obtain ⟨f1, f2⟩ := two_set HTw.out.res (.slice q6 S.1.length cap6) (.slice p3 nn cap3)
          exact bodyPost_ret (results_cell_row rfl _ _ (w.heap.size + 1) _ _ _ _ rfl f1 Tryz.underlying29 rfl Tryz.infoSet2) rfl ⟨gO HTw.out.grown f2 (fun k hk => by cases hk; omega), _, _, rfl, SetAt.over (S := (S.1, mergeAll (S.2.filterMap tightF))) ⟨HSw.out, HCw.out⟩ (slBox_two HTw.out.res) f2⟩
end Go.Proofs.YtgeklmigfhhpfaaGreatDoor
