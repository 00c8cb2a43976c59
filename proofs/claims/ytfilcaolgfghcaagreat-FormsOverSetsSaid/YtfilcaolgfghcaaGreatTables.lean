/-
 slices.SortFunc at lists of numbers, by slices.Compare.
 tables: the lists of values of forms at the points of a set, by the reference.
-/
import Derived.Test.YtfilcaolgfghcaaGreatCompact
import Derived.Test.YtfilcaolgfghcaaGreatSortRow
import Derived.Test.YtfilcaolgfghcaaGreatCmp
import Derived.Shelf.SlSortCmp.NoneTotal
import Derived.Shelf.SlGeneric
import Derived.Ground.SlsfProg
import Derived.Test.YtfilcaolgfghcaaGreatLay
import Derived.Test.YtfilcaolgfghcaaGreatRangeIn
namespace Go.Proofs.YtfilcaolgfghcaaGreat
open Go.RowKit Go.Sort

def SortedRows (P g n cap : Nat) (L : List (List Int)) (w : World) (e : Ending) (w' : World) : Prop :=
  e = .returned (.tuple #[]) ∧ ∃ t us, t.Perm L ∧ Rising t ∧ w'.ownsRow P 22 1 (.slice (some ⟨g, 0, none⟩) n cap) n us ∧ RowsSt w' g us t ∧ w.grownBy w' (some g)

theorem grow_nothing (w : World) : grow (w.drewN 0) #[] = w := by
  show { w with heap := w.heap ++ #[], drawn := w.drawn + 0 } = w
  rw [Array.append_empty]
  rfl

theorem sortRows_any (P g n cap : Nat) (L : List (List Int)) (vs : List Value) (w : World) (hn : L.length = n) (hl : n ≤ 1000000) (h : w.ownsRow P 22 1 (.slice (some ⟨g, 0, none⟩) n cap) n vs) (hr : RowsSt w g vs L) :
    Calls Tryz.prog 48 #[.slice (some ⟨g, 0, none⟩) n cap, .func (.func 49) #[] #[]] w (SortedRows P g n cap L w) := by
  rcases Nat.eq_zero_or_pos n with rfl | hpos
  · have hcon := AnyF.slices_SortFunc_none { Tryz.sortRows with } (some ⟨g, 0, none⟩) cap (.func (.func 49) #[] #[]) w
    change Calls Tryz.prog 48 _ _ _ at hcon
    refine hcon.mono ?_
    rintro e w' ⟨rfl, rfl⟩
    have hL : L = [] := List.length_eq_zero_iff.1 hn
    subst hL
    exact ⟨rfl, [], vs, List.Perm.refl _, List.Pairwise.nil, h, hr, grownBy_refl _ _⟩
  · have : Inhabited (Fin n) := ⟨⟨0, hpos⟩⟩
    have hvl : vs.length = n := by rw [hr.1, hn]
    obtain ⟨_, _, _, hfz, cur, hb, hcs, _⟩ := own1_free h
    let enc : Fin n → Value := fun i => vs[i.1]'(by rw [hvl]; exact i.2)
    have henc : ∀ i : Fin n, vs[i.1]? = some (enc i) := fun i => List.getElem?_eq_getElem (by rw [hvl]; exact i.2)
    have hLi : ∀ i : Fin n, L[i.1]? = some (L.getD i.1 []) := fun i => by
      rw [List.getD_eq_getElem?_getD, List.getElem?_eq_getElem (by rw [hn]; exact i.2)]
      rfl
    have hone : ∀ i, (enc i).oneCell' = true := fun i => by
      obtain ⟨rv, r1, r2, _⟩ := hr.2 i.1 _ (hLi i)
      rw [henc i] at r1
      cases r1
      exact r2
    have hint : ∀ (i : Fin n) w', w.grownBy w' (some g) → IntsAt w' (enc i) (L.getD i.1 []) := fun i w' hg => by
      obtain ⟨rv, r1, _, r3⟩ := hr.2 i.1 _ (hLi i)
      rw [henc i] at r1
      cases r1
      exact r3 w' hg
    have hsz : (ixs n).size = n := ixs_size n
    have hget : ∀ j, (hj : j < n) → (ixs n)[j]! = ⟨j, hj⟩ := fun j hj => by
      rw [getElem!_pos _ j (by rw [hsz]; exact hj)]
      simp [ixs]
    have hH : Holds enc w g 0 (ixs n) := fun j hj => by
      rw [hsz] at hj
      rw [Nat.zero_add, hget j hj]
      exact ⟨own1_cell h (henc ⟨j, hj⟩), hfz j⟩
    have eg : ∀ args w, (callFunc 49 args).run Tryz.prog w = .ok (.enter 49 args) w := enters_of Tryz.func49 (by kernel_rfl) rfl
    have hcmp : CmpLays1 Tryz.prog 49 #[] enc (cmpIx L n) g 0 (ixs n).size w := fun m os dk hdk x y => by
      have hg := (put_row enc w g m dk os cur _ hb (by rw [hdk, hsz]; have := (own1_free h).1; omega)).2.2.2
      refine (compare_any _ _ _ _ _ (hint x _ hg) (hint y _ hg)).mono ?_
      rintro e w' ⟨rfl, rfl⟩
      exact ⟨rfl, 0, #[], (grow_nothing _).symm⟩
    have hcon := Any.slices_SortFunc Tryz.sortRows enc hone (cmpIx L n) (cmpIx_swo L n) 49 #[] g 0 cap (ixs n) w eg hcmp hH (Array.getElem?_eq_some_iff.1 hb).1 (by rw [hsz]; omega)
    change Calls Tryz.prog 48 _ _ _ at hcon
    rw [hsz] at hcon
    refine hcon.mono ?_
    rintro e w' ⟨rfl, d, m, os, p1, p2, rfl⟩
    have p1' : PermIn 0 (ixs n).size (ixs n) d := by rw [hsz]; exact p1
    have p2' : SortedIn (ltOf (cmpIx L n)) 0 (ixs n).size d := by rw [hsz]; exact p2
    obtain ⟨hd, t1, t2⟩ := table_sorted hn p1' p2'
    obtain ⟨s1, s2⟩ := sorted_own enc h m d os (by rw [hd, Nat.mul_one])
    refine ⟨rfl, tableOf L d, d.toList.map enc, t1, t2, s1, ⟨by simp [tableOf], fun j p hj => ?_⟩, s2⟩
    unfold tableOf at hj
    rw [List.getElem?_map, Option.map_eq_some_iff] at hj
    obtain ⟨i, hi, rfl⟩ := hj
    exact ⟨enc i, by rw [List.getElem?_map, hi]; rfl, hone i, fun w2 h2 => hint i w2 (grownBy_trans s2 h2)⟩

end Go.Proofs.YtfilcaolgfghcaaGreat

namespace Go.Proofs.YtfilcaolgfghcaaGreat
open Go.RowKit Go.Maps Go.WideMaps
attribute [local go_sem ↓] Go.wp_at_zero Go.wp_at_succ

theorem valF_bound {l : List SideD} {c : Int} {ts : List (ByteArray × Int)} {xs : List Int} (hf : formErr c ts = 0) (hx : near xs) : -20000000000 ≤ valF l (c, ts) xs ∧ valF l (c, ts) xs ≤ 20000000000 := by
  obtain ⟨⟨h1, h2⟩, h12, hts, _⟩ := form_good hf
  have hX := valIn_bound (l := varsOf l xs) (fun t ht => by
    obtain ⟨q, hq, rfl⟩ := List.mem_map.1 ht
    have := hx q.2 (List.of_mem_zip (a := q.1) (b := q.2) hq).2
    simp only
    omega)
  have hs := sum_bound (l := ts.map fun t => t.2 * valIn (varsOf l xs) t.1) (fun x hxm => by
    obtain ⟨t, ht, rfl⟩ := List.mem_map.1 hxm
    have ht2 := hts t ht
    have hb := hX t.1
    exact prod_bound (by omega) (by omega) hb.1 hb.2)
  rw [List.length_map] at hs
  unfold valF valueOf
  simp only
  omega

/-- The values of forms at a point. -/
def valsF (l : List SideD) (fl : List CondD) (xs : List Int) : List Int := fl.map fun f => valF l f xs

/-- A list of numbers more in a row of them. -/
theorem rows_push {w w1 w2 : World} {P : Nat} {ov rp : Value} {d : List (List Int)} {pt : List Int} {vs : List Value} {o : Obj} {g n : Nat} (h2 : w.ownsRow P 22 1 ov n vs) (h3 : RowsAre w P ov.ownBlock vs d)
    (k1 : w.grownBy w1 none) (hrv : w1.ownsRow P 3 1 rp pt.length (pt.map (Value.int .i64))) (hrn : ∀ b, rp.ownBlock = some b → w.heap.size ≤ b) (k2' : (w1.alloc o).grownBy w2 ov.ownBlock)
    (hg' : ov.ownBlock = some g ∨ g = w1.heap.size + 1) :
    RowsAre w2 P (some g) (vs ++ [rp]) (d ++ [pt]) := by
  have k2 : w1.grownBy w2 ov.ownBlock := grownBy_trans (World.grownBy_alloc _ _ _) k2'
  have hg : ov.ownBlock = some g ∨ w1.heap.size ≤ g := by rcases hg' with h | h; exact .inl h; exact .inr (by omega)
  have hob : ∀ k, ov.ownBlock = some k → P ≤ k ∧ k < w.heap.size := h2.lt
  have hk : ∀ (r : Value) (p : List Int), w1.ownsRow P 3 1 r p.length (p.map (Value.int .i64)) → (r.ownBlock = none ∨ r.ownBlock ≠ ov.ownBlock) → w2.ownsRow P 3 1 r p.length (p.map (Value.int .i64)) := fun r p hr hn => hr.kept k2 hn
  refine ⟨by simp [h3.1], fun j p hj => ?_⟩
  by_cases hj' : j < d.length
  · rw [List.getElem?_append_left hj'] at hj
    obtain ⟨r, r1, r2, r3⟩ := h3.2 j p hj
    refine ⟨r, by rw [List.getElem?_append_left (by rw [h3.1]; exact hj')]; exact r1, hk r p (owns_kept r2 k1) r3, ?_⟩
    cases hb : r.ownBlock with
    | none => exact .inl rfl
    | some b =>
      refine .inr fun e => ?_
      have e := Option.some.inj e
      rcases hg with hg | hg
      · rcases r3 with r3 | r3
        · rw [hb] at r3; cases r3
        · exact r3 (by rw [hb, hg, e])
      · have := (r2.lt b hb).2
        have := k1.size
        omega
  · have hj2 : j = d.length := by
      have := (List.getElem?_eq_some_iff.1 hj).1
      simp at this
      omega
    subst hj2
    simp at hj
    subst hj
    refine ⟨rp, by rw [← h3.1]; simp, hk rp pt hrv ?_, ?_⟩
    · cases hb : rp.ownBlock with
      | none => exact .inl rfl
      | some b =>
        refine .inr fun e => ?_
        have := hrn b hb
        have := hob b e.symm
        omega
    · cases hb : rp.ownBlock with
      | none => exact .inl rfl
      | some b =>
        refine .inr fun e => ?_
        have e := Option.some.inj e
        have h5 := hrn b hb
        have h6 := (hrv.lt b hb).2
        rcases hg with hg | hg
        · have := hob g hg
          omega
        · omega

theorem rowsSt_of {w : World} {P g : Nat} {vs : List Value} {L : List (List Int)} (h : RowsAre w P (some g) vs L) (hl : ∀ p ∈ L, p.length ≤ 1000) (hb : ∀ p ∈ L, ∀ x ∈ p, -9223372036854775808 ≤ x ∧ x ≤ 9223372036854775807) : RowsSt w g vs L :=
  ⟨h.1, fun j p hj => by
    obtain ⟨rv, h1, h2, h3⟩ := h.2 j p hj
    have hm := List.mem_of_getElem? hj
    obtain ⟨q, c, rfl⟩ := own_form h2
    exact ⟨_, h1, rfl, fun w' hg => ints_of_owns (h2.kept hg h3) (by have := hl p hm; omega) (hb p hm)⟩⟩

theorem rowsAt_of {w : World} {P g n cap : Nat} {us : List Value} {L : List (List Int)} (h : w.ownsRow P 22 1 (.slice (some ⟨g, 0, none⟩) n cap) n us) (hr : RowsSt w g us L) (hn : L.length = n) (hl : n ≤ 1000000) : RowsAt w (.slice (some ⟨g, 0, none⟩) n cap) L := by
  subst hn
  refine ⟨_, cap, rfl, hl, fun j pt hj => ?_⟩
  obtain ⟨rv, h1, _, h3⟩ := hr.2 j pt hj
  exact ⟨g, 0, rv, rfl, by rw [Nat.zero_add]; exact own1_cell h h1, h3 w (grownBy_refl _ _)⟩

set_option maxHeartbeats 400000 in
theorem compact_nil (w : World) : Calls Tryz.prog 87 #[.slice none 0 0, .func (.func 60) #[] #[]] w (Reads (.slice none 0 0) w) := by
  go_enter Tryz.func87, Tryz.ntmps87
  go_wp2
  go_ret
  exact ⟨rfl, rfl⟩

theorem sort_nil (w : World) : Calls Tryz.prog 48 #[.slice none 0 0, .func (.func 49) #[] #[]] w (Reads (.tuple #[]) w) := by
  have hcon := AnyF.slices_SortFunc_none { Tryz.sortRows with } none 0 (.func (.func 49) #[] #[]) w
  change Calls Tryz.prog 48 _ _ _ at hcon
  exact hcon

/-- A table: the lists, sorted, each once. -/
def TablePost (L : List (List Int)) (w : World) (e : Ending) (w' : World) : Prop :=
  ∃ v t, e = .returned v ∧ t.Perm L ∧ Rising t ∧ RowsAt w' v (compactL t) ∧ w.grownBy w' none

set_option maxRecDepth 100000 in
set_option maxHeartbeats 8000000 in
theorem tables_any (S : List SideD × List CondD) (fl : List CondD) (sv cv lv : Value) (w : World) (hS : SetAt w sv cv S) (hgood : setErr S = 0) (hl : CondsAt w lv fl) (hf : ∀ f ∈ fl, formErr f.1 f.2 = 0) (hf8 : fl.length ≤ 8) :
    Calls Tryz.prog 57 #[.agg #[sv, cv], lv] w (TablePost ((pointsFrom S [] S.1).map (valsF S.1 fl)) w) := by
  obtain ⟨⟨p, cap, rfl, hsl, _⟩, ⟨pc, ccap, rfl, hcl, _⟩⟩ := id hS
  obtain ⟨pf, fcap, rfl, hfl, hfc⟩ := hl
  have hpg := points_good S S.1 [] (fun s hs => (sides_good [] (set_good hgood).2.1 s hs).2) (fun x hx => by cases hx)
  have h8 := (set_good hgood).1
  have HSd := Lib.hid (set_good hgood).2.1
  have HPg := Lib.hid hpg
  have HS := Lib.hid hS
  have HFc := Lib.hid hfc
  have HE := Lib.hid hgood
  have HF := Lib.hid hf
  clear hS hfc hgood hf hpg
  have b0 : (w.alloc (.cells #[.slice p S.1.length cap, .slice pc S.2.length ccap] 29)).cell? ⟨w.heap.size, 0, none⟩ = some (.slice p S.1.length cap) := by simp
  have b1 : (w.alloc (.cells #[.slice p S.1.length cap, .slice pc S.2.length ccap] 29)).cell? ⟨w.heap.size, 1, none⟩ = some (.slice pc S.2.length ccap) := by simp
  have B0 := Lib.hid b0
  have B1 := Lib.hid b1
  obtain ⟨i0, hi, hz0, hz1, hz2⟩ := info_parts Tryz.infoInt
  obtain ⟨j0, hj0, hy0, hy1, hy2⟩ := info_parts Tryz.infoInts
  go_enter Tryz.func57, Tryz.ntmps57
  go_wp2_with (first
    | (go_at_call 53; go_must (refine (pointsIn_any S _ _ _ (HS.out.kept (World.grownBy_alloc _ _ _)) HE.out).mono ?_; rintro e w1 ⟨pv, rfl, hpv, hg1⟩; obtain ⟨pp, pcap, rfl, hpl, hpc⟩ := hpv; have HPc := Lib.hid hpc; have HG1 := Lib.hid (grownBy_trans (World.grownBy_alloc _ _ _) hg1); have HA0 := Lib.hid (hg1.cell B0.out (by simp)); have HA1 := Lib.hid (hg1.cell B1.out (by simp)); clear hpc hg1 b0 b1)))
  generalize hPS : pointsFrom S [] S.1 = PS at *
  clear hPS
  go_loopw [5, 14] (fun ov i wr => ∃ (k : Nat) (vs : List Value), k ≤ PS.length ∧ i = .int .i64 k ∧ Hid (w1.grownBy wr none) ∧ Hid (wr.ownsRow w1.heap.size 22 1 ov k vs) ∧ Hid (RowsAre wr w1.heap.size ov.ownBlock vs ((PS.take k).map (valsF S.1 fl)))) (fun _ i _ => PS.length - (intOf i).toNat)
  case atStart => exact ⟨0, [], Nat.zero_le _, rfl, grownBy_refl _ _, World.ownsRow_nil _ _ _ _, rfl, fun j pt hj => by simp at hj⟩
  case round =>
    obtain ⟨k, vs, hk, rfl, HG, HO, HR⟩ := hrel
    obtain ⟨po, ocap, rfl⟩ := own_form HO.out
    by_cases hlt : k < PS.length
    · have h0 := List.getElem?_eq_getElem hlt
      obtain ⟨b, off, rv, rfl, hcx, hix⟩ := HPc.out k _ h0
      have hcx' := World.grownBy.cell HG.out hcx (by simp)
      have hmem := HPg.out _ (List.getElem_mem hlt)
      have HX := Lib.hid (hix.kept HG.out)
      have HXl := Lib.hid (show PS[k].length = S.1.length by have := hmem.1; simpa using this)
      have HNr := Lib.hid hmem.2
      have HSt := Lib.hid (show (PS.take (k + 1)).map (valsF S.1 fl) = (PS.take k).map (valsF S.1 fl) ++ [valsF S.1 fl PS[k]] by rw [List.take_succ_eq_append_getElem hlt, List.map_append]; rfl)
      have HGw := Lib.hid (grownBy_trans HG1.out HG.out)
      have HQ0 := Lib.hid (HG.out.cell HA0.out (by simp))
      have HQ1 := Lib.hid (HG.out.cell HA1.out (by simp))
      have hs1 := HG.out.size
      generalize PS[k] = x at *
      clear h0 hcx hix hmem
      go_wp2
      generalize hwo : wr = wo at *
      go_loopw [8, 20] (fun rw i wr => ∃ j : Nat, j ≤ fl.length ∧ i = .int .i64 j ∧ Hid (wo.grownBy wr none) ∧ Hid (wr.ownsRow wo.heap.size 3 1 rw j (((fl.take j).map fun f => valF S.1 f x).map (Value.int .i64)))) (fun _ i _ => fl.length - (intOf i).toNat)
      case atStart => exact ⟨0, Nat.zero_le _, rfl, grownBy_refl _ _, World.ownsRow_nil _ _ _ _⟩
      case round =>
        obtain ⟨j, hj, rfl, HGj, HOj⟩ := hrel
        obtain ⟨pr, rcap, rfl⟩ := own_form HOj.out
        by_cases hltj : j < fl.length
        · have h0 := List.getElem?_eq_getElem hltj
          obtain ⟨bf, off2, tv, rfl, f3, f4, f5, f6, f7⟩ := (HFc.out j _ h0).kept (grownBy_trans HGw.out HGj.out)
          have HFe := Lib.hid (HF.out _ (List.getElem_mem hltj))
          have HSj := Lib.hid (show ((fl.take (j + 1)).map fun f => valF S.1 f x).map (Value.int .i64) = ((fl.take j).map fun f => valF S.1 f x).map (Value.int .i64) ++ [.int .i64 (valF S.1 ((fl[j]).1, (fl[j]).2) x)] by rw [List.take_succ_eq_append_getElem hltj, List.map_append, List.map_append]; rfl)
          obtain ⟨pt, tcap, rfl, htl, htc⟩ := id f5
          have HT := Lib.hid f5
          generalize hc : (fl[j]).1 = c at *
          generalize hts : (fl[j]).2 = ts at *
          have q0 := HGj.out.cell HQ0.out (by simp)
          have q1 := HGj.out.cell HQ1.out (by simp)
          have hsj := HGj.out.size
          clear h0 f5 htc hc hts
          have a0 := (World.grownBy_alloc wr (.cells #[.int .i64 c, .slice pt ts.length tcap] 33) none).cell q0 (by simp)
          have a1 := (World.grownBy_alloc wr (.cells #[.int .i64 c, .slice pt ts.length tcap] 33) none).cell q1 (by simp)
          have HTB : Hid (TwoBox (wr.alloc (.cells #[.int .i64 c, .slice pt ts.length tcap] 33)) w.heap.size wr.heap.size (.slice p S.1.length cap) (.slice pc S.2.length ccap) c (.slice pt ts.length tcap)) := ⟨a0, a1, by simp, by simp⟩
          have HG9 := Lib.hid (World.grownBy_alloc wr (.cells #[.int .i64 c, .slice pt ts.length tcap] 33) none)
          have HTt := Lib.hid (HT.out.kept HG9.out)
          have HSs := Lib.hid (HS.out.1.kept (grownBy_trans HGw.out (grownBy_trans HGj.out HG9.out)))
          have HXx := Lib.hid (HX.out.kept (grownBy_trans HGj.out HG9.out))
          have HOw := Lib.hid (World.ownsRow.alloc HOj.out (.cells #[.int .i64 c, .slice pt ts.length tcap] 33))
          go_wp2
          go_region_law (first
            | (go_simp; go_at_call 54; go_must (refine (poly_two (wr.alloc (.cells #[.int .i64 c, .slice pt ts.length tcap] 33)) _ w.heap.size wr.heap.size (.slice p S.1.length cap) (.slice pc S.2.length ccap) (.slice pt ts.length tcap) c ts (grown_d _ _) HTt.out HFe.out (HTB.out.kept (grown_d _ _))).mono ?_; rintro e w2 ⟨D, B, nB, rfl, HM, HP, HG2, HB1⟩; have g0 := HB1.out.a0; have g1 := HB1.out.a1; have g2 := HB1.out.f0; have g3 := HB1.out.f1))
            | (go_simp; go_at_call 56; go_must (refine (at_two (wr.alloc (.cells #[.int .i64 c, .slice pt ts.length tcap] 33)) w2 _ w.heap.size wr.heap.size (.slice p S.1.length cap) (.slice pc S.2.length ccap) rv (.slice pt ts.length tcap) c S.1 x HG2.out (grownBy_refl _ _) HSs.out HXx.out HSd.out HXl.out h8 HB1.out).mono ?_; rintro e w3 ⟨Dx, Bx, nx, rfl, HMx, HPx, HG23, HG3, HB2⟩; have k0 := HB2.out.a0; have k1 := HB2.out.a1; have k2 := HB2.out.f0; have k3 := HB2.out.f1))
            | (go_simp; go_at_call 55; go_must (refine (value_two (wr.alloc (.cells #[.int .i64 c, .slice pt ts.length tcap] 33)) w2 w3 _ w.heap.size wr.heap.size B nB Bx nx (.slice p S.1.length cap) (.slice pc S.2.length ccap) (.slice pt ts.length tcap) c ts S.1 x D Dx HFe.out HM.out HP.out HG23.out HMx.out HPx.out (grownBy_refl _ _) HNr.out HG3.out HB2.out).mono ?_; rintro e w4 ⟨rfl, HG4, HB3⟩; have hs4 := HG4.out.size))
            | (refine step_append_lies _ (by rfl) _ _ 22 (by rfl) wo.heap.size 3 i0 (.int .i64 0) 1 8 Tryz.underlying22 hi hz0 hz1 hz2 (by rfl) (by decide) (.slice pr j rcap) j (((fl.take j).map fun f => valF S.1 f x).map (Value.int .i64)) (by rfl) (World.ownsRow.alloc (owns_kept HOw.out HG4.out) _) ⟨w4.heap.size, 0, none⟩ 1 1 [.int .i64 (valF S.1 (c, ts) x)] (by rfl) (by rfl) news_at (by intro u hu; obtain rfl := List.mem_singleton.1 hu; rfl) (by decide) (by unfold maxLen; omega) (by omega) (by simp at hs4 ⊢; omega) (w4.heap.size + 1) (by simp) ?_; intro g' ncap w5 hown5 hgrow5 hat _; have O5 := Lib.hid hown5; have G5 := Lib.hid hgrow5; clear hown5 hgrow5 hat))
          all_goals
            go_wp2
            go_roundw
            case rel =>
              refine ⟨j + 1, by omega, by go_num, ?_, ?_⟩
              · exact grown_own (grownBy_trans HGj.out (grownBy_trans HG9.out (grownBy_trans HG4.out (World.grownBy_alloc _ _ _)))) G5.out (fun i hi => (HOj.out.lt i hi).1)
              · show World.ownsRow _ _ _ _ _ _ _
                rw [HSj.out]
                exact O5.out
            case measure => simp [intOf]; omega
        · obtain rfl : j = fl.length := by omega
          have HGr9 := HGj
          have hrow := HOj.out
          rw [List.take_length] at hrow
          have HOr := Lib.hid (show wr.ownsRow wo.heap.size 3 1 (.slice pr fl.length rcap) fl.length ((valsF S.1 fl x).map (Value.int .i64)) from hrow)
          clear hrow
          have HVl := Lib.hid (show (valsF S.1 fl x).length = fl.length by simp [valsF])
          have hsr := HGr9.out.size
          go_wp2_with (first
            | (at_builtin; go_must (refine wpList_append_lies _ rfl _ _ 48 rfl w1.heap.size 22 j0 (.slice none 0 0) 1 24 Tryz.underlying48 hj0 hy0 hy1 hy2 rfl (by decide) (.slice po k ocap) k vs rfl (World.ownsRow.alloc (owns_kept HO.out HGr9.out) _) ⟨wr.heap.size, 0, none⟩ 1 1 [.slice pr fl.length rcap] rfl rfl news_at (by intro u hu; obtain rfl := List.mem_singleton.1 hu; rfl) (by decide) (by unfold maxLen; omega) (by omega) (by simp; omega) (wr.heap.size + 1) (by simp) ?_; intro g ncap w5 hown5 hgrow5 hat _; have O5 := Lib.hid hown5; have G5 := Lib.hid hgrow5; have A5 := Lib.hid hat; clear hown5 hgrow5 hat)))
          go_roundw
          case rel =>
            refine ⟨k + 1, vs ++ [Value.slice pr fl.length rcap], by omega, by go_num, ?_, O5.out, ?_⟩
            · exact grown_own (grownBy_trans HG.out (grownBy_trans HGr9.out (World.grownBy_alloc _ _ _))) G5.out (fun i hi => (HO.out.lt i hi).1)
            · show RowsAre _ _ _ _ _
              rw [HSt.out]
              exact rows_push (w := wo) (w1 := wr) (pt := valsF S.1 fl x) HO.out HR.out HGr9.out (by rw [HVl.out]; exact owns_lower HOr.out (by omega)) (fun b hb => (HOr.out.lt b hb).1) G5.out (by rcases A5.out with h | h; exact .inl h; exact .inr (by omega))
          case measure => simp [intOf]; omega
    · obtain rfl : k = PS.length := by omega
      have hrow := HR.out
      rw [List.take_length] at hrow
      have HRr := Lib.hid hrow
      clear hrow HR
      have hlens : ∀ q ∈ PS.map (valsF S.1 fl), q.length ≤ 1000 := fun q hq => by
        obtain ⟨y, _, rfl⟩ := List.mem_map.1 hq
        simp [valsF]
        omega
      have hbnds : ∀ q ∈ PS.map (valsF S.1 fl), ∀ y ∈ q, -9223372036854775808 ≤ y ∧ y ≤ 9223372036854775807 := fun q hq y hy => by
        obtain ⟨z, hz, rfl⟩ := List.mem_map.1 hq
        obtain ⟨f, hff, rfl⟩ := List.mem_map.1 hy
        have h : -20000000000 ≤ valF S.1 f z ∧ valF S.1 f z ≤ 20000000000 := valF_bound (l := S.1) (c := f.1) (ts := f.2) (HF.out f hff) (HPg.out z hz).2
        omega
      have HLb := Lib.hid (And.intro hlens hbnds)
      clear hlens hbnds
      rcases HO.out.2 with ⟨hv, hz⟩ | ⟨g, ocap', cur, hv, _⟩
      · obtain ⟨rfl, _, rfl⟩ := Value.slice.inj hv
        have hp : PS = [] := List.length_eq_zero_iff.1 hz
        subst hp
        clear hv hz
        go_wp2_with (first
          | (go_at_call 48; go_must (refine (sort_nil _).mono ?_; rintro e w5 ⟨rfl, rfl⟩))
          | (go_at_call 87; go_must (refine (compact_nil _).mono ?_; rintro e w6 ⟨rfl, rfl⟩)))
        go_ret
        exact ⟨_, [], rfl, List.Perm.refl _, List.Pairwise.nil, ⟨none, 0, rfl, by simp [compactL], fun j x hj => by simp [compactL] at hj⟩, grownBy_trans HG1.out HG.out⟩
      · obtain ⟨rfl, _, rfl⟩ := Value.slice.inj hv
        have HSt := Lib.hid (rowsSt_of HRr.out HLb.out.1 HLb.out.2)
        have HN := Lib.hid (show (PS.map (valsF S.1 fl)).length = PS.length by simp)
        clear hv
        go_wp2_with (first
          | (go_at_call 48; go_must (refine (sortRows_any w1.heap.size g PS.length ocap (PS.map (valsF S.1 fl)) vs _ HN.out hpl HO.out HSt.out).mono ?_; rintro e w5 ⟨rfl, t, us, hp, hr, ho5, hs5, hg5⟩; have HP := Lib.hid hp; have HRi := Lib.hid hr; have HO5 := Lib.hid ho5; have HS5 := Lib.hid hs5; have HG5 := Lib.hid hg5; have HNt := Lib.hid (show t.length = PS.length by rw [hp.length_eq, HN.out]); clear hp hr ho5 hs5 hg5))
          | (go_at_call 87; go_must (refine (compact_any w1.heap.size g PS.length ocap t us _ HNt.out hpl HO5.out HS5.out).mono ?_; rintro e w6 ⟨p6, k6, cap6, us6, rfl, ho6, hs6, hk6, hg6⟩; have HO6 := Lib.hid ho6; have HS6 := Lib.hid hs6; have HK6 := Lib.hid hk6; have HG6 := Lib.hid hg6; clear ho6 hs6 hk6 hg6)))
        go_ret
        have hgl := (HO.out.lt g rfl).1
        have hgr : w.grownBy w6 none := grown_own (grown_own (grownBy_trans HG1.out HG.out) HG5.out (fun i hi => by have e : g = i := Option.some.inj hi; have := HG1.out.size; omega)) HG6.out (fun i hi => by have e : g = i := Option.some.inj hi; have := HG1.out.size; omega)
        have hkl : k6 ≤ PS.length := by
          have h1 := HK6.out
          have h2 := table_len HP.out HRi.out
          have h3 := firsts_le (PS.map (valsF S.1 fl)) []
          rw [HN.out] at h3
          simp at h3
          omega
        refine ⟨_, t, rfl, HP.out, HRi.out, ?_, hgr⟩
        rcases HO6.out.2 with ⟨hv, hz⟩ | ⟨g6, c6, _, hv, _⟩
        · obtain ⟨rfl, rfl, rfl⟩ := Value.slice.inj hv
          have hc0 : compactL t = [] := List.length_eq_zero_iff.1 HK6.out
          rw [hc0]
          exact ⟨none, 0, rfl, by simp, fun j x hj => by simp at hj⟩
        · obtain ⟨rfl, _, rfl⟩ := Value.slice.inj hv
          exact rowsAt_of HO6.out (HS6.out g6 rfl) HK6.out (by omega)

end Go.Proofs.YtfilcaolgfghcaaGreat
