/-
 A space as a set. Grow of nothing, and Concat, at numbers. A row without one of its variables.
-/
import Derived.Deep.DeepMust
import Derived.Lib.AppendZerosOnto
import Derived.Laws.OwnMore
import Derived.Test.YtgeklmigfhhpfaaGreatDoorQ07
import Derived.Test.YtgeklmigfhhpfaaGreatDoorQ10
import Derived.Test.YtgeklmigfhhpfaaGreatDoorQ11
import Derived.Test.YtgeklmigfhhpfaaGreatDoorQ12
import Derived.Test.YtgeklmigfhhpfaaGreatDoorQ14
namespace Go.Proofs.YtgeklmigfhhpfaaGreatDoor
open Go.RowKit
attribute [local go_sem ↓] Go.wp_at_zero Go.wp_at_succ
theorem flat_inv {α β : Type} {f : α → List β} {k : Nat} (hf : ∀ a, (f a).length = k) : ∀ {l : List α} {j : Nat} {u : β}, (l.flatMap f)[j]? = some u → ∃ a, l[j / k]? = some a ∧ (f a)[j % k]? = some u
 | [], j, u, h => by simp at h
 | a :: r, j, u, h => by
   rw [List.flatMap_cons] at h
   by_cases hj : j < k
   · rw [List.getElem?_append_left (by rw [hf]; exact hj)] at h
     exact ⟨a, by rw [Nat.div_eq_of_lt hj]; rfl, by rw [Nat.mod_eq_of_lt hj]; exact h⟩
   · rw [List.getElem?_append_right (by rw [hf]; omega), hf] at h
     obtain ⟨b, h1, h2⟩ := flat_inv hf h
     have hk : 0 < k := by
      rcases Nat.eq_zero_or_pos k with e | e
      · subst e
        rw [Nat.mod_zero] at h2
        have hz := hf b
        rw [List.length_eq_zero_iff.1 hz] at h2
        simp at h2
      · exact e
     have e1 : j / k = (j - k) / k + 1 := by
      rw [← Nat.add_div_right _ hk]
      congr 1
      omega
     have e2 : j % k = (j - k) % k := by
      rw [← Nat.add_mod_right (j - k) k]
      congr 1
      omega
     exact ⟨b, by rw [e1]; simpa using h1, by rw [e2]; exact h2⟩
theorem sides_cells {w : World} {b off n cap : Nat} {l : List SideD} (h : SidesAt w (.slice (some ⟨b, off, none⟩) n cap) l) : ∀ j u, (l.flatMap sideCells)[j]? = some u → w.cell? ⟨b, off + j, none⟩ = some u := by
 obtain ⟨p, c, hv, _, hc⟩ := h
 obtain ⟨rfl, _, rfl⟩ := Value.slice.inj hv
 intro j u hj
 obtain ⟨s, h1, h2⟩ := flat_inv (f := sideCells) (k := 3) (fun _ => rfl) hj
 obtain ⟨b', off', hp, _, _, _, d1, d2, d3⟩ := hc _ s h1
 obtain ⟨rfl, rfl, _⟩ := Addr.mk.inj (Option.some.inj hp)
 have hm : j % 3 = 0 ∨ j % 3 = 1 ∨ j % 3 = 2 := by omega
 rcases hm with e | e | e
 · rw [e] at h2
   obtain rfl := Option.some.inj h2
   rw [show off + j = off + j / 3 * 3 by omega]
   exact d1
 · rw [e] at h2
   obtain rfl := Option.some.inj h2
   rw [show off + j = off + j / 3 * 3 + 1 by omega]
   exact d2
 · rw [e] at h2
   obtain rfl := Option.some.inj h2
   rw [show off + j = off + j / 3 * 3 + 2 by omega]
   exact d3
def ClonedSides (l : List SideD) (w : World) (e : Ending) (w' : World) : Prop :=
 ∃ p cap, e = .returned (.slice p l.length cap) ∧ w'.ownsRow w.heap.size 63 3 (.slice p l.length cap) l.length (l.flatMap sideCells) ∧ w.grownBy w' none
set_option maxRecDepth 100000 in
set_option maxHeartbeats 1000000 in
theorem cloneSides_any (v : Value) (l : List SideD) (w : World) (hs : SidesAt w v l) (hl : l.length ≤ 1000) :
  Calls Tryz.prog 69 #[v] w (ClonedSides l w) := by
 obtain ⟨p, cap, rfl, ⟨_, _⟩, hc⟩ := id hs
 cases p with
 | none =>
   have hl0 : l = [] := by
    cases l with
    | nil => rfl
    | cons s r =>
      obtain ⟨b, off, hp, _⟩ := hc 0 s rfl
      cases hp
   subst hl0
   have hnil := fun W => Lib.run_eql_slice_nil (P := Tryz.prog) W 26 63 none 0 cap 0 0 Tryz.underlying26
   clear hs hc
   go_enter Tryz.func69, Tryz.ntmps69
   go_wp2
   go_ret
   exact ⟨none, 0, rfl, World.ownsRow_nil _ _ _ _, gR _ _⟩
 | some a =>
   have ha : ∃ b off, (l = [] ∨ a = ⟨b, off, none⟩) := by
    cases l with
    | nil => exact ⟨0, 0, .inl rfl⟩
    | cons s r =>
      obtain ⟨b, off, hp, _⟩ := hc 0 s rfl
      exact ⟨b, off, .inr (Option.some.inj hp)⟩
   have H : Hid (∀ j u, (l.flatMap sideCells)[j]? = some u → w.cell? (a.add j) = some u) := by
    intro j u hj
    obtain ⟨b, off, h0 | rfl⟩ := ha
    · subst h0
      simp at hj
    · have hadd : (⟨b, off, none⟩ : Addr).add j = ⟨b, off + j, none⟩ := by unfold Addr.add; split <;> simp_all
      rw [hadd]
      exact sides_cells hs j u hj
   obtain ⟨i0, hi, hz0, hz1, hz2⟩ := info_parts Tryz.infoSide
   have hnil := fun W => Lib.run_eql_slice_nil (P := Tryz.prog) W 26 63 (some a) l.length cap 0 0 Tryz.underlying26
   clear hs hc ha
   go_enter Tryz.func69, Tryz.ntmps69
   go_wp2_with (first | (at_builtin; go_must (refine wpList_append_own _ rfl _ _ 26 rfl w.heap.size 63 i0 (.agg #[.string ByteArray.empty, .int .i64 0, .int .i64 0]) 3 32 Tryz.underlying26 hi hz0 hz1 hz2 rfl (by decide) _ 0 [] rfl (World.ownsRow_made _ _ _ (Nat.le_refl _) (Nat.zero_le _) rfl) a l.length cap (l.flatMap sideCells) rfl (flat_length (f := sideCells) (k := 3) (fun _ => rfl) l) ?_ ?_ (by unfold maxLen; omega) (by omega) (by simp) ?_)))
   · intro j u hj
     exact (gA _ _ none).cell (H.out j u hj) (by simp)
   · intro u hu
     obtain ⟨t, _, ht⟩ := List.mem_flatMap.1 hu
     simp [sideCells] at ht
     rcases ht with rfl | rfl | rfl <;> rfl
   · intro v' w' ho hg _
     obtain ⟨p', cap', rfl⟩ := own_form ho
     have HO := uH ho
     have HG := uH hg
     clear ho hg
     go_wp2
     go_ret
     exact ⟨p', cap', rfl, HO.out, gO (gA _ _ _) HG.out (fun i hi => by simp [Value.ownBlock] at hi; omega)⟩
variable {w0 w2 wr : World} {X : Nat} {sv kv cv pv : Value} {fl : List CondD} {tvs : List Value}
structure SetSt (w0 w2 wr : World) (X : Nat) (sv kv cv pv : Value) (fl : List CondD) (tvs : List Value) : Prop where
 grown : w2.grownBy wr none
 g0 : w0.grownBy w2 none
 newX : w2.heap.size ≤ X
 old : w0.heap.size + 2 ≤ w2.heap.size
 rbox : wr.heap[w0.heap.size]? = some (.cells #[sv, kv] 81 (0, 0))
 res : wr.heap[w0.heap.size + 1]? = some (.cells #[.slice none 0 0, .slice none 0 0] 29 (0, 0))
 box : wr.heap[X]? = some (.cells #[cv, pv] 29 (0, 0))
 conds : CSt wr (X + 1) pv fl tvs
theorem SetSt.size (h : SetSt w0 w2 wr X sv kv cv pv fl tvs) : X < wr.heap.size := (Array.getElem?_eq_some_iff.1 h.box).1
theorem SetSt.own_from (h : SetSt w0 w2 wr X sv kv cv pv fl tvs) : ∀ k, pv.ownBlock = some k → X + 1 ≤ k := fun k hk => (World.ownsRow.lt h.conds.row k hk).1
theorem SetSt.push {w0 w2 wr w3 w4 : World} {X g cap : Nat} {sv kv cv pv pv' tv : Value} {fl : List CondD} {tvs : List Value} {c : Int} {ts : List (ByteArray × Int)} (h : SetSt w0 w2 wr X sv kv cv pv fl tvs)
  (k1 : wr.grownBy w3 none) (ht : w3.ownsRow wr.heap.size 65 2 tv ts.length (ts.flatMap termCells)) (k2 : w3.grownBy w4 pv.ownBlock)
  (row : w4.ownsRow (X + 1) 35 2 pv' (fl.length + 1) ((fl.zip tvs).flatMap condCells ++ condCells ((c, ts), tv))) (hv : pv' = .slice (some ⟨g, 0, none⟩) (fl.length + 1) cap) (hg : pv.ownBlock = some g ∨ w3.heap.size ≤ g)
  (good : small c ∧ ts.length ≤ 1000 ∧ ∀ t ∈ ts, goodTerm t) : SetSt w0 w2 (w4.setCell ⟨X, 1, none⟩ pv') X sv kv cv pv' (fl ++ [(c, ts)]) (tvs ++ [tv]) := by
 have hX := h.size
 have hob := h.own_from
 have hn := h.newX
 have ho := h.old
 have g0s := h.g0.size
 have g2 := gS w4 X 1 pv'
 have k12 : wr.grownBy w4 pv.ownBlock := gT (grownBy_any _ k1) k2
 have hne : ∀ k, k < X + 1 → pv.ownBlock ≠ some k := fun k hk e => by have := hob k e; omega
 refine ⟨gO (gO h.grown k12 (fun k hk => by have := hob k hk; omega)) g2 (fun k hk => by cases hk; omega), h.g0, hn, ho, kH (kH h.rbox k12 (hne _ (by omega))) g2 (by simp; omega), kH (kH h.res k12 (hne _ (by omega))) g2 (by simp; omega), ?_, (CSt.push h.conds (B := 0) (by omega) (by omega) (grownBy_any _ k1) ht k2 row hv hg good).kept g2 (fun k hk => by cases hk; omega)⟩
 show (w4.heap.modify X _)[X]? = _
 rw [Array.getElem?_modify, if_pos rfl, kH h.box k12 (hne _ (by omega))]
 simp
theorem SetSt.start {w w2 : World} {sv kv cv : Value} (h : ((w.alloc (.cells #[sv, kv] 81)).alloc (.cells #[.slice none 0 0, .slice none 0 0] 29)).grownBy w2 none) : SetSt w w2 (w2.alloc (.cells #[cv, .slice none 0 0] 29)) w2.heap.size sv kv cv (.slice none 0 0) [] [] := by
 have hs := h.size
 simp at hs
 have ga := gA w2 (.cells #[cv, .slice none 0 0] 29) none
 refine ⟨ga, gT (gA _ _ _) (gT (gA _ _ _) h), Nat.le_refl _, by omega, kH (kH ?_ h (by simp)) ga (by simp), kH (kH ?_ h (by simp)) ga (by simp), heap_alloc_new _ _, CSt.start _ _⟩
 · show ((w.heap.push _).push _)[w.heap.size]? = _
   simp only [Array.getElem?_push, Array.size_push]
   rw [if_neg (by omega), if_pos trivial]
 · show ((w.heap.push _).push _)[w.heap.size + 1]? = _
   simp only [Array.getElem?_push, Array.size_push]
   rw [if_pos trivial]
theorem pairs_good {l : List SideD} {cs : List Int} (hg : ∀ s ∈ l, goodSide s) (hc : ∀ c ∈ cs, small c) : ∀ t ∈ pairsOf l cs, goodTerm t := by
 intro t ht
 unfold pairsOf at ht
 obtain ⟨⟨s, c⟩, h, rfl⟩ := List.mem_map.1 ht
 have h2 := List.of_mem_zip (List.mem_filter.1 h).1
 exact ⟨(hg s h2.1).1, hc c h2.2⟩
theorem Twin.snoc {α β : Type} {R : α → β → Prop} {l : List α} {m : List β} {a : α} {b : β} (h : Twin R l m) (r : R a b) : Twin R (l ++ [a]) (m ++ [b]) := h.append (.cons r .nil)
theorem owns_under {w w' : World} {P : Nat} {e : TypeId} {size : Nat} {v : Value} {n : Nat} {xs : List Value} {r : Option Nat} (ho : w.ownsRow P e size v n xs) (hg : w.grownBy w' r) (hr : ∀ k, r = some k → k < P) : w'.ownsRow P e size v n xs := by
 refine ho.kept hg ?_
 cases hb : Value.ownBlock _ with
 | none => exact .inl rfl
 | some g =>
   refine .inr fun e => ?_
   have := (ho.lt g hb).1
   have := hr g e.symm
   omega
theorem results_set {fn : Func} {p u : Tmp} (h : fn.results = #[.cell p 29, .tmp u]) (tmps : Array Value) (w : World) (g : Nat) (t : TypeId) (a b : Value) (fr : Nat × Nat)
  (hp : tmps.getD p undef = .pointer (some ⟨g, 0, none⟩)) (hg : w.heap[g]? = some (.cells #[a, b] t fr)) :
  (results fn tmps).run Tryz.prog w = .ok (.tuple #[.agg #[a, b], tmps.getD u undef]) w := by
 rw [results_cell_tmp h, hp]
 simp [asAddr, run_loadVar_row w g t 29 #[a, b] fr _ hg Tryz.underlying29 rfl Tryz.infoSet2, Result.andThen]
def SetOut (l : List SideD) (rs : List RowD) (w : World) (e : Ending) (w' : World) : Prop :=
 ∃ fl, Twin (RowF l) rs fl ∧ w.grownBy w' none ∧ (setErr (l, fl) ≠ 0 → e = .returned (.tuple #[.agg #[.slice none 0 0, .slice none 0 0], .int .i64 (setErr (l, fl))])) ∧
   (setErr (l, fl) = 0 → ∃ sv cv, e = .returned (.tuple #[.agg #[sv, cv], .int .i64 0]) ∧ ∀ o w2, (∀ k, o = some k → k < w.heap.size) → w'.grownBy w2 o → SetAt w2 sv cv (l, fl))
set_option maxRecDepth 100000 in
set_option maxHeartbeats 8000000 in
theorem spaceSet_any (l : List SideD) (rs : List RowD) (sv kv : Value) (w : World) (hs : SidesAt w sv l) (hk : RowLAt w kv rs) (hl : ∀ r ∈ rs, r.2.length = l.length) (hn : l.length ≤ 100) (hrn : rs.length ≤ 100000) (ha : Apart l) (hne : ∀ s ∈ l, s.1 ≠ ByteArray.empty)
  (hg : ∀ s ∈ l, goodSide s) (hsm : ∀ r ∈ rs, small r.1 ∧ ∀ c ∈ r.2, small c) :
  Calls Tryz.prog 45 #[.agg #[sv, kv]] w (SetOut l rs w) := by
 obtain ⟨ps, scap, rfl, ⟨hsl, hscc⟩, hsc⟩ := id hs
 obtain ⟨pk, kcap, rfl, hkl, hkc⟩ := id hk
 have HS := uH hs
 have HK := uH hkc
 have HL := uH hl
 have HA := uH ha
 have HNe := uH hne
 have HGd := uH hg
 have HSm := uH hsm
 obtain ⟨j0, hj0, hy0, hy1, hy2⟩ := info_parts Tryz.infoForm
 clear hs hk hsc hkc hl ha hne hg hsm
 go_enter Tryz.func45, Tryz.ntmps45
 go_upto_region 2 with (go_at_call 69; go_must (refine (cloneSides_any _ l _ (HS.out.kept (gT (gA _ _ _) (gA _ _ _))) (by omega)).mono ?_; rintro e w2 ⟨p2, cap2, rfl, ho2, hg2⟩; have HO2 := uH ho2; have HG2 := uH hg2; clear ho2 hg2))
 have HF := uH (SetSt.start (cv := .slice p2 l.length cap2) HG2.out)
 have HO : Hid (SidesAt w2 (.slice p2 l.length cap2) l) := sides_of_owns HO2.out (by omega) HGd.out
 have hX : w2.heap.size = w2.heap.size := rfl
 generalize w2.alloc (.cells #[.slice p2 l.length cap2, .slice none 0 0] 29) = w1 at *
 clear hX
 have b1 := (cO HF.out.rbox).2.1
 go_wp2
 go_loopw [15] (fun i wr => ∃ (k : Nat) (p : Option Addr) (n cap : Nat) (fl : List CondD) (tvs : List Value), k ≤ rs.length ∧ i = .int .i64 k ∧ n ≤ rs.length ∧ Hid (Twin (RowF l) (rs.take k) fl) ∧ Hid (fl.length = n) ∧ Hid (SetSt w w2 wr w2.heap.size (.slice ps l.length scap) (.slice pk rs.length kcap) (.slice p2 l.length cap2) (.slice p n cap) fl tvs)) (fun i _ => rs.length - (intOf i).toNat)
 case atStart => exact ⟨0, none, 0, 0, [], [], Nat.zero_le _, rfl, Nat.zero_le _, Twin.nil, rfl, HF.out⟩
 case round =>
  obtain ⟨k, p, n, cap, fl, tvs, hk, rfl, hnk, HT, HN, HF⟩ := hrel
  by_cases hlt : k < rs.length
  · have h0 := List.getElem?_eq_getElem hlt
    have hgw := gT HF.out.g0 HF.out.grown
    obtain ⟨bb, oo, cvk, rfl, c1, c2, hik⟩ := (HK.out k _ h0).kept hgw
    obtain ⟨pr, rcap, rfl, hrl, _⟩ := id hik
    have HI := uH hik
    have HLk := uH (HL.out _ (List.getElem_mem hlt))
    have HSk := uH (HSm.out _ (List.getElem_mem hlt))
    have HTk := uH (List.take_succ_eq_append_getElem hlt)
    generalize rs[k] = r at *
    have hI1 : (k : Int) < (rs.length : Int) := by omega
    have x1 := (cO HF.out.box).2.1
    have s0 := (cO HF.out.rbox).1
    have HSw := uH (HS.out.kept hgw)
    have hXs := HF.out.size
    have hO : HF = HF := rfl
    have HOr : Hid (wr.ownsRow (w2.heap.size + 1) 35 2 (.slice p n cap) n ((fl.zip tvs).flatMap condCells)) := by
     have h := HF.out.conds.row
     rwa [HN.out] at h
    have hga := gA wr (.cells #[.int .i64 r.1, .slice pr r.2.length rcap] 86) none
    have x1a := hga.cell x1 (by simp)
    have s0a := hga.cell s0 (by simp)
    have HGa := uH (gT hga (gD _ none))
    clear h0 hik hgw hO hga
    go_wp2
    refine wp_last fun K8 hK8 => ?_
    go_cut [] from 19 to 27 (fun wx => ∃ (p' : Option Addr) (cap' : Nat) (f : CondD) (tv : Value), Hid (RowF l r f) ∧ Hid (SetSt w w2 wx w2.heap.size (.slice ps l.length scap) (.slice (some ⟨bb, oo, none⟩) rs.length kcap) (.slice p2 l.length cap2) (.slice p' (n + 1) cap') (fl ++ [f]) (tvs ++ [tv])))
    case first =>
     go_region_law (first
      | (go_simp; go_at_call 94; go_must (refine (rowForm_any l r _ _ _ (HI.out.kept HGa.out) (HSw.out.kept HGa.out) HLk.out (by omega) HA.out).mono ?_; rintro e w4 ⟨us, pu, cu, rfl, hu, hpm, hup, hg4⟩; have G4 := uH (gT HGa.out hg4); have HU := uH hu; have HPm := uH hpm; have HUp := uH hup; have x4 := G4.out.cell x1 (by simp); have x4a := (gA w4 (.cells #[.int .i64 r.1, .slice pu us.length cu] 35) none).cell x4 (by simp); clear hu hpm hup hg4))
      | (refine step_append_lies _ (by rfl) _ _ 27 (by rfl) (w2.heap.size + 1) 35 j0 (.agg #[.int .i64 0, .slice none 0 0]) 2 32 Tryz.underlying27 hj0 hy0 hy1 hy2 (by rfl) (by decide) (.slice p n cap) n ((fl.zip tvs).flatMap condCells) (by rfl) (World.ownsRow.alloc (owns_kept HOr.out G4.out) _) ⟨w4.heap.size, 0, none⟩ 1 1 (condCells ((r.1, us), .slice pu us.length cu)) (by rfl) (by rfl) news_at (by simp [condCells, Value.oneCell']) (by decide) (by unfold maxLen; omega) (by omega) (by have := G4.out.size; simp; omega) (w4.heap.size + 1) (by simp) ?_; intro g' ncap w5 hown5 hgrow5 hat _; have G5 := uH hgrow5; have O5 := uH hown5; have A5 := uH hat; have c5 := uH (kH HF.out.box (gT (grownBy_any _ (gT G4.out (gA _ _ _))) hgrow5) (fun e => by have := HF.out.own_from _ e; omega)); have y1 := (cO c5.out).2.1; have yf := (cO c5.out).2.2 1; clear hown5 hgrow5 hat))
     all_goals
      go_wp2_with fail
      go_meet
      case rel =>
       have hsz := G4.out.size
       refine ⟨some ⟨g', 0, none⟩, ncap, (r.1, us), .slice pu us.length cu, ⟨HLk.out, row_formX HA.out HNe.out HLk.out HPm.out HUp.out⟩, ?_⟩
       have hpush := HF.out.push (g := g') (cap := ncap) (c := r.1) (ts := us) (tv := .slice pu us.length cu) (gT G4.out (gA w4 (.cells (condCells ((r.1, us), .slice pu us.length cu)).toArray 35) none)) (World.ownsRow.alloc (owns_lower HU.out (by simp)) _) G5.out (by rw [HN.out]; exact O5.out) (by rw [HN.out]) (by rcases A5.out with h | h; exact .inl h; exact .inr (by simp; omega)) ⟨HSk.out.1, by rw [HPm.out.length_eq]; exact Nat.le_trans (pairs_length _ _) (by omega), fun t ht => pairs_good HGd.out HSk.out.2 t (HPm.out.mem_iff.1 ht)⟩
       exact hpush
    case rest =>
     obtain ⟨p', cap', f, tv, HRf, HF'⟩ := hcut
     refine hK8 _ _ ?_
     go_wp2
     go_roundw
     case rel => exact ⟨k + 1, p', n + 1, cap', fl ++ [f], tvs ++ [tv], by omega, by go_num, by have h1 := HT.out.length; have h2 := HN.out; simp at h1; omega, by show Twin _ _ _; rw [HTk.out]; exact HT.out.snoc HRf.out, by show _ = _; rw [List.length_append, HN.out]; rfl, HF'.out⟩
     case measure => simp [intOf]; omega
  · obtain rfl : k = rs.length := by omega
    have HTw : Hid (Twin (RowF l) rs fl) := by
     have h := HT.out
     rwa [List.take_length] at h
    have x0 := (cO HF.out.box).1
    have x1 := (cO HF.out.box).2.1
    have HSet : Hid (SetAt wr (.slice p2 l.length cap2) (.slice p n cap) (l, fl)) := ⟨HO.out.kept HF.out.grown, HF.out.conds.conds (by have := HN.out; omega)⟩
    by_cases hE : setErr (l, fl) = 0
    · have hE0 : (setErr (l, fl) != 0) = false := by simp [hE]
      have HE := uH hE
      clear hE
      go_wp2_with (go_at_call 95; go_must (refine (checkSet_any (l, fl) _ _ _ HSet.out).mono ?_; rintro e w3 ⟨rfl, hg3⟩; have G3 := uH hg3; have y0 := hg3.cell x0 (by simp); have y1 := hg3.cell x1 (by simp); have r0 := hg3.cell (cO HF.out.res).1 (by simp); have r1 := hg3.cell (cO HF.out.res).2.1 (by simp); have HR := uH (kH HF.out.res hg3 (by simp)); have rf := (cO HR.out).2.2; clear hg3))
      obtain ⟨f1, f2⟩ := two_set HR.out (.slice p2 l.length cap2) (.slice p n cap)
      have hgw := gT HF.out.g0 (gT HF.out.grown G3.out)
      obtain ⟨C1, C2, C3⟩ := res_done HR.out hgw (.slice p2 l.length cap2) (.slice p n cap)
      have hsz := HF.out.size
      have ho := HF.out.old
      exact bodyPost_ret (results_set rfl _ _ (w.heap.size + 1) _ _ _ _ rfl C3) rfl ⟨fl, HTw.out, C1, fun h => absurd HE.out h, fun _ => ⟨_, _, rfl, fun o w9 ho9 h9 => ⟨sides_of_owns (owns_under (owns_under (owns_kept (owns_kept HO2.out HF.out.grown) G3.out) C2 (fun k hk => by cases hk; simp)) h9 (fun k hk => by have := ho9 k hk; simp; omega)) (by omega) HGd.out, (((HF.out.conds.kept G3.out (fun k hk => by cases hk)).kept C2 (fun k hk => by cases hk; omega)).kept h9 (fun k hk => by have := ho9 k hk; omega)).conds (by have := HN.out; omega)⟩⟩⟩
    · have hE0 : (setErr (l, fl) != 0) = true := by simpa using hE
      have HE := uH hE
      clear hE
      go_wp2_with (go_at_call 95; go_must (refine (checkSet_any (l, fl) _ _ _ HSet.out).mono ?_; rintro e w3 ⟨rfl, hg3⟩; have G3 := uH hg3; have y0 := hg3.cell x0 (by simp); have y1 := hg3.cell x1 (by simp); have r0 := hg3.cell (cO HF.out.res).1 (by simp); have r1 := hg3.cell (cO HF.out.res).2.1 (by simp); have HR := uH (kH HF.out.res hg3 (by simp)); have rf := (cO HR.out).2.2; clear hg3))
      have hgw := gT HF.out.g0 (gT HF.out.grown G3.out)
      obtain ⟨C1, C2, C3⟩ := res_done HR.out hgw (.slice none 0 0) (.slice none 0 0)
      exact bodyPost_ret (results_set rfl _ _ (w.heap.size + 1) _ _ _ _ rfl C3) rfl ⟨fl, HTw.out, C1, fun _ => rfl, fun h => absurd h HE.out⟩
end Go.Proofs.YtgeklmigfhhpfaaGreatDoor
namespace Go.Proofs.YtgeklmigfhhpfaaGreatDoor
open Go.RowKit
attribute [local go_sem ↓] Go.wp_at_zero Go.wp_at_succ
structure PartIs (w : World) (p : Option Addr) (n cap k : Nat) (xs : List Value) : Prop where
 len : n ≤ 1000000
 room : n ≤ cap
 many : xs.length = n * k
 nil : p = none → n = 0 ∧ cap = 0
 cells : ∀ a, p = some a → ∀ j u, xs[j]? = some u → w.cell? (a.add j) = some u
 one : ∀ u ∈ xs, u.oneCell' = true
def PartAt (w : World) (v : Value) (k : Nat) (q : Nat × List Value) : Prop := ∃ p cap, v = .slice p q.1 cap ∧ PartIs w p q.1 cap k q.2
theorem PartAt.len {w : World} {v : Value} {k : Nat} {q : Nat × List Value} (h : PartAt w v k q) : q.1 ≤ 1000000 := by
 obtain ⟨_, _, _, h⟩ := h
 exact h.len
theorem PartAt.kept {w w' : World} {v : Value} {k : Nat} {q : Nat × List Value} (h : PartAt w v k q) (hg : w.grownBy w' none) : PartAt w' v k q := by
 obtain ⟨p, cap, hv, h⟩ := h
 exact ⟨p, cap, hv, h.len, h.room, h.many, h.nil, fun a ha j u hj => hg.cell (h.cells a ha j u hj) (by simp), h.one⟩
theorem append_part {P : Program} (w : World) (base : Nat) (t ty e : TypeId) (i : TypeInfo) (z : Value) (size bytes : Nat) (ht : P.underlying t = some (.slice e)) (hi : P.info? e = some i) (hz : i.zero = some z)
  (hsize : i.size = size) (hby : i.bytes = bytes) (hzs : z.cells.size = size) (hsz : 0 < size) (hbb : bytes ≤ 1000)
  (v0 : Value) (n0 : Nat) (xs : List Value) (hown : w.ownsRow base e size v0 n0 xs) (v : Value) (q : Nat × List Value) (hp : PartAt w v size q) (hn : n0 + q.1 ≤ 1000000) (hbase : base ≤ w.heap.size) :
  ∃ v' w', (Builtin.append_ #[t, t] ty #[v0, v]).run P w = .ok v' w' ∧ w'.ownsRow base e size v' (n0 + q.1) (xs ++ q.2) ∧ w.grownBy w' v0.ownBlock := by
 obtain ⟨n, ys⟩ := q
 obtain ⟨p, cap, rfl, h⟩ := hp
 simp only at h hn ⊢
 cases p with
 | none =>
   obtain ⟨h0, h1⟩ := h.nil rfl
   subst h0 h1
   have hys : ys = [] := List.eq_nil_of_length_eq_zero (by have := h.many; simpa using this)
   subst hys
   exact ⟨v0, w, run_append_owned_none (P := P) w base t ty e i size ht hi v0 n0 xs hown, by simpa using hown, grownBy_any _ (gR _ _)⟩
 | some a =>
   have hb : (n0 + n) * bytes ≤ 1000000 * 1000 := Nat.mul_le_mul hn hbb
   obtain ⟨v', w', h1, h2, h3, _⟩ := run_append_own (P := P) w base t ty e i z size bytes ht hi hz hsize hby hzs hsz v0 n0 xs hown a n cap ys h.many (h.cells a rfl) h.one (by unfold maxLen; omega) (by omega) hbase
   exact ⟨v', w', h1, h2, h3⟩
def lens (l : List (Nat × List Value)) : Nat := (l.map (·.1)).sum
theorem lens_take (l : List (Nat × List Value)) (k : Nat) : lens (l.take k) ≤ lens l := by
 have h := congrArg lens (List.take_append_drop k l)
 have h2 : ∀ a b : List (Nat × List Value), lens (a ++ b) = lens a + lens b := fun a b => by simp [lens]
 rw [h2] at h
 omega
def Grown (e : TypeId) (k n : Nat) (w : World) (x : Ending) (w' : World) : Prop :=
 ∃ p cap, x = .returned (.slice p 0 cap) ∧ n ≤ cap ∧ w'.ownsRow w.heap.size e k (.slice p 0 cap) 0 [] ∧ w.grownBy w' none
def Joined (e : TypeId) (k : Nat) (l : List (Nat × List Value)) (w : World) (x : Ending) (w' : World) : Prop :=
 ∃ v, x = .returned v ∧ w'.ownsRow w.heap.size e k v (lens l) (l.flatMap (·.2)) ∧ w.grownBy w' none
set_option maxRecDepth 100000 in
set_option maxHeartbeats 2000000 in
theorem growInts_any (n : Nat) (w : World) (hn : n ≤ 1000000) :
  Calls Tryz.prog 163 #[.slice none 0 0, .int .i64 n] w (Grown 3 1 n w) := by
 obtain ⟨i0, hi, hz0, hz1, hz2⟩ := info_parts Tryz.infoInt
 by_cases h0 : n = 0
 · subst h0
   go_enter Tryz.func163, Tryz.ntmps163
   go_wp2
   go_ret
   exact ⟨none, 0, rfl, Nat.le_refl _, World.ownsRow_nil _ _ _ _, gR _ _⟩
 · have h1 : ¬ ((n : Int) < 0) := by omega
   have h2 : wrap64 ((0 : Int) - 0) = 0 := by unfold wrap64; omega
   have h3 : wrap64 ((n : Int) - 0) = n := by unfold wrap64; omega
   have h4 : (n : Int) > 0 := by omega
   have hrz : ∀ ty, (Builtin.append_ #[22, 3] ty #[.slice none 0 0, .int .i64 (n : Int)]).run Tryz.prog w =
     .ok (.slice (some ⟨w.heap.size, 0, none⟩) n (grownCap w n 0 3)) (w.drew.alloc (.cells (#[] ++ Builtin.zeroCells (Value.cells (.int .i64 0)) n ++ Builtin.zeroCells (Value.cells (.int .i64 0)) (grownCap w n 0 3 - n)) 3)) := fun ty => by
    have h := Lib.run_append_grow_zeros (P := Tryz.prog) w 22 3 ty 3 i0 (.int .i64 0) .i64 .i64 Tryz.underlying22 Tryz.underlying3 hi hz0 none 0 0 [] (run_firstCells_none w.drew i0.size 0 0 0) n (by omega) (by rw [hz1]; decide) (by omega) (by omega)
     (by rw [hz2]; omega) (growslice_fits (by omega) (by rw [hz2]; omega))
    rw [Nat.zero_add] at h
    exact h
   have hG := grownCap_ge w n 0 3
   have hG63 := grownCap_le_maxLen w n 0 3 (by unfold maxLen; omega)
   generalize grownCap w n 0 3 = G at *
   have hG2 : G ≤ 9223372036854775807 := by unfold maxLen at hG63; omega
   clear hi
   go_enter Tryz.func163, Tryz.ntmps163
   go_wp2_with (at_builtin; refine Lib.wpList_append_run _ rfl _ _ _ _ rfl _ _ rfl rfl _ _ (hrz _) ?_)
   go_ret
   refine ⟨_, G, rfl, hG, World.ownsRow_made (base := w.heap.size) w.drew _ G (Nat.le_refl _) hG63 ?_, gT (gD _ none) (gA _ _ none)⟩
   simp [Builtin.zeroCells]
   omega
set_option maxRecDepth 100000 in
set_option maxHeartbeats 4000000 in
theorem concatInts_any (l : List (Nat × List Value)) (b cap : Nat) (vs : List Value) (w : World) (hl : l.length ≤ 1000) (hvl : vs.length = l.length) (hT : lens l ≤ 1000000) (hv : ∀ (j : Nat) (v : Value), vs[j]? = some v → w.cell? ⟨b, j, none⟩ = some v)
  (hp : ∀ (j : Nat) (v : Value) (q : Nat × List Value), vs[j]? = some v → l[j]? = some q → PartAt w v 1 q) :
  Calls Tryz.prog 138 #[.slice (some ⟨b, 0, none⟩) l.length cap] w (Joined 3 1 l w) := by
 obtain ⟨i0, hi, hz0, hz1, hz2⟩ := info_parts Tryz.infoInt
 have HV := uH hv
 have HP := uH hp
 have HL := uH hvl
 clear hv hp hvl
 have hpart : ∀ k, k < l.length → ∃ v q, l[k]? = some q ∧ Hid (PartAt w v 1 q) ∧ w.cell? ⟨b, k, none⟩ = some v := by
  intro k hk
  have h1 := List.getElem?_eq_getElem hk
  have h2 : vs[k]? = some (vs[k]'(by rw [HL.out]; exact hk)) := List.getElem?_eq_getElem _
  exact ⟨_, _, h1, HP.out k _ _ h2 h1, HV.out k _ h2⟩
 have HQ := uH hpart
 clear hpart
 go_enter Tryz.func138, Tryz.ntmps138
 go_wp2
 go_loopw [11, 3] (fun i s wr => ∃ k : Nat, k ≤ l.length ∧ i = .int .i64 k ∧ s = .int .i64 (lens (l.take k)) ∧ w = wr) (fun i _ _ => l.length - (intOf i).toNat)
 case atStart => exact ⟨0, Nat.zero_le _, rfl, rfl, rfl⟩
 case round =>
  obtain ⟨k, hk, rfl, rfl, rfl⟩ := hrel
  by_cases hlt : k < l.length
  · obtain ⟨v, ⟨n, xs⟩, e2, hpt, hcell⟩ := HQ.out k hlt
    have hle := lens_take l (k + 1)
    have hn := hpt.out.len
    obtain ⟨p, c, rfl, _⟩ := id hpt.out
    simp only at hcell hn
    have hnx : lens (l.take (k + 1)) = lens (l.take k) + n := by rw [List.take_add_one, e2]; simp [lens]
    have hw1 : wrap64 ((lens (l.take k) : Int) + (n : Int)) = ((lens (l.take (k + 1)) : Nat) : Int) := by rw [hnx]; unfold wrap64; omega
    have hng : ¬ (((lens (l.take (k + 1)) : Nat) : Int) < 0) := by omega
    have hI1 : (k : Int) < (l.length : Int) := by omega
    generalize lens (l.take k) = m at *
    obtain ⟨m2, hm2⟩ : ∃ m2, m2 = lens (l.take (k + 1)) := ⟨_, rfl⟩
    rw [← hm2] at hle hnx hw1 hng
    have HM2 := uH hm2
    clear hm2
    clear hle e2
    go_wp2
    go_roundw
    case rel => exact ⟨k + 1, by omega, by go_num, by rw [hw1, HM2.out], trivial⟩
    case measure => simp [intOf]; omega
  · obtain rfl : k = l.length := by omega
    rw [List.take_length]
    go_wp2_with (go_at_call 163; go_must (refine (growInts_any (lens l) _ hT).mono ?_; rintro e w1 ⟨p1, cap1, rfl, hcap, ho, hg⟩; have HO := uH ho; have HG := uH hg; clear ho hg))
    go_wp2
    go_loopw [27, 6] (fun i s wr => ∃ (k : Nat) (v0 : Value) (n : Nat), k ≤ l.length ∧ i = .int .i64 k ∧ s = v0 ∧ Hid (wr.ownsRow w.heap.size 3 1 v0 n ((l.take k).flatMap (·.2))) ∧ Hid (n = lens (l.take k)) ∧ Hid (w.grownBy wr none)) (fun i _ _ => l.length - (intOf i).toNat)
    case atStart => exact ⟨0, _, 0, Nat.zero_le _, rfl, rfl, HO.out, rfl, HG.out⟩
    case round =>
     obtain ⟨k, v0, n0, hk, rfl, rfl, HO, HN, HG⟩ := hrel
     by_cases hlt : k < l.length
     · obtain ⟨v, ⟨n, xs⟩, e2, hpt, hcell⟩ := HQ.out k hlt
       have hle := lens_take l (k + 1)
       have hnx : lens (l.take (k + 1)) = lens (l.take k) + n := by rw [List.take_add_one, e2]; simp [lens]
       have hfx : (l.take (k + 1)).flatMap (·.2) = (l.take k).flatMap (·.2) ++ xs := by rw [List.take_add_one, e2]; simp
       have HNX := uH hnx
       have HFX := uH hfx
       have hn0 : Hid (n0 + n ≤ 1000000) := by have := HN.out; show _ ≤ _; omega
       have hI1 : (k : Int) < (l.length : Int) := by omega
       have hcell' := HG.out.cell hcell (by simp)
       obtain ⟨v', w', hr, ho, hg⟩ := append_part (P := Tryz.prog) wr w.heap.size 22 22 3 i0 (.int .i64 0) 1 8 Tryz.underlying22 hi hz0 hz1 hz2 rfl (by decide) (by decide) _ n0 _ HO.out v (n, xs) (hpt.out.kept HG.out) hn0.out HG.out.size
       have HR := uH hr
       have HO' := uH ho
       have HG' := uH hg
       clear hle hnx hfx e2 hcell hpt hr ho hg
       go_wp2_with (at_builtin; go_must (refine Lib.wpList_append_run _ rfl _ _ _ _ rfl _ _ rfl rfl _ _ HR.out ?_))
       go_roundw
       case rel => exact ⟨k + 1, v', n0 + n, by omega, by go_num, rfl, by show World.ownsRow _ _ _ _ _ _ _; rw [HFX.out]; exact HO'.out, by show _ = _; rw [HNX.out, HN.out], gO HG.out HG'.out (fun i hi => (HO.out.lt i hi).1)⟩
       case measure => simp [intOf]; omega
     · obtain rfl : k = l.length := by omega
       have HO2 : Hid (wr.ownsRow w.heap.size 3 1 u6 n0 (l.flatMap (·.2))) := by
        have h := HO.out
        rwa [List.take_length] at h
       have hN : n0 = lens l := by
        have h := HN.out
        rwa [List.take_length] at h
       subst hN
       clear HN
       go_wp2
       go_ret
       exact ⟨_, rfl, HO2.out, HG.out⟩
end Go.Proofs.YtgeklmigfhhpfaaGreatDoor
namespace Go.Proofs.YtgeklmigfhhpfaaGreatDoor
open Go.RowKit
attribute [local go_sem ↓] Go.wp_at_zero Go.wp_at_succ
theorem part_ints {w : World} {b off n cap : Nat} {xs : List Int} (hn : xs.length = n) (hl : n ≤ 1000000) (hc : n ≤ cap) (h : ∀ (j : Nat) (x : Int), xs[j]? = some x → w.cell? ⟨b, off + j, none⟩ = some (.int .i64 x)) : PartAt w (.slice (some ⟨b, off, none⟩) n cap) 1 (n, xs.map (Value.int .i64)) := by
 refine ⟨some ⟨b, off, none⟩, cap, rfl, hl, hc, by simp [hn], fun h => by simp at h, fun a ha j u hj => ?_, fun u hu => ?_⟩
 · obtain rfl := Option.some.inj ha
   rw [List.getElem?_map, Option.map_eq_some_iff] at hj
   obtain ⟨x, hx, rfl⟩ := hj
   have hadd : (⟨b, off, none⟩ : Addr).add j = ⟨b, off + j, none⟩ := by unfold Addr.add; split <;> simp_all
   rw [hadd]
   exact h j x hx
 · obtain ⟨x, _, rfl⟩ := List.mem_map.1 hu
   rfl
def RowLess (r : RowD) (q : Nat) (w : World) (e : Ending) (w' : World) : Prop :=
 ∃ p cap, e = .returned (.agg #[.int .i64 r.1, .slice p (r.2.eraseIdx q).length cap]) ∧ w'.ownsRow w.heap.size 3 1 (.slice p (r.2.eraseIdx q).length cap) (r.2.eraseIdx q).length ((r.2.eraseIdx q).map (Value.int .i64)) ∧ w.grownBy w' none
def IntsLess (rs : List Int) (q : Nat) (w : World) (e : Ending) (w' : World) : Prop :=
 ∃ p cap, e = .returned (.slice p (rs.eraseIdx q).length cap) ∧ w'.ownsRow w.heap.size 3 1 (.slice p (rs.eraseIdx q).length cap) (rs.eraseIdx q).length ((rs.eraseIdx q).map (Value.int .i64)) ∧ w.grownBy w' none
set_option maxRecDepth 100000 in
set_option maxHeartbeats 4000000 in
theorem rowWithout_any (r : RowD) (q : Nat) (pr : Option Addr) (rcap : Nat) (w : World) (hr : IntsAt w (.slice pr r.2.length rcap) r.2) (hcap : r.2.length ≤ rcap) (hq : q < r.2.length) (hn : r.2.length ≤ 1000) :
  Calls Tryz.prog 107 #[.agg #[.int .i64 r.1, .slice pr r.2.length rcap], .int .i64 q] w (RowLess r q w) := by
 obtain ⟨_, _, e0, hrl, hrc⟩ := id hr
 obtain ⟨rfl, _, rfl⟩ := Value.slice.inj e0
 obtain ⟨bb, oo, rfl, _⟩ := hrc 0 _ (List.getElem?_eq_getElem (by omega))
 have HI := uH hr
 have HR : Hid (∀ (j : Nat) (x : Int), r.2[j]? = some x → w.cell? ⟨bb, oo + j, none⟩ = some (.int .i64 x)) := fun j x hj => by
  obtain ⟨b', o', e, _, h⟩ := hrc j x hj
  cases e
  exact h
 clear hr hrc
 obtain ⟨rn, rs⟩ := r
 simp only at *
 go_enter Tryz.func107, Tryz.ntmps107
 go_upto_region 1 with fail
 have HB := uH (BoxRes.start w rn (.slice (some ⟨bb, oo, none⟩) rs.length rcap))
 generalize (w.alloc (.cells #[.int .i64 rn, .slice (some ⟨bb, oo, none⟩) rs.length rcap] 86)).alloc (.cells #[.int .i64 0, .slice none 0 0] 86) = w1 at *
 obtain ⟨b0, b1⟩ := cell_two HB.out.2.1
 have hq' : q < rs.length := hq
 have hcap' : rs.length ≤ rcap := hcap
 have hn' : rs.length ≤ 1000 := hn
 have hw1 : IntKind.i64.wrap ((q : Int) + 1) = (q : Int) + 1 := wrap_near (by omega)
 have ht1 : ((q : Int) + 1).toNat = q + 1 := by omega
 have h1 : q ≤ rcap := by omega
 have h3 : (q : Int) + 1 ≤ (rs.length : Int) := by omega
 have h4 : 0 ≤ (q : Int) + 1 := by omega
 obtain ⟨A, hA⟩ : ∃ A, A = (if rcap = q + 1 then some (⟨bb, oo, none⟩ : Addr) else some ⟨bb, oo + (q + 1), none⟩) := ⟨_, rfl⟩
 have hA' := hA.symm
 have HA := uH hA
 clear hA
 have HJ : Hid (∀ (W : World) (b : Nat), w1.grownBy W none → W.cell? ⟨b, 0, none⟩ = some (.slice (some ⟨bb, oo, none⟩) q rcap) → W.cell? ⟨b, 1, none⟩ = some (.slice A (rs.length - (q + 1)) (rcap - (q + 1))) →
   Calls Tryz.prog 138 #[.slice (some ⟨b, 0, none⟩) 2 2] W (IntsLess rs q W)) := by
  intro W b hg c0 c1
  have hW := gT HB.out.1 hg
  refine (concatInts_any [(q, (rs.take q).map (Value.int .i64)), (rs.length - (q + 1), (rs.drop (q + 1)).map (Value.int .i64))] b 2 [.slice (some ⟨bb, oo, none⟩) q rcap, .slice A (rs.length - (q + 1)) (rcap - (q + 1))] W (by simp) rfl (by simp [lens]; omega) ?_ ?_).mono ?_
  · intro j v hj
    match j, hj with
    | 0, hj => rw [c0]; exact hj
    | 1, hj => rw [c1]; exact hj
  · intro j v x hj hx
    match j, hj, hx with
    | 0, hj, hx =>
      obtain rfl := Option.some.inj hj
      obtain rfl := Option.some.inj hx
      exact part_ints (by rw [List.length_take]; omega) (by omega) h1 (fun j x hx => by
       rw [List.getElem?_take] at hx
       split at hx
       · exact hW.cell (HR.out j x hx) (by simp)
       · cases hx)
    | 1, hj, hx =>
      obtain rfl := Option.some.inj hj
      obtain rfl := Option.some.inj hx
      have hA := HA.out
      by_cases hc : rcap = q + 1
      · rw [if_pos hc] at hA
        subst hA
        have hd : rs.drop (q + 1) = [] := List.drop_of_length_le (by omega)
        exact part_ints (by simp) (by omega) (by omega) (fun j x hx => by rw [hd] at hx; simp at hx)
      · rw [if_neg hc] at hA
        subst hA
        exact part_ints (by simp) (by omega) (by omega) (fun j x hx => by
         rw [List.getElem?_drop] at hx
         have h := hW.cell (HR.out _ x hx) (by simp)
         rwa [← Nat.add_assoc] at h)
  · rintro e w' ⟨v, rfl, ho, hg'⟩
    have hle : (rs.eraseIdx q).length = q + (rs.length - (q + 1)) := by rw [List.length_eraseIdx]; split <;> omega
    have hls : lens [(q, (rs.take q).map (Value.int .i64)), (rs.length - (q + 1), (rs.drop (q + 1)).map (Value.int .i64))] = (rs.eraseIdx q).length := by rw [hle]; simp [lens]
    have hfl : [(q, (rs.take q).map (Value.int .i64)), (rs.length - (q + 1), (rs.drop (q + 1)).map (Value.int .i64))].flatMap (·.2) = (rs.eraseIdx q).map (Value.int .i64) := by rw [List.eraseIdx_eq_take_drop_succ]; simp
    rw [hls, hfl] at ho
    obtain ⟨p, cap, rfl⟩ := own_form ho
    exact ⟨p, cap, rfl, ho, hg'⟩
 clear HR
 go_region_held3 (fun W => W.cell? ⟨w.heap.size, 0, none⟩ = some (.int .i64 rn) ∧ W.cell? ⟨w.heap.size, 1, none⟩ = some (.slice (some ⟨bb, oo, none⟩) rs.length rcap)) (go_keep) (first
  | (go_at_call 138; go_must (refine (HJ.out _ _ (gT (gA _ _ none) (gD _ none)) (by simp) (by simp)).mono ?_; rintro e w4 ⟨p, cap, rfl, ho, hg⟩; have HB4 := uH (HB.out.kept (gT (gT (gA _ _ none) (gD _ none)) hg)); have HO := uH ho; have s1 := (cell_two HB4.out.2.2).1; have s2 := (cell_two HB4.out.2.2).2; have sf : ∀ k, w4.frozen? ⟨w.heap.size + 1, k, none⟩ = false := (fun k => by simp [World.frozen?, HB4.out.2.2]); obtain ⟨y0, y1⟩ := cell_two HB4.out.2.1; clear ho hg)))
 all_goals
  have hs1 : w.heap.size + 1 < w1.heap.size := (Array.getElem?_eq_some_iff.1 HB.out.2.2).1
  go_wp2
  obtain ⟨f1, f2⟩ := two_set HB4.out.2.2 (.int .i64 rn) (.slice p (rs.eraseIdx q).length cap)
  have hg := gO HB4.out.1 f2 (fun k hk => by cases hk; omega)
  refine bodyPost_end (results_cell_row rfl _ _ (w.heap.size + 1) _ _ _ _ rfl f1 Tryz.underlying86 rfl Tryz.infoRow2) rfl ?_
  exact ⟨p, cap, rfl, owns_lower (owns_under HO.out f2 (fun k hk => by cases hk; simp; omega)) (by simp; omega), hg⟩
end Go.Proofs.YtgeklmigfhhpfaaGreatDoor
