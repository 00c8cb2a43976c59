/-
 A space without one of its variables: the walk. Results that are sets; the rows of a shadow. A space of a set, and the place of a variable of it.
-/
import Derived.Test.YtgeklmigfhhpfaaGreatDoorQ11
import Derived.Test.YtgeklmigfhhpfaaGreatDoorQ17
import Derived.Test.YtgeklmigfhhpfaaGreatDoorQ18
import Derived.Test.YtgeklmigfhhpfaaGreatDoorQ19
namespace Go.Proofs.YtgeklmigfhhpfaaGreatDoor
open Go.RowKit
attribute [local go_sem ↓] Go.wp_at_zero Go.wp_at_succ
def SpRes (w wr : World) (sv av : Value) : Prop :=
 w.grownBy wr none ∧ wr.heap[w.heap.size]? = some (.cells #[sv, av] 81 (0, 0)) ∧ wr.heap[w.heap.size + 1]? = some (.cells #[.slice none 0 0, .slice none 0 0] 81 (0, 0))
theorem SpRes.kept {w wr w' : World} {sv av : Value} (h : SpRes w wr sv av) (hg : wr.grownBy w' none) : SpRes w w' sv av := ⟨gT h.1 hg, kH h.2.1 hg (by simp), kH h.2.2 hg (by simp)⟩
theorem SpRes.start (w : World) (sv av : Value) : SpRes w ((w.alloc (.cells #[sv, av] 81)).alloc (.cells #[.slice none 0 0, .slice none 0 0] 81)) sv av := by
 refine ⟨gT (gA _ _ _) (gA _ _ _), ?_, ?_⟩
 · show ((w.heap.push _).push _)[w.heap.size]? = _
   simp only [Array.getElem?_push, Array.size_push]
   rw [if_neg (by omega), if_pos trivial]
 · show ((w.heap.push _).push _)[w.heap.size + 1]? = _
   simp only [Array.getElem?_push, Array.size_push]
   rw [if_pos trivial]
theorem old_first (w : World) (a b : Value) (o : Obj) : (((w.alloc (.cells #[a, b] 81)).alloc o).drew).heap[w.heap.size]? = some (.cells #[a, b] 81 (0, 0)) := by
 show ((w.heap.push _).push _)[w.heap.size]? = _
 simp only [Array.getElem?_push, Array.size_push]
 rw [if_neg (by omega), if_pos trivial]
theorem old_second (w : World) (a b : Value) (o : Obj) : (((w.alloc o).alloc (.cells #[a, b] 81)).drew).heap[w.heap.size + 1]? = some (.cells #[a, b] 81 (0, 0)) := by
 show ((w.heap.push _).push _)[w.heap.size + 1]? = _
 simp only [Array.getElem?_push, Array.size_push]
 rw [if_pos trivial]
theorem less_a {w w4 : World} {sv av : Value} {p : Option Addr} {n cap base : Nat} {ys : List Value} (h : SpRes w w4 sv av) (ho : w4.ownsRow base 63 3 (.slice p n cap) n ys) (hb : w.heap.size + 2 ≤ base) (hs : w.heap.size + 2 ≤ w4.heap.size) :
  Hid (LsSt w (w4.alloc (.cells #[.slice p n cap, .slice none 0 0] 81)) (w4.alloc (.cells #[.slice p n cap, .slice none 0 0] 81)) w4.heap.size sv av (.slice p n cap) (.slice none 0 0) [] []) ∧
  Hid (World.ownsRow (w4.alloc (.cells #[.slice p n cap, .slice none 0 0] 81)) (w.heap.size + 2) 63 3 (.slice p n cap) n ys) ∧ Hid (Value.ownBlock (.slice p n cap) ≠ some w4.heap.size) := by
 have ga := gA w4 (.cells #[.slice p n cap, .slice none 0 0] 81) none
 have hk := h.kept ga
 exact ⟨LsSt.start hk.1 hs hk.2.1 hk.2.2 (heap_alloc_new _ _), owns_lower (owns_kept ho ga) hb, fun e => by have := (ho.lt _ e).2; omega⟩
theorem less_b {w w4 : World} {sv av : Value} {p : Option Addr} {n cap base X : Nat} {ys : List Value} (h : SpRes w w4 sv av) (ho : w4.ownsRow base 63 3 (.slice p n cap) n ys) (hX : w.heap.size + 2 ≤ X) (hb : X < base) (hx : w4.heap[X]? = some (.cells #[.slice none 0 0, .slice none 0 0] 81 (0, 0))) :
  Hid (LsSt w ((w4.setCell ⟨X, 0, none⟩ (.slice p n cap)).setCell ⟨X, 1, none⟩ (.slice none 0 0)) ((w4.setCell ⟨X, 0, none⟩ (.slice p n cap)).setCell ⟨X, 1, none⟩ (.slice none 0 0)) X sv av (.slice p n cap) (.slice none 0 0) [] []) ∧
  Hid (World.ownsRow ((w4.setCell ⟨X, 0, none⟩ (.slice p n cap)).setCell ⟨X, 1, none⟩ (.slice none 0 0)) (w.heap.size + 2) 63 3 (.slice p n cap) n ys) ∧ Hid (Value.ownBlock (.slice p n cap) ≠ some X) := by
 have hg : w4.grownBy ((w4.setCell ⟨X, 0, none⟩ (.slice p n cap)).setCell ⟨X, 1, none⟩ (.slice none 0 0)) (some X) := gT (gS _ _ _ _) (gS _ _ _ _)
 exact ⟨LsSt.start (gO h.1 hg (fun k hk => by cases hk; omega)) hX (kH h.2.1 hg (by simp; omega)) (kH h.2.2 hg (by simp; omega)) (by simp [World.setCell, Array.getElem?_modify, hx]),
  owns_lower (owns_under ho hg (fun k hk => by cases hk; exact hb)) (by omega), fun e => by have := (ho.lt _ e).1; omega⟩
set_option maxRecDepth 100000 in
set_option maxHeartbeats 8000000 in
theorem spaceWithout_any (l : List SideD) (rs : List RowD) (q : Nat) (sv av kv : Value) (w : World) (hs : SidesAt w sv l) (hk : RowLC w kv rs True) (hl : ∀ r ∈ rs, r.2.length = l.length) (hq : q < l.length) (hn : l.length ≤ 100) (hrn : rs.length ≤ 100000)
  (hg : ∀ s ∈ l, goodSide s) (hm : ∀ r ∈ rs, ∀ c ∈ r.2, mid c) :
  Calls Tryz.prog 52 #[.agg #[sv, av], .int .i64 q, kv] w (SpaceLess l rs q w) := by
 obtain ⟨ps, scap, rfl, ⟨hsl, hscc⟩, hsc⟩ := id hs
 obtain ⟨bb, oo, rfl, _⟩ := hsc 0 _ (List.getElem?_eq_getElem (by omega))
 obtain ⟨pk, kcap, rfl, hki⟩ := id hk
 have HS := uH hs
 have HK := uH hki
 have HL := uH hl
 have HGd := uH hg
 have HM := uH hm
 have hkl := hki.len
 obtain ⟨j0, hj0, hy0, hy1, hy2⟩ := info_parts Tryz.infoRow
 clear hs hk hsc hki hl hg hm
 go_enter Tryz.func52, Tryz.ntmps52
 go_upto_region 1 with fail
 have HB := uH (SpRes.start w (.slice (some ⟨bb, oo, none⟩) l.length scap) av)
 generalize (w.alloc (.cells #[.slice (some ⟨bb, oo, none⟩) l.length scap, av] 81)).alloc (.cells #[.slice none 0 0, .slice none 0 0] 81) = w1 at *
 have b0 := (cO HB.out.2.1).1
 have hs1 : w.heap.size + 1 < w1.heap.size := (Array.getElem?_eq_some_iff.1 HB.out.2.2).1
 have hw1 : IntKind.i64.wrap ((q : Int) + 1) = (q : Int) + 1 := wrap_near (by omega)
 have ht1 : ((q : Int) + 1).toNat = q + 1 := by omega
 have h1 : q ≤ scap := by omega
 have h3 : (q : Int) + 1 ≤ (l.length : Int) := by omega
 have h4 : 0 ≤ (q : Int) + 1 := by omega
 obtain ⟨A, hA⟩ : ∃ A, A = (if scap = q + 1 then some (⟨bb, oo, none⟩ : Addr) else some ⟨bb, oo + (q + 1) * 3, none⟩) := ⟨_, rfl⟩
 have hA' := hA.symm
 have HA := uH hA
 clear hA
 have HJ := uH (sides_less l q bb oo scap A w1 (HS.out.kept HB.out.1) hq (by omega) HA.out)
 go_cut [7] (fun s7 wx => ∃ (X : Nat) (p2 : Option Addr) (cap2 : Nat), s7 = .pointer (some ⟨X, 0, none⟩) ∧ Hid (LsSt w wx wx X (.slice (some ⟨bb, oo, none⟩) l.length scap) av (.slice p2 (l.eraseIdx q).length cap2) (.slice none 0 0) [] []) ∧ Hid (wx.ownsRow (w.heap.size + 2) 63 3 (.slice p2 (l.eraseIdx q).length cap2) (l.eraseIdx q).length ((l.eraseIdx q).flatMap sideCells)) ∧ Hid (Value.ownBlock (.slice p2 (l.eraseIdx q).length cap2) ≠ some X))
 case first =>
  go_region_held3 (fun W => W.cell? ⟨w.heap.size, 0, none⟩ = some (.slice (some ⟨bb, oo, none⟩) l.length scap)) (first | go_keep | exact (gT (gS _ _ 0 _) (gS _ _ 1 _)).cell y0 (by simp; omega)) (first
   | (go_at_call 106; go_must (refine (HJ.out _ _ (by first | exact gT (gA _ _ none) (gD _ none) | exact gT (gA _ _ none) (gT (gA _ _ none) (gD _ none))) (by simp) (by simp)).mono ?_; rintro e w4 ⟨p, cap, rfl, ho, hg⟩; have HO := uH ho; have HG := uH hg; clear ho hg; have HGA : Hid (w1.grownBy w4 none) := (by first | exact gT (gT (gA _ _ none) (gD _ none)) HG.out | exact gT (gT (gA _ _ none) (gT (gA _ _ none) (gD _ none))) HG.out); have HB4 := uH (HB.out.kept HGA.out); have y0 := (cO HB4.out.2.1).1; have hs4 := HG.out.size; (first | (have hX := kH (old_first _ _ _ _) HG.out (by simp); have HX := uH hX; obtain ⟨xc0, xc1, xf⟩ := cO hX; clear hX) | (have hX := kH (old_second _ _ _ _) HG.out (by simp); have HX := uH hX; obtain ⟨xc0, xc1, xf⟩ := cO hX; clear hX) | skip))))
  all_goals
   have hs5 := HB4.out.1.size
   have hsA := HGA.out.size
   go_wp2_with fail
   go_meet
   case rel => first
    | exact ⟨_, p, cap, rfl, less_a HB4.out HO.out (by simp; omega) (by omega)⟩
    | exact ⟨_, p, cap, rfl, less_b HB4.out HO.out (by omega) (by simp <;> omega) HX.out⟩
 case rest =>
  obtain ⟨X, p2, cap2, rfl, HF, HO, HNe⟩ := hcut
  clear b0 HJ HA hA' HB hs1 h1 h3 h4 ht1 hw1
  go_wp2
  go_loopw [24] (fun i wr => ∃ (k : Nat) (p : Option Addr) (n cap : Nat) (fl : List RowD) (tvs : List Value), k ≤ rs.length ∧ i = .int .i64 k ∧ n ≤ rs.length ∧ Hid (fl = (rs.take k).map (lessR q)) ∧ Hid (fl.length = n) ∧ Hid (LsSt w wc wr X (.slice (some ⟨bb, oo, none⟩) l.length scap) av (.slice p2 (l.eraseIdx q).length cap2) (.slice p n cap) fl tvs)) (fun i _ => rs.length - (intOf i).toNat)
  case atStart => exact ⟨0, none, 0, 0, [], [], Nat.zero_le _, rfl, Nat.zero_le _, rfl, rfl, HF.out⟩
  case round =>
   obtain ⟨k, p, n, cap, fl, tvs, hk, rfl, hnk, HT, HN, HF⟩ := hrel
   by_cases hlt : k < rs.length
   · have h0 := List.getElem?_eq_getElem hlt
     obtain ⟨bk, ok, pr, rcap, rfl, c1, c2, hrc, hik⟩ := HK.out.cells k _ h0
     have c1 := HF.out.all.cell c1 (by simp)
     have c2 := HF.out.all.cell c2 (by simp)
     have hik := hik.kept HF.out.all
     have HRc := uH (hrc trivial)
     have HI := uH hik
     have HLk := uH (HL.out _ (List.getElem_mem hlt))
     have HMk := uH (HM.out _ (List.getElem_mem hlt))
     have HTk := uH (List.take_succ_eq_append_getElem hlt)
     generalize rs[k] = r at *
     have hI1 : (k : Int) < (rs.length : Int) := by omega
     have x1 := (cO HF.out.box).2.1
     have hXs := HF.out.size
     have HOr : Hid (wr.ownsRow wc.heap.size 86 2 (.slice p n cap) n ((fl.zip tvs).flatMap rowCells)) := by
      have h := HF.out.rows.row
      rwa [HN.out] at h
     have hga := gA wr (.cells #[.int .i64 r.1, .slice pr r.2.length rcap] 86) none
     have x1a := hga.cell x1 (by simp)
     have HGa := uH (gT hga (gD _ none))
     have HSz := uH HF.out.grown.size
     clear h0 hik hga hrc
     go_wp2
     refine wp_last fun K8 hK8 => ?_
     go_cut [] from 28 to 35 (fun wx => ∃ (p' : Option Addr) (cap' : Nat) (tv : Value), Hid (LsSt w wc wx X (.slice (some ⟨bb, oo, none⟩) l.length scap) av (.slice p2 (l.eraseIdx q).length cap2) (.slice p' (n + 1) cap') (fl ++ [lessR q r]) (tvs ++ [tv])))
     case first =>
      go_region_law (first
       | (go_simp; go_at_call 107; go_must (refine (rowWithout_any r q pr rcap _ (HI.out.kept HGa.out) HRc.out (by rw [HLk.out]; exact hq) (by rw [HLk.out]; omega)).mono ?_; rintro e w4 ⟨pu, cu, rfl, hu, hg4⟩; have G4 := uH (gT HGa.out hg4); have HU := uH hu; have x4 := G4.out.cell x1 (by simp); have x4a := (gA w4 (.cells #[.int .i64 r.1, .slice pu (r.2.eraseIdx q).length cu] 86) none).cell x4 (by simp); clear hu hg4))
       | (refine step_append_lies _ (by rfl) _ _ 79 (by rfl) wc.heap.size 86 j0 (.agg #[.int .i64 0, .slice none 0 0]) 2 32 Tryz.underlying79 hj0 hy0 hy1 hy2 (by rfl) (by decide) (.slice p n cap) n ((fl.zip tvs).flatMap rowCells) (by rfl) (World.ownsRow.alloc (owns_kept HOr.out G4.out) _) ⟨w4.heap.size, 0, none⟩ 1 1 (rowCells (lessR q r, .slice pu (r.2.eraseIdx q).length cu)) (by rfl) (by rfl) news_at (by simp [rowCells, Value.oneCell']) (by decide) (by unfold maxLen; omega) (by omega) (by have := G4.out.size; have := HSz.out; simp; omega) (w4.heap.size + 1) (by simp) ?_; intro g' ncap w5 hown5 hgrow5 hat _; have G5 := uH hgrow5; have O5 := uH hown5; have A5 := uH hat; have c5 := uH (kH HF.out.box (gT (grownBy_any _ (gT G4.out (gA _ _ _))) hgrow5) (fun e => by have := HF.out.own_from _ e; have := HF.out.ltX; omega)); have y1 := (cO c5.out).2.1; have yf := (cO c5.out).2.2 1; clear hown5 hgrow5 hat))
      all_goals
       go_wp2_with fail
       go_meet
       case rel =>
        have hsz := G4.out.size
        refine ⟨some ⟨g', 0, none⟩, ncap, .slice pu (r.2.eraseIdx q).length cu, ?_⟩
        have hpush := HF.out.push (g := g') (cap := ncap) (c := r.1) (ts := r.2.eraseIdx q) (tv := .slice pu (r.2.eraseIdx q).length cu) (gT G4.out (gA w4 (.cells (rowCells (lessR q r, .slice pu (r.2.eraseIdx q).length cu)).toArray 86) none)) (World.ownsRow.alloc (owns_lower HU.out (by simp)) _) G5.out (by rw [HN.out]; exact O5.out) (by rw [HN.out]) (by rcases A5.out with h | h; exact .inl h; exact .inr (by simp; omega)) ⟨Nat.le_trans (List.length_eraseIdx_le _ _) (by rw [HLk.out]; omega), fun c hc => HMk.out c (List.mem_of_mem_eraseIdx hc)⟩
        exact hpush
     case rest =>
      obtain ⟨p', cap', tv, HF'⟩ := hcut
      refine hK8 _ _ ?_
      go_wp2
      go_roundw
      case rel => exact ⟨k + 1, p', n + 1, cap', fl ++ [lessR q r], tvs ++ [tv], by omega, by go_num, by have h1 := congrArg List.length HT.out; have h2 := HN.out; simp at h1; omega, by show _ = _; rw [HTk.out, HT.out, List.map_append]; rfl, by show _ = _; rw [List.length_append, HN.out]; rfl, HF'.out⟩
      case measure => simp [intOf]; omega
   · obtain rfl : k = rs.length := by omega
     have HTw : Hid (fl = rs.map (lessR q)) := by
      have h := HT.out
      rwa [List.take_length] at h
     obtain ⟨x0, x1, _⟩ := cO HF.out.box
     obtain ⟨r0, r1, rf⟩ := cO HF.out.res
     go_wp2
     obtain ⟨C1, C2, C3⟩ := res_done HF.out.res HF.out.all (.slice p2 (l.eraseIdx q).length cap2) (.slice p n cap)
     have hX := HF.out.ltX
     have hX2 := HF.out.newX
     refine bodyPost_end (results_cell_row rfl _ _ (w.heap.size + 1) _ _ _ _ rfl C3 Tryz.underlying81 rfl Tryz.infoSpace2) rfl ?_
     have hso := owns_under (HO.out.kept HF.out.grown (.inr HNe.out)) C2 (fun k hk => by cases hk; omega)
     have hrw := (HF.out.rows.kept C2 (fun k hk => by cases hk; omega)).rw.rowsIn (by have := HN.out; omega)
     rw [HTw.out] at hrw
     refine ⟨_, _, rfl, sides_of_owns hso (Nat.le_trans (List.length_eraseIdx_le _ _) (by omega)) (fun s hs => HGd.out s (List.mem_of_mem_eraseIdx hs)), ?_, C1⟩
     exact hrw
end Go.Proofs.YtgeklmigfhhpfaaGreatDoor
namespace Go.Proofs.YtgeklmigfhhpfaaGreatDoor
open Go.RowKit
def okSet (R : List SideD × List CondD) : List SideD × List CondD := if setErr R = 0 then R else ([], [])
def Res (z : Int) (D : List SideD × List CondD) (w : World) (e : Ending) (w' : World) : Prop :=
 w.grownBy w' none ∧ ∃ sv cv, e = .returned (.tuple #[.agg #[sv, cv], .int .i64 z]) ∧ SetAt w' sv cv D
theorem set_nil (w : World) : SetAt w (.slice none 0 0) (.slice none 0 0) ([], []) :=
 ⟨⟨none, 0, rfl, ⟨by simp, by simp⟩, fun j s h => by simp at h⟩, ⟨none, 0, rfl, by simp, fun j s h => by simp at h⟩⟩
theorem SetRes.res {R : List SideD × List CondD} {w w' : World} {e : Ending} (h : SetRes R w e w') : Res (setErr R) (okSet R) w e w' := by
 obtain ⟨hg, hb, ho⟩ := h
 by_cases hE : setErr R = 0
 · obtain ⟨sv, cv, he, hs⟩ := ho hE
   refine ⟨hg, sv, cv, by rw [he, hE], ?_⟩
   unfold okSet
   rw [if_pos hE]
   exact hs
 · refine ⟨hg, _, _, hb hE, ?_⟩
   unfold okSet
   rw [if_neg hE]
   exact set_nil _
theorem ErrRes.res {z : Int} {w w' : World} {e : Ending} (h : ErrRes z w e w') : Res z ([], []) w e w' := ⟨h.1, _, _, h.2, set_nil _⟩
theorem SetOut.res {l : List SideD} {rs : List RowD} {w w' : World} {e : Ending} (h : SetOut l rs w e w') : ∃ fl p6 c6 p7 c7, Twin (RowF l) rs fl ∧ w.grownBy w' none ∧
  e = .returned (.tuple #[.agg #[.slice p6 (okSet (l, fl)).1.length c6, .slice p7 (okSet (l, fl)).2.length c7], .int .i64 (setErr (l, fl))]) ∧
  ∀ o w2, (∀ k, o = some k → k < w.heap.size) → w'.grownBy w2 o → SetAt w2 (.slice p6 (okSet (l, fl)).1.length c6) (.slice p7 (okSet (l, fl)).2.length c7) (okSet (l, fl)) := by
 obtain ⟨fl, ht, hg, hb, ho⟩ := h
 by_cases hE : setErr (l, fl) = 0
 · obtain ⟨sv, cv, he, hs⟩ := ho hE
   obtain ⟨⟨p6, c6, e6, _⟩, ⟨p7, c7, e7, _⟩⟩ := id (hs none _ (fun k hk => by cases hk) (gR _ _))
   subst e6 e7
   have hok : okSet (l, fl) = (l, fl) := by unfold okSet; rw [if_pos hE]
   refine ⟨fl, p6, c6, p7, c7, ht, hg, ?_, ?_⟩
   · rw [hok, he, hE]
   · rw [hok]
     exact hs
 · have hok : okSet (l, fl) = ([], []) := by unfold okSet; rw [if_neg hE]
   refine ⟨fl, none, 0, none, 0, ht, hg, ?_, ?_⟩
   · rw [hok]
     exact hb hE
   · rw [hok]
     intro o w2 _ _
     exact set_nil _
theorem mul_abs {a x : Int} {A X : Nat} (ha : a.natAbs ≤ A) (hx : x.natAbs ≤ X) : (a * x).natAbs ≤ A * X := by
 rw [Int.natAbs_mul]
 exact Nat.mul_le_mul ha hx
theorem mul_two {a b x y : Int} {A X : Nat} (ha : a.natAbs ≤ A) (hb : b.natAbs ≤ A) (hx : x.natAbs ≤ X) (hy : y.natAbs ≤ X) : (a * x + b * y).natAbs ≤ 2 * (A * X) := by
 have h1 := mul_abs ha hx
 have h2 := mul_abs hb hy
 omega
theorem coefAt_abs {n k : Nat} {r : RowD} (h : goodRow n r) : (coefAt k r).natAbs ≤ 1000 := by
 unfold coefAt
 rw [List.getD_eq_getElem?_getD]
 cases hk : r.2[k]? with
 | none => simp
 | some c =>
   have := h.2.2 c (List.mem_of_getElem? hk)
   simp only [Option.getD_some]
   omega
theorem sum_good {n : Nat} {r q : RowD} {a b : Int} (hr : goodRow n r) (hq : goodRow n q) (ha : a.natAbs ≤ 1000) (hb : b.natAbs ≤ 1000) : (sumR r a q b).2.length = n ∧ (sumR r a q b).1.natAbs ≤ 2000000000 ∧ ∀ c ∈ (sumR r a q b).2, c.natAbs ≤ 2000000 := by
 refine ⟨by simp [sumR, hr.1, hq.1], ?_, fun c hc => ?_⟩
 · have := mul_two (A := 1000) (X := 1000000) ha hb (show r.1.natAbs ≤ 1000000 by have := hr.2.1; omega) (show q.1.natAbs ≤ 1000000 by have := hq.2.1; omega)
   simp only [sumR]
   omega
 · simp only [sumR] at hc
   obtain ⟨j, hj, rfl⟩ := List.getElem_of_mem hc
   rw [List.getElem_zipWith]
   have hj' : j < r.2.length ∧ j < q.2.length := by simp at hj; omega
   have h1 := hr.2.2 _ (List.getElem_mem hj'.1)
   have h2 := hq.2.2 _ (List.getElem_mem hj'.2)
   have := mul_two (A := 1000) (X := 1000) ha hb (show (r.2[j]).natAbs ≤ 1000 by omega) (show (q.2[j]).natAbs ≤ 1000 by omega)
   omega
def bigRow (n : Nat) (r : RowD) : Prop := r.2.length = n ∧ r.1.natAbs ≤ 2000000000 ∧ ∀ c ∈ r.2, c.natAbs ≤ 2000000
theorem big_good {n : Nat} {r : RowD} (h : goodRow n r) : bigRow n r := ⟨h.1, by have := h.2.1; omega, fun c hc => by have := h.2.2 c hc; omega⟩
theorem elim_good {n k : Nat} {rs : List RowD} (h : ∀ r ∈ rs, goodRow n r) : ∀ r ∈ elimR k rs, bigRow n r := by
 intro r hr
 unfold elimR at hr
 rcases List.mem_append.1 hr with hr | hr
 · exact big_good (h r (List.mem_filter.1 hr).1)
 · unfold combsR at hr
   obtain ⟨a, ha, hr⟩ := List.mem_flatMap.1 hr
   obtain ⟨b, hb, rfl⟩ := List.mem_map.1 hr
   have g1 := h a (List.mem_filter.1 ha).1
   have g2 := h b (List.mem_filter.1 hb).1
   exact sum_good g1 g2 (by have := coefAt_abs (k := k) g2; omega) (coefAt_abs g1)
theorem flat_le {α β : Type} {f : α → List β} {m : Nat} : ∀ {l : List α}, (∀ a ∈ l, (f a).length ≤ m) → (l.flatMap f).length ≤ l.length * m
 | [], _ => by simp
 | a :: r, h => by
   have h1 := h a (by simp)
   have h2 := flat_le (l := r) fun x hx => h x (by simp [hx])
   simp only [List.flatMap_cons, List.length_append, List.length_cons, Nat.succ_mul]
   omega
theorem elim_length {k m : Nat} {rs : List RowD} (h : rs.length ≤ m) : (elimR k rs).length ≤ m + m * m := by
 unfold elimR combsR
 rw [List.length_append]
 have h1 := List.length_filter_le (fun r => decide (coefAt k r = 0)) rs
 have h2 := List.length_filter_le (fun r => decide (0 < coefAt k r)) rs
 have h3 := List.length_filter_le (fun r => decide (coefAt k r < 0)) rs
 have h4 := flat_le (f := fun r => (rs.filter fun r => decide (coefAt k r < 0)).map fun q => sumR r (-(coefAt k q)) q (coefAt k r)) (l := rs.filter fun r => decide (0 < coefAt k r)) (m := m) fun a _ => by rw [List.length_map]; omega
 have h5 := Nat.mul_le_mul_right m (Nat.le_trans h2 h)
 omega
theorem less_good {n k : Nat} {r : RowD} (h : bigRow n r) (hk : k < n) : bigRow (n - 1) (lessR k r) := by
 refine ⟨?_, h.2.1, fun c hc => h.2.2 c (List.mem_of_mem_eraseIdx hc)⟩
 unfold lessR
 simp only
 rw [List.length_eraseIdx, if_pos (by rw [h.1]; exact hk), h.1]
theorem big_mid {n : Nat} {r : RowD} (h : bigRow n r) : (-1000000000000 ≤ r.1 ∧ r.1 ≤ 1000000000000) ∧ ∀ c ∈ r.2, mid c :=
 ⟨by have := h.2.1; omega, fun c hc => by have := h.2.2 c hc; unfold mid; omega⟩
theorem big_small {n : Nat} {r : RowD} (h : bigRow n r) : small r.1 ∧ ∀ c ∈ r.2, small c :=
 ⟨by have := h.2.1; unfold small; omega, fun c hc => by have := h.2.2 c hc; unfold small; omega⟩
def endsR (S : List SideD × List CondD) (q : Nat) (s : SideD) : List RowD := endRows S.1.length q s.2.1 s.2.2 ++ rowsOf S
theorem ends_good {S : List SideD × List CondD} {q : Nat} {s : SideD} (h : setErr S = 0) (hq : S.1[q]? = some s) : (∀ r ∈ endsR S q s, goodRow S.1.length r) ∧ (endsR S q s).length ≤ 62 := by
 have hb := (set_sides h).2.2.2 s (List.mem_of_getElem? hq)
 have hset : ∀ (z : Int), (z = 1 ∨ z = -1) → ∀ c ∈ (List.replicate S.1.length (0 : Int)).set q z, -1000 ≤ c ∧ c ≤ 1000 := by
  intro z hz c hc
  rcases List.mem_or_eq_of_mem_set hc with h | h
  · have := List.eq_of_mem_replicate h
    omega
  · omega
 refine ⟨fun r hr => ?_, ?_⟩
 · unfold endsR at hr
   rcases List.mem_append.1 hr with hr | hr
   · unfold endRows at hr
     simp only [List.mem_cons, List.not_mem_nil, or_false] at hr
     rcases hr with rfl | rfl
     · exact ⟨by simp, by simp only; omega, hset 1 (.inl rfl)⟩
     · exact ⟨by simp, by simp only; omega, hset (-1) (.inr rfl)⟩
   · exact rows_good h r hr
 · have := rows_len h
   unfold endsR endRows
   simp
   omega
def sideC (s : SideD) : List CondD := [(-s.2.1, [(s.1, 1)]), (s.2.2, [(s.1, -1)])]
theorem one_formX {x : ByteArray} {c z : Int} (hx : x ≠ ByteArray.empty) (hz : z ≠ 0) : FormX (fun n => if x = n then z else 0) c (c, [(x, z)]) := by
 refine ⟨rfl, by simp [Ups], fun n y => ?_⟩
 simp only [List.mem_singleton, Prod.mk.injEq]
 constructor
 · rintro ⟨rfl, rfl⟩
   exact ⟨hx, hz, by simp⟩
 · rintro ⟨h1, h2, h3⟩
   by_cases e : x = n
   · rw [if_pos e] at h3
     exact ⟨e.symm, h3.symm⟩
   · rw [if_neg e] at h3
     exact absurd h3.symm h2
theorem ends_twin {S : List SideD × List CondD} {q : Nat} {s : SideD} (h : setErr S = 0) (hq : S.1[q]? = some s) : Twin (RowF S.1) (endsR S q s) (sideC s ++ S.2) := by
 obtain ⟨h1, h2, _⟩ := set_sides h
 have hne := h2 s (List.mem_of_getElem? hq)
 have hu : ∀ z : Int, z ≠ 0 → ∀ c : Int, RowF S.1 (c, (List.replicate S.1.length 0).set q z) (c, [(s.1, z)]) := fun z hz c =>
  ⟨by simp, formX_cong (one_formX hne hz) fun n _ => by rw [rowX_unit S.1 q s z n h1 hq]⟩
 exact Twin.append (.cons (hu 1 (by decide) _) (.cons (hu (-1) (by decide) _) .nil)) (rows_twin h)
def shadowR (S : List SideD × List CondD) (q : Nat) (s : SideD) : List RowD := mergeAll (((elimR q (endsR S q s)).map (lessR q)).filterMap tightR)
theorem apart_erase {l : List SideD} (h : Apart l) (q : Nat) : Apart (l.eraseIdx q) := List.Pairwise.sublist (List.eraseIdx_sublist l q) h
end Go.Proofs.YtgeklmigfhhpfaaGreatDoor
namespace Go.Proofs.YtgeklmigfhhpfaaGreatDoor
open Go.RowKit
attribute [local go_sem ↓] Go.wp_at_zero Go.wp_at_succ
theorem results_space3 {fn : Func} {p u v : Tmp} (h : fn.results = #[.cell p 81, .tmp u, .tmp v]) (tmps : Array Value) (w : World) (g : Nat) (t : TypeId) (a b : Value) (fr : Nat × Nat)
  (hp : tmps.getD p undef = .pointer (some ⟨g, 0, none⟩)) (hg : w.heap[g]? = some (.cells #[a, b] t fr)) :
  (results fn tmps).run Tryz.prog w = .ok (.tuple #[.agg #[a, b], tmps.getD u undef, tmps.getD v undef]) w := by
 have e : (results fn tmps).run Tryz.prog w = ((asAddr (tmps.getD p undef)).run Tryz.prog w).andThen fun a w₁ => ((loadVar 81 a).run Tryz.prog w₁).andThen fun x w₂ => .ok (.tuple #[x, tmps.getD u undef, tmps.getD v undef]) w₂ := by
  simp only [results, h]
  simp [Sem.run_bind, Result.andThen]
 rw [e, hp]
 simp [asAddr, run_loadVar_row w g t 81 #[a, b] fr _ hg Tryz.underlying81 rfl Tryz.infoSpace2, Result.andThen]
def SpacePlace (S : List SideD × List CondD) (x : ByteArray) (sv : Value) (w : World) (e : Ending) (w' : World) : Prop :=
 w.grownBy w' none ∧ (setErr S ≠ 0 → e = .returned (.tuple #[.agg #[.slice none 0 0, .slice none 0 0], .int .i64 0, .int .i64 (setErr S)])) ∧
  (setErr S = 0 → nameErr (namesOf S.1) x ≠ 0 → e = .returned (.tuple #[.agg #[.slice none 0 0, .slice none 0 0], .int .i64 0, .int .i64 (nameErr (namesOf S.1) x)])) ∧
  (setErr S = 0 → nameErr (namesOf S.1) x = 0 → ∃ kv cvs, e = .returned (.tuple #[.agg #[sv, kv], .int .i64 (firstI (sameName x) S.1), .int .i64 0]) ∧ RSt w' w.heap.size kv (rowsOf S) cvs)
structure PlSt (w0 wr : World) (X : Nat) (sv kv : Value) : Prop where
 grown : w0.grownBy wr none
 newX : w0.heap.size + 2 ≤ X
 res : wr.heap[w0.heap.size + 1]? = some (.cells #[.slice none 0 0, .slice none 0 0] 81 (0, 0))
 box : wr.heap[X]? = some (.cells #[sv, kv] 81 (0, 0))
theorem PlSt.kept {w0 wr w' : World} {X : Nat} {sv kv : Value} (h : PlSt w0 wr X sv kv) (hg : wr.grownBy w' none) : PlSt w0 w' X sv kv := ⟨gT h.grown hg, h.newX, kH h.res hg (by simp), kH h.box hg (by simp)⟩
theorem PlSt.start {w w2 : World} {a b sv kv : Value} (h : ((w.alloc (.cells #[a, b] 29)).alloc (.cells #[.slice none 0 0, .slice none 0 0] 81)).grownBy w2 none) : PlSt w (w2.alloc (.cells #[sv, kv] 81)) w2.heap.size sv kv := by
 have hs := h.size
 simp at hs
 have ga := gA w2 (.cells #[sv, kv] 81) none
 refine ⟨gT (gA _ _ _) (gT (gA _ _ _) (gT h ga)), by omega, kH (kH ?_ h (by simp)) ga (by simp), heap_alloc_new _ _⟩
 show ((w.heap.push _).push _)[w.heap.size + 1]? = _
 simp only [Array.getElem?_push, Array.size_push]
 rw [if_pos trivial]
set_option maxRecDepth 100000 in
set_option maxHeartbeats 4000000 in
theorem spaceAndPlace_any (S : List SideD × List CondD) (x : ByteArray) (sv cv : Value) (w : World) (hx : x.size ≤ maxLen) (hS : SetAt w sv cv S) :
  Calls Tryz.prog 51 #[.agg #[sv, cv], .string x] w (SpacePlace S x sv w) := by
 obtain ⟨ps, scap, rfl, _⟩ := id hS.1
 have HS := uH hS
 clear hS
 by_cases hE : setErr S = 0
 · have HE := uH hE
   clear hE
   by_cases hN : nameErr (namesOf S.1) x = 0
   · have hN0 : (nameErr (namesOf S.1) x != 0) = false := by simp [hN]
     have HN := uH hN
     clear hN
     go_enter Tryz.func51, Tryz.ntmps51
     go_upto_region 7 with (first
      | (go_at_call 49; go_must (refine (spaceOf_room S _ _ _ (HS.out.kept (gT (gA _ _ _) (gA _ _ _)))).mono ?_; rintro e w2 ⟨hg, _, hok⟩; obtain ⟨kv, cvs, rfl, hk⟩ := hok HE.out; obtain ⟨pk, kcap, rfl⟩ := own_form hk.row; have HP := uH (PlSt.start (sv := .slice ps S.1.length scap) (kv := .slice pk (rowsOf S).length kcap) hg); have HK := uH (RSt.lower (hk.kept (gA w2 (.cells #[.slice ps S.1.length scap, .slice pk (rowsOf S).length kcap] 81) none) (fun k hk => by cases hk)) (P' := w.heap.size + 2) (by simp)); clear hg hok hk; have px0 := (cO HP.out.box).1))
      | (go_at_call 104; go_must (refine (checkName_any x _ S.1 _ hx (HS.out.1.kept HP.out.grown)).mono ?_; rintro e w3 ⟨rfl, hg⟩; have HP3 := uH (HP.out.kept hg); have HK3 := uH (HK.out.kept hg (fun k hk => by cases hk)); clear hg; obtain ⟨y0, y1, _⟩ := cO HP3.out.box; obtain ⟨z0, z1, zf⟩ := cO HP3.out.res)))
     have hs3 := HP3.out.newX
     go_region_held3 (fun W => W.cell? ⟨w2.heap.size, 0, none⟩ = some (.slice ps S.1.length scap) ∧ W.cell? ⟨w2.heap.size, 1, none⟩ = some (.slice pk (rowsOf S).length kcap)) (first | go_keep | exact ⟨(gT (gS _ _ 0 _) (gS _ _ 1 _)).cell u0 (by simp; omega), (gT (gS _ _ 0 _) (gS _ _ 1 _)).cell u1 (by simp; omega)⟩) (first
      | (go_at_call 105; go_must (refine (placeOf_any x _ S.1 _ (HS.out.1.kept (gT HP3.out.grown (by first | exact gR _ _ | exact gD _ _)))).mono ?_; rintro e w4 ⟨rfl, hg⟩; have HP4 := uH (HP3.out.kept (gT (by first | exact gR _ _ | exact gD _ _) hg)); have HK4 := uH (HK3.out.kept (gT (by first | exact gR _ _ | exact gD _ none) hg) (fun k hk => by cases hk)); obtain ⟨u0, u1, _⟩ := cO HP4.out.box; obtain ⟨v0, v1, vf⟩ := cO HP4.out.res; clear hg)))
     all_goals
      go_wp2
      obtain ⟨C1, C2, C3⟩ := res_done HP4.out.res HP4.out.grown (.slice ps S.1.length scap) (.slice pk (rowsOf S).length kcap)
      refine bodyPost_ret (results_space3 rfl _ _ (w.heap.size + 1) _ _ _ _ rfl C3) rfl ⟨C1, fun h => absurd HE.out h, fun _ h => absurd HN.out h, fun _ _ => ⟨_, cvs, rfl, (HK4.out.kept C2 (fun k hk => by cases hk; omega)).lower (by omega)⟩⟩
   · have hN0 : (nameErr (namesOf S.1) x != 0) = true := by simpa using hN
     have HN := uH hN
     clear hN
     go_enter Tryz.func51, Tryz.ntmps51
     go_wp2_with (first
      | (go_at_call 49; go_must (refine (spaceOf_room S _ _ _ (HS.out.kept (gT (gA _ _ _) (gA _ _ _)))).mono ?_; rintro e w2 ⟨hg, _, hok⟩; obtain ⟨kv, cvs, rfl, hk⟩ := hok HE.out; obtain ⟨pk, kcap, rfl⟩ := own_form hk.row; have HP := uH (PlSt.start (sv := .slice ps S.1.length scap) (kv := .slice pk (rowsOf S).length kcap) hg); have HK := uH (RSt.lower (hk.kept (gA w2 (.cells #[.slice ps S.1.length scap, .slice pk (rowsOf S).length kcap] 81) none) (fun k hk => by cases hk)) (P' := w.heap.size + 2) (by simp)); clear hg hok hk; have px0 := (cO HP.out.box).1))
      | (go_at_call 104; go_must (refine (checkName_any x _ S.1 _ hx (HS.out.1.kept HP.out.grown)).mono ?_; rintro e w3 ⟨rfl, hg⟩; have HP3 := uH (HP.out.kept hg); have HK3 := uH (HK.out.kept hg (fun k hk => by cases hk)); clear hg; obtain ⟨y0, y1, _⟩ := cO HP3.out.box; obtain ⟨z0, z1, zf⟩ := cO HP3.out.res)))
     obtain ⟨C1, C2, C3⟩ := res_done HP3.out.res HP3.out.grown (.slice none 0 0) (.slice none 0 0)
     exact bodyPost_ret (results_space3 rfl _ _ (w.heap.size + 1) _ _ _ _ rfl C3) rfl ⟨C1, fun h => absurd HE.out h, fun _ _ => rfl, fun _ h => absurd h HN.out⟩
 · have hE0 : (setErr S != 0) = true := by simpa using hE
   have HE := uH hE
   clear hE
   go_enter Tryz.func51, Tryz.ntmps51
   go_wp2_with (go_at_call 49; go_must (refine (spaceOf_room S _ _ _ (HS.out.kept (gT (gA _ _ _) (gA _ _ _)))).mono ?_; rintro e w2 ⟨hg, hno, _⟩; obtain rfl := hno HE.out; have HP := uH (PlSt.start (sv := .slice none 0 0) (kv := .slice none 0 0) hg); clear hg hno; obtain ⟨z0, z1, zf⟩ := cO HP.out.res))
   obtain ⟨C1, C2, C3⟩ := res_done HP.out.res HP.out.grown (.slice none 0 0) (.slice none 0 0)
   exact bodyPost_ret (results_space3 rfl _ _ (w.heap.size + 1) _ _ _ _ rfl C3) rfl ⟨C1, fun _ => rfl, fun h => absurd h HE.out, fun h => absurd h HE.out⟩
end Go.Proofs.YtgeklmigfhhpfaaGreatDoor
