/-
 Sets with as many points, all of the one in the other, have the same list of points. affine.Same. affine.Meet.
-/
import Derived.Deep.RegionHeld3
import Derived.Deep.DeepMust
import Derived.Deep.AppendLies
import Derived.WalkSpells
import Derived.Test.YtgeklmigfhhpfaaGreatDoorQ05
import Derived.Test.YtgeklmigfhhpfaaGreatDoorQ09
import Derived.Test.YtgeklmigfhhpfaaGreatDoorQ18
import Derived.Test.YtgeklmigfhhpfaaGreatDoorQ22
import Derived.Test.YtgeklmigfhhpfaaGreatDoorQ23
import Derived.Test.YtgeklmigfhhpfaaGreatDoorQ24
namespace Go.Proofs.YtgeklmigfhhpfaaGreatDoor
open Go.RowKit
def lexI : List Int → List Int → Prop
 | x :: r, y :: s => x < y ∨ (x = y ∧ lexI r s)
 | _, _ => False
theorem lexI_irrefl : ∀ (l : List Int), ¬ lexI l l
 | [] => fun h => h
 | x :: r => fun h => by
   rcases h with h | ⟨_, h⟩
   · omega
   · exact lexI_irrefl r h
theorem lexI_asymm : ∀ (l m : List Int), lexI l m → ¬ lexI m l
 | [], _, h, _ => by unfold lexI at h; exact h
 | x :: r, [], h, _ => by unfold lexI at h; exact h
 | x :: r, y :: s, h, k => by
   rcases h with h | ⟨h1, h2⟩
   · rcases k with k | ⟨k1, _⟩ <;> omega
   · rcases k with k | ⟨_, k2⟩
     · omega
     · exact lexI_asymm r s h2 k2
theorem lexI_pre : ∀ (p : List Int) {a b : Int} {r s : List Int}, a < b → lexI (p ++ a :: r) (p ++ b :: s)
 | [], _, _, _, _, h => .inl h
 | _ :: p, _, _, _, _, h => .inr ⟨rfl, lexI_pre p h⟩
theorem mem_rangeI {lo x : Int} {n : Nat} : x ∈ rangeI lo n ↔ lo ≤ x ∧ x < lo + n := by
 unfold rangeI
 rw [List.mem_map]
 constructor
 · rintro ⟨k, hk, rfl⟩
   have := List.mem_range.1 hk
   omega
 · rintro ⟨h1, h2⟩
   exact ⟨(x - lo).toNat, List.mem_range.2 (by omega), by omega⟩
theorem rangeI_up (lo : Int) (n : Nat) : (rangeI lo n).Pairwise (· < ·) := by
 unfold rangeI
 rw [List.pairwise_map]
 exact List.pairwise_lt_range.imp fun h => by omega
theorem points_form (S : List SideD × List CondD) : ∀ (rest : List SideD) (pre x : List Int), x ∈ pointsFrom S pre rest → ∃ suf, x = pre ++ suf ∧ suf.length = rest.length ∧ pointB S x = true
 | [], pre, x, h => by
   unfold pointsFrom at h
   split at h
   · obtain rfl := List.mem_singleton.1 h
     exact ⟨[], by simp, rfl, by assumption⟩
   · cases h
 | s :: r, pre, x, h => by
   unfold pointsFrom at h
   obtain ⟨v, _, hx⟩ := List.mem_flatMap.1 h
   obtain ⟨suf, rfl, h2, h3⟩ := points_form S r _ _ hx
   exact ⟨v :: suf, by simp, by simp [h2], h3⟩
theorem points_up (S : List SideD × List CondD) : ∀ (rest : List SideD) (pre : List Int), (pointsFrom S pre rest).Pairwise lexI
 | [], pre => by
   unfold pointsFrom
   split <;> simp
 | s :: r, pre => by
   unfold pointsFrom
   rw [List.pairwise_flatMap]
   refine ⟨fun v _ => points_up S r _, (rangeI_up _ _).imp fun {a b} hab x hx y hy => ?_⟩
   obtain ⟨f, rfl, _, _⟩ := points_form S r _ _ hx
   obtain ⟨g, rfl, _, _⟩ := points_form S r _ _ hy
   simp only [List.append_assoc, List.singleton_append]
   exact lexI_pre pre hab
theorem points_mem (S : List SideD × List CondD) : ∀ (rest : List SideD) (pre suf : List Int), suf.length = rest.length → (rest.zip suf).all (fun q => inB q.2 q.1.2.1 q.1.2.2) = true → pointB S (pre ++ suf) = true → pre ++ suf ∈ pointsFrom S pre rest
 | [], pre, suf, hl, _, hp => by
   obtain rfl := List.length_eq_zero_iff.1 hl
   unfold pointsFrom
   rw [List.append_nil] at hp ⊢
   rw [if_pos hp]
   simp
 | s :: r, pre, [], hl, _, _ => by simp at hl
 | s :: r, pre, v :: suf, hl, hi, hp => by
   unfold pointsFrom
   simp only [List.zip_cons_cons, List.all_cons, Bool.and_eq_true] at hi
   have h1 : s.2.1 ≤ v ∧ v ≤ s.2.2 := by simpa [inB] using hi.1
   refine List.mem_flatMap.2 ⟨v, mem_rangeI.2 (by omega), ?_⟩
   rw [show pre ++ v :: suf = (pre ++ [v]) ++ suf by simp]
   exact points_mem S r (pre ++ [v]) suf (by simpa using hl) hi.2 (by simpa using hp)
theorem mem_points {S : List SideD × List CondD} {x : List Int} : x ∈ pointsFrom S [] S.1 ↔ x.length = S.1.length ∧ pointB S x = true := by
 constructor
 · intro h
   obtain ⟨suf, rfl, h2, h3⟩ := points_form S _ _ _ h
   exact ⟨by simpa using h2, h3⟩
 · rintro ⟨h1, h2⟩
   have h3 : insideB S.1 x = true := by
    unfold pointB at h2
    simp only [Bool.and_eq_true] at h2
    exact h2.1
   exact points_mem S S.1 [] x h1 h3 h2
theorem sub_all {α : Type} [DecidableEq α] : ∀ (l m : List α), l.Nodup → (∀ x ∈ l, x ∈ m) → m.length ≤ l.length → ∀ x ∈ m, x ∈ l
 | [], m, _, _, h, x, hx => by
   have : m = [] := List.length_eq_zero_iff.1 (by simpa using h)
   subst this
   cases hx
 | a :: r, m, hn, hs, h, x, hx => by
   have ha := hs a (by simp)
   obtain ⟨hna, hnr⟩ := List.nodup_cons.1 hn
   by_cases hxa : x = a
   · simp [hxa]
   · have h1 := sub_all r (m.erase a) hnr (fun y hy => (List.mem_erase_of_ne (fun e => hna (by rw [← e]; exact hy))).2 (hs y (by simp [hy]))) (by rw [List.length_erase_of_mem ha]; simp at h; omega) x ((List.mem_erase_of_ne hxa).2 hx)
     simp [h1]
theorem up_ext {α : Type} {R : α → α → Prop} (hi : ∀ a, ¬ R a a) (ha : ∀ a b, R a b → ¬ R b a) : ∀ {l m : List α}, l.Pairwise R → m.Pairwise R → (∀ x, x ∈ l ↔ x ∈ m) → l = m
 | [], [], _, _, _ => rfl
 | [], b :: m, _, _, h => by have := (h b).2 (by simp); cases this
 | a :: l, [], _, _, h => by have := (h a).1 (by simp); cases this
 | a :: l, b :: m, hl, hm, h => by
   obtain ⟨h1, h2⟩ := List.pairwise_cons.1 hl
   obtain ⟨k1, k2⟩ := List.pairwise_cons.1 hm
   have hab : a = b := by
    rcases List.mem_cons.1 ((h a).1 (by simp)) with e | e
    · exact e
    · rcases List.mem_cons.1 ((h b).2 (by simp)) with f | f
      · exact f.symm
      · exact absurd (h1 _ f) (ha _ _ (k1 _ e))
   subst hab
   congr 1
   refine up_ext hi ha h2 k2 fun x => ⟨fun hx => ?_, fun hx => ?_⟩
   · rcases List.mem_cons.1 ((h x).1 (by simp [hx])) with e | e
     · subst e; exact absurd (h1 _ hx) (hi _)
     · exact e
   · rcases List.mem_cons.1 ((h x).2 (by simp [hx])) with e | e
     · subst e; exact absurd (k1 _ hx) (hi _)
     · exact e
theorem up_nodup {l : List (List Int)} (h : l.Pairwise lexI) : l.Nodup := h.imp fun {a b} hab e => by subst e; exact lexI_irrefl _ hab
theorem pts_eq {S T : List SideD × List CondD} (hT : setErr T = 0) (hl : S.1.length = T.1.length) :
  (decide ((pointsFrom S [] S.1).length = (pointsFrom T [] T.1).length) && (pointsFrom S [] S.1).all (pointP T)) = decide (pointsFrom S [] S.1 = pointsFrom T [] T.1) := by
 have hall : (pointsFrom S [] S.1).all (pointP T) = true ↔ ∀ x ∈ pointsFrom S [] S.1, x ∈ pointsFrom T [] T.1 := by
  rw [List.all_eq_true]
  refine ⟨fun h x hx => ?_, fun h x hx => ?_⟩
  · have h1 := (mem_points.1 hx).1
    rw [hl] at h1
    exact mem_points.2 ⟨h1, by rw [← pointP_eq hT h1]; exact h x hx⟩
  · have h1 := mem_points.1 (h x hx)
    rw [pointP_eq hT h1.1]
    exact h1.2
 rw [Bool.eq_iff_iff]
 simp only [Bool.and_eq_true, decide_eq_true_eq]
 rw [hall]
 constructor
 · rintro ⟨h1, h2⟩
   have u1 := points_up S S.1 []
   have u2 := points_up T T.1 []
   have h3 := sub_all _ _ (up_nodup u1) h2 (by omega)
   exact up_ext lexI_irrefl lexI_asymm u1 u2 fun x => ⟨h2 x, h3 x⟩
 · intro h
   rw [h]
   exact ⟨rfl, fun x hx => hx⟩
end Go.Proofs.YtgeklmigfhhpfaaGreatDoor
namespace Go.Proofs.YtgeklmigfhhpfaaGreatDoor
open Go.RowKit
attribute [local go_sem ↓] Go.wp_at_zero Go.wp_at_succ
def goHas (T : List SideD × List CondD) (d : List (List Int)) : Bool := match d.getLast? with
 | some pt => pointP T pt
 | none => true
theorem goHas_snoc (T : List SideD × List CondD) (d : List (List Int)) (pt : List Int) : goHas T (d ++ [pt]) = pointP T pt := by simp [goHas]
theorem walkP_has (T : List SideD × List CondD) : ∀ ps d, (walkP (goHas T) d ps).2 = ps.all (pointP T)
 | [], d => by simp [walkP]
 | p :: r, d => by
   simp only [walkP, goHas_snoc, List.all_cons]
   cases h : pointP T p
   · simp
   · simp [walkP_has T r]
def HasInv (wb : World) (_ : Nat) (_ : List (List Int)) (w : World) : Prop := wb.grownBy w none
theorem has_steady {wb : World} {Bb B : Nat} (h : wb.heap.size ≤ Bb) : Steady Bb (HasInv wb B) := fun _ _ _ hi hg => gO hi hg (fun k hk => by cases hk; exact h)
theorem has_visit {T : List SideD × List CondD} {tv kw : Value} {wE wb : World} {V V2 Bb n : Nat} (hs : SidesAt wb tv T.1) (hk : RowLAt wb kw (rowsOf T)) (hT : setErr T = 0) (hn : n = T.1.length) (hn8 : n ≤ 1000) : VisitOkH tv kw wE V V2 Bb n (HasInv wb Bb) (goHas T) := by
 intro d pt w h hb hd
 have hi : wb.grownBy w none := h.inv
 have hx := h.ints hn8 n n (Nat.le_refl _) (by rw [List.take_of_length_le (by rw [h.len]; exact Nat.le_refl _)]; exact hb)
 rw [List.take_of_length_le (by rw [h.len]; exact Nat.le_refl _)] at hx
 refine (spaceHas_any T _ _ _ pt w (hs.kept hi) (hk.kept hi) hx hT (by rw [h.len, hn])).mono ?_
 rintro e w1 ⟨rfl, hg1⟩
 exact ⟨ret_bool (goHas_snoc T d pt).symm, h.framed.grown hg1, h.lo, h.hi, kH h.buf hg1 (by simp), h.len, gT hi hg1⟩
theorem allIn_any (S T : List SideD × List CondD) (sv kv tv kw : Value) (w : World) (hs : SidesAt w sv S.1) (hk : RowLAt w kv (rowsOf S)) (ht : SidesAt w tv T.1) (hj : RowLAt w kw (rowsOf T)) (hS : setErr S = 0) (hT : setErr T = 0) (hl : S.1.length = T.1.length) :
  Calls Tryz.prog 47 #[.agg #[sv, kv], .func (.func 48) #[.agg #[tv, kw]] #[]] w (Gives (.bool ((pointsFrom S [] S.1).all (pointP T))) w) := by
 have hn8 := (set_good hS).1
 have H := eachH_any (ra := tv) (rb := kw) S sv kv w.heap.size w.heap.size (HasInv w) (goHas T) w w hs hk hS (gR _ _) (Nat.le_refl _) (Nat.le_refl _) (fun _ => gR _ _) (fun Bb hB => has_steady hB) (fun wE Bb hg hB => has_visit ht hj hT hl (by omega))
 unfold fvH at H
 refine H.mono ?_
 rintro e w2 ⟨rfl, hf, Bb, _, hi⟩
 exact ⟨ret_bool (walkP_has T _ _), hi⟩
def sameB (S T : List SideD × List CondD) : Bool := if bothErr S T = 0 then decide (pointsFrom S [] S.1 = pointsFrom T [] T.1) else false
theorem both_good {S T : List SideD × List CondD} (h : bothErr S T = 0) : setErr S = 0 ∧ setErr T = 0 ∧ fitB S.1 T.1 = true := by
 unfold bothErr at h
 split at h
 · rename_i h1
   split at h
   · rename_i h2
     split at h
     · exact ⟨h1, h2, by assumption⟩
     · cases h
   · exact absurd h (by assumption)
 · exact absurd h (by assumption)
theorem SamB.start {w w2 : World} {a b c d : Value} (h : w.grownBy w2 none) : w.grownBy ((w2.alloc (.cells #[a, b] 81)).alloc (.cells #[c, d] 81)) none ∧ ((w2.alloc (.cells #[a, b] 81)).alloc (.cells #[c, d] 81)).heap[w2.heap.size]? = some (.cells #[a, b] 81 (0, 0)) ∧ ((w2.alloc (.cells #[a, b] 81)).alloc (.cells #[c, d] 81)).heap[w2.heap.size + 1]? = some (.cells #[c, d] 81 (0, 0)) := by
 refine ⟨gT h (gT (gA _ _ _) (gA _ _ _)), kH (heap_alloc_new _ _) (gA _ _ none) (by simp), ?_⟩
 have h2 := heap_alloc_new (w2.alloc (.cells #[a, b] 81)) (.cells #[c, d] 81)
 simpa using h2
set_option maxRecDepth 100000 in
set_option maxHeartbeats 8000000 in
theorem same_any (S T : List SideD × List CondD) (sv cv tv dv : Value) (w : World) (hS : SetAt w sv cv S) (hT : SetAt w tv dv T) :
  Calls Tryz.prog 10 #[.agg #[sv, cv], .agg #[tv, dv]] w (Gives (.tuple #[.bool (sameB S T), .int .i64 (bothErr S T)]) w) := by
 obtain ⟨ps, scap, rfl, _⟩ := id hS.1
 obtain ⟨pt, tcap, rfl, _⟩ := id hT.1
 obtain ⟨pc, ccap, rfl, _⟩ := id hS.2
 obtain ⟨pd, dcap, rfl, _⟩ := id hT.2
 have HS := uH hS
 have HT := uH hT
 have HB := uH (gT (gA w (.cells #[.slice ps S.1.length scap, .slice pc S.2.length ccap] 29) none) (gA _ (.cells #[.slice pt T.1.length tcap, .slice pd T.2.length dcap] 29) none))
 clear hS hT
 by_cases hE : bothErr S T = 0
 · have hE0 : (bothErr S T != 0) = false := by simp [hE]
   have HE := uH hE
   obtain ⟨e1, e2, e3⟩ := both_good hE
   have HE1 := uH e1
   have HE2 := uH e2
   have HL := uH (names_len (fitB_names e3))
   have hn8 := (set_good e1).1
   have hm8 := (set_good e2).1
   have hn60 := rows_len e1
   have hm60 := rows_len e2
   have HP := uH (pts_eq (S := S) e2 (names_len (fitB_names e3)))
   have HF : Hid (sameB S T = decide (pointsFrom S [] S.1 = pointsFrom T [] T.1)) := by
    show _ = _
    unfold sameB
    rw [if_pos hE]
   clear hE e1 e2 e3
   by_cases hc : (pointsFrom S [] S.1).length = (pointsFrom T [] T.1).length
   · have hcd : (((pointsFrom S [] S.1).length : Int) == ((pointsFrom T [] T.1).length : Int)) = true := by simp [hc]
     have HR : Hid (sameB S T = (pointsFrom S [] S.1).all (pointP T)) := by
      show _ = _
      rw [HF.out, ← HP.out, decide_eq_true hc, Bool.true_and]
     clear hc HP HF
     go_enter Tryz.func10, Tryz.ntmps10
     go_upto_region 4 with (go_at_call 43; go_must (refine (spacesOf_any S T _ _ _ _ _ (HS.out.kept HB.out) (HT.out.kept HB.out)).mono ?_; rintro e w2 ⟨hg, _, hok⟩; obtain ⟨kv, kw, cvs, cws, rfl, hk, hq⟩ := hok HE.out; obtain ⟨pk, kcap, rfl⟩ := own_form hk.row; obtain ⟨pq, qcap, rfl⟩ := own_form hq.row; have HG2 := uH (gT HB.out hg); have HK := uH (hk.room (n := S.1.length) (by omega) (by omega) (rows_good HE1.out)); have HQ := uH (hq.room (n := T.1.length) (by omega) (by omega) (rows_good HE2.out)); clear hg hok hk hq))
     obtain ⟨b1, b2, b3⟩ := SamB.start (a := .slice ps S.1.length scap) (b := .slice pk (rowsOf S).length kcap) (c := .slice pt T.1.length tcap) (d := .slice pq (rowsOf T).length qcap) HG2.out
     have HK2 := uH (HK.out.rows.kept (gT (gA w2 (.cells #[.slice ps S.1.length scap, .slice pk (rowsOf S).length kcap] 81) none) (gA _ (.cells #[.slice pt T.1.length tcap, .slice pq (rowsOf T).length qcap] 81) none)))
     have HQ2 := uH (HQ.out.rows.kept (gT (gA w2 (.cells #[.slice ps S.1.length scap, .slice pk (rowsOf S).length kcap] 81) none) (gA _ (.cells #[.slice pt T.1.length tcap, .slice pq (rowsOf T).length qcap] 81) none)))
     have G3 := uH b1
     have HB1 := uH b2
     have HB2 := uH b3
     obtain ⟨x0, x1, _⟩ := cO b2
     obtain ⟨y0, y1, _⟩ := cO b3
     clear b1 b2 b3 HK HQ
     generalize (w2.alloc (.cells #[.slice ps S.1.length scap, .slice pk (rowsOf S).length kcap] 81)).alloc (.cells #[.slice pt T.1.length tcap, .slice pq (rowsOf T).length qcap] 81) = w3 at *
     go_region_held3 (fun W => W.cell? ⟨w2.heap.size, 0, none⟩ = some (.slice ps S.1.length scap) ∧ W.cell? ⟨w2.heap.size, 1, none⟩ = some (.slice pk (rowsOf S).length kcap) ∧ W.cell? ⟨w2.heap.size + 1, 0, none⟩ = some (.slice pt T.1.length tcap) ∧ W.cell? ⟨w2.heap.size + 1, 1, none⟩ = some (.slice pq (rowsOf T).length qcap)) (first | go_keep | (with_reducible exact ⟨K.out.cell x0 (by simp), K.out.cell x1 (by simp), K.out.cell y0 (by simp), K.out.cell y1 (by simp)⟩)) (first
      | (go_at_call 46; (refine (spaceCount_any S (.slice ps S.1.length scap) (.slice pk (rowsOf S).length kcap) _ (HS.out.1.kept (gT G3.out (by first | exact gR _ _ | exact gD _ _ | exact K.out | exact gT K.out (gD _ none)))) (HK2.out.kept (by first | exact gR _ _ | exact gD _ _ | exact K.out | exact gT K.out (gD _ none))) HE1.out).mono ?_; rintro e w4 ⟨rfl, hg4⟩; have K : Hid (w3.grownBy _ none) := uH (gT (by first | exact gR _ _ | exact gD _ _ | exact K.out | exact gT K.out (gD _ none)) hg4); clear hg4))
      | (go_at_call 46; (refine (spaceCount_any T (.slice pt T.1.length tcap) (.slice pq (rowsOf T).length qcap) _ (HT.out.1.kept (gT G3.out (by first | exact gR _ _ | exact gD _ _ | exact K.out | exact gT K.out (gD _ none)))) (HQ2.out.kept (by first | exact gR _ _ | exact gD _ _ | exact K.out | exact gT K.out (gD _ none))) HE2.out).mono ?_; rintro e w4 ⟨rfl, hg4⟩; have K : Hid (w3.grownBy _ none) := uH (gT (by first | exact gR _ _ | exact gD _ _ | exact K.out | exact gT K.out (gD _ none)) hg4); clear hg4))
      | (go_at_call 47; (refine (allIn_any S T _ _ _ _ _ (HS.out.1.kept (gT G3.out (by first | exact gR _ _ | exact gD _ _ | exact K.out | exact gT K.out (gD _ none)))) (HK2.out.kept (by first | exact gR _ _ | exact gD _ _ | exact K.out | exact gT K.out (gD _ none))) (HT.out.1.kept (gT G3.out (by first | exact gR _ _ | exact gD _ _ | exact K.out | exact gT K.out (gD _ none)))) (HQ2.out.kept (by first | exact gR _ _ | exact gD _ _ | exact K.out | exact gT K.out (gD _ none))) HE1.out HE2.out HL.out).mono ?_; rintro e w4 ⟨rfl, hg4⟩; have K : Hid (w3.grownBy _ none) := uH (gT (by first | exact gR _ _ | exact gD _ _ | exact K.out | exact gT K.out (gD _ none)) hg4); clear hg4)))
     all_goals
      go_wp2
      go_ret2
      exact ⟨by (rw [HR.out, HE.out]; rfl), gT G3.out (by first | exact K.out | exact gT K.out (gD _ none))⟩
   · have hcd : (((pointsFrom S [] S.1).length : Int) == ((pointsFrom T [] T.1).length : Int)) = false := by simp; omega
     have hcn : ((pointsFrom S [] S.1).length == (pointsFrom T [] T.1).length) = false := by simp [hc]
     have hcp : decide ((pointsFrom S [] S.1).length = (pointsFrom T [] T.1).length) = false := by simp [hc]
     have HR : Hid (sameB S T = false) := by
      show _ = _
      rw [HF.out, ← HP.out, decide_eq_false hc, Bool.false_and]
     clear hc HP HF
     go_enter Tryz.func10, Tryz.ntmps10
     go_upto_region 4 with (go_at_call 43; go_must (refine (spacesOf_any S T _ _ _ _ _ (HS.out.kept HB.out) (HT.out.kept HB.out)).mono ?_; rintro e w2 ⟨hg, _, hok⟩; obtain ⟨kv, kw, cvs, cws, rfl, hk, hq⟩ := hok HE.out; obtain ⟨pk, kcap, rfl⟩ := own_form hk.row; obtain ⟨pq, qcap, rfl⟩ := own_form hq.row; have HG2 := uH (gT HB.out hg); have HK := uH (hk.room (n := S.1.length) (by omega) (by omega) (rows_good HE1.out)); have HQ := uH (hq.room (n := T.1.length) (by omega) (by omega) (rows_good HE2.out)); clear hg hok hk hq))
     obtain ⟨b1, b2, b3⟩ := SamB.start (a := .slice ps S.1.length scap) (b := .slice pk (rowsOf S).length kcap) (c := .slice pt T.1.length tcap) (d := .slice pq (rowsOf T).length qcap) HG2.out
     have HK2 := uH (HK.out.rows.kept (gT (gA w2 (.cells #[.slice ps S.1.length scap, .slice pk (rowsOf S).length kcap] 81) none) (gA _ (.cells #[.slice pt T.1.length tcap, .slice pq (rowsOf T).length qcap] 81) none)))
     have HQ2 := uH (HQ.out.rows.kept (gT (gA w2 (.cells #[.slice ps S.1.length scap, .slice pk (rowsOf S).length kcap] 81) none) (gA _ (.cells #[.slice pt T.1.length tcap, .slice pq (rowsOf T).length qcap] 81) none)))
     have G3 := uH b1
     have HB1 := uH b2
     have HB2 := uH b3
     obtain ⟨x0, x1, _⟩ := cO b2
     obtain ⟨y0, y1, _⟩ := cO b3
     clear b1 b2 b3 HK HQ
     generalize (w2.alloc (.cells #[.slice ps S.1.length scap, .slice pk (rowsOf S).length kcap] 81)).alloc (.cells #[.slice pt T.1.length tcap, .slice pq (rowsOf T).length qcap] 81) = w3 at *
     go_region_law (first
      | (go_simp; go_at_call 46; (refine (spaceCount_any S (.slice ps S.1.length scap) (.slice pk (rowsOf S).length kcap) _ (HS.out.1.kept (gT G3.out (by first | exact gR _ _ | exact gD _ _ | exact K.out | exact gT K.out (gD _ none)))) (HK2.out.kept (by first | exact gR _ _ | exact gD _ _ | exact K.out | exact gT K.out (gD _ none))) HE1.out).mono ?_; rintro e w4 ⟨rfl, hg4⟩; have K : Hid (w3.grownBy _ none) := uH (gT (by first | exact gR _ _ | exact gD _ _ | exact K.out | exact gT K.out (gD _ none)) hg4); have u0 := K.out.cell y0 (by simp); have u1 := K.out.cell y1 (by simp); clear hg4))
      | (go_simp; go_at_call 46; (refine (spaceCount_any T (.slice pt T.1.length tcap) (.slice pq (rowsOf T).length qcap) _ (HT.out.1.kept (gT G3.out (by first | exact gR _ _ | exact gD _ _ | exact K.out | exact gT K.out (gD _ none)))) (HQ2.out.kept (by first | exact gR _ _ | exact gD _ _ | exact K.out | exact gT K.out (gD _ none))) HE2.out).mono ?_; rintro e w4 ⟨rfl, hg4⟩; have K : Hid (w3.grownBy _ none) := uH (gT (by first | exact gR _ _ | exact gD _ _ | exact K.out | exact gT K.out (gD _ none)) hg4); clear hg4)))
     all_goals
      go_wp2
      go_ret2
      exact ⟨by (rw [HR.out, HE.out]; rfl), gT G3.out (by first | exact K.out | exact gT K.out (gD _ none))⟩
 · have hE0 : (bothErr S T != 0) = true := by simpa using hE
   have HR : Hid (sameB S T = false) := by
    show _ = _
    unfold sameB
    rw [if_neg hE]
   have HE := uH hE
   clear hE
   go_enter Tryz.func10, Tryz.ntmps10
   go_wp2_with (go_at_call 43; go_must (refine (spacesOf_any S T _ _ _ _ _ (HS.out.kept HB.out) (HT.out.kept HB.out)).mono ?_; rintro e w2 ⟨hg, hno, _⟩; obtain rfl := hno HE.out; have G2 := uH hg; clear hg hno))
   go_ret2
   exact ⟨by (rw [HR.out]; rfl), gT HB.out (SamB.start G2.out).1⟩
end Go.Proofs.YtgeklmigfhhpfaaGreatDoor
namespace Go.Proofs.YtgeklmigfhhpfaaGreatDoor
open Go.RowKit
attribute [local go_sem ↓] Go.wp_at_zero Go.wp_at_succ
def RowsJoined (rs qs : List RowD) (W : World) (e : Ending) (w' : World) : Prop := ∃ v, e = .returned v ∧ RowLC w' v (rs ++ qs) True ∧ W.grownBy w' none
theorem rows_join (rs qs : List RowD) (kv kw : Value) (W : World) (b : Nat) (h1 : RowLC W kv rs True) (h2 : RowLC W kw qs True) (hn : rs.length + qs.length ≤ 1000) (c0 : W.cell? ⟨b, 0, none⟩ = some kv) (c1 : W.cell? ⟨b, 1, none⟩ = some kw) :
  Calls Tryz.prog 44 #[.slice (some ⟨b, 0, none⟩) 2 2] W (RowsJoined rs qs W) := by
 obtain ⟨cvs, l1, p1, d1⟩ := rowsIn_part h1
 obtain ⟨dvs, l2, p2, d2⟩ := rowsIn_part h2
 refine (concatRows_any [(rs.length, (rs.zip cvs).flatMap rowCells), (qs.length, (qs.zip dvs).flatMap rowCells)] b 2 [kv, kw] W (by simp) rfl (by simp [lens]; omega) ?_ ?_).mono ?_
 · intro j v hj
   match j, hj with
   | 0, hj => rw [c0]; exact hj
   | 1, hj => rw [c1]; exact hj
 · intro j v x hj hx
   match j, hj, hx with
   | 0, hj, hx =>
     obtain rfl := Option.some.inj hj
     obtain rfl := Option.some.inj hx
     exact p1
   | 1, hj, hx =>
     obtain rfl := Option.some.inj hj
     obtain rfl := Option.some.inj hx
     exact p2
 · rintro e w' ⟨v, rfl, ho, hg⟩
   refine ⟨v, rfl, RW.rowsIn (P := W.heap.size) (cvs := cvs ++ dvs) ⟨by simp [l1, l2], ?_, fun j q cv hq hc => ?_⟩ (by simp; omega), hg⟩
   · rw [List.zip_append (by rw [l1]), List.flatMap_append]
     simpa [lens] using ho
   · have hin : ∃ p cap, cv = .slice p q.2.length cap ∧ (True → q.2.length ≤ cap) ∧ IntsAt W cv q.2 := by
      by_cases hj : j < rs.length
      · rw [List.getElem?_append_left hj] at hq
        rw [List.getElem?_append_left (by rw [l1]; exact hj)] at hc
        exact d1 j q cv hq hc
      · rw [List.getElem?_append_right (by omega)] at hq
        rw [List.getElem?_append_right (by rw [l1]; omega), l1] at hc
        exact d2 _ q cv hq hc
     obtain ⟨p, cap, e1, e2, e3⟩ := hin
     exact ⟨p, cap, e1, e2, fun w2 hw => e3.kept (gO hg hw (fun k hk => (ho.lt k hk).1))⟩
structure MtB (w0 wr : World) (X : Nat) (sv kv tv kw : Value) : Prop where
 grown : w0.grownBy wr none
 newX : w0.heap.size + 3 ≤ X
 res : wr.heap[w0.heap.size + 2]? = some (.cells #[.slice none 0 0, .slice none 0 0] 29 (0, 0))
 b1 : wr.heap[X]? = some (.cells #[sv, kv] 81 (0, 0))
 b2 : wr.heap[X + 1]? = some (.cells #[tv, kw] 81 (0, 0))
theorem MtB.kept {w0 wr w' : World} {X : Nat} {sv kv tv kw : Value} (h : MtB w0 wr X sv kv tv kw) (hg : wr.grownBy w' none) : MtB w0 w' X sv kv tv kw := ⟨gT h.grown hg, h.newX, kH h.res hg (by simp), kH h.b1 hg (by simp), kH h.b2 hg (by simp)⟩
theorem MtB.size {w0 wr : World} {X : Nat} {sv kv tv kw : Value} (h : MtB w0 wr X sv kv tv kw) : X + 1 < wr.heap.size := (Array.getElem?_eq_some_iff.1 h.b2).1
theorem MtB.start {w w2 : World} {a b c d sv kv tv kw : Value} (h : (((w.alloc (.cells #[a, b] 29)).alloc (.cells #[c, d] 29)).alloc (.cells #[.slice none 0 0, .slice none 0 0] 29)).grownBy w2 none) : MtB w ((w2.alloc (.cells #[sv, kv] 81)).alloc (.cells #[tv, kw] 81)) w2.heap.size sv kv tv kw := by
 have hs := h.size
 simp at hs
 have ga := gA w2 (.cells #[sv, kv] 81) none
 have gb := gA (w2.alloc (.cells #[sv, kv] 81)) (.cells #[tv, kw] 81) none
 have h2 := heap_alloc_new (w2.alloc (.cells #[sv, kv] 81)) (.cells #[tv, kw] 81)
 have h3 := heap_alloc_new ((w.alloc (.cells #[a, b] 29)).alloc (.cells #[c, d] 29)) (.cells #[.slice none 0 0, .slice none 0 0] 29)
 refine ⟨gT (gA _ _ _) (gT (gA _ _ _) (gT (gA _ _ _) (gT h (gT ga gb)))), by omega, kH (kH (kH (by simpa using h3) h (by simp)) ga (by simp)) gb (by simp), kH (heap_alloc_new _ _) gb (by simp), by simpa using h2⟩
structure MtSt (wm wr : World) (jv pv : Value) (l : List SideD) : Prop where
 grown : wm.grownBy wr none
 box : wr.heap[wm.heap.size]? = some (.cells #[pv, jv] 81 (0, 0))
 row : wr.ownsRow (wm.heap.size + 1) 63 3 pv l.length (l.flatMap sideCells)
theorem MtSt.start (w : World) (jv : Value) : MtSt w (w.alloc (.cells #[.slice none 0 0, jv] 81)) jv (.slice none 0 0) [] := ⟨gA _ _ _, heap_alloc_new _ _, World.ownsRow_nil _ _ _ _⟩
theorem MtSt.size {wm wr : World} {jv pv : Value} {l : List SideD} (h : MtSt wm wr jv pv l) : wm.heap.size < wr.heap.size := (Array.getElem?_eq_some_iff.1 h.box).1
theorem MtSt.push {wm wr w3 w4 : World} {jv pv : Value} {l : List SideD} {o : Obj} {s : SideD} {g cap : Nat} (h : MtSt wm wr jv pv l) (k1 : wr.grownBy w3 none) (k2 : (w3.alloc o).grownBy w4 pv.ownBlock)
  (row : w4.ownsRow (wm.heap.size + 1) 63 3 (.slice (some ⟨g, 0, none⟩) (l.length + 1) cap) (l.length + 1) (l.flatMap sideCells ++ sideCells s)) :
  MtSt wm (w4.setCell ⟨wm.heap.size, 0, none⟩ (.slice (some ⟨g, 0, none⟩) (l.length + 1) cap)) jv (.slice (some ⟨g, 0, none⟩) (l.length + 1) cap) (l ++ [s]) := by
 have hX := h.size
 have g2 := gS w4 wm.heap.size 0 (.slice (some ⟨g, 0, none⟩) (l.length + 1) cap)
 have k12 : wr.grownBy w4 pv.ownBlock := gT (grownBy_any _ (gT k1 (gA w3 o none))) k2
 have hob : ∀ k, pv.ownBlock = some k → wm.heap.size + 1 ≤ k := fun k hk => (World.ownsRow.lt h.row k hk).1
 refine ⟨gO (gO h.grown k12 (fun k hk => by have := hob k hk; omega)) g2 (fun k hk => by cases hk; omega), ?_, ?_⟩
 · show (w4.heap.modify wm.heap.size _)[wm.heap.size]? = _
   rw [Array.getElem?_modify, if_pos rfl, kH h.box k12 (fun e => by have := hob _ e; omega)]
   simp
 · have hr := owns_under row g2 (fun k hk => by cases hk; omega)
   simpa using hr
theorem meet_take {l m : List SideD} {k : Nat} (hl : k < l.length) (hm : k < m.length) : (meetL l m).take (k + 1) = (meetL l m).take k ++ [((l[k]).1, max (l[k]).2.1 (m[k]).2.1, min (l[k]).2.2 (m[k]).2.2)] := by
 rw [List.take_succ_eq_append_getElem (by simp [meetL]; omega)]
 simp [meetL]
theorem meet_good {l m : List SideD} (hl : ∀ s ∈ l, goodSide s) (hm : ∀ s ∈ m, goodSide s) : ∀ s ∈ meetL l m, goodSide s := by
 intro s hs
 unfold meetL at hs
 obtain ⟨⟨a, b⟩, h, rfl⟩ := List.mem_map.1 hs
 have h2 := List.of_mem_zip h
 have g1 := hl _ h2.1
 have g2 := hm _ h2.2
 unfold goodSide small at *
 simp only
 omega
theorem meet_len {l m : List SideD} (h : l.length = m.length) : (meetL l m).length = l.length := by simp [meetL]; omega
theorem apart_names {l m : List SideD} (h : namesOf l = namesOf m) (ha : Apart l) : Apart m := by
 unfold Apart at *
 have h1 : (namesOf l).Pairwise (· ≠ ·) := by unfold namesOf; rw [List.pairwise_map]; exact ha
 rw [h] at h1
 unfold namesOf at h1
 rwa [List.pairwise_map] at h1
theorem names_ne {l m : List SideD} (h : namesOf l = namesOf m) (ha : ∀ s ∈ l, s.1 ≠ ByteArray.empty) : ∀ s ∈ m, s.1 ≠ ByteArray.empty := by
 intro s hs e
 have h1 : s.1 ∈ namesOf m := List.mem_map.2 ⟨s, hs, rfl⟩
 rw [← h] at h1
 obtain ⟨a, h2, h3⟩ := List.mem_map.1 h1
 exact ha a h2 (by rw [h3]; exact e)
theorem MtB.done {w0 wr : World} {X : Nat} {sv kv tv kw : Value} (h : MtB w0 wr X sv kv tv kw) (a b : Value) :
  w0.grownBy ((wr.setCell ⟨w0.heap.size + 2, 0, none⟩ a).setCell ⟨w0.heap.size + 2, 1, none⟩ b) none ∧ wr.grownBy ((wr.setCell ⟨w0.heap.size + 2, 0, none⟩ a).setCell ⟨w0.heap.size + 2, 1, none⟩ b) (some (w0.heap.size + 2)) ∧ ((wr.setCell ⟨w0.heap.size + 2, 0, none⟩ a).setCell ⟨w0.heap.size + 2, 1, none⟩ b).heap[w0.heap.size + 2]? = some (.cells #[a, b] 29 (0, 0)) := by
 obtain ⟨h1, h2⟩ := two_set h.res a b
 exact ⟨gO h.grown h2 (fun k hk => by cases hk; omega), h2, h1⟩
theorem small_good {n : Nat} {r : RowD} (h : goodRow n r) : small r.1 ∧ ∀ c ∈ r.2, small c :=
 ⟨by have := h.2.1; unfold small; omega, fun c hc => by have := h.2.2 c hc; unfold small; omega⟩
set_option maxRecDepth 100000 in
set_option maxHeartbeats 8000000 in
theorem meet_core (S T : List SideD × List CondD) (R : List RowD) (C : List CondD) (hR : R = rowsOf S ++ rowsOf T) (hC : C = S.2 ++ T.2) (sv cv tv dv : Value) (w : World) (hS : SetAt w sv cv S) (hT : SetAt w tv dv T) (hE : bothErr S T = 0) :
  Calls Tryz.prog 9 #[.agg #[sv, cv], .agg #[tv, dv]] w (SetRes (meetL S.1 T.1, C) w) := by
 obtain ⟨ps, scap, rfl, _, hsc⟩ := id hS.1
 obtain ⟨pt, tcap, rfl, _, htc⟩ := id hT.1
 obtain ⟨pc, ccap, rfl, _⟩ := id hS.2
 obtain ⟨pd, dcap, rfl, _⟩ := id hT.2
 have HS := uH hS
 have HT := uH hT
 have HSc := uH hsc
 have HTc := uH htc
 have HE := uH hE
 obtain ⟨e1, e2, e3⟩ := both_good hE
 have hnm := fitB_names e3
 have hll := names_len hnm
 have hn8 := (set_good e1).1
 have hn60 := rows_len e1
 have hm60 := rows_len e2
 have HE1 := uH e1
 have HE2 := uH e2
 have HL := uH hll
 have HTw : Hid (Twin (RowF (meetL S.1 T.1)) R C) := by rw [hR, hC]; exact meet_twin e1 e2 hnm
 have HRe := uH hR
 have HAp := uH (apart_names (meet_names hll).symm (set_sides e1).1)
 have HNe := uH (names_ne (meet_names hll).symm (set_sides e1).2.1)
 have HGd := uH (meet_good (set_sides e1).2.2.1 (set_sides e2).2.2.1)
 have HRl : Hid (∀ r ∈ R, r.2.length = (meetL S.1 T.1).length) := fun r hr => by
  rw [hR] at hr
  rw [meet_len hll]
  rcases List.mem_append.1 hr with h | h
  · exact (rows_good e1 r h).1
  · rw [hll]; exact (rows_good e2 r h).1
 have HRs : Hid (∀ r ∈ R, small r.1 ∧ ∀ c ∈ r.2, small c) := fun r hr => by
  rw [hR] at hr
  rcases List.mem_append.1 hr with h | h
  · exact small_good (rows_good e1 r h)
  · exact small_good (rows_good e2 r h)
 have HRn : Hid (R.length ≤ 120) := by show _ ≤ _; rw [hR]; simp; omega
 have HMl := uH (meet_len hll)
 have HGs := uH (gT (gA w (.cells #[.slice ps S.1.length scap, .slice pc S.2.length ccap] 29) none) (gT (gA _ (.cells #[.slice pt T.1.length tcap, .slice pd T.2.length dcap] 29) none) (gA _ (.cells #[.slice none 0 0, .slice none 0 0] 29) none)))
 obtain ⟨j0, hj0, hy0, hy1, hy2⟩ := info_parts Tryz.infoSide
 clear hS hT hE hsc htc e1 e2 e3 hnm hll hR hC
 go_enter Tryz.func9, Tryz.ntmps9
 go_upto_region 4 with (go_at_call 43; go_must (refine (spacesOf_any S T _ _ _ _ _ (HS.out.kept HGs.out) (HT.out.kept HGs.out)).mono ?_; rintro e w2 ⟨hg, _, hok⟩; obtain ⟨kv, kw, cvs, cws, rfl, hk, hq⟩ := hok HE.out; obtain ⟨pk, kcap, rfl⟩ := own_form hk.row; obtain ⟨pq, qcap, rfl⟩ := own_form hq.row; have HB := uH (MtB.start (sv := .slice ps S.1.length scap) (kv := .slice pk (rowsOf S).length kcap) (tv := .slice pt T.1.length tcap) (kw := .slice pq (rowsOf T).length qcap) hg); have HK := uH ((hk.room (n := S.1.length) (by omega) (by omega) (rows_good HE1.out)).kept (gT (gA _ (.cells #[.slice ps S.1.length scap, .slice pk (rowsOf S).length kcap] 81) none) (gA _ (.cells #[.slice pt T.1.length tcap, .slice pq (rowsOf T).length qcap] 81) none))); have HQ := uH ((hq.room (n := T.1.length) (by omega) (by have := HL.out; omega) (rows_good HE2.out)).kept (gT (gA _ (.cells #[.slice ps S.1.length scap, .slice pk (rowsOf S).length kcap] 81) none) (gA _ (.cells #[.slice pt T.1.length tcap, .slice pq (rowsOf T).length qcap] 81) none))); clear hg hok hk hq))
 generalize (w2.alloc (.cells #[.slice ps S.1.length scap, .slice pk (rowsOf S).length kcap] 81)).alloc (.cells #[.slice pt T.1.length tcap, .slice pq (rowsOf T).length qcap] 81) = w3 at *
 generalize hX : w2.heap.size = X at *
 obtain ⟨x0, x1, _⟩ := cO HB.out.b1
 obtain ⟨y0, y1, _⟩ := cO HB.out.b2
 obtain ⟨n0, n1, _⟩ := cO (heap_alloc_new w3 (.cells #[.slice pk (rowsOf S).length kcap, .slice pq (rowsOf T).length qcap] 79))
 have HN0 := uH n0
 have HN1 := uH n1
 clear n0 n1 hX
 go_wp2_with (go_at_call 44; go_must (refine (rows_join (rowsOf S) (rowsOf T) _ _ _ w3.heap.size (HK.out.kept (gA _ _ none)) (HQ.out.kept (gA _ _ none)) (by omega) HN0.out HN1.out).mono ?_; rintro e w4 ⟨v4, rfl, hr, hg⟩; rw [← HRe.out] at hr; obtain ⟨pr, rcap, rfl, _⟩ := id hr; have HB4 := uH (HB.out.kept (gT (gA _ _ _) hg)); have HR4 := uH hr; have HB5 := uH (HB4.out.kept (gA w4 (.cells #[.slice none 0 0, .slice pr R.length rcap] 81) none)); clear hr hg x0 x1 y0 y1; obtain ⟨x0, x1, _⟩ := cO HB5.out.b1; obtain ⟨u0, u1, _⟩ := cO HB4.out.b1; have hX4 := HB4.out.size))
 have HM := uH (MtSt.start w4 (.slice pr R.length rcap))
 clear x0 x1 u0 u1 HB5 HN0 HN1
 go_loopw [34] (fun i wr => ∃ (k : Nat) (p : Option Addr) (cap : Nat), k ≤ S.1.length ∧ i = .int .i64 k ∧ Hid (MtSt w4 wr (.slice pr R.length rcap) (.slice p k cap) ((meetL S.1 T.1).take k))) (fun i _ => S.1.length - (intOf i).toNat)
 case atStart => exact ⟨0, none, 0, Nat.zero_le _, rfl, HM.out⟩
 case round =>
  obtain ⟨k, p, cap, hk, rfl, HM⟩ := hrel
  have hlen : ((meetL S.1 T.1).take k).length = k := by rw [List.length_take, HMl.out]; omega
  have HB5 := uH (HB4.out.kept HM.out.grown)
  have HO : Hid (wr.ownsRow (w4.heap.size + 1) 63 3 (.slice p k cap) k (((meetL S.1 T.1).take k).flatMap sideCells)) := by
   have h := HM.out.row
   rwa [hlen] at h
  have hsz := HM.out.size
  obtain ⟨x0, x1, _⟩ := cO HB5.out.b1
  obtain ⟨y0, y1, _⟩ := cO HB5.out.b2
  obtain ⟨m0, m1, _⟩ := cO HM.out.box
  have HLn := uH hlen
  clear hlen
  by_cases hlt : k < S.1.length
  · have hlt2 : k < T.1.length := by have := HL.out; omega
    have h0 := List.getElem?_eq_getElem hlt
    have h1 := List.getElem?_eq_getElem hlt2
    obtain ⟨b, off, rfl, h3, ⟨h4, h4'⟩, ⟨h5, h5'⟩, h6, h7, h8⟩ := (HSc.out k _ h0).kept HB5.out.grown
    obtain ⟨b2, off2, rfl, g3, ⟨g4, g4'⟩, ⟨g5, g5'⟩, g6, g7, g8⟩ := (HTc.out k _ h1).kept HB5.out.grown
    have HMt := uH (meet_take hlt hlt2)
    generalize S.1[k] = s at *
    generalize T.1[k] = t at *
    obtain ⟨sn, slo, shi⟩ := s
    obtain ⟨tn, tlo, thi⟩ := t
    simp only at h3 h4 h4' h5 h5' h6 h7 h8 g3 g4 g4' g5 g5' g6 g7 g8
    have ga := gA wr (.cells #[.string sn, .int .i64 slo, .int .i64 shi] 63) none
    have gb := gA (wr.alloc (.cells #[.string sn, .int .i64 slo, .int .i64 shi] 63)) (.cells #[.string tn, .int .i64 tlo, .int .i64 thi] 63) none
    have y0a := ga.cell y0 (by simp)
    have g6a := ga.cell g6 (by simp)
    have g7a := ga.cell g7 (by simp)
    have g8a := ga.cell g8 (by simp)
    have m0a := (gT ga gb).cell m0 (by simp)
    have HGb := uH (gT ga gb)
    have hI1 : (k : Int) < (S.1.length : Int) := by omega
    have hI2 : (k : Int) < (T.1.length : Int) := by omega
    have HX := uH hsz
    clear h0 h1 ga gb g6 g7 g8
    go_wp2_with (at_builtin; go_must (refine wpList_append_lies _ rfl _ _ 26 rfl (w4.heap.size + 1) 63 j0 (.agg #[.string ByteArray.empty, .int .i64 0, .int .i64 0]) 3 32 Tryz.underlying26 hj0 hy0 hy1 hy2 rfl (by decide) _ k (((meetL S.1 T.1).take k).flatMap sideCells) rfl (World.ownsRow.alloc (World.ownsRow.alloc (World.ownsRow.alloc HO.out _) _) _) ⟨wr.heap.size + 1 + 1, 0, none⟩ 1 1 (sideCells (sn, max slo tlo, min shi thi)) rfl rfl (news_at' (news := sideCells (sn, max slo tlo, min shi thi)) (by simp)) (by simp [sideCells, Value.oneCell']) (by decide) (by unfold maxLen; omega) (by omega) (by simp; omega) (wr.heap.size + 3) (by simp) ?_; intro g ncap w7 hown7 hgrow7 hat _; have O7 := uH hown7; have G7 := uH hgrow7; have hb7 := kH HM.out.box (gT (grownBy_any _ (gT HGb.out (gA _ _ _))) hgrow7) (fun e => by have := (World.ownsRow.lt HO.out _ e).1; omega); obtain ⟨z0, z1, zf⟩ := cO hb7; clear hown7 hgrow7 hat hb7))
    go_roundw
    case rel =>
     refine ⟨k + 1, some ⟨g, 0, none⟩, ncap, by omega, by go_num, ?_⟩
     have hp := HM.out.push (s := (sn, max slo tlo, min shi thi)) (g := g) (cap := ncap) HGb.out G7.out (by rw [HLn.out]; exact O7.out)
     rw [HLn.out] at hp
     show MtSt _ _ _ _ _
     rw [HMt.out]
     exact hp
    case measure => simp [intOf]; omega
  · obtain rfl : k = S.1.length := by omega
    have htk : (meetL S.1 T.1).take S.1.length = meetL S.1 T.1 := List.take_of_length_le (by rw [HMl.out]; exact Nat.le_refl _)
    have HSd : Hid (SidesAt wr (.slice p S.1.length cap) (meetL S.1 T.1)) := by
     refine sides_of_owns (base := w4.heap.size + 1) (e := 63) ?_ (by rw [HMl.out]; omega) HGd.out
     have h := HO.out
     rw [htk] at h
     rw [HMl.out]
     exact h
    have HRw := uH (HR4.out.kept HM.out.grown).rows
    clear htk
    by_cases hF : setErr (meetL S.1 T.1, C) = 0
    · have HF := uH hF
      clear hF
      go_wp2_with (go_at_call 45; go_must (refine (spaceSet_any (meetL S.1 T.1) R _ _ _ HSd.out HRw.out HRl.out (by rw [HMl.out]; omega) (by have := HRn.out; omega) HAp.out HNe.out HGd.out HRs.out).mono ?_; rintro e w6 ⟨fl, htw, hg6, hbad, hok⟩; obtain rfl := (rowF_uniq htw HTw.out).symm; obtain ⟨sv', cv', rfl, hset⟩ := hok HF.out; obtain ⟨⟨p6, c6, rfl, _⟩, ⟨p7, c7, rfl, _⟩⟩ := id (hset none _ (fun k hk => by cases hk) (gR _ _)); have HB6 := uH (HB5.out.kept hg6); have HOk := uH hset; clear htw hg6 hbad hok hset; obtain ⟨r0, r1, rf⟩ := cO HB6.out.res))
      obtain ⟨D1, D2, D3⟩ := HB6.out.done (.slice p6 (meetL S.1 T.1).length c6) (.slice p7 C.length c7)
      exact bodyPost_ret (results_set rfl _ _ (w.heap.size + 2) _ _ _ _ rfl D3) rfl ⟨D1, fun h => absurd HF.out h, fun _ => ⟨_, _, rfl, HOk.out _ _ (fun k hk => by cases hk; have := HB5.out.newX; have := HB5.out.size; omega) D2⟩⟩
    · have HF := uH hF
      clear hF
      go_wp2_with (go_at_call 45; go_must (refine (spaceSet_any (meetL S.1 T.1) R _ _ _ HSd.out HRw.out HRl.out (by rw [HMl.out]; omega) (by have := HRn.out; omega) HAp.out HNe.out HGd.out HRs.out).mono ?_; rintro e w6 ⟨fl, htw, hg6, hbad, hok⟩; obtain rfl := (rowF_uniq htw HTw.out).symm; obtain rfl := hbad HF.out; have HB6 := uH (HB5.out.kept hg6); clear htw hg6 hbad hok; obtain ⟨r0, r1, rf⟩ := cO HB6.out.res))
      obtain ⟨D1, D2, D3⟩ := HB6.out.done (.slice none 0 0) (.slice none 0 0)
      exact bodyPost_ret (results_set rfl _ _ (w.heap.size + 2) _ _ _ _ rfl D3) rfl ⟨D1, fun _ => rfl, fun h => absurd h HF.out⟩
theorem meet_set (S T : List SideD × List CondD) (sv cv tv dv : Value) (w : World) (hS : SetAt w sv cv S) (hT : SetAt w tv dv T) (hE : bothErr S T = 0) :
  Calls Tryz.prog 9 #[.agg #[sv, cv], .agg #[tv, dv]] w (SetRes (meetL S.1 T.1, S.2 ++ T.2) w) := meet_core S T _ _ rfl rfl sv cv tv dv w hS hT hE
set_option maxRecDepth 100000 in
set_option maxHeartbeats 4000000 in
theorem meet_err (S T : List SideD × List CondD) (sv cv tv dv : Value) (w : World) (hS : SetAt w sv cv S) (hT : SetAt w tv dv T) (hE : bothErr S T ≠ 0) :
  Calls Tryz.prog 9 #[.agg #[sv, cv], .agg #[tv, dv]] w (ErrRes (bothErr S T) w) := by
 obtain ⟨ps, scap, rfl, _⟩ := id hS.1
 obtain ⟨pt, tcap, rfl, _⟩ := id hT.1
 obtain ⟨pc, ccap, rfl, _⟩ := id hS.2
 obtain ⟨pd, dcap, rfl, _⟩ := id hT.2
 have HS := uH hS
 have HT := uH hT
 have hE0 : (bothErr S T != 0) = true := by simpa using hE
 have HE := uH hE
 have HGs := uH (gT (gA w (.cells #[.slice ps S.1.length scap, .slice pc S.2.length ccap] 29) none) (gT (gA _ (.cells #[.slice pt T.1.length tcap, .slice pd T.2.length dcap] 29) none) (gA _ (.cells #[.slice none 0 0, .slice none 0 0] 29) none)))
 clear hS hT hE
 go_enter Tryz.func9, Tryz.ntmps9
 go_wp2_with (go_at_call 43; go_must (refine (spacesOf_any S T _ _ _ _ _ (HS.out.kept HGs.out) (HT.out.kept HGs.out)).mono ?_; rintro e w2 ⟨hg, hno, _⟩; obtain rfl := hno HE.out; have HB := uH (MtB.start (sv := .slice none 0 0) (kv := .slice none 0 0) (tv := .slice none 0 0) (kw := .slice none 0 0) hg); clear hg hno; obtain ⟨r0, r1, rf⟩ := cO HB.out.res))
 obtain ⟨D1, D2, D3⟩ := HB.out.done (.slice none 0 0) (.slice none 0 0)
 exact bodyPost_ret (results_set rfl _ _ (w.heap.size + 2) _ _ _ _ rfl D3) rfl ⟨D1, rfl⟩
end Go.Proofs.YtgeklmigfhhpfaaGreatDoor
