/-
 isPoint, HasIn: whether numbers are a point of a set. slices.Clone of a list of numbers. Sides in package affine: a variable's place, empty boxes, large ones.
-/
import Derived.WalkSpells
import Derived.Maps.AppendAt
import Derived.Test.YtgeklmigfhhpfaaGreatDoorQ02
import Derived.Test.YtgeklmigfhhpfaaGreatDoorQ03
namespace Go.Proofs.YtgeklmigfhhpfaaGreatDoor
open Go.RowKit Go.Maps Go.WideMaps
attribute [local go_sem ↓] Go.wp_at_zero Go.wp_at_succ
def IntsAt (w : World) (v : Value) (xs : List Int) : Prop :=
 ∃ p cap, v = .slice p xs.length cap ∧ xs.length ≤ 1000000 ∧ ∀ j x, xs[j]? = some x → ∃ b off, p = some ⟨b, off, none⟩ ∧ (-9223372036854775808 ≤ x ∧ x ≤ 9223372036854775807) ∧ w.cell? ⟨b, off + j, none⟩ = some (.int .i64 x)
theorem IntsAt.kept {w w' : World} {v : Value} {xs : List Int} (h : IntsAt w v xs) (hg : w.grownBy w' none) : IntsAt w' v xs := by
 obtain ⟨p, cap, hv, hl, hc⟩ := h
 refine ⟨p, cap, hv, hl, fun j s hj => ?_⟩
 obtain ⟨b, off, hp, hb, h⟩ := hc j s hj
 exact ⟨b, off, hp, hb, hg.cell h (by simp)⟩
def valIn (l : List (ByteArray × Int)) (s : ByteArray) : Int := match l.find? (fun t => t.1.toList == s.toList) with | some t => t.2 | none => 0
def PairsD (D : Table) (l : List (ByteArray × Int)) : Prop := IsMap D ∧ ∀ s, D.atKey (strL s) (lit64 0) = lit64 (valIn l s)
theorem pairsD_start : PairsD (.map []) [] := ⟨isMap_empty, fun _ => rfl⟩
theorem pairsD_step {D : Table} {l : List (ByteArray × Int)} {n : ByteArray} {z : Int} (h : PairsD D l) (hn : ∀ t ∈ l, t.1 ≠ n) : PairsD (D.put (strL n) (lit64 z)) (l ++ [(n, z)]) := by
 refine ⟨h.1.put _ _, fun s => ?_⟩
 by_cases e : s = n
 · subst e
   rw [atKey_put_same h.1 (strL_key _)]
   have h1 : l.find? (fun t => t.1.toList == s.toList) = none := List.find?_eq_none.2 fun t ht he => hn t ht (bytes_ext (by simpa using he))
   simp [valIn, List.find?_append, h1]
 · rw [atKey_put_other (fun h => e (strL_inj h)), h.2]
   have h2 : (n.toList == s.toList) = false := by
    rw [Bool.eq_false_iff]
    intro he
    exact e (bytes_ext (by simpa using he)).symm
   simp [valIn, List.find?_append, h2]
theorem valIn_bound {l : List (ByteArray × Int)} (h : ∀ t ∈ l, -1000000 ≤ t.2 ∧ t.2 ≤ 1000000) (s : ByteArray) : -1000000 ≤ valIn l s ∧ valIn l s ≤ 1000000 := by
 unfold valIn
 split
 · rename_i t ht
   exact h t (List.mem_of_find?_eq_some ht)
 · omega
def varsOf (S : List SideD) (xs : List Int) : List (ByteArray × Int) := (S.zip xs).map fun q => (q.1.1, q.2)
def insideB (S : List SideD) (xs : List Int) : Bool := (S.zip xs).all fun q => inB q.2 q.1.2.1 q.1.2.2
def pointB (S : List SideD × List CondD) (xs : List Int) : Bool := insideB S.1 xs && !S.2.any (negB (valIn (varsOf S.1 xs)))
theorem zip_take_succ {S : List SideD} {xs : List Int} {k : Nat} {s : SideD} {x : Int} (h : S[k]? = some s) (hx : xs[k]? = some x) : (S.zip xs).take (k + 1) = (S.zip xs).take k ++ [((s.1, s.2.1, s.2.2), x)] := by
 obtain ⟨h1, rfl⟩ := List.getElem?_eq_some_iff.1 h
 obtain ⟨h2, rfl⟩ := List.getElem?_eq_some_iff.1 hx
 rw [List.take_succ_eq_append_getElem (by simp; omega)]
 simp
theorem set_good {S : List SideD × List CondD} (h : setErr S = 0) : S.1.length ≤ 8 ∧ sidesErr [] S.1 = 0 ∧ S.2.length ≤ 60 ∧ condsErr (namesOf S.1) S.2 = 0 := by
 by_cases h8 : 8 < S.1.length
 · simp [setErr, h8] at h
 by_cases h1 : sidesErr [] S.1 = 0
 · by_cases h60 : 60 < S.2.length
   · rw [setErr_2 h8 h1 h60] at h
     cases h
   · by_cases hc : condsErr (namesOf S.1) S.2 = 0
     · exact ⟨by omega, h1, by omega, hc⟩
     · rw [setErr_3 h8 h1 h60 rfl hc] at h
       exact absurd h hc
 · rw [setErr_1 h8 rfl h1] at h
   exact absurd h h1
theorem conds_good {names : List ByteArray} {l : List CondD} (h : condsErr names l = 0) : ∀ f ∈ l, formErr f.1 f.2 = 0 ∧ termsIn names f.2 = true := by
 induction l with
 | nil => intro f hf; cases hf
 | cons a r ih =>
   intro f hf
   simp only [condsErr] at h
   split at h
   · rename_i ha
     rcases List.mem_cons.1 hf with rfl | hf
     · simp only [aroundErr] at ha
       split at ha
       · rename_i h0
         refine ⟨by simpa using h0, ?_⟩
         split at ha
         · assumption
         · simp at ha
       · exact absurd ha (by simpa using ‹¬ (formErr f.1 f.2 == 0) = true›)
     · exact ih h f hf
   · rename_i ha
     simp [h] at ha
theorem sides_apart {l : List SideD} : ∀ seen, sidesErr seen l = 0 → (∀ s ∈ l, containsB seen s.1 = false) ∧ l.Pairwise (fun a b => a.1 ≠ b.1) := by
 induction l with
 | nil => intro _ _; exact ⟨fun s hs => (by cases hs), List.Pairwise.nil⟩
 | cons x r ih =>
   intro seen h
   simp only [sidesErr] at h
   split at h
   · split at h
     · cases h
     · split at h
       · cases h
       · rename_i h1 h2 h3
         obtain ⟨i1, i2⟩ := ih _ h
         have hsub : ∀ s ∈ r, containsB seen s.1 = false ∧ s.1 ≠ x.1 := by
          intro s hs
          have := i1 s hs
          simp only [containsB, List.any_append, Bool.or_eq_false_iff] at this
          refine ⟨this.1, fun e => ?_⟩
          have := this.2
          rw [e] at this
          simp at this
         refine ⟨fun s hs => ?_, List.Pairwise.cons (fun s hs e => (hsub s hs).2 e.symm) i2⟩
         rcases List.mem_cons.1 hs with rfl | hs
         · simpa using h2
         · exact (hsub s hs).1
   · cases h
theorem Ret.same {P : Program} {f : FuncId} {args : Array Value} {w : World} {v : Value} (h : Calls P f args w (Ret v w)) : Calls P f args w fun e w' => e = .returned v ∧ w' = w := h.mono fun _ _ h => ⟨h.1, h.2.symm⟩
theorem zip_get {S : List SideD} {xs : List Int} {k : Nat} {s : SideD} {x : Int} (h : S[k]? = some s) (hx : xs[k]? = some x) : (S.zip xs)[k]? = some ((s.1, s.2.1, s.2.2), x) := by
 obtain ⟨h1, rfl⟩ := List.getElem?_eq_some_iff.1 h
 obtain ⟨h2, rfl⟩ := List.getElem?_eq_some_iff.1 hx
 rw [List.getElem?_eq_getElem (by simp; omega)]
 simp
theorem all_miss {α : Type} {q : α → Bool} {l : List α} {k : Nat} {a : α} (h : l[k]? = some a) (hq : q a = false) : l.all q = false := by
 obtain ⟨hk, rfl⟩ := List.getElem?_eq_some_iff.1 h
 rw [Bool.eq_false_iff]
 intro ha
 have := List.all_eq_true.1 ha _ (List.getElem_mem hk)
 rw [hq] at this
 cases this
def sideIn (q : SideD × Int) : Bool := inB q.2 q.1.2.1 q.1.2.2
def pairOf (q : SideD × Int) : ByteArray × Int := (q.1.1, q.2)
theorem pairs_fresh {S : List SideD} {xs : List Int} {k : Nat} (hp : S.Pairwise (fun a b => a.1 ≠ b.1)) (hk : k < S.length) : ∀ t ∈ ((S.zip xs).take k).map pairOf, t.1 ≠ (S[k]).1 := by
 intro t ht
 obtain ⟨q, hq, rfl⟩ := List.mem_map.1 ht
 obtain ⟨j, hj, rfl⟩ := List.getElem_of_mem hq
 simp at hj
 simp only [List.getElem_take, List.getElem_zip, pairOf]
 exact (List.pairwise_iff_getElem.1 hp) j k (by omega) hk (by omega)
theorem vars_bound {S : List SideD} {xs : List Int} (h : sidesErr [] S = 0) (hi : (S.zip xs).all sideIn = true) : ∀ t ∈ (S.zip xs).map pairOf, -1000000 ≤ t.2 ∧ t.2 ≤ 1000000 := by
 intro t ht
 obtain ⟨q, hq, rfl⟩ := List.mem_map.1 ht
 have h1 := List.all_eq_true.1 hi q hq
 have h2 := side_range (sides_good [] h q.1 (List.of_mem_zip (a := q.1) (b := q.2) hq).1).2
 simp [sideIn, inB] at h1
 simp only [pairOf]
 omega
theorem cell_new (w : World) (v : Value) (T : TypeId) : (w.alloc (.cells #[v] T)).cell? ⟨w.heap.size, 0, none⟩ = some v := by simp
theorem hbox0 (n : ByteArray) (lo hi : Int) (w : World) : (w.alloc (.cells #[.string n, .int .i64 lo, .int .i64 hi] 63)).cell? ⟨w.heap.size, 0, none⟩ = some (.string n) := by simp
set_option maxRecDepth 100000 in
set_option maxHeartbeats 2000000 in
theorem isPoint_any (S : List SideD × List CondD) (sv cv xv : Value) (xs : List Int) (w : World) (hS : SetAt w sv cv S) (hx : IntsAt w xv xs) (hgood : setErr S = 0) (hlen : xs.length = S.1.length) :
  Calls Tryz.prog 63 #[.agg #[sv, cv], xv] w (GivesDrawn (.bool (pointB S xs)) w) := by
 obtain ⟨g1, g2, g3, g4⟩ := set_good hgood
 obtain ⟨sides, conds⟩ := S
 obtain ⟨⟨p, cap, hsv, ⟨hl, _⟩, hc⟩, ⟨pc, ccap, hcv, hcl, hcc⟩⟩ := hS
 obtain ⟨px, xcap, rfl, hxl, hxc⟩ := hx
 simp only at hsv hl hc hcv hcl hcc g1 g2 g3 g4 hlen
 subst hsv hcv
 have H := uH hc
 have HC := uH hcc
 have HX := uH hxc
 have HE := uH g2
 have HCE := uH g4
 have HLen := uH hlen
 clear hc hcc hxc g2 g4 hgood hlen
 have hcV : (((w.alloc (.cells #[.slice p sides.length cap, .slice pc conds.length ccap] 29)).alloc (.map #[] 0)).alloc (.cells #[.map (some (w.heap.size + 1))] 109)).cell? ⟨w.heap.size + 1 + 1, 0, none⟩ = some (.map (some (w.heap.size + 1))) := by
  have h := cell_new ((w.alloc (.cells #[.slice p sides.length cap, .slice pc conds.length ccap] 29)).alloc (.map #[] 0)) (.map (some (w.heap.size + 1))) 109
  rw [show ((w.alloc (.cells #[.slice p sides.length cap, .slice pc conds.length ccap] 29)).alloc (.map #[] 0)).heap.size = w.heap.size + 1 + 1 by simp] at h
  exact h
 have HcV := uH hcV
 have hcC : (((w.alloc (.cells #[.slice p sides.length cap, .slice pc conds.length ccap] 29)).alloc (.map #[] 0)).alloc (.cells #[.map (some (w.heap.size + 1))] 109)).cell? ⟨w.heap.size, 1, none⟩ = some (.slice pc conds.length ccap) :=
  (gA _ _ none).cell ((gA _ _ none).cell (by simp) (by simp)) (by simp)
 have HcC := uH hcC
 clear hcV hcC
 have HcM : Hid (MapAt (((w.alloc (.cells #[.slice p sides.length cap, .slice pc conds.length ccap] 29)).alloc (.map #[] 0)).alloc (.cells #[.map (some (w.heap.size + 1))] 109)) (w.heap.size + 1) 0 (.map [])) := by
  have h := World.ownsMap_made (H := Unit) (w.alloc (.cells #[.slice p sides.length cap, .slice pc conds.length ccap] 29)) Tryz.prog 9 (plainElem Tryz.prog 3)
  rw [show (w.alloc (.cells #[.slice p sides.length cap, .slice pc conds.length ccap] 29)).heap.size = w.heap.size + 1 by simp] at h
  exact h.alloc _
 have hmm := @run_makeMap Tryz.prog
 go_enter Tryz.func63, Tryz.ntmps63
 go_wp2
 go_loopw [12] (fun i wr => ∃ (k : Nat) (D : Table), k ≤ sides.length ∧ i = .int .i64 k ∧ Hid (MapAt wr (w.heap.size + 1) k D) ∧ Hid (PairsD D (((sides.zip xs).take k).map pairOf)) ∧ Hid (((sides.zip xs).take k).all sideIn = true) ∧
   Hid ((((w.alloc (.cells #[.slice p sides.length cap, .slice pc conds.length ccap] 29)).alloc (.map #[] 0)).alloc (.cells #[.map (some (w.heap.size + 1))] 109)).grownBy wr (some (w.heap.size + 1)))) (fun i _ => sides.length - (intOf i).toNat)
 case atStart =>
  exact ⟨0, _, Nat.zero_le _, rfl, HcM.out, pairsD_start, rfl, gR _ _⟩
 case round =>
  obtain ⟨k, D, hk, rfl, HM, HP, HI, HG⟩ := hrel
  have HW : Hid (w.grownBy wr none) := gO (gT (gT (gA _ _ _) (gA _ _ _)) (gA _ _ _)) HG.out (fun i hi => by cases hi; omega)
  by_cases hlt : k < sides.length
  · have h0 := List.getElem?_eq_getElem hlt
    have hltx : k < xs.length := by rw [HLen.out]; exact hlt
    have h0x := List.getElem?_eq_getElem hltx
    obtain ⟨b, off, rfl, h3, ⟨h4, h4'⟩, ⟨h5, h5'⟩, h6, h7, h8⟩ := (H.out k _ h0).kept HW.out
    obtain ⟨bx, offx, rfl, ⟨hx1, hx2⟩, hxc⟩ := HX.out k _ h0x
    have hxc' := World.grownBy.cell HW.out hxc (by simp)
    have HF := uH (pairs_fresh (xs := xs) (sides_apart [] HE.out).2 hlt)
    have HZ := uH (zip_take_succ h0 h0x)
    have HMiss := uH (fun h => all_miss (q := sideIn) (zip_get h0 h0x) h)
    generalize hn : (sides[k]).1 = n at *
    generalize hlo : (sides[k]).2.1 = lo at *
    generalize hhi : (sides[k]).2.2 = hi' at *
    generalize hxx : xs[k] = x at *
    have hbV : wr.cell? ⟨w.heap.size + 1 + 1, 0, none⟩ = some (.map (some (w.heap.size + 1))) := HG.out.cell HcV.out (by simp)
    have hxa : (wr.alloc (.cells #[.string n, .int .i64 lo, .int .i64 hi'] 63)).cell? ⟨bx, offx + k, none⟩ = some (.int .i64 x) := (gA _ _ none).cell hxc' (by simp)
    have hVa : (wr.alloc (.cells #[.string n, .int .i64 lo, .int .i64 hi'] 63)).cell? ⟨w.heap.size + 1 + 1, 0, none⟩ = some (.map (some (w.heap.size + 1))) := (gA _ _ none).cell hbV (by simp)
    have hsz3 := HG.out.size
    simp at hsz3
    have hbx : bx < w.heap.size := World.block_lt_of_cell? w _ hxc
    clear hxc h0 h0x
    go_wp2
    go_quiet ((go_at_call 41; exact Calls.quiet_of_same (Ret.same (in_any _ _ _ _))))
    go_wp2
    · have he : inB x lo hi' = false := by simpa using ‹(!inB x lo hi') = true›
      go_ret
      exact ⟨ret_bool (by
       have h1 : insideB sides xs = false := HMiss.out (by simpa [sideIn] using he)
       simp [pointB, h1]), gT HW.out (gT (gA _ _ _) (grownBy_drewN _ _ _))⟩
    · have he : inB x lo hi' = true := by simpa using ‹(!inB x lo hi') = false›
      have HE1 := uH he
      clear he
      rename_i nq _
      have hown : ((wr.alloc (.cells #[.string n, .int .i64 lo, .int .i64 hi'] 63)).drewN (nq + 1)).ownsMap Tryz.prog 9 (plainElem (H := Unit) Tryz.prog 3) (w.heap.size + 1) k D := (World.ownsMap.alloc HM.out _).kept (row := none) ⟨rfl, rfl, rfl, Nat.le_refl _, fun _ _ _ => rfl⟩ (by simp)
      obtain ⟨w2, hrun, hown2, hg2⟩ := hown.update Tryz.lawStr Tryz.underlying109 (lt_maxLen k (by omega)) (key_str h3) (plainElem_int Tryz.underlying3 (wf64 hx1 hx2))
      have c0 : w2.cell? ⟨w.heap.size + 1 + 1, 0, none⟩ = some (.map (some (w.heap.size + 1))) := hg2.cell hVa (by simp)
      have c1 : w2.cell? ⟨wr.heap.size, 0, none⟩ = some (.string n) := hg2.cell (hbox0 n lo hi' wr) (by have := hsz3; simp; omega)
      have c2 : w2.cell? ⟨bx, offx + k, none⟩ = some (.int .i64 x) := hg2.cell hxa (by simp; omega)
      have HO2 := uH hown2
      have HG2 := uH hg2
      clear hown hown2 hg2
      go_region_held3 (fun w' => w'.cell? ⟨w.heap.size + 1 + 1, 0, none⟩ = some (.map (some (w.heap.size + 1))) ∧ w'.cell? ⟨wr.heap.size, 0, none⟩ = some (.string n) ∧ w'.cell? ⟨bx, offx + k, none⟩ = some (.int .i64 x)) (go_keep) (fail)
      go_wp2
      go_roundw
      case rel =>
       refine ⟨k + 1, _, by omega, by go_num, HO2.out, ?_, ?_, ?_⟩
       · have := pairsD_step (z := x) HP.out HF.out
         show PairsD _ _
         rw [HZ.out, List.map_append]
         exact this
       · show _ = _
         rw [HZ.out, List.all_append, HI.out]
         simpa [sideIn] using HE1.out
       · exact gT (grownBy_any _ (gR _ _)) (gT HG.out (gT (gA _ _ _) (gT (grownBy_drewN _ _ _) HG2.out)))
      case measure => simp [intOf]; omega
  · obtain rfl : k = sides.length := by omega
    have hbC : wr.cell? ⟨w.heap.size, 1, none⟩ = some (.slice pc conds.length ccap) := HG.out.cell HcC.out (by simp)
    have HVars : Hid (VarsAt wr (w.heap.size + 1 + 1) (valIn (varsOf sides xs)) conds) := by
     have hz : (sides.zip xs).take sides.length = sides.zip xs := List.take_of_length_le (by simp; omega)
     have hi := HI.out
     have hp := HP.out
     rw [hz] at hi hp
     exact ⟨fun f hf => (conds_good HCE.out f hf).1, fun s => valIn_bound (vars_bound HE.out hi) s, _, _, D, HG.out.cell HcV.out (by simp), HM.out, fun f _ t _ => hp.2 t.1⟩
    have HIn : Hid (insideB sides xs = true) := by
     have hz : (sides.zip xs).take sides.length = sides.zip xs := List.take_of_length_le (by simp; omega)
     have hi := HI.out
     rw [hz] at hi
     exact hi
    go_wp2_with (first | (go_at_call 109; refine (containsFunc_any _ conds _ (valIn (varsOf sides xs)) _ ⟨pc, ccap, rfl, hcl, fun j f hj => (HC.out j f hj).kept HW.out⟩ HVars.out).mono ?_; rintro e w' ⟨rfl, hg1⟩; have G1 := uH hg1; clear hg1))
    go_ret
    exact ⟨ret_bool (by simp [pointB, HIn.out]), gT HW.out G1.out⟩
end Go.Proofs.YtgeklmigfhhpfaaGreatDoor
namespace Go.Proofs.YtgeklmigfhhpfaaGreatDoor
open Go.RowKit
theorem Tryz.infoInt : (Tryz.prog.info? 3).map (fun i => (i.zero, i.size, i.bytes)) = some (some (.int .i64 0), 1, 8) := by kernel_rfl
def Cloned (xs : List Int) (w : World) (e : Ending) (w' : World) : Prop :=
 ∃ v, e = .returned v ∧ w'.ownsRow w.heap.size 3 1 v xs.length (xs.map (Value.int .i64)) ∧ w.grownBy w' none
set_option maxRecDepth 100000 in
set_option maxHeartbeats 1000000 in
theorem clone_any (b off cap : Nat) (xs : List Int) (w : World) (hl : xs.length ≤ 1000) (hc : ∀ j x, xs[j]? = some x → w.cell? ⟨b, off + j, none⟩ = some (.int .i64 x)) :
  Calls Tryz.prog 64 #[.slice (some ⟨b, off, none⟩) xs.length cap] w (Cloned xs w) := by
 have H := uH hc
 clear hc
 obtain ⟨i0, hi, hz0, hz1, hz2⟩ := info_parts Tryz.infoInt
 have hnil := fun W => Lib.run_eql_slice_nil (P := Tryz.prog) W 22 3 (some ⟨b, off, none⟩) xs.length cap 0 0 Tryz.underlying22
 go_enter Tryz.func64, Tryz.ntmps64
 go_wp2_with (at_builtin; refine wpList_append_own _ rfl _ _ 22 rfl w.heap.size 3 i0 (.int .i64 0) 1 8 Tryz.underlying22 hi hz0 hz1 hz2 rfl (by decide) _ 0 [] rfl (World.ownsRow_made _ _ _ (Nat.le_refl _) (Nat.zero_le _) rfl) ⟨b, off, none⟩ xs.length cap (xs.map (Value.int .i64)) rfl (by simp) ?_ ?_ (by unfold maxLen; omega) (by omega) (by simp) ?_)
 · intro j u hj
   rw [List.getElem?_map, Option.map_eq_some_iff] at hj
   obtain ⟨x, hx, rfl⟩ := hj
   have hadd : (⟨b, off, none⟩ : Addr).add j = ⟨b, off + j, none⟩ := by unfold Addr.add; split <;> simp_all
   rw [hadd]
   exact (gA _ _ none).cell (H.out j x hx) (by simp)
 · intro u hu
   obtain ⟨x, _, rfl⟩ := List.mem_map.1 hu
   rfl
 · intro v' w' ho hg _
   have HO := uH ho
   have HG := uH hg
   clear ho hg
   go_wp2
   go_ret
   exact ⟨v', rfl, HO.out, gO (gA _ _ _) HG.out (fun i hi => by simp [Value.ownBlock] at hi; omega)⟩
end Go.Proofs.YtgeklmigfhhpfaaGreatDoor
namespace Go.Proofs.YtgeklmigfhhpfaaGreatDoor
open Go.RowKit
def sameName (n : ByteArray) (s : SideD) : Bool := s.1.toList == n.toList
def emptySide (s : SideD) : Bool := decide (s.2.2 < s.2.1)
set_option maxHeartbeats 400000 in
theorem placeOf1_any (n x : ByteArray) (lo hi : Int) (P : Nat) (w : World) (hp : w.cell? ⟨P, 0, none⟩ = some (.string x)) :
  Calls Tryz.prog 136 #[.agg #[.string n, .int .i64 lo, .int .i64 hi], .pointer (some ⟨P, 0, none⟩)] w (Gives (.bool (n.toList == x.toList)) w) := by
 have hp' := (gA w (.cells #[.string n, .int .i64 lo, .int .i64 hi] 63) none).cell hp (by simp)
 clear hp
 go_enter Tryz.func136, Tryz.ntmps136
 go_wp2
 all_goals
  go_ret
  exact ⟨ret_bool (by simp [*]), gA _ _ _⟩
set_option maxHeartbeats 400000 in
theorem isEmpty1_any (n : ByteArray) (lo hi : Int) (w : World) :
  Calls Tryz.prog 132 #[.agg #[.string n, .int .i64 lo, .int .i64 hi]] w (Gives (.bool (emptySide (n, lo, hi))) w) := by
 go_enter Tryz.func132, Tryz.ntmps132
 go_wp2
 all_goals
  go_ret
  exact ⟨ret_bool (by simp [emptySide, *]), gA _ _ _⟩
theorem findIdx_hit {α : Type} {q : α → Bool} {l : List α} {k : Nat} {a : α} (h : l[k]? = some a) (hn : (l.take k).any q = false) (hq : q a = true) : l.findIdx? q = some k := by
 obtain ⟨hk, rfl⟩ := List.getElem?_eq_some_iff.1 h
 rw [List.findIdx?_eq_some_iff_getElem]
 refine ⟨hk, hq, fun j hj => ?_⟩
 rw [List.any_eq_false] at hn
 have := hn (l[j]'(by omega)) (List.mem_take_iff_getElem.2 ⟨j, by omega, rfl⟩)
 simpa using this
theorem findIdx_miss {α : Type} {q : α → Bool} {l : List α} (hn : l.any q = false) : l.findIdx? q = none := by
 rw [List.findIdx?_eq_none_iff]
 intro x hx
 have := List.any_eq_false.1 hn x hx
 simpa using this
def firstI {α : Type} (q : α → Bool) (l : List α) : Int := match l.findIdx? q with | some k => k | none => -1
theorem firstI_hit {α : Type} {q : α → Bool} {l : List α} {k : Nat} {a : α} (h : l[k]? = some a) (hn : (l.take k).any q = false) (hq : q a = true) : firstI q l = k := by
 unfold firstI
 rw [findIdx_hit h hn hq]
theorem firstI_miss {α : Type} {q : α → Bool} {l : List α} (hn : l.any q = false) : firstI q l = -1 := by
 unfold firstI
 rw [findIdx_miss hn]
theorem firstI_any {α : Type} (q : α → Bool) (l : List α) : decide (0 ≤ firstI q l) = l.any q := by
 cases h : l.any q
 · rw [firstI_miss h]; rfl
 · unfold firstI
   cases hf : l.findIdx? q with
   | some k => simp
   | none =>
     rw [List.findIdx?_eq_none_iff] at hf
     rw [List.any_eq_true] at h
     obtain ⟨x, hx, hq⟩ := h
     rw [hf x hx] at hq
     cases hq
theorem firstI_none {α : Type} (q : α → Bool) (l : List α) : (firstI q l == -1) = !l.any q := by
 cases h : l.any q
 · rw [firstI_miss h]; rfl
 · have := firstI_any q l
   rw [h] at this
   simp at this
   simp
   omega
set_option maxRecDepth 100000 in
set_option maxHeartbeats 1000000 in
theorem indexPlace_any (v : Value) (l : List SideD) (x : ByteArray) (P : Nat) (w : World) (hl : SidesAt w v l) (hp : w.cell? ⟨P, 0, none⟩ = some (.string x)) :
  Calls Tryz.prog 115 #[v, .func (.func 136) #[] #[.pointer (some ⟨P, 0, none⟩)]] w (Gives (.int .i64 (firstI (sameName x) l)) w) := by
 obtain ⟨p, cap, rfl, ⟨hlen, _⟩, hc⟩ := hl
 have H := uH hc
 have HP := uH hp
 clear hc hp
 go_enter Tryz.func115, Tryz.ntmps115
 go_wp2
 go_loopw [8] (fun i wr => ∃ k : Nat, k ≤ l.length ∧ i = .int .i64 k ∧ Hid ((l.take k).any (sameName x) = false) ∧ Hid (w.grownBy wr none)) (fun i _ => l.length - (intOf i).toNat)
 case atStart => exact ⟨0, Nat.zero_le _, rfl, rfl, gR _ _⟩
 case round =>
  obtain ⟨k, hk, rfl, HR, HG⟩ := hrel
  by_cases hlt : k < l.length
  · have h0 := List.getElem?_eq_getElem hlt
    obtain ⟨b, off, rfl, h3, ⟨h4, h4'⟩, ⟨h5, h5'⟩, h6, h7, h8⟩ := (H.out k _ h0).kept HG.out
    have HS := uH (any_snoc (q := sameName x) h0)
    have HH := uH (fun hq => firstI_hit (q := sameName x) h0 HR.out hq)
    have HC := uH (placeOf1_any (l[k]).1 x (l[k]).2.1 (l[k]).2.2 P wr (HG.out.cell HP.out (by simp)))
    have HE := uH (show sameName x l[k] = ((l[k]).1.toList == x.toList) from rfl)
    generalize hn : (l[k]).1 = n at *
    generalize hlo : (l[k]).2.1 = lo at *
    generalize hhi : (l[k]).2.2 = hi' at *
    clear h0 hn hlo hhi
    go_wp2_with (first | (go_at_call 136; refine HC.out.mono ?_; rintro e w' ⟨rfl, hg1⟩; have G1 := uH hg1; clear hg1))
    · have he : (n.toList == x.toList) = true := by assumption
      go_ret
      exact ⟨ret_i64 (HH.out (by rw [HE.out, he])).symm, gT HG.out G1.out⟩
    · have he : (n.toList == x.toList) = false := by assumption
      go_roundw
      case rel => exact ⟨k + 1, by omega, by go_num, by show _ = _; rw [HS.out, HR.out, HE.out, he]; rfl, gT HG.out G1.out⟩
      case measure => simp [intOf]; omega
  · obtain rfl : k = l.length := by omega
    go_wp2
    go_ret
    exact ⟨ret_i64 (firstI_miss (by have := HR.out; rwa [List.take_length] at this)).symm, HG.out⟩
set_option maxRecDepth 100000 in
set_option maxHeartbeats 1000000 in
theorem indexEmpty_any (v : Value) (l : List SideD) (w : World) (hl : SidesAt w v l) :
  Calls Tryz.prog 115 #[v, .func (.func 132) #[] #[]] w (Gives (.int .i64 (firstI emptySide l)) w) := by
 obtain ⟨p, cap, rfl, ⟨hlen, _⟩, hc⟩ := hl
 have H := uH hc
 clear hc
 go_enter Tryz.func115, Tryz.ntmps115
 go_wp2
 go_loopw [8] (fun i wr => ∃ k : Nat, k ≤ l.length ∧ i = .int .i64 k ∧ Hid ((l.take k).any emptySide = false) ∧ Hid (w.grownBy wr none)) (fun i _ => l.length - (intOf i).toNat)
 case atStart => exact ⟨0, Nat.zero_le _, rfl, rfl, gR _ _⟩
 case round =>
  obtain ⟨k, hk, rfl, HR, HG⟩ := hrel
  by_cases hlt : k < l.length
  · have h0 := List.getElem?_eq_getElem hlt
    obtain ⟨b, off, rfl, h3, ⟨h4, h4'⟩, ⟨h5, h5'⟩, h6, h7, h8⟩ := (H.out k _ h0).kept HG.out
    have HS := uH (any_snoc (q := emptySide) h0)
    have HH := uH (fun hq => firstI_hit (q := emptySide) h0 HR.out hq)
    have HC := uH (isEmpty1_any (l[k]).1 (l[k]).2.1 (l[k]).2.2 wr)
    have HE := uH (show emptySide l[k] = emptySide ((l[k]).1, (l[k]).2.1, (l[k]).2.2) from rfl)
    generalize hn : (l[k]).1 = n at *
    generalize hlo : (l[k]).2.1 = lo at *
    generalize hhi : (l[k]).2.2 = hi' at *
    clear h0 hn hlo hhi
    go_wp2_with (first | (go_at_call 132; refine HC.out.mono ?_; rintro e w' ⟨rfl, hg1⟩; have G1 := uH hg1; clear hg1))
    · have he : emptySide (n, lo, hi') = true := by assumption
      go_ret
      exact ⟨ret_i64 (HH.out (by rw [HE.out, he])).symm, gT HG.out G1.out⟩
    · have he : emptySide (n, lo, hi') = false := by assumption
      go_roundw
      case rel => exact ⟨k + 1, by omega, by go_num, by show _ = _; rw [HS.out, HR.out, HE.out, he]; rfl, gT HG.out G1.out⟩
      case measure => simp [intOf]; omega
  · obtain rfl : k = l.length := by omega
    go_wp2
    go_ret
    exact ⟨ret_i64 (firstI_miss (by have := HR.out; rwa [List.take_length] at this)).symm, HG.out⟩
theorem emptyB_any (l : List SideD) : l.any emptySide = emptyB l := rfl
set_option maxHeartbeats 1000000 in
theorem containsEmpty_any (v : Value) (l : List SideD) (w : World) (hl : SidesAt w v l) :
  Calls Tryz.prog 71 #[v, .func (.func 132) #[] #[]] w (Gives (.bool (emptyB l)) w) := by
 have HL := uH hl
 have HF := uH (firstI_any emptySide l)
 clear hl
 go_enter Tryz.func71, Tryz.ntmps71
 go_wp2_with (go_at_call 115; refine (indexEmpty_any v l _ HL.out).mono ?_; rintro e w' ⟨rfl, hg⟩; have HG := uH hg; clear hg)
 go_ret
 exact ⟨ret_bool (HF.out.trans (emptyB_any l)), HG.out⟩
set_option maxHeartbeats 1000000 in
theorem isEmpty_any (v : Value) (l : List SideD) (w : World) (hl : SidesAt w v l) :
  Calls Tryz.prog 97 #[v] w (Gives (.bool (emptyB l)) w) := by
 have HL := uH hl
 clear hl
 go_enter Tryz.func97, Tryz.ntmps97
 go_wp2_with (go_at_call 71; refine (containsEmpty_any v l _ HL.out).mono ?_; rintro e w' ⟨rfl, hg⟩; have HG := uH hg; clear hg)
 go_ret
 exact ⟨rfl, HG.out⟩
set_option maxHeartbeats 1000000 in
theorem placeOf_any (x : ByteArray) (v : Value) (l : List SideD) (w : World) (hl : SidesAt w v l) :
  Calls Tryz.prog 105 #[.string x, v] w (Gives (.int .i64 (firstI (sameName x) l)) w) := by
 have HL := uH (hl.kept (gA w (.cells #[.string x] 9) none))
 have hp : (w.alloc (.cells #[.string x] 9)).cell? ⟨w.heap.size, 0, none⟩ = some (.string x) := by simp
 have HP := uH hp
 clear hl hp
 go_enter Tryz.func105, Tryz.ntmps105
 go_wp2_with (go_at_call 115; refine (indexPlace_any v l x w.heap.size _ HL.out HP.out).mono ?_; rintro e w' ⟨rfl, hg⟩; have HG := uH hg; clear hg)
 go_ret
 exact ⟨rfl, gT (gA _ _ _) HG.out⟩
theorem sameName_any (x : ByteArray) (l : List SideD) : l.any (sameName x) = containsB (namesOf l) x := by
 unfold containsB namesOf
 rw [List.any_map]
 congr 1
 funext s
 simp only [sameName, Function.comp]
 exact BEq.comm
set_option maxHeartbeats 1000000 in
theorem isNear_any (n : ByteArray) (lo hi : Int) (w : World) (h1 : -9223372036854775808 ≤ lo ∧ lo ≤ 9223372036854775807) (h2 : -9223372036854775808 ≤ hi ∧ hi ≤ 9223372036854775807) :
  Calls Tryz.prog 130 #[.agg #[.string n, .int .i64 lo, .int .i64 hi]] w (Gives (.bool (!sideBad lo hi)) w) := by
 obtain ⟨h1, h1'⟩ := h1
 obtain ⟨h2, h2'⟩ := h2
 go_enter Tryz.func130, Tryz.ntmps130
 go_wp2
 all_goals
  go_ret
  refine ⟨ret_bool ?_, gA _ _ _⟩
  rw [Bool.eq_iff_iff]
  by_cases hL : lo ≤ hi <;> simp [sideBad, inB] <;> omega
end Go.Proofs.YtgeklmigfhhpfaaGreatDoor
