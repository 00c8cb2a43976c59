/-
 The greatest common divisor, and quotients that are rounded down. has, Has: whether a list is a point. The points of a set when each condition is asked as soon as it is decided. Forms told by their coefficients.
-/
import Derived.BigQuiet
import Derived.Deep.DeepMust
import Derived.Test.YtgeklmigfhhpfaaGreatDoorQ01
import Derived.Test.YtgeklmigfhhpfaaGreatDoorQ02
import Derived.Test.YtgeklmigfhhpfaaGreatDoorQ08
namespace Go.Proofs.YtgeklmigfhhpfaaGreatDoor
open Go.RowKit
theorem gcd_step (x y : Int) : Int.gcd y (x.tmod y) = Int.gcd x y := by
 unfold Int.gcd
 rw [Int.natAbs_tmod, Nat.gcd_comm x.natAbs, Nat.gcd_rec y.natAbs x.natAbs, Nat.gcd_comm]
def near64 (x : Int) : Prop := -4611686018427387904 ≤ x ∧ x ≤ 4611686018427387904
theorem tmod_near {x y : Int} (hy : near64 y) (h0 : y ≠ 0) : near64 (x.tmod y) ∧ (x.tmod y).natAbs < y.natAbs := by
 have h : (x.tmod y).natAbs < y.natAbs := by
  rw [Int.natAbs_tmod]
  exact Nat.mod_lt _ (by omega)
 unfold near64 at *
 exact ⟨by omega, h⟩
set_option maxHeartbeats 1000000 in
theorem common_any (a b : Int) (w : World) (ha : near64 a) (hb : near64 b) :
  Calls Tryz.prog 134 #[.int .i64 a, .int .i64 b] w (Gives (.int .i64 (Int.gcd a b)) w) := by
 go_enter Tryz.func134, Tryz.ntmps134
 go_wp2
 go_loopw [0, 1] (fun u v wr => ∃ x y : Int, u = .int .i64 x ∧ v = .int .i64 y ∧ Hid (Int.gcd x y = Int.gcd a b) ∧ Hid (near64 x) ∧ Hid (near64 y) ∧ Hid (w.grownBy wr none)) (fun _ v _ => (intOf v).natAbs)
 case atStart => exact ⟨a, b, rfl, rfl, rfl, ha, hb, ⟨rfl, rfl, rfl, Nat.le_refl _, fun _ _ _ => rfl⟩⟩
 case round =>
  obtain ⟨x, y, rfl, rfl, HG, HX, HY, HW⟩ := hrel
  by_cases h0 : y = 0
  · subst h0
    have hg := HG.out
    rw [Int.gcd_zero_right] at hg
    have hx := HX.out
    unfold near64 at hx
    go_wp2
    all_goals
     go_ret
     exact ⟨ret_i64 (by omega), HW.out⟩
  · have hy0 : (y != 0) = true := by simpa using h0
    obtain ⟨t1, t2⟩ := tmod_near (x := x) HY.out h0
    have HT := uH t1
    have HL := uH t2
    have HS := uH ((gcd_step x y).trans HG.out)
    clear t1 t2
    go_wp2
    go_quiet (fail)
    go_wp2
    go_roundw
    case rel => exact ⟨y, x.tmod y, rfl, rfl, HS.out, HY.out, HT.out, gT HW.out (grownBy_drewN _ _ _)⟩
    case measure => exact HL.out
set_option maxHeartbeats 1000000 in
theorem divisor_any (a b : Int) (w : World) (ha : near64 a) (hb : near64 b) :
  Calls Tryz.prog 65 #[.int .i64 a, .int .i64 b] w (Gives (.int .i64 (Int.gcd a b)) w) := by
 go_enter Tryz.func65, Tryz.ntmps65
 go_wp2
 go_loopw [0, 1] (fun u v wr => ∃ x y : Int, u = .int .i64 x ∧ v = .int .i64 y ∧ Hid (Int.gcd x y = Int.gcd a b) ∧ Hid (near64 x) ∧ Hid (near64 y) ∧ Hid (w.grownBy wr none)) (fun _ v _ => (intOf v).natAbs)
 case atStart => exact ⟨a, b, rfl, rfl, rfl, ha, hb, ⟨rfl, rfl, rfl, Nat.le_refl _, fun _ _ _ => rfl⟩⟩
 case round =>
  obtain ⟨x, y, rfl, rfl, HG, HX, HY, HW⟩ := hrel
  by_cases h0 : y = 0
  · subst h0
    have hg := HG.out
    rw [Int.gcd_zero_right] at hg
    have hx := HX.out
    unfold near64 at hx
    go_wp2
    all_goals
     go_ret
     exact ⟨ret_i64 (by omega), HW.out⟩
  · have hy0 : (y != 0) = true := by simpa using h0
    obtain ⟨t1, t2⟩ := tmod_near (x := x) HY.out h0
    have HT := uH t1
    have HL := uH t2
    have HS := uH ((gcd_step x y).trans HG.out)
    clear t1 t2
    go_wp2
    go_quiet (fail)
    go_wp2
    go_roundw
    case rel => exact ⟨y, x.tmod y, rfl, rfl, HS.out, HY.out, HT.out, gT HW.out (grownBy_drewN _ _ _)⟩
    case measure => exact HL.out
theorem floor_eq {a b : Int} (hb : 0 < b) : a / b = if a.tmod b < 0 then a.tdiv b - 1 else a.tdiv b := by
 have h1 := Int.tmod_add_mul_tdiv a b
 have h2 := Int.emod_add_mul_ediv a b
 have h3 := Int.emod_nonneg a (show b ≠ 0 by omega)
 have h4 := Int.emod_lt_of_pos a hb
 have h5 : (a.tmod b).natAbs < b.natAbs := by
  rw [Int.natAbs_tmod]
  exact Nat.mod_lt _ (by omega)
 have key : ∀ q r : Int, r + b * q = a → 0 ≤ r → r < b → a / b = q := fun q r e h0 hl => by
  have := Int.ediv_emod_unique hb (a := a) (r := r) (q := q)
  exact (this.2 ⟨e, h0, hl⟩).1
 split
 · refine key _ (a.tmod b + b) ?_ (by omega) (by omega)
   rw [Int.mul_sub]
   omega
 · exact key _ (a.tmod b) h1 (by omega) (by omega)
theorem tdiv_near {a b : Int} (ha : near64 a) : near64 (a.tdiv b) := by
 have h : (a.tdiv b).natAbs ≤ a.natAbs := by
  rw [Int.natAbs_tdiv]
  exact Nat.div_le_self _ _
 unfold near64 at *
 omega
set_option maxHeartbeats 1000000 in
theorem floor_any (a b : Int) (w : World) (ha : near64 a) (hb : 0 < b) (hbn : near64 b) :
  Calls Tryz.prog 135 #[.int .i64 a, .int .i64 b] w (fun e w' => e = .returned (.int .i64 (a / b)) ∧ w' = w) := by
 have hq := tdiv_near (b := b) ha
 unfold near64 at ha hbn hq
 have he := floor_eq (a := a) hb
 have hb0 : b ≠ 0 := by omega
 by_cases h : a.tmod b < 0
 · rw [if_pos h] at he
   rw [he]
   clear he
   go_enter Tryz.func135, Tryz.ntmps135
   go_wp2
   go_ret
   exact ⟨rfl, rfl⟩
 · rw [if_neg h] at he
   rw [he]
   clear he
   go_enter Tryz.func135, Tryz.ntmps135
   go_wp2
   go_ret
   exact ⟨rfl, rfl⟩
set_option maxHeartbeats 1000000 in
theorem floorDiv_any (a b : Int) (w : World) (ha : near64 a) (hb : 0 < b) (hbn : near64 b) :
  Calls Tryz.prog 66 #[.int .i64 a, .int .i64 b] w (fun e w' => e = .returned (.int .i64 (a / b)) ∧ w' = w) := by
 have hq := tdiv_near (b := b) ha
 unfold near64 at ha hbn hq
 have he := floor_eq (a := a) hb
 have hb0 : b ≠ 0 := by omega
 have hsg : a.tmod b < 0 ↔ (a.tmod b ≠ 0 ∧ a < 0) := by
  constructor
  · intro h
    refine ⟨by omega, ?_⟩
    by_cases h0 : 0 ≤ a
    · have := Int.tmod_nonneg b h0
      omega
    · omega
  · rintro ⟨h1, h2⟩
    have := Int.tmod_nonneg b (show 0 ≤ -a by omega)
    rw [Int.neg_tmod] at this
    omega
 by_cases h : a.tmod b < 0
 · rw [if_pos h] at he
   rw [he]
   obtain ⟨h1, h2⟩ := hsg.1 h
   have h1b : (a.tmod b != 0) = true := by simpa using h1
   clear he hsg h
   go_enter Tryz.func66, Tryz.ntmps66
   go_wp2
   go_ret
   exact ⟨rfl, rfl⟩
 · rw [if_neg h] at he
   rw [he]
   by_cases h1 : a.tmod b = 0
   · have h1b : (a.tmod b != 0) = false := by simpa using h1
     clear he hsg h
     go_enter Tryz.func66, Tryz.ntmps66
     go_wp2
     go_ret
     exact ⟨rfl, rfl⟩
   · have h1b : (a.tmod b != 0) = true := by simpa using h1
     have h2 : ¬ a < 0 := fun h2 => h (hsg.2 ⟨h1, h2⟩)
     clear he hsg h
     go_enter Tryz.func66, Tryz.ntmps66
     go_wp2
     all_goals
      go_ret
      exact ⟨rfl, rfl⟩
end Go.Proofs.YtgeklmigfhhpfaaGreatDoor
namespace Go.Proofs.YtgeklmigfhhpfaaGreatDoor
open Go.RowKit
attribute [local go_sem ↓] Go.wp_at_zero Go.wp_at_succ
def pointP (S : List SideD × List CondD) (xs : List Int) : Bool := (S.1.zip xs).all sideIn && !(rowsOf S).any (negRow xs)
theorem near_of {S : List SideD} {xs : List Int} (h : sidesErr [] S = 0) (hl : xs.length ≤ S.length) (hi : (S.zip xs).all sideIn = true) : near xs := by
 intro x hx
 obtain ⟨j, hj, rfl⟩ := List.getElem_of_mem hx
 have hm : (S[j]'(by omega), xs[j]) ∈ S.zip xs := by
  rw [List.mem_iff_getElem]
  exact ⟨j, by simp; omega, by simp⟩
 have h1 := List.all_eq_true.1 hi _ hm
 have h2 := side_range (sides_good [] h _ (List.of_mem_zip hm).1).2
 simp [sideIn, inB] at h1
 omega
theorem valIn_cons (n s : ByteArray) (x : Int) (l : List (ByteArray × Int)) : valIn ((s, x) :: l) n = if s.toList == n.toList then x else valIn l n := by
 unfold valIn
 rw [List.find?_cons]
 cases h : (s.toList == n.toList) <;> simp
theorem valIn_place {n : ByteArray} : ∀ {S : List SideD} {xs : List Int}, xs.length = S.length → S.any (sameName n) = true → ∃ k, S.findIdx? (sameName n) = some k ∧ xs[k]? = some (valIn (varsOf S xs) n)
 | [], _, _, h => by simp at h
 | s :: S, [], h, _ => by simp at h
 | s :: S, x :: xs, hl, h => by
   have e : varsOf (s :: S) (x :: xs) = (s.1, x) :: varsOf S xs := rfl
   rw [List.findIdx?_cons, e, valIn_cons]
   cases hs : sameName n s
   · have hs' : (s.1.toList == n.toList) = false := hs
     obtain ⟨k, h1, h2⟩ := valIn_place (n := n) (S := S) (xs := xs) (by simpa using hl) (by simpa [hs] using h)
     exact ⟨k + 1, by simp [h1], by simp [h2, hs']⟩
   · have hs' : (s.1.toList == n.toList) = true := hs
     exact ⟨0, by simp, by simp [hs']⟩
theorem dot_set : ∀ (cs xs : List Int) (i : Nat) (z c x : Int), cs[i]? = some c → xs[i]? = some x → dot (cs.set i z) xs = dot cs xs + (z - c) * x
 | [], _, _, _, _, _, h, _ => by simp at h
 | _ :: _, [], _, _, _, _, _, h => by simp at h
 | a :: cs, b :: xs, 0, z, c, x, h, hx => by
   simp at h hx
   subst h hx
   simp only [List.set_cons_zero, dot, Int.sub_mul]
   omega
 | a :: cs, b :: xs, i + 1, z, c, x, h, hx => by
   have ih := dot_set cs xs i z c x (by simpa using h) (by simpa using hx)
   simp only [List.set_cons_succ, dot]
   rw [ih]
   omega
theorem place_name {S : List SideD} {t : ByteArray × Int} {k : Nat} (h : S.findIdx? (sameName t.1) = some k) : ∃ s, S[k]? = some s ∧ s.1 = t.1 := by
 obtain ⟨hk, h1, _⟩ := List.findIdx?_eq_some_iff_getElem.1 h
 exact ⟨S[k], by simp, bytes_ext (by simpa [sameName] using h1)⟩
theorem dot_fold {S : List SideD} {xs : List Int} (hl : xs.length = S.length) : ∀ (ts : List (ByteArray × Int)) (cs : List Int), cs.length = S.length → (∀ t ∈ ts, S.any (sameName t.1) = true) → ts.Pairwise (fun a b => a.1 ≠ b.1) → (∀ t ∈ ts, cs[placeN S t]? = some 0) →
  dot (ts.foldl (fun cs t => cs.set (placeN S t) t.2) cs) xs = dot cs xs + (ts.map fun t => t.2 * valIn (varsOf S xs) t.1).sum
 | [], cs, _, _, _, _ => by simp
 | t :: r, cs, hc, hin, hp, hz => by
   obtain ⟨k, h1, h2⟩ := valIn_place (n := t.1) hl (hin t (by simp))
   have hk : placeN S t = k := by simp [placeN, firstI, h1]
   have h0 := hz t (by simp)
   obtain ⟨p1, p2⟩ := List.pairwise_cons.1 hp
   rw [List.foldl_cons, dot_fold hl r _ (by simp [hc]) (fun t ht => hin t (by simp [ht])) p2 (fun u hu => ?_), List.map_cons, List.sum_cons]
   · rw [hk] at h0 ⊢
     rw [dot_set _ _ _ _ _ _ h0 h2]
     simp
     omega
   · obtain ⟨m, m1, m2⟩ := valIn_place (n := u.1) hl (hin u (by simp [hu]))
     have hm : placeN S u = m := by simp [placeN, firstI, m1]
     have hne : placeN S t ≠ placeN S u := by
      rw [hk, hm]
      rintro rfl
      obtain ⟨s1, e1, e2⟩ := place_name h1
      obtain ⟨s2, e3, e4⟩ := place_name m1
      rw [e1] at e3
      cases e3
      exact p1 u hu (e2.symm.trans e4)
     rw [List.getElem?_set_ne hne]
     exact hz u (by simp [hu])
theorem dot_zeros : ∀ (n : Nat) (xs : List Int), dot (List.replicate n 0) xs = 0
 | 0, xs => by cases xs <;> rfl
 | n + 1, [] => rfl
 | n + 1, x :: xs => by simp [List.replicate_succ, dot, dot_zeros n xs]
theorem rowVal_eq {S : List SideD} {xs : List Int} {c : Int} {ts : List (ByteArray × Int)} (hl : xs.length = S.length) (hf : formErr c ts = 0) (hin : termsIn (namesOf S) ts = true) :
  rowVal (c, coefsOf S ts) xs = valueOf (valIn (varsOf S xs)) c ts := by
 have hin' : ∀ t ∈ ts, S.any (sameName t.1) = true := fun t ht => by rw [sameName_any]; exact List.all_eq_true.1 hin t ht
 have h := dot_fold hl ts (List.replicate S.length 0) (by simp) hin' (form_good hf).2.2.2 (fun t ht => by
  obtain ⟨k, h1, _⟩ := valIn_place (n := t.1) hl (hin' t ht)
  obtain ⟨s, hs, _⟩ := place_name h1
  have hk := (List.getElem?_eq_some_iff.1 hs).1
  simp [placeN, firstI, h1, hk])
 simp only [rowVal, valueOf, coefsOf, h, dot_zeros]
 omega
theorem any_map_eq {α β : Type} {f : α → β} {p : β → Bool} {q : α → Bool} : ∀ {l : List α}, (∀ a ∈ l, p (f a) = q a) → (l.map f).any p = l.any q
 | [], _ => rfl
 | a :: r, h => by simp only [List.map_cons, List.any_cons, h a (by simp), any_map_eq (l := r) (fun a ha => h a (by simp [ha]))]
theorem rows_any {S : List SideD × List CondD} {xs : List Int} (h : setErr S = 0) (hl : xs.length = S.1.length) : (rowsOf S).any (negRow xs) = S.2.any (negB (valIn (varsOf S.1 xs))) := by
 obtain ⟨_, _, _, g4⟩ := set_good h
 unfold rowsOf
 refine any_map_eq fun f hf => ?_
 obtain ⟨c1, c2⟩ := conds_good g4 f hf
 simp only [negRow, negB]
 rw [rowVal_eq hl c1 c2]
theorem pointP_eq {S : List SideD × List CondD} {xs : List Int} (h : setErr S = 0) (hl : xs.length = S.1.length) : pointP S xs = pointB S xs := by
 unfold pointP pointB
 rw [rows_any h hl]
 rfl
set_option maxRecDepth 100000 in
set_option maxHeartbeats 4000000 in
theorem spaceHas_any (S : List SideD × List CondD) (sv kv xv : Value) (xs : List Int) (w : World) (hs : SidesAt w sv S.1) (hk : RowLAt w kv (rowsOf S)) (hx : IntsAt w xv xs) (hgood : setErr S = 0) (hl : xs.length = S.1.length) :
  Calls Tryz.prog 48 #[.agg #[sv, kv], xv] w (Gives (.bool (pointP S xs)) w) := by
 obtain ⟨sides, conds⟩ := S
 obtain ⟨g1, g2, g3, g4⟩ := set_good hgood
 obtain ⟨p, cap, rfl, ⟨hsl, hscc⟩, hsc⟩ := hs
 obtain ⟨pk, kcap, rfl, hkl, hkc⟩ := id hk
 obtain ⟨px, xcap, rfl, hxl, hxc⟩ := id hx
 simp only at hsl hscc hsc g1 g2 hl ⊢
 have H := uH hsc
 have HK := uH hk
 have HX := uH hx
 have HXC := uH hxc
 have HGd := uH (rows_good hgood)
 have HNr := uH (fun h => near_of (S := sides) g2 (xs := xs) (by omega) h)
 have hl1 : xs.length ≤ sides.length := by omega
 have hl2 : sides.length ≤ xs.length := by omega
 clear hsc hkc hxc hk hx g2 g4 hgood hl
 go_enter Tryz.func48, Tryz.ntmps48
 go_wp2
 go_loopw [10] (fun i wr => ∃ k : Nat, k ≤ sides.length ∧ i = .int .i64 k ∧ Hid (((sides.zip xs).take k).all sideIn = true) ∧ Hid ((w.alloc (.cells #[.slice p sides.length cap, .slice pk (rowsOf (sides, conds)).length kcap] 81)).grownBy wr none)) (fun i _ => sides.length - (intOf i).toNat)
 case atStart => exact ⟨0, Nat.zero_le _, rfl, rfl, gR _ _⟩
 case round =>
  obtain ⟨k, hk, rfl, HI, HG⟩ := hrel
  have hgw : w.grownBy wr none := gT (gA _ _ _) HG.out
  by_cases hlt : k < sides.length
  · have h0 := List.getElem?_eq_getElem hlt
    have hltx : k < xs.length := by omega
    have h0x := List.getElem?_eq_getElem hltx
    obtain ⟨b, off, rfl, h3, ⟨h4, h4'⟩, ⟨h5, h5'⟩, h6, h7, h8⟩ := (H.out k _ h0).kept hgw
    obtain ⟨bx, offx, rfl, ⟨hx1, hx2⟩, hxc⟩ := HXC.out k _ h0x
    have hxc' := hgw.cell hxc (by simp)
    have HMiss := uH (fun h => all_miss (q := sideIn) (zip_get h0 h0x) h)
    have HZ := uH (zip_take_succ h0 h0x)
    generalize hn : (sides[k]).1 = n at *
    generalize hlo : (sides[k]).2.1 = lo at *
    generalize hhi : (sides[k]).2.2 = hi' at *
    generalize hxx : xs[k] = x at *
    have hxa := (gA wr (.cells #[.string n, .int .i64 lo, .int .i64 hi'] 63) none).cell hxc' (by simp)
    have G := uH hgw
    have hI1 : (k : Int) < (xs.length : Int) := by omega
    have hI2 : (0 : Int) ≤ (k : Int) := by omega
    clear h0 h0x hxc hxc' hgw hn hlo hhi hxx
    by_cases c1 : x < lo
    · have hd : decide (x < lo) = true := by simpa using c1
      go_wp2
      go_quiet (fail)
      go_wp2
      go_ret
      exact ⟨ret_bool (by
       have h1 : (sides.zip xs).all sideIn = false := HMiss.out (by simp [sideIn, inB]; omega)
       simp [pointP, h1]), gT G.out (gT (gA _ _ _) (grownBy_drewN _ _ _))⟩
    · have hd : decide (x < lo) = false := by simpa using c1
      go_wp2
      go_quiet (fail)
      go_wp2
      · have c2 : hi' < x := by assumption
        go_ret
        exact ⟨ret_bool (by
         have h1 : (sides.zip xs).all sideIn = false := HMiss.out (by simp [sideIn, inB]; omega)
         simp [pointP, h1]), gT G.out (gT (gA _ _ _) (grownBy_drewN _ _ _))⟩
      · have c2 : x ≤ hi' := by assumption
        go_roundw
        case rel =>
         refine ⟨k + 1, by omega, by go_num, ?_, gT HG.out (gT (gA _ _ _) (grownBy_drewN _ _ _))⟩
         show _ = _
         rw [HZ.out, List.all_append, HI.out]
         simp [sideIn, inB]
         omega
        case measure => simp [intOf]; omega
  · obtain rfl : k = sides.length := by omega
    have hbox := HG.out.cell (a := ⟨w.heap.size, 1, none⟩) (v := .slice pk (rowsOf (sides, conds)).length kcap) (by simp) (by simp)
    have hall : (sides.zip xs).all sideIn = true := by
     have h := HI.out
     rwa [List.take_of_length_le (by simp; omega)] at h
    have HA := uH hall
    have HN := uH (HNr.out hall)
    have G := uH hgw
    clear hall hgw
    go_wp2_with (first | (go_at_call 100; go_must (refine (areMet_any sides.length (rowsOf (sides, conds)) _ _ xs _ (HK.out.kept G.out) HGd.out (by omega) (HX.out.kept G.out) (by omega) HN.out).mono ?_; rintro e w' ⟨rfl, hg1⟩; have G1 := uH hg1; clear hg1)))
    go_ret
    exact ⟨ret_bool (by simp only [pointP]; rw [HA.out]; simp), gT G.out G1.out⟩
end Go.Proofs.YtgeklmigfhhpfaaGreatDoor
namespace Go.Proofs.YtgeklmigfhhpfaaGreatDoor
open Go.RowKit
def rowsLen (R : List RowD) (m : Nat) : List RowD := R.filter fun r => rowLen r.2 == m
def fromP (R : List RowD) : List Int → List SideD → List (List Int)
 | pre, [] => if (rowsLen R pre.length).any (negRow pre) then [] else [pre]
 | pre, s :: r => if (rowsLen R pre.length).any (negRow pre) then [] else (rangeI s.2.1 (s.2.2 - s.2.1 + 1).toNat).flatMap fun v => fromP R (pre ++ [v]) r
theorem negRow_more {r : RowD} {pre : List Int} (more : List Int) (h : rowLen r.2 ≤ pre.length) : negRow (pre ++ more) r = negRow pre r := by
 unfold negRow rowVal
 rw [dot_more r.2 pre more h]
theorem points_none {S : List SideD × List CondD} (hg : setErr S = 0) {r : RowD} (hr : r ∈ rowsOf S) : ∀ (rest : List SideD) (pre : List Int), pre.length + rest.length = S.1.length → rowLen r.2 ≤ pre.length → negRow pre r = true → pointsFrom S pre rest = []
 | [], pre, hl, _, hn => by
   have h1 : pointB S pre = false := by
    rw [← pointP_eq hg (by simpa using hl)]
    have : (rowsOf S).any (negRow pre) = true := List.any_eq_true.2 ⟨r, hr, hn⟩
    simp [pointP, this]
   simp [pointsFrom, h1]
 | s :: rest, pre, hl, h1, hn => by
   simp only [pointsFrom, List.flatMap_eq_nil_iff]
   intro v _
   exact points_none hg hr rest (pre ++ [v]) (by simp at hl ⊢; omega) (by simp; omega) (by rw [negRow_more _ h1]; exact hn)
theorem zip_snoc : ∀ {S : List SideD} {pre : List Int} {s : SideD} {v : Int} {rest : List SideD}, S.drop pre.length = s :: rest → S.zip (pre ++ [v]) = S.zip pre ++ [(s, v)]
 | [], pre, _, _, _, h => by simp at h
 | a :: S, [], s, v, rest, h => by
   simp at h
   simp [h.1]
 | a :: S, x :: pre, s, v, rest, h => by
   have ih := zip_snoc (S := S) (pre := pre) (s := s) (v := v) (rest := rest) (by simpa using h)
   simp [ih]
theorem fromP_eq {S : List SideD × List CondD} (hg : setErr S = 0) : ∀ (rest : List SideD) (pre : List Int), S.1.drop pre.length = rest → pre.length ≤ S.1.length → (S.1.zip pre).all sideIn = true → (∀ r ∈ rowsOf S, rowLen r.2 < pre.length → negRow pre r = false) →
  fromP (rowsOf S) pre rest = pointsFrom S pre rest
 | rest, pre, hd, hl, hin, hmet => by
   have hlen : pre.length + rest.length = S.1.length := by
    have := congrArg List.length hd
    simp at this
    omega
   cases hb : (rowsLen (rowsOf S) pre.length).any (negRow pre)
   · have hmet' : ∀ r ∈ rowsOf S, rowLen r.2 ≤ pre.length → negRow pre r = false := by
      intro r hr h
      by_cases he : rowLen r.2 = pre.length
      · have := List.any_eq_false.1 hb r (List.mem_filter.2 ⟨hr, by simpa using he⟩)
        simpa using this
      · exact hmet r hr (by omega)
     match rest, hd, hlen with
     | [], hd, hlen =>
       have hl' : pre.length = S.1.length := by simpa using hlen
       have h1 : pointB S pre = true := by
        rw [← pointP_eq hg hl']
        have : (rowsOf S).any (negRow pre) = false := by
         rw [List.any_eq_false]
         intro r hr
         have := hmet' r hr (by have := rowLen_le r.2; have := (rows_good hg r hr).1; omega)
         simpa using this
        simp [pointP, this, hin]
       simp [fromP, pointsFrom, hb, h1]
     | s :: rest, hd, hlen =>
       simp only [fromP, pointsFrom, hb, Bool.false_eq_true, if_false]
       refine flatMap_congr' fun v hv => ?_
       have hd2 : S.1.drop (pre.length + 1) = rest := by
        rw [← List.drop_drop, hd]
        rfl
       refine fromP_eq hg rest (pre ++ [v]) (by simpa using hd2) (by simp at hlen ⊢; omega) ?_ fun r hr h => ?_
       · rw [zip_snoc hd, List.all_append, hin]
         obtain ⟨k, hk, rfl⟩ := List.mem_map.1 hv
         have hk := List.mem_range.1 hk
         simp [sideIn, inB]
         omega
       · have h' : rowLen r.2 ≤ pre.length := by simp at h; omega
         rw [negRow_more _ h']
         exact hmet' r hr h'
   · obtain ⟨r, hr, hn⟩ := List.any_eq_true.1 hb
     obtain ⟨h1, h2⟩ := List.mem_filter.1 hr
     have h2 : rowLen r.2 = pre.length := by simpa using h2
     rw [points_none hg h1 rest pre hlen (by omega) hn]
     cases rest <;> simp [fromP, hb]
 where
 flatMap_congr' {α β : Type} {f g : α → List β} : ∀ {l : List α}, (∀ a ∈ l, f a = g a) → l.flatMap f = l.flatMap g
  | [], _ => rfl
  | a :: r, h => by rw [List.flatMap_cons, List.flatMap_cons, h a (by simp), flatMap_congr' (l := r) (fun a ha => h a (by simp [ha]))]
theorem fromP_all {S : List SideD × List CondD} (hg : setErr S = 0) : fromP (rowsOf S) [] S.1 = pointsFrom S [] S.1 :=
 fromP_eq hg S.1 [] rfl (Nat.zero_le _) (by simp) (fun r _ h => by simp at h)
def walkP (go : List (List Int) → Bool) : List (List Int) → List (List Int) → List (List Int) × Bool
 | d, [] => (d, true)
 | d, p :: r => if go (d ++ [p]) then walkP go (d ++ [p]) r else (d ++ [p], false)
theorem walkP_append (go : List (List Int) → Bool) : ∀ (a b d : List (List Int)), walkP go d (a ++ b) = if (walkP go d a).2 then walkP go (walkP go d a).1 b else walkP go d a
 | [], b, d => by simp [walkP]
 | p :: a, b, d => by
   simp only [List.cons_append, walkP]
   split
   · exact walkP_append go a b _
   · simp
theorem walkP_length (go : List (List Int) → Bool) : ∀ (a d : List (List Int)), (walkP go d a).1.length ≤ d.length + a.length
 | [], d => by simp [walkP]
 | p :: a, d => by
   simp only [walkP]
   split
   · have := walkP_length go a (d ++ [p])
     simp at this ⊢
     omega
   · simp
theorem fromP_length (R : List RowD) : ∀ (rest : List SideD) (pre : List Int), (fromP R pre rest).length ≤ boxN rest
 | [], pre => by
   simp only [fromP, boxN]
   split <;> simp
 | s :: r, pre => by
   simp only [fromP, boxN]
   split
   · simp
   · refine Nat.le_trans (length_flatMap_le (m := boxN r) fun v _ => fromP_length R r _) ?_
     simp [rangeI]
end Go.Proofs.YtgeklmigfhhpfaaGreatDoor
namespace Go.Proofs.YtgeklmigfhhpfaaGreatDoor
open Go.RowKit
def upB (a b : ByteArray) : Prop := Op.bytesLess a.toList b.toList = true
def Ups (ts : List (ByteArray × Int)) : Prop := ts.Pairwise fun a b => upB a.1 b.1
theorem upB_irrefl (a : ByteArray) : ¬ upB a a := by unfold upB; rw [bytesLess_irrefl]; simp
theorem upB_trans {a b c : ByteArray} (h : upB a b) (k : upB b c) : upB a c := bytesLess_trans _ _ _ h k
theorem ups_ext : ∀ {u v : List (ByteArray × Int)}, Ups u → Ups v → (∀ t, t ∈ u ↔ t ∈ v) → u = v
 | [], [], _, _, _ => rfl
 | [], b :: v, _, _, h => by have := (h b).2 (by simp); simp at this
 | a :: u, [], _, _, h => by have := (h a).1 (by simp); simp at this
 | a :: u, b :: v, hu, hv, h => by
   obtain ⟨hu1, hu2⟩ := List.pairwise_cons.1 hu
   obtain ⟨hv1, hv2⟩ := List.pairwise_cons.1 hv
   have hab : a = b := by
    rcases List.mem_cons.1 ((h a).1 (by simp)) with e | hav
    · exact e
    · rcases List.mem_cons.1 ((h b).2 (by simp)) with e | hbu
      · exact e.symm
      · exact absurd (upB_trans (hu1 b hbu) (hv1 a hav)) (upB_irrefl _)
   subst hab
   refine congrArg (a :: ·) (ups_ext hu2 hv2 fun t => ?_)
   have ht := h t
   constructor
   · intro htu
     rcases List.mem_cons.1 (ht.1 (List.mem_cons_of_mem _ htu)) with e | k
     · subst e; exact absurd (hu1 _ htu) (upB_irrefl _)
     · exact k
   · intro htv
     rcases List.mem_cons.1 (ht.2 (List.mem_cons_of_mem _ htv)) with e | k
     · subst e; exact absurd (hv1 _ htv) (upB_irrefl _)
     · exact k
structure FormX (X : ByteArray → Int) (c : Int) (f : CondD) : Prop where
 num : f.1 = c
 ups : Ups f.2
 mem : ∀ n z, (n, z) ∈ f.2 ↔ n ≠ ByteArray.empty ∧ z ≠ 0 ∧ X n = z
theorem formX_eq {X Y : ByteArray → Int} {c : Int} {f g : CondD} (hf : FormX X c f) (hg : FormX Y c g) (h : ∀ n, n ≠ ByteArray.empty → X n = Y n) : f = g := by
 obtain ⟨f1, f2⟩ := f
 obtain ⟨g1, g2⟩ := g
 have e1 := hf.num
 have e2 := hg.num
 simp only at e1 e2
 have e3 : f2 = g2 := ups_ext hf.ups hg.ups fun t => by
  obtain ⟨n, z⟩ := t
  rw [hf.mem n z, hg.mem n z]
  constructor
  · rintro ⟨a, b, d⟩; exact ⟨a, b, by rw [← h n a]; exact d⟩
  · rintro ⟨a, b, d⟩; exact ⟨a, b, by rw [h n a]; exact d⟩
 rw [e1, e2, e3]
def coefX (ts : List (ByteArray × Int)) (n : ByteArray) : Int := match ts.find? (fun t => t.1.toList == n.toList) with | some t => t.2 | none => 0
theorem coefX_cons (t : ByteArray × Int) (r : List (ByteArray × Int)) (n : ByteArray) : coefX (t :: r) n = if t.1 = n then t.2 else coefX r n := by
 unfold coefX
 rw [List.find?_cons]
 by_cases h : t.1 = n
 · subst h
   simp
 · have : (t.1.toList == n.toList) = false := by
    rw [beq_eq_false_iff_ne]
    exact fun e => h (bytes_ext e)
   rw [this, if_neg h]
theorem coefX_mem {ts : List (ByteArray × Int)} (hd : ts.Pairwise fun a b => a.1 ≠ b.1) {n : ByteArray} {z : Int} (h : (n, z) ∈ ts) : coefX ts n = z := by
 induction ts with
 | nil => cases h
 | cons t r ih =>
   obtain ⟨h1, h2⟩ := List.pairwise_cons.1 hd
   rw [coefX_cons]
   rcases List.mem_cons.1 h with rfl | h
   · rw [if_pos rfl]
   · rw [if_neg (h1 _ h), ih h2 h]
theorem coefX_hit {ts : List (ByteArray × Int)} {n : ByteArray} (h : coefX ts n ≠ 0) : (n, coefX ts n) ∈ ts := by
 induction ts with
 | nil => exact absurd rfl h
 | cons t r ih =>
   rw [coefX_cons] at h ⊢
   by_cases e : t.1 = n
   · rw [if_pos e]
     subst e
     simp
   · rw [if_neg e] at h ⊢
     exact List.mem_cons_of_mem _ (ih h)
theorem coefX_none {ts : List (ByteArray × Int)} {n : ByteArray} (h : ∀ t ∈ ts, t.1 ≠ n) : coefX ts n = 0 := by
 induction ts with
 | nil => rfl
 | cons t r ih =>
   rw [coefX_cons, if_neg (h t (by simp)), ih fun u hu => h u (List.mem_cons_of_mem _ hu)]
theorem terms_ups {l : List (ByteArray × Int)} : ∀ last, termsErr last l = 0 → Ups l ∧ ∀ t ∈ l, t.2 ≠ 0 := by
 induction l with
 | nil => intro _ _; exact ⟨List.Pairwise.nil, fun t ht => by cases ht⟩
 | cons x r ih =>
   intro last h
   have hg := terms_good _ h
   simp only [termsErr] at h
   split at h
   · split at h
     · cases h
     · split at h
       · cases h
       · rename_i h1 h2 h3
         obtain ⟨i1, i2⟩ := ih _ h
         refine ⟨List.Pairwise.cons (fun t ht => ((terms_good _ h).1 t ht).2.2) i1, fun t ht => ?_⟩
         rcases List.mem_cons.1 ht with rfl | ht
         · intro e
           simp [coefBad, e] at h2
         · exact i2 t ht
   · cases h
theorem form_formX {c : Int} {ts : List (ByteArray × Int)} (h : formErr c ts = 0) : FormX (coefX ts) c (c, ts) := by
 have hg := form_good h
 have hu : Ups ts ∧ ∀ t ∈ ts, t.2 ≠ 0 := by
  simp only [formErr] at h
  split at h
  · split at h
    · cases h
    · exact terms_ups _ h
  · cases h
 refine ⟨rfl, hu.1, fun n z => ⟨fun hm => ⟨name_ne_empty (hg.2.2.1 _ hm).1, hu.2 _ hm, coefX_mem hg.2.2.2 hm⟩, ?_⟩⟩
 rintro ⟨_, hz, rfl⟩
 exact coefX_hit hz
def rowX (l : List SideD) (cs : List Int) (n : ByteArray) : Int := match l.findIdx? (sameName n) with | some k => cs.getD k 0 | none => 0
theorem rowX_nil (cs : List Int) (n : ByteArray) : rowX [] cs n = 0 := rfl
theorem sameName_iff {n : ByteArray} {s : SideD} : sameName n s = true ↔ s.1 = n := by
 unfold sameName
 rw [beq_iff_eq]
 exact ⟨bytes_ext, fun e => by rw [e]⟩
theorem rowX_cons (s : SideD) (l : List SideD) (c : Int) (cs : List Int) (n : ByteArray) : rowX (s :: l) (c :: cs) n = if s.1 = n then c else rowX l cs n := by
 unfold rowX
 rw [List.findIdx?_cons]
 by_cases h : s.1 = n
 · rw [if_pos (sameName_iff.2 h), if_pos h]
   rfl
 · rw [if_neg (fun e => h (sameName_iff.1 e)), if_neg h]
   cases l.findIdx? (sameName n) <;> rfl
theorem rowX_none {l : List SideD} {cs : List Int} {n : ByteArray} (h : ∀ s ∈ l, s.1 ≠ n) : rowX l cs n = 0 := by
 unfold rowX
 rw [List.findIdx?_eq_none_iff.2 fun s hs => by
  cases e : sameName n s with
  | false => rfl
  | true => exact absurd (sameName_iff.1 e) (h s hs)]
theorem rowX_zeros : ∀ (l : List SideD) (k : Nat) (n : ByteArray), rowX l (List.replicate k 0) n = 0 := by
 intro l k n
 unfold rowX
 cases l.findIdx? (sameName n) with
 | none => rfl
 | some i =>
   simp only [List.getD_eq_getElem?_getD, List.getElem?_replicate]
   split <;> rfl
theorem rowX_sum (a b : Int) : ∀ (l : List SideD) (cs ds : List Int) (n : ByteArray), cs.length = l.length → ds.length = l.length → rowX l (List.zipWith (fun x y => a * x + b * y) cs ds) n = a * rowX l cs n + b * rowX l ds n
 | [], _, _, n, _, _ => by simp [rowX_nil]
 | s :: l, [], _, _, h, _ => by simp at h
 | s :: l, c :: cs, [], _, _, h => by simp at h
 | s :: l, c :: cs, d :: ds, n, h, k => by
   rw [List.zipWith_cons_cons, rowX_cons, rowX_cons, rowX_cons, rowX_sum a b l cs ds n (by simpa using h) (by simpa using k)]
   split <;> rfl
theorem rowX_map {f : Int → Int} (h0 : f 0 = 0) : ∀ (l : List SideD) (cs : List Int) (n : ByteArray), cs.length = l.length → rowX l (cs.map f) n = f (rowX l cs n)
 | [], _, n, _ => by simp [rowX_nil, h0]
 | s :: l, [], _, h => by simp at h
 | s :: l, c :: cs, n, h => by
   rw [List.map_cons, rowX_cons, rowX_cons, rowX_map h0 l cs n (by simpa using h)]
   split <;> rfl
def Apart (l : List SideD) : Prop := l.Pairwise fun a b => a.1 ≠ b.1
theorem rowX_erase : ∀ (l : List SideD) (cs : List Int) (k : Nat) (x : SideD) (n : ByteArray), Apart l → cs.length = l.length → l[k]? = some x → rowX (l.eraseIdx k) (cs.eraseIdx k) n = if x.1 = n then 0 else rowX l cs n
 | [], _, k, x, n, _, _, h => by simp at h
 | s :: l, [], _, _, _, _, h, _ => by simp at h
 | s :: l, c :: cs, 0, x, n, ha, hl, h => by
   obtain rfl := Option.some.inj h
   obtain ⟨h1, _⟩ := List.pairwise_cons.1 ha
   rw [List.eraseIdx_cons_zero, List.eraseIdx_cons_zero, rowX_cons]
   by_cases e : s.1 = n
   · rw [if_pos e, rowX_none fun t ht => by rw [← e]; exact (h1 t ht).symm]
   · rw [if_neg e, if_neg e]
 | s :: l, c :: cs, k + 1, x, n, ha, hl, h => by
   obtain ⟨h1, h2⟩ := List.pairwise_cons.1 ha
   have hx : l[k]? = some x := by simpa using h
   rw [List.eraseIdx_cons_succ, List.eraseIdx_cons_succ, rowX_cons, rowX_cons, rowX_erase l cs k x n h2 (by simpa using hl) hx]
   by_cases e : s.1 = n
   · rw [if_pos e, if_pos e, if_neg fun e2 => h1 x (List.mem_of_getElem? hx) (e.trans e2.symm)]
   · rw [if_neg e, if_neg e]
theorem rowX_unit : ∀ (l : List SideD) (k : Nat) (x : SideD) (z : Int) (n : ByteArray), Apart l → l[k]? = some x → rowX l ((List.replicate l.length 0).set k z) n = if x.1 = n then z else 0
 | [], k, x, z, n, _, h => by simp at h
 | s :: l, 0, x, z, n, ha, h => by
   obtain rfl := Option.some.inj h
   rw [List.length_cons, List.replicate_succ, List.set_cons_zero, rowX_cons, rowX_zeros]
 | s :: l, k + 1, x, z, n, ha, h => by
   obtain ⟨h1, h2⟩ := List.pairwise_cons.1 ha
   have hx : l[k]? = some x := by simpa using h
   rw [List.length_cons, List.replicate_succ, List.set_cons_succ, rowX_cons, rowX_unit l k x z n h2 hx]
   by_cases e : s.1 = n
   · rw [if_pos e, if_neg fun e2 => h1 x (List.mem_of_getElem? hx) (e.trans e2.symm)]
   · rw [if_neg e]
def pairsOf (l : List SideD) (cs : List Int) : List (ByteArray × Int) := ((l.zip cs).filter fun p => p.2 != 0).map fun p => (p.1.1, p.2)
theorem pairs_mem {l : List SideD} {cs : List Int} (ha : Apart l) (hl : cs.length = l.length) (n : ByteArray) (z : Int) : (n, z) ∈ pairsOf l cs ↔ z ≠ 0 ∧ rowX l cs n = z := by
 induction l generalizing cs with
 | nil => simp [pairsOf, rowX_nil]; omega
 | cons s l ih =>
   cases cs with
   | nil => simp at hl
   | cons c cs =>
     obtain ⟨h1, h2⟩ := List.pairwise_cons.1 ha
     have hi := ih h2 (cs := cs) (by simpa using hl)
     have hno : ∀ z, (s.1, z) ∉ pairsOf l cs := by
      intro z hz
      obtain ⟨⟨t, y⟩, ht, e⟩ := List.mem_map.1 hz
      have hm := List.of_mem_zip (List.mem_filter.1 ht).1
      exact h1 t hm.1 (Prod.mk.inj e).1.symm
     have e1 : pairsOf (s :: l) (c :: cs) = if c = 0 then pairsOf l cs else (s.1, c) :: pairsOf l cs := by
      unfold pairsOf
      rw [List.zip_cons_cons, List.filter_cons]
      by_cases hc : c = 0 <;> simp [hc]
     rw [e1, rowX_cons]
     by_cases hc : c = 0
     · rw [if_pos hc]
       by_cases e : s.1 = n
       · subst e
         rw [if_pos rfl]
         exact ⟨fun h => absurd h (hno z), fun ⟨h, k⟩ => absurd (k.symm.trans hc) h⟩
       · rw [if_neg e]
         exact hi
     · rw [if_neg hc, List.mem_cons]
       by_cases e : s.1 = n
       · subst e
         rw [if_pos rfl]
         constructor
         · rintro (h | h)
           · obtain ⟨_, rfl⟩ := Prod.mk.inj h
             exact ⟨hc, rfl⟩
           · exact absurd h (hno z)
         · rintro ⟨_, rfl⟩
           exact .inl rfl
       · rw [if_neg e]
         constructor
         · rintro (h | h)
           · exact absurd (Prod.mk.inj h).1.symm e
           · exact hi.1 h
         · exact fun h => .inr (hi.2 h)
theorem pairs_apart {l : List SideD} {cs : List Int} (ha : Apart l) : (pairsOf l cs).Pairwise fun a b => a.1 ≠ b.1 := by
 induction l generalizing cs with
 | nil => exact List.Pairwise.nil
 | cons s l ih =>
   cases cs with
   | nil => exact List.Pairwise.nil
   | cons c cs =>
     obtain ⟨h1, h2⟩ := List.pairwise_cons.1 ha
     unfold pairsOf
     rw [List.zip_cons_cons, List.filter_cons]
     split
     · rw [List.map_cons]
       refine List.Pairwise.cons (fun t ht => ?_) (ih h2)
       obtain ⟨⟨x, y⟩, hx, rfl⟩ := List.mem_map.1 ht
       exact h1 x (List.of_mem_zip (List.mem_filter.1 hx).1).1
     · exact ih h2
theorem row_formX {l : List SideD} {cs : List Int} {c : Int} {u : List (ByteArray × Int)} (ha : Apart l) (hne : ∀ s ∈ l, s.1 ≠ ByteArray.empty) (hl : cs.length = l.length) (hu : u.Perm (pairsOf l cs)) (hs : Ups u) : FormX (rowX l cs) c (c, u) := by
 refine ⟨rfl, hs, fun n z => ?_⟩
 rw [hu.mem_iff, pairs_mem ha hl]
 constructor
 · rintro ⟨h1, h2⟩
   refine ⟨fun e => h1 ?_, h1, h2⟩
   rw [← h2]
   exact rowX_none fun s hs' => by rw [e]; exact hne s hs'
 · rintro ⟨_, h1, h2⟩
   exact ⟨h1, h2⟩
theorem rowX_set {l : List SideD} {cs : List Int} {n m : ByteArray} {z : Int} (h : l.any (sameName m) = true) (hl : cs.length = l.length) : rowX l (cs.set (placeN l (m, z)) z) n = if m = n then z else rowX l cs n := by
 obtain ⟨k, hk⟩ : ∃ k, l.findIdx? (sameName m) = some k := by
  cases e : l.findIdx? (sameName m) with
  | some k => exact ⟨k, rfl⟩
  | none =>
    obtain ⟨s, hs, hm⟩ := List.any_eq_true.1 h
    have := List.findIdx?_eq_none_iff.1 e s hs
    rw [this] at hm
    cases hm
 obtain ⟨s, hs, hsm⟩ := place_name (t := (m, z)) hk
 have hkl : k < cs.length := by
  rw [hl]
  exact (List.getElem?_eq_some_iff.1 hs).1
 have hp : placeN l (m, z) = k := by
  unfold placeN firstI
  rw [hk]
  rfl
 rw [hp]
 unfold rowX
 by_cases e : m = n
 · subst e
   rw [hk, if_pos rfl]
   simp [hkl]
 · rw [if_neg e]
   cases hj : l.findIdx? (sameName n) with
   | none => rfl
   | some j =>
     obtain ⟨s', hs', hsn⟩ := place_name (t := (n, z)) hj
     have hjk : k ≠ j := by
      intro e2
      subst e2
      rw [hs] at hs'
      obtain rfl := Option.some.inj hs'
      exact e (hsm.symm.trans hsn)
     simp only [List.getD_eq_getElem?_getD]
     rw [List.getElem?_set_ne hjk]
theorem rowX_fold {l : List SideD} {n : ByteArray} : ∀ (ts : List (ByteArray × Int)) (cs : List Int), cs.length = l.length → (∀ t ∈ ts, l.any (sameName t.1) = true) → ts.Pairwise (fun a b => a.1 ≠ b.1) →
  rowX l (ts.foldl (fun cs t => cs.set (placeN l t) t.2) cs) n = if ts.any (fun t => t.1.toList == n.toList) then coefX ts n else rowX l cs n
 | [], cs, _, _, _ => rfl
 | t :: r, cs, hl, hin, hd => by
   obtain ⟨h1, h2⟩ := List.pairwise_cons.1 hd
   rw [List.foldl_cons, rowX_fold r _ (by simpa using hl) (fun u hu => hin u (List.mem_cons_of_mem _ hu)) h2, coefX_cons, List.any_cons]
   by_cases e : t.1 = n
   · have hr : r.any (fun t => t.1.toList == n.toList) = false := by
      rw [List.any_eq_false]
      intro u hu hb
      exact h1 u hu (e.trans (bytes_ext (beq_iff_eq.1 hb)).symm)
     have hb : (t.1.toList == n.toList) = true := by rw [e]; simp
     have hx := rowX_set (n := n) (m := t.1) (z := t.2) (cs := cs) (hin t (by simp)) hl
     rw [if_pos e] at hx
     rw [hr, if_pos e, hb, Bool.true_or, if_pos rfl, if_neg (by simp)]
     exact hx
   · have hb : (t.1.toList == n.toList) = false := by
      rw [beq_eq_false_iff_ne]
      exact fun e2 => e (bytes_ext e2)
     rw [hb, Bool.false_or, if_neg e]
     have hx := rowX_set (n := n) (m := t.1) (z := t.2) (cs := cs) (hin t (by simp)) hl
     rw [if_neg e] at hx
     split
     · rfl
     · exact hx
theorem rowX_coefs {l : List SideD} {ts : List (ByteArray × Int)} {c : Int} {n : ByteArray} (hf : formErr c ts = 0) (hin : ∀ t ∈ ts, l.any (sameName t.1) = true) : rowX l (coefsOf l ts) n = coefX ts n := by
 unfold coefsOf
 rw [rowX_fold ts _ (by simp) hin (form_good hf).2.2.2]
 split
 · rfl
 · rename_i h
   rw [rowX_zeros]
   refine (coefX_none fun t ht e => h ?_).symm
   rw [List.any_eq_true]
   exact ⟨t, ht, by rw [e]; simp⟩
end Go.Proofs.YtgeklmigfhhpfaaGreatDoor
