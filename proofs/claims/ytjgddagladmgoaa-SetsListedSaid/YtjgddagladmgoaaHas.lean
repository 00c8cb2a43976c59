/-
 has, Has: whether a list is a point.
-/
import Derived.Test.YtjgddagladmgoaaSpace
import Derived.BigQuiet
import Derived.Deep.DeepMust
namespace Go.Proofs.Ytjgddagladmgoaa
open Go.RowKit
attribute [local go_sem ↓] Go.wp_at_zero Go.wp_at_succ

/-- A point as the program asks for it. -/
def pointP (S : List SideD × List CondD) (xs : List Int) : Bool := (S.1.zip xs).all sideIn && !(rowsOf S).any (negRow xs)

theorem near_of {S : List SideD} {xs : List Int} (h : sidesErr [] S = 0) (hl : xs.length ≤ S.length) (hi : (S.zip xs).all sideIn = true) : near xs := by
  intro x hx
  obtain ⟨j, hj, rfl⟩ := List.getElem_of_mem hx
  have hm : (S[j]'(by omega), xs[j]) ∈ S.zip xs := by
    rw [List.mem_iff_getElem]
    exact ⟨j, by simp; omega, by simp⟩
  have h1 := List.all_eq_true.1 hi _ hm
  have h2 := side_range (sides_good [] h _ (List.of_mem_zip hm).1).2
  simp [sideIn, inB] at h1
  omega

theorem valIn_cons (n s : ByteArray) (x : Int) (l : List (ByteArray × Int)) : valIn ((s, x) :: l) n = if s.toList == n.toList then x else valIn l n := by
  unfold valIn
  rw [List.find?_cons]
  cases h : (s.toList == n.toList) <;> simp

theorem valIn_place {n : ByteArray} : ∀ {S : List SideD} {xs : List Int}, xs.length = S.length → S.any (sameName n) = true → ∃ k, S.findIdx? (sameName n) = some k ∧ xs[k]? = some (valIn (varsOf S xs) n)
  | [], _, _, h => by simp at h
  | s :: S, [], h, _ => by simp at h
  | s :: S, x :: xs, hl, h => by
    have e : varsOf (s :: S) (x :: xs) = (s.1, x) :: varsOf S xs := rfl
    rw [List.findIdx?_cons, e, valIn_cons]
    cases hs : sameName n s
    · have hs' : (s.1.toList == n.toList) = false := hs
      obtain ⟨k, h1, h2⟩ := valIn_place (n := n) (S := S) (xs := xs) (by simpa using hl) (by simpa [hs] using h)
      exact ⟨k + 1, by simp [h1], by simp [h2, hs']⟩
    · have hs' : (s.1.toList == n.toList) = true := hs
      exact ⟨0, by simp, by simp [hs']⟩

theorem dot_set : ∀ (cs xs : List Int) (i : Nat) (z c x : Int), cs[i]? = some c → xs[i]? = some x → dot (cs.set i z) xs = dot cs xs + (z - c) * x
  | [], _, _, _, _, _, h, _ => by simp at h
  | _ :: _, [], _, _, _, _, _, h => by simp at h
  | a :: cs, b :: xs, 0, z, c, x, h, hx => by
    simp at h hx
    subst h hx
    simp only [List.set_cons_zero, dot, Int.sub_mul]
    omega
  | a :: cs, b :: xs, i + 1, z, c, x, h, hx => by
    have ih := dot_set cs xs i z c x (by simpa using h) (by simpa using hx)
    simp only [List.set_cons_succ, dot]
    rw [ih]
    omega

theorem place_name {S : List SideD} {t : ByteArray × Int} {k : Nat} (h : S.findIdx? (sameName t.1) = some k) : ∃ s, S[k]? = some s ∧ s.1 = t.1 := by
  obtain ⟨hk, h1, _⟩ := List.findIdx?_eq_some_iff_getElem.1 h
  exact ⟨S[k], by simp, bytes_ext (by simpa [sameName] using h1)⟩

theorem dot_fold {S : List SideD} {xs : List Int} (hl : xs.length = S.length) : ∀ (ts : List (ByteArray × Int)) (cs : List Int), cs.length = S.length → (∀ t ∈ ts, S.any (sameName t.1) = true) → ts.Pairwise (fun a b => a.1 ≠ b.1) → (∀ t ∈ ts, cs[placeN S t]? = some 0) →
    dot (ts.foldl (fun cs t => cs.set (placeN S t) t.2) cs) xs = dot cs xs + (ts.map fun t => t.2 * valIn (varsOf S xs) t.1).sum
  | [], cs, _, _, _, _ => by simp
  | t :: r, cs, hc, hin, hp, hz => by
    obtain ⟨k, h1, h2⟩ := valIn_place (n := t.1) hl (hin t (by simp))
    have hk : placeN S t = k := by simp [placeN, firstI, h1]
    have h0 := hz t (by simp)
    obtain ⟨p1, p2⟩ := List.pairwise_cons.1 hp
    rw [List.foldl_cons, dot_fold hl r _ (by simp [hc]) (fun t ht => hin t (by simp [ht])) p2 (fun u hu => ?_), List.map_cons, List.sum_cons]
    · rw [hk] at h0 ⊢
      rw [dot_set _ _ _ _ _ _ h0 h2]
      simp
      omega
    · obtain ⟨m, m1, m2⟩ := valIn_place (n := u.1) hl (hin u (by simp [hu]))
      have hm : placeN S u = m := by simp [placeN, firstI, m1]
      have hne : placeN S t ≠ placeN S u := by
        rw [hk, hm]
        rintro rfl
        obtain ⟨s1, e1, e2⟩ := place_name h1
        obtain ⟨s2, e3, e4⟩ := place_name m1
        rw [e1] at e3
        cases e3
        exact p1 u hu (e2.symm.trans e4)
      rw [List.getElem?_set_ne hne]
      exact hz u (by simp [hu])

theorem dot_zeros : ∀ (n : Nat) (xs : List Int), dot (List.replicate n 0) xs = 0
  | 0, xs => by cases xs <;> rfl
  | n + 1, [] => rfl
  | n + 1, x :: xs => by simp [List.replicate_succ, dot, dot_zeros n xs]

/-- The value of a row is that of the form. -/
theorem rowVal_eq {S : List SideD} {xs : List Int} {c : Int} {ts : List (ByteArray × Int)} (hl : xs.length = S.length) (hf : formErr c ts = 0) (hin : termsIn (namesOf S) ts = true) :
    rowVal (c, coefsOf S ts) xs = valueOf (valIn (varsOf S xs)) c ts := by
  have hin' : ∀ t ∈ ts, S.any (sameName t.1) = true := fun t ht => by rw [sameName_any]; exact List.all_eq_true.1 hin t ht
  have h := dot_fold hl ts (List.replicate S.length 0) (by simp) hin' (form_good hf).2.2.2 (fun t ht => by
    obtain ⟨k, h1, _⟩ := valIn_place (n := t.1) hl (hin' t ht)
    obtain ⟨s, hs, _⟩ := place_name h1
    have hk := (List.getElem?_eq_some_iff.1 hs).1
    simp [placeN, firstI, h1, hk])
  simp only [rowVal, valueOf, coefsOf, h, dot_zeros]
  omega

theorem any_map_eq {α β : Type} {f : α → β} {p : β → Bool} {q : α → Bool} : ∀ {l : List α}, (∀ a ∈ l, p (f a) = q a) → (l.map f).any p = l.any q
  | [], _ => rfl
  | a :: r, h => by simp only [List.map_cons, List.any_cons, h a (by simp), any_map_eq (l := r) (fun a ha => h a (by simp [ha]))]

theorem rows_any {S : List SideD × List CondD} {xs : List Int} (h : setErr S = 0) (hl : xs.length = S.1.length) : (rowsOf S).any (negRow xs) = S.2.any (negB (valIn (varsOf S.1 xs))) := by
  obtain ⟨_, _, _, g4⟩ := set_good h
  unfold rowsOf
  refine any_map_eq fun f hf => ?_
  obtain ⟨c1, c2⟩ := conds_good g4 f hf
  simp only [negRow, negB]
  rw [rowVal_eq hl c1 c2]

theorem pointP_eq {S : List SideD × List CondD} {xs : List Int} (h : setErr S = 0) (hl : xs.length = S.1.length) : pointP S xs = pointB S xs := by
  unfold pointP pointB
  rw [rows_any h hl]
  rfl

set_option maxRecDepth 100000 in
set_option maxHeartbeats 4000000 in
theorem spaceHas_any (S : List SideD × List CondD) (sv kv xv : Value) (xs : List Int) (w : World) (hs : SidesAt w sv S.1) (hk : RowLAt w kv (rowsOf S)) (hx : IntsAt w xv xs) (hgood : setErr S = 0) (hl : xs.length = S.1.length) :
    Calls Try.prog 31 #[.agg #[sv, kv], xv] w (Gives (.bool (pointP S xs)) w) := by
  obtain ⟨sides, conds⟩ := S
  obtain ⟨g1, g2, g3, g4⟩ := set_good hgood
  obtain ⟨p, cap, rfl, ⟨hsl, hscc⟩, hsc⟩ := hs
  obtain ⟨pk, kcap, rfl, hkl, hkc⟩ := id hk
  obtain ⟨px, xcap, rfl, hxl, hxc⟩ := id hx
  simp only at hsl hscc hsc g1 g2 hl ⊢
  have H := Lib.hid hsc
  have HK := Lib.hid hk
  have HX := Lib.hid hx
  have HXC := Lib.hid hxc
  have HGd := Lib.hid (rows_good hgood)
  have HNr := Lib.hid (fun h => near_of (S := sides) g2 (xs := xs) (by omega) h)
  have hl1 : xs.length ≤ sides.length := by omega
  have hl2 : sides.length ≤ xs.length := by omega
  clear hsc hkc hxc hk hx g2 g4 hgood hl
  go_enter Try.func31, Try.ntmps31
  go_wp2
  go_loopw [10] (fun i wr => ∃ k : Nat, k ≤ sides.length ∧ i = .int .i64 k ∧ Hid (((sides.zip xs).take k).all sideIn = true) ∧ Hid ((w.alloc (.cells #[.slice p sides.length cap, .slice pk (rowsOf (sides, conds)).length kcap] 71)).grownBy wr none)) (fun i _ => sides.length - (intOf i).toNat)
  case atStart => exact ⟨0, Nat.zero_le _, rfl, rfl, grownBy_refl _ _⟩
  case round =>
    obtain ⟨k, hk, rfl, HI, HG⟩ := hrel
    have hgw : w.grownBy wr none := grownBy_trans (World.grownBy_alloc _ _ _) HG.out
    by_cases hlt : k < sides.length
    · have h0 := List.getElem?_eq_getElem hlt
      have hltx : k < xs.length := by omega
      have h0x := List.getElem?_eq_getElem hltx
      obtain ⟨b, off, rfl, h3, ⟨h4, h4'⟩, ⟨h5, h5'⟩, h6, h7, h8⟩ := (H.out k _ h0).kept hgw
      obtain ⟨bx, offx, rfl, ⟨hx1, hx2⟩, hxc⟩ := HXC.out k _ h0x
      have hxc' := hgw.cell hxc (by simp)
      have HMiss := Lib.hid (fun h => all_miss (q := sideIn) (zip_get h0 h0x) h)
      have HZ := Lib.hid (zip_take_succ h0 h0x)
      generalize hn : (sides[k]).1 = n at *
      generalize hlo : (sides[k]).2.1 = lo at *
      generalize hhi : (sides[k]).2.2 = hi' at *
      generalize hxx : xs[k] = x at *
      have hxa := (World.grownBy_alloc wr (.cells #[.string n, .int .i64 lo, .int .i64 hi'] 54) none).cell hxc' (by simp)
      have G := Lib.hid hgw
      have hI1 : (k : Int) < (xs.length : Int) := by omega
      have hI2 : (0 : Int) ≤ (k : Int) := by omega
      clear h0 h0x hxc hxc' hgw hn hlo hhi hxx
      by_cases c1 : x < lo
      · have hd : decide (x < lo) = true := by simpa using c1
        go_wp2
        go_quiet (fail)
        go_wp2
        go_ret
        exact ⟨ret_bool (by
          have h1 : (sides.zip xs).all sideIn = false := HMiss.out (by simp [sideIn, inB]; omega)
          simp [pointP, h1]), grownBy_trans G.out (grownBy_trans (World.grownBy_alloc _ _ _) (grownBy_drewN _ _ _))⟩
      · have hd : decide (x < lo) = false := by simpa using c1
        go_wp2
        go_quiet (fail)
        go_wp2
        · have c2 : hi' < x := by assumption
          go_ret
          exact ⟨ret_bool (by
            have h1 : (sides.zip xs).all sideIn = false := HMiss.out (by simp [sideIn, inB]; omega)
            simp [pointP, h1]), grownBy_trans G.out (grownBy_trans (World.grownBy_alloc _ _ _) (grownBy_drewN _ _ _))⟩
        · have c2 : x ≤ hi' := by assumption
          go_roundw
          case rel =>
            refine ⟨k + 1, by omega, by go_num, ?_, grownBy_trans HG.out (grownBy_trans (World.grownBy_alloc _ _ _) (grownBy_drewN _ _ _))⟩
            show _ = _
            rw [HZ.out, List.all_append, HI.out]
            simp [sideIn, inB]
            omega
          case measure => simp [intOf]; omega
    · obtain rfl : k = sides.length := by omega
      have hbox := HG.out.cell (a := ⟨w.heap.size, 1, none⟩) (v := .slice pk (rowsOf (sides, conds)).length kcap) (by simp) (by simp)
      have hall : (sides.zip xs).all sideIn = true := by
        have h := HI.out
        rwa [List.take_of_length_le (by simp; omega)] at h
      have HA := Lib.hid hall
      have HN := Lib.hid (HNr.out hall)
      have G := Lib.hid hgw
      clear hall hgw
      go_wp2_with (first | (go_at_call 52; go_must (refine (areMet_any sides.length (rowsOf (sides, conds)) _ _ xs _ (HK.out.kept G.out) HGd.out (by omega) (HX.out.kept G.out) (by omega) HN.out).mono ?_; rintro e w' ⟨rfl, hg1⟩; have G1 := Lib.hid hg1; clear hg1)))
      go_ret
      exact ⟨ret_bool (by simp only [pointP]; rw [HA.out]; simp), grownBy_trans G.out G1.out⟩

end Go.Proofs.Ytjgddagladmgoaa
