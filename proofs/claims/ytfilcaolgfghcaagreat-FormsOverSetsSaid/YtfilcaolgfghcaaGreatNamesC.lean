/-
 lists, where Projected keeps each.
 checkName, checkNames.
 The law's own faults of names.
 errs and when, of the law's folder.
-/
import Derived.Test.YtfilcaolgfghcaaGreatProjW
import Derived.Test.YtfilcaolgfghcaaGreatListsX
namespace Go.Proofs.YtfilcaolgfghcaaGreat
open Go.RowKit
attribute [local go_sem ↓] Go.wp_at_zero Go.wp_at_succ

theorem dist_grow (rs : List RowD) : ∀ (ps acc : List (List Int)), acc.length ≤ (ps.foldl (distStep rs) acc).length
  | [], acc => Nat.le_refl _
  | p :: ps, acc => by
    have h := dist_grow rs ps (distStep rs acc p)
    have h2 : acc.length ≤ (distStep rs acc p).length := by unfold distStep; split <;> simp
    simp only [List.foldl_cons]
    omega
theorem walkP_proj (rs : List RowD) : ∀ (ps d : List (List Int)), (distL rs d).length ≤ 5000 → if (distL rs (d ++ ps)).length ≤ 5000 then walkP (goProj rs) d ps = (d ++ ps, true) else (walkP (goProj rs) d ps).2 = false
  | [], d, h => by simp [walkP, h]
  | p :: ps, d, h => by
    have ih := walkP_proj rs ps (d ++ [p])
    rw [List.append_assoc, List.singleton_append] at ih
    have hm : (distL rs (d ++ [p])).length ≤ (distL rs (d ++ p :: ps)).length := by
      have := dist_grow rs ps (distL rs (d ++ [p]))
      rw [show distL rs (d ++ p :: ps) = ps.foldl (distStep rs) (distL rs (d ++ [p])) by simp [distL, List.foldl_append]]
      exact this
    simp only [walkP]
    by_cases h1 : (distL rs (d ++ [p])).length ≤ 5000
    · have e : goProj rs (d ++ [p]) = true := by simp [goProj, h1]
      rw [if_pos e]
      exact ih h1
    · have e : goProj rs (d ++ [p]) = false := by
        simp only [goProj, decide_eq_false_iff_not, not_or]
        refine ⟨h1, fun e => h1 ?_⟩
        rw [e]
        simpa using h
      rw [e, if_neg (by omega)]
      rfl

set_option maxHeartbeats 4000000 in
theorem listsP_any (S : List SideD × List CondD) (sv kv kr : Value) (rs : List RowD) (V : Nat) (wp w : World) (hs : SidesAt wp sv S.1) (hk : RowLAt wp kv (rowsOf S)) (hgood : setErr S = 0) (hkr : RowLAt wp kr rs) (hrg : ∀ r ∈ rs, goodRow S.1.length r) (hr8 : rs.length ≤ 8)
    (hp : wp.grownBy w none) (hpV : wp.heap.size ≤ V) (hV : V + 1 = w.heap.size) (hm : w.heap[V]? = some (.cells #[.slice none 0 0] 48 (0, 0))) :
    Calls Tryz.prog 43 #[.agg #[sv, kv], kr, fvPro V] w (fun e w' => e = .returned (.bool (decide ((distL rs (pointsFrom S [] S.1)).length ≤ 5000))) ∧ wp.grownBy w' none ∧ ∃ Bb ov, wp.heap.size ≤ Bb ∧ w'.heap[V]? = some (.cells #[ov] 48 (0, 0)) ∧ ((distL rs (pointsFrom S [] S.1)).length ≤ 5000 → ListInv V Bb (distL rs (pointsFrom S [] S.1)) w')) := by
  have hn8 := (set_good hgood).1
  obtain ⟨p, cap, rfl, ⟨hsl, hscc⟩, hsc⟩ := id hs
  obtain ⟨pk, kcap, rfl, hkl, hkc⟩ := id hk
  obtain ⟨pr, rcap, rfl, hrl, hrc⟩ := id hkr
  have hmm := @run_makeMap Tryz.prog
  obtain ⟨q1, q2, q3, q4, q5, q6⟩ := five_objs w (.cells #[.slice p S.1.length cap, .slice pk (rowsOf S).length kcap] 77) (.cells #[.slice pr rs.length rcap] 75) (.cells #[fvPro V] 61) (.map #[] 0) (.cells #[.map (some (w.heap.size + 1 + 1 + 1))] 123) _ rfl
  have hsn : SeenAt (((((w.alloc (.cells #[.slice p S.1.length cap, .slice pk (rowsOf S).length kcap] 77)).alloc (.cells #[.slice pr rs.length rcap] 75)).alloc (.cells #[fvPro V] 61)).alloc (.map #[] 0)).alloc (.cells #[.map (some (w.heap.size + 1 + 1 + 1))] 123)) (V + 1 + 1 + 1 + 1) 0 (.map []) := by
    have h := World.ownsMap_made (H := Unit) (((w.alloc (.cells #[.slice p S.1.length cap, .slice pk (rowsOf S).length kcap] 77)).alloc (.cells #[.slice pr rs.length rcap] 75)).alloc (.cells #[fvPro V] 61)) Tryz.prog 124 (plainElem Tryz.prog 4)
    rw [show (((w.alloc (.cells #[.slice p S.1.length cap, .slice pk (rowsOf S).length kcap] 77)).alloc (.cells #[.slice pr rs.length rcap] 75)).alloc (.cells #[fvPro V] 61)).heap.size = V + 1 + 1 + 1 + 1 by simp; omega] at h
    exact World.ownsMap.alloc h _
  have HQ := Lib.hid q5
  have HP := Lib.hid (grownBy_trans hp q5)
  have H := Lib.hid (eachM_any S (.slice p S.1.length cap) (.slice pk (rowsOf S).length kcap) V (V + 6) (ListsP V rs (.slice pr rs.length rcap)) (goProj rs) wp _ hs hk hgood (grownBy_trans hp q5) hpV (by omega)
    (fun _ => ⟨by rw [← hV] at q1 ⊢; exact q1, by rw [← hV] at q2 ⊢; exact q2, by rw [← hV] at q4 ⊢; exact q4, ⟨_, hsn, seenD_start _⟩, ⟨_, [], heap_keep hm q5 (by simp), World.ownsRow_nil _ _ _ _, rfl, fun j pt hj => by simp [distL] at hj⟩⟩)
    (fun Bb hB => listsP_steady (by omega)) (fun wE Bb hg hB => projs_visit (grownBy_trans hp (grownBy_trans q5 hg)) hpV hkr hrg hn8 hr8 (by have := hg.size; omega)))
  unfold fvM at H
  rw [hV] at H
  clear q1 q2 q3 q4 q5 hs hk hkr hkc hrc hsc hp hsn
  go_enter Tryz.func43, Tryz.ntmps43
  have HWk := Lib.hid (walkP_proj rs (pointsFrom S [] S.1) [] (by simp [distL]))
  go_wp2_with (first
    | (go_at_call 36; go_must (refine H.out.mono ?_; rintro e w2 ⟨rfl, hf, Bb, hBb, hi⟩; have HF := Lib.hid hf; have HI := Lib.hid hi.list; have HBb := Lib.hid hBb; clear hf hi hBb)))
  go_ret
  have hw := HWk.out
  rw [List.nil_append] at hw
  obtain ⟨ov, vs, hi1, hi2, hi3⟩ := HI.out
  have hsz := HP.out.size
  by_cases hfull : (distL rs (pointsFrom S [] S.1)).length ≤ 5000
  · rw [if_pos hfull] at hw
    rw [hw] at hi2 hi3
    exact ⟨ret_bool (by rw [hw]; simp [hfull]), HF.out.pre HP.out hpV, Bb, ov, by have := HBb.out; omega, hi1, fun _ => ⟨ov, vs, hi1, hi2, hi3⟩⟩
  · rw [if_neg hfull] at hw
    exact ⟨ret_bool (by rw [hw]; simp [hfull]), HF.out.pre HP.out hpV, Bb, ov, by have := HBb.out; omega, hi1, fun h => absurd h hfull⟩

end Go.Proofs.YtfilcaolgfghcaaGreat

namespace Go.Proofs.YtfilcaolgfghcaaGreat
open Go.RowKit
attribute [local go_sem ↓] Go.wp_at_zero Go.wp_at_succ

def nameErr (sn : List ByteArray) (x : ByteArray) : Int := if nameB x = true then (if containsB sn x = true then 0 else 8) else 5
def namesGo (sn : List ByteArray) : List ByteArray → List ByteArray → Int
  | _, [] => 0
  | pre, x :: r => if nameErr sn x = 0 then (if containsB pre x = true then 6 else namesGo sn (pre ++ [x]) r) else nameErr sn x
/-- What is wrong with a list of variables. -/
def namesErr (sn ns : List ByteArray) : Int := if 8 < ns.length then 2 else namesGo sn [] ns

set_option maxHeartbeats 1000000 in
theorem checkName_any (x : ByteArray) (sv : Value) (l : List SideD) (w : World) (hx : x.size ≤ maxLen) (hs : SidesAt w sv l) :
    Calls Tryz.prog 80 #[.string x, sv] w (Gives (.int .i64 (nameErr (namesOf l) x)) w) := by
  obtain ⟨p, cap, rfl, ⟨hsl, hscc⟩, _⟩ := id hs
  have HN := Lib.hid hs
  clear hs
  cases hb : nameB x
  · have HB := Lib.hid hb
    clear hb
    go_enter Tryz.func80, Tryz.ntmps80
    go_wp2_with (first | (go_at_call 97; refine (affName_any x w hx).mono ?_; rintro e w1 ⟨rfl, hg1⟩; rw [HB.out]; have G1 := Lib.hid hg1; clear hg1))
    go_ret
    exact ⟨ret_i64 (by simp [nameErr, HB.out]), G1.out⟩
  · have HB := Lib.hid hb
    clear hb
    have hfn := firstI_none (sameName x) l
    rw [sameName_any] at hfn
    cases hc : containsB (namesOf l) x
    · have HC := Lib.hid hc
      rw [hc] at hfn
      simp only [Bool.not_false] at hfn
      clear hc
      go_enter Tryz.func80, Tryz.ntmps80
      go_wp2_with (first
        | (go_at_call 97; refine (affName_any x w hx).mono ?_; rintro e w1 ⟨rfl, hg1⟩; rw [HB.out]; have G1 := Lib.hid hg1; clear hg1)
        | (go_at_call 77; refine (placeOf_any x _ l _ (HN.out.kept G1.out)).mono ?_; rintro e w2 ⟨rfl, hg2⟩; have G2 := Lib.hid hg2; clear hg2))
      go_ret
      exact ⟨ret_i64 (by simp [nameErr, HB.out, HC.out]), grownBy_trans G1.out G2.out⟩
    · have HC := Lib.hid hc
      rw [hc] at hfn
      simp only [Bool.not_true] at hfn
      clear hc
      go_enter Tryz.func80, Tryz.ntmps80
      go_wp2_with (first
        | (go_at_call 97; refine (affName_any x w hx).mono ?_; rintro e w1 ⟨rfl, hg1⟩; rw [HB.out]; have G1 := Lib.hid hg1; clear hg1)
        | (go_at_call 77; refine (placeOf_any x _ l _ (HN.out.kept G1.out)).mono ?_; rintro e w2 ⟨rfl, hg2⟩; have G2 := Lib.hid hg2; clear hg2))
      go_ret
      exact ⟨ret_i64 (by simp [nameErr, HB.out, HC.out]), grownBy_trans G1.out G2.out⟩

theorem strs_prefix {w : World} {p : Option Addr} {n cap : Nat} {ns : List ByteArray} (h : StrsAt w (.slice p n cap) ns) (k : Nat) (hk : k ≤ ns.length) : StrsAt w (.slice p k cap) (ns.take k) := by
  obtain ⟨p', cap', hv, hl, hc⟩ := h
  obtain ⟨rfl, rfl, rfl⟩ := Value.slice.inj hv
  have e : (ns.take k).length = k := by simp; omega
  refine ⟨p, cap, by rw [e], by omega, fun j s hj => hc j s ?_⟩
  have hj2 := (List.getElem?_eq_some_iff.1 hj).1
  rw [List.getElem?_take, if_pos (by omega)] at hj
  exact hj

set_option maxRecDepth 100000 in
set_option maxHeartbeats 2000000 in
theorem checkNames_any (ns : List ByteArray) (nv sv : Value) (l : List SideD) (w : World) (hn : StrsAt w nv ns) (hx : ∀ s ∈ ns, s.size ≤ maxLen) (hs : SidesAt w sv l) (hcap : ∃ p cap, nv = .slice p ns.length cap ∧ ns.length ≤ cap) :
    Calls Tryz.prog 45 #[nv, sv] w (Gives (.int .i64 (namesErr (namesOf l) ns)) w) := by
  obtain ⟨p, cap, rfl, hcap⟩ := hcap
  obtain ⟨_, _, _, hnl, hnc⟩ := id hn
  have hnm := hnl
  unfold maxLen at hnm
  have HN := Lib.hid hn
  have HX := Lib.hid hx
  have HS := Lib.hid hs
  clear hn hx hs hnc
  by_cases h8 : 8 < ns.length
  · have h8i : (8 : Int) < (ns.length : Int) := by omega
    go_enter Tryz.func45, Tryz.ntmps45
    go_wp2
    go_ret
    exact ⟨ret_i64 (by simp [namesErr, h8]), grownBy_refl _ _⟩
  have h8i : ¬ (8 : Int) < (ns.length : Int) := by omega
  have HE := Lib.hid (show namesErr (namesOf l) ns = namesGo (namesOf l) [] ns by simp [namesErr, h8])
  go_enter Tryz.func45, Tryz.ntmps45
  go_wp2
  go_loopw [13] (fun i wr => ∃ k : Nat, k ≤ ns.length ∧ i = .int .i64 k ∧ Hid (namesGo (namesOf l) (ns.take k) (ns.drop k) = namesGo (namesOf l) [] ns) ∧ Hid (w.grownBy wr none)) (fun i _ => ns.length - (intOf i).toNat)
  case atStart => exact ⟨0, Nat.zero_le _, rfl, rfl, grownBy_refl _ _⟩
  case round =>
    obtain ⟨k, hk, rfl, HR, HG⟩ := hrel
    by_cases hlt : k < ns.length
    · have HD := Lib.hid (List.drop_eq_getElem_cons hlt)
      have HT := Lib.hid (List.take_succ_eq_append_getElem hlt)
      have hxk := HX.out _ (List.getElem_mem hlt)
      have h0 := List.getElem?_eq_getElem hlt
      obtain ⟨p', cap', hv, _, hc⟩ := HN.out.kept HG.out
      obtain ⟨rfl, _, rfl⟩ := Value.slice.inj hv
      obtain ⟨b, off, rfl, h3⟩ := hc k _ h0
      have HPre := Lib.hid (strs_prefix HN.out k hk)
      have hki : (k : Int) ≤ (cap : Int) := by omega
      generalize ns[k] = x at *
      clear h0 hc hv
      by_cases he : nameErr (namesOf l) x = 0
      · have HEz := Lib.hid he
        clear he
        cases hin : containsB (ns.take k) x
        · have HIn := Lib.hid hin
          clear hin
          go_wp2_with (first
            | (go_at_call 80; go_must (refine (checkName_any x _ l _ hxk (HS.out.kept HG.out)).mono ?_; rintro e w1 ⟨rfl, hg1⟩; rw [HEz.out]; have G1 := Lib.hid hg1; clear hg1))
            | (go_at_call 32; go_must (refine (contains_any _ (ns.take k) x _ (HPre.out.kept (grownBy_trans HG.out G1.out))).mono ?_; rintro e w2 ⟨rfl, rfl⟩; rw [HIn.out])))
          go_roundw
          case rel => exact ⟨k + 1, by omega, by go_num, by show _ = _; rw [← HR.out, HD.out, HT.out]; simp [namesGo, HEz.out, HIn.out], grownBy_trans HG.out G1.out⟩
          case measure => simp [intOf]; omega
        · have HIn := Lib.hid hin
          clear hin
          go_wp2_with (first
            | (go_at_call 80; go_must (refine (checkName_any x _ l _ hxk (HS.out.kept HG.out)).mono ?_; rintro e w1 ⟨rfl, hg1⟩; rw [HEz.out]; have G1 := Lib.hid hg1; clear hg1))
            | (go_at_call 32; go_must (refine (contains_any _ (ns.take k) x _ (HPre.out.kept (grownBy_trans HG.out G1.out))).mono ?_; rintro e w2 ⟨rfl, rfl⟩; rw [HIn.out])))
          go_ret
          exact ⟨ret_i64 (by rw [HE.out, ← HR.out, HD.out]; simp [namesGo, HEz.out, HIn.out]), grownBy_trans HG.out G1.out⟩
      · have he0 : (nameErr (namesOf l) x != 0) = true := by simp [he]
        have HEz := Lib.hid he
        clear he
        go_wp2_with (first
          | (go_at_call 80; go_must (refine (checkName_any x _ l _ hxk (HS.out.kept HG.out)).mono ?_; rintro e w1 ⟨rfl, hg1⟩; have G1 := Lib.hid hg1; clear hg1)))
        go_ret
        exact ⟨ret_i64 (by rw [HE.out, ← HR.out, HD.out]; simp only [namesGo]; rw [if_neg HEz.out]), grownBy_trans HG.out G1.out⟩
    · obtain rfl : k = ns.length := by omega
      go_wp2
      go_ret
      exact ⟨ret_i64 (by rw [HE.out, ← HR.out, List.drop_length]; simp [namesGo]), HG.out⟩

end Go.Proofs.YtfilcaolgfghcaaGreat

namespace Go.Proofs.YtfilcaolgfghcaaGreat
open Go.RowKit
attribute [local go_sem ↓] Go.wp_at_zero Go.wp_at_succ

set_option maxHeartbeats 1000000 in
theorem nameFault_any (s : ByteArray) (w : World) (hs : s.size ≤ maxLen) :
    Calls Tryz.prog 50 #[.string s] w (Gives (.int .i64 (if nameB s = true then 0 else 5)) w) := by
  cases hb : nameB s
  · have HB := Lib.hid hb
    clear hb
    go_enter Tryz.func50, Tryz.ntmps50
    go_wp2_with (go_at_call 31; refine (name_any s w hs).mono ?_; rintro e w1 ⟨rfl, hg1⟩; rw [HB.out]; have G1 := Lib.hid hg1; clear hg1)
    go_ret
    exact ⟨rfl, G1.out⟩
  · have HB := Lib.hid hb
    clear hb
    go_enter Tryz.func50, Tryz.ntmps50
    go_wp2_with (go_at_call 31; refine (name_any s w hs).mono ?_; rintro e w1 ⟨rfl, hg1⟩; rw [HB.out]; have G1 := Lib.hid hg1; clear hg1)
    go_ret
    exact ⟨rfl, G1.out⟩

set_option maxHeartbeats 400000 in
theorem fault1_any (n x : ByteArray) (lo hi : Int) (P : Nat) (w : World) (hp : w.cell? ⟨P, 0, none⟩ = some (.string x)) :
    Calls Tryz.prog 52 #[.agg #[.string n, .int .i64 lo, .int .i64 hi], .pointer (some ⟨P, 0, none⟩)] w (Gives (.bool (n.toList == x.toList)) w) := by
  have hp' := (World.grownBy_alloc w (.cells #[.string n, .int .i64 lo, .int .i64 hi] 64) none).cell hp (by simp)
  clear hp
  go_enter Tryz.func52, Tryz.ntmps52
  go_wp2
  all_goals
    go_ret
    exact ⟨ret_bool (by simp [*]), World.grownBy_alloc _ _ _⟩

set_option maxRecDepth 100000 in
set_option maxHeartbeats 1000000 in
theorem indexFault_any (v : Value) (l : List SideD) (x : ByteArray) (P : Nat) (w : World) (hl : SidesAt w v l) (hp : w.cell? ⟨P, 0, none⟩ = some (.string x)) :
    Calls Tryz.prog 84 #[v, .func (.func 52) #[] #[.pointer (some ⟨P, 0, none⟩)]] w (Gives (.int .i64 (firstI (sameName x) l)) w) := by
  obtain ⟨p, cap, rfl, ⟨hlen, _⟩, hc⟩ := hl
  have H := Lib.hid hc
  have HP := Lib.hid hp
  clear hc hp
  go_enter Tryz.func84, Tryz.ntmps84
  go_wp2
  go_loopw [8] (fun i wr => ∃ k : Nat, k ≤ l.length ∧ i = .int .i64 k ∧ Hid ((l.take k).any (sameName x) = false) ∧ Hid (w.grownBy wr none)) (fun i _ => l.length - (intOf i).toNat)
  case atStart => exact ⟨0, Nat.zero_le _, rfl, rfl, grownBy_refl _ _⟩
  case round =>
    obtain ⟨k, hk, rfl, HR, HG⟩ := hrel
    by_cases hlt : k < l.length
    · have h0 := List.getElem?_eq_getElem hlt
      obtain ⟨b, off, rfl, h3, ⟨h4, h4'⟩, ⟨h5, h5'⟩, h6, h7, h8⟩ := (H.out k _ h0).kept HG.out
      have HS := Lib.hid (any_snoc (q := sameName x) h0)
      have HH := Lib.hid (fun hq => firstI_hit (q := sameName x) h0 HR.out hq)
      have HC := Lib.hid (fault1_any (l[k]).1 x (l[k]).2.1 (l[k]).2.2 P wr (HG.out.cell HP.out (by simp)))
      have HE := Lib.hid (show sameName x l[k] = ((l[k]).1.toList == x.toList) from rfl)
      generalize hn : (l[k]).1 = n at *
      generalize hlo : (l[k]).2.1 = lo at *
      generalize hhi : (l[k]).2.2 = hi' at *
      clear h0 hn hlo hhi
      go_wp2_with (first | (go_at_call 52; refine HC.out.mono ?_; rintro e w' ⟨rfl, hg1⟩; have G1 := Lib.hid hg1; clear hg1))
      · have he : (n.toList == x.toList) = true := by assumption
        go_ret
        exact ⟨ret_i64 (HH.out (by rw [HE.out, he])).symm, grownBy_trans HG.out G1.out⟩
      · have he : (n.toList == x.toList) = false := by assumption
        go_roundw
        case rel => exact ⟨k + 1, by omega, by go_num, by show _ = _; rw [HS.out, HR.out, HE.out, he]; rfl, grownBy_trans HG.out G1.out⟩
        case measure => simp [intOf]; omega
    · obtain rfl : k = l.length := by omega
      go_wp2
      go_ret
      exact ⟨ret_i64 (firstI_miss (by have := HR.out; rwa [List.take_length] at this)).symm, HG.out⟩

set_option maxHeartbeats 1000000 in
theorem containsFault_any (v : Value) (l : List SideD) (x : ByteArray) (P : Nat) (w : World) (hl : SidesAt w v l) (hp : w.cell? ⟨P, 0, none⟩ = some (.string x)) :
    Calls Tryz.prog 51 #[v, .func (.func 52) #[] #[.pointer (some ⟨P, 0, none⟩)]] w (Gives (.bool (containsB (namesOf l) x)) w) := by
  have HL := Lib.hid hl
  have HP := Lib.hid hp
  have HF := Lib.hid ((firstI_any (sameName x) l).trans (sameName_any x l))
  clear hl hp
  go_enter Tryz.func51, Tryz.ntmps51
  go_wp2_with (go_at_call 84; refine (indexFault_any v l x P w HL.out HP.out).mono ?_; rintro e w1 ⟨rfl, hg1⟩; have G1 := Lib.hid hg1; clear hg1)
  go_ret
  exact ⟨ret_bool HF.out, G1.out⟩

set_option maxRecDepth 100000 in
set_option maxHeartbeats 4000000 in
theorem namesFault_any (S : List SideD × List CondD) (ns : List ByteArray) (sv cv nv : Value) (w : World) (hS : SetAt w sv cv S) (hn : StrsAt w nv ns) (hx : ∀ s ∈ ns, s.size ≤ maxLen) (hcap : ∃ p cap, nv = .slice p ns.length cap ∧ ns.length ≤ cap) :
    Calls Tryz.prog 17 #[.agg #[sv, cv], nv] w (Gives (.int .i64 (namesGo (namesOf S.1) [] ns)) w) := by
  obtain ⟨⟨p, cap, rfl, ⟨hsl, hscc⟩, hsc⟩, ⟨pc, ccap, rfl, hcl, hcc⟩⟩ := id hS
  obtain ⟨pl, lcap, rfl, hlcap⟩ := hcap
  obtain ⟨_, _, _, hnl, hnc⟩ := id hn
  have hnm := hnl
  unfold maxLen at hnm
  have HS := Lib.hid hS.1
  have HN := Lib.hid hn
  have HX := Lib.hid hx
  clear hS hn hsc hcc hnc hx
  go_enter Tryz.func17, Tryz.ntmps17
  go_wp2
  have HB := Lib.hid (World.grownBy_alloc w (.cells #[.slice p S.1.length cap, .slice pc S.2.length ccap] 29) none)
  have HA := Lib.hid (cell_of_two (heap_alloc_new w (.cells #[.slice p S.1.length cap, .slice pc S.2.length ccap] 29)))
  generalize w.alloc (.cells #[.slice p S.1.length cap, .slice pc S.2.length ccap] 29) = w1 at *
  go_loopw [9] (fun i wr => ∃ k : Nat, k ≤ ns.length ∧ i = .int .i64 k ∧ Hid (namesGo (namesOf S.1) (ns.take k) (ns.drop k) = namesGo (namesOf S.1) [] ns) ∧ Hid (w1.grownBy wr none)) (fun i _ => ns.length - (intOf i).toNat)
  case atStart => exact ⟨0, Nat.zero_le _, rfl, rfl, grownBy_refl _ _⟩
  case round =>
    obtain ⟨k, hk, rfl, HR, HG⟩ := hrel
    by_cases hlt : k < ns.length
    · have HD := Lib.hid (List.drop_eq_getElem_cons hlt)
      have HT := Lib.hid (List.take_succ_eq_append_getElem hlt)
      have hxk := HX.out _ (List.getElem_mem hlt)
      have h0 := List.getElem?_eq_getElem hlt
      have HGw := Lib.hid (grownBy_trans HB.out HG.out)
      obtain ⟨p', cap', hv, _, hc⟩ := HN.out.kept HGw.out
      obtain ⟨rfl, _, rfl⟩ := Value.slice.inj hv
      obtain ⟨b, off, rfl, h3⟩ := hc k _ h0
      have HPre := Lib.hid (strs_prefix HN.out k hk)
      have hki : (k : Int) ≤ (lcap : Int) := by omega
      have a0 := HG.out.cell HA.out.1 (by simp)
      generalize ns[k] = x at *
      have a0a := (World.grownBy_alloc wr (.cells #[.string x] 9) none).cell a0 (by simp)
      clear h0 hc hv
      have HE5 := Lib.hid (fun h : nameB x = false => show nameErr (namesOf S.1) x = 5 by simp [nameErr, h])
      cases hb : nameB x
      · have HBx := Lib.hid hb
        clear hb
        go_wp2_with (first
          | (go_at_call 50; go_must (refine (nameFault_any x _ hxk).mono ?_; rintro e w2 ⟨rfl, hg2⟩; rw [HBx.out]; simp only [Bool.false_eq_true, if_false]; have G2 := Lib.hid hg2; clear hg2)))
        go_ret
        exact ⟨ret_i64 (by rw [← HR.out, HD.out]; simp [namesGo, HE5.out HBx.out]), grownBy_trans HGw.out (grownBy_trans (World.grownBy_alloc _ _ _) G2.out)⟩
      · have HBx := Lib.hid hb
        clear hb
        cases hcn : containsB (namesOf S.1) x
        · have HC := Lib.hid hcn
          clear hcn
          go_wp2_with (first
            | (go_at_call 50; go_must (refine (nameFault_any x _ hxk).mono ?_; rintro e w2 ⟨rfl, hg2⟩; rw [HBx.out]; simp only [if_true]; have G2 := Lib.hid (grownBy_trans (World.grownBy_alloc wr (.cells #[.string x] 9) none) hg2); have m2 := hg2.cell (show (wr.alloc (.cells #[.string x] 9)).cell? ⟨wr.heap.size, 0, none⟩ = some (.string x) by simp) (by simp); have a02 := hg2.cell a0a (by simp); clear hg2))
            | (go_at_call 51; go_must (refine (containsFault_any _ S.1 x wr.heap.size _ (HS.out.kept (grownBy_trans HGw.out G2.out)) m2).mono ?_; rintro e w3 ⟨rfl, hg3⟩; rw [HC.out]; have G3 := Lib.hid (grownBy_trans G2.out hg3); have m3 := hg3.cell m2 (by simp); clear hg3)))
          go_ret
          exact ⟨ret_i64 (by rw [← HR.out, HD.out]; simp [namesGo, nameErr, HBx.out, HC.out]), grownBy_trans HGw.out G3.out⟩
        · have HC := Lib.hid hcn
          clear hcn
          have HEz := Lib.hid (show nameErr (namesOf S.1) x = 0 by simp [nameErr, HBx.out, HC.out])
          go_wp2_with (first
            | (go_at_call 50; go_must (refine (nameFault_any x _ hxk).mono ?_; rintro e w2 ⟨rfl, hg2⟩; rw [HBx.out]; simp only [if_true]; have G2 := Lib.hid (grownBy_trans (World.grownBy_alloc wr (.cells #[.string x] 9) none) hg2); have m2 := hg2.cell (show (wr.alloc (.cells #[.string x] 9)).cell? ⟨wr.heap.size, 0, none⟩ = some (.string x) by simp) (by simp); have a02 := hg2.cell a0a (by simp); clear hg2))
            | (go_at_call 51; go_must (refine (containsFault_any _ S.1 x wr.heap.size _ (HS.out.kept (grownBy_trans HGw.out G2.out)) m2).mono ?_; rintro e w3 ⟨rfl, hg3⟩; rw [HC.out]; have G3 := Lib.hid (grownBy_trans G2.out hg3); have m3 := hg3.cell m2 (by simp); clear hg3)))
          cases hin : containsB (ns.take k) x
          · have HIn := Lib.hid hin
            clear hin
            go_region_law (first
              | (go_simp; go_at_call 32; go_must (refine (contains_any _ (ns.take k) x _ (by first | exact HPre.out.kept (grownBy_trans HGw.out G3.out) | exact HPre.out.kept (grownBy_trans HGw.out (grownBy_trans G3.out (grown_d _ none))))).mono ?_; rintro e w4 ⟨rfl, rfl⟩; rw [HIn.out])))
            all_goals
              go_wp2
              go_roundw
              case rel => exact ⟨k + 1, by omega, by go_num, by show _ = _; rw [← HR.out, HD.out, HT.out]; simp [namesGo, HEz.out, HIn.out], grownBy_trans HG.out (grownBy_trans G3.out (grown_d _ none))⟩
              case measure => simp [intOf]; omega
          · have HIn := Lib.hid hin
            clear hin
            go_region_law (first
              | (go_simp; go_at_call 32; go_must (refine (contains_any _ (ns.take k) x _ (by first | exact HPre.out.kept (grownBy_trans HGw.out G3.out) | exact HPre.out.kept (grownBy_trans HGw.out (grownBy_trans G3.out (grown_d _ none))))).mono ?_; rintro e w4 ⟨rfl, rfl⟩; rw [HIn.out])))
            all_goals
              go_wp2
              go_ret
              exact ⟨ret_i64 (by rw [← HR.out, HD.out]; simp [namesGo, HEz.out, HIn.out]), grownBy_trans HGw.out (grownBy_trans G3.out (grown_d _ none))⟩
    · obtain rfl : k = ns.length := by omega
      go_wp2
      go_ret
      exact ⟨ret_i64 (by rw [← HR.out, List.drop_length]; simp [namesGo]), grownBy_trans HB.out HG.out⟩

end Go.Proofs.YtfilcaolgfghcaaGreat

namespace Go.Proofs.YtfilcaolgfghcaaGreat
open Go.RowKit
attribute [local go_sem ↓] Go.wp_at_zero Go.wp_at_succ

theorem whenLaw_any (b : Bool) (e0 : Int) (w : World) : Calls Tryz.prog 21 #[.bool b, .int .i64 e0] w (Gives (.int .i64 (if b = true then e0 else 0)) w) := by
  cases b
  all_goals
    go_enter Tryz.func21, Tryz.ntmps21
    go_wp2
    go_ret
    exact ⟨rfl, grownBy_refl _ _⟩

/-- The first of two errors. -/
def errTwo (a b : Int) : Int := if a = 0 then b else a

set_option maxRecDepth 100000 in
set_option maxHeartbeats 1000000 in
theorem errs_any (a b : Int) (P : Nat) (w : World) (ha : w.cell? ⟨P, 0, none⟩ = some (.int .i64 a)) (hb : w.cell? ⟨P, 1, none⟩ = some (.int .i64 b)) :
    Calls Tryz.prog 16 #[.slice (some ⟨P, 0, none⟩) 2 2] w (Gives (.int .i64 (errTwo a b)) w) := by
  go_enter Tryz.func16, Tryz.ntmps16
  go_wp2
  go_loopw [7] (fun i wr => ∃ k : Nat, k ≤ 2 ∧ i = .int .i64 k ∧ wr = w ∧ (1 ≤ k → a = 0) ∧ (2 ≤ k → b = 0)) (fun i _ => 2 - (intOf i).toNat)
  case atStart => exact ⟨0, by omega, rfl, rfl, fun h => by omega, fun h => by omega⟩
  case round =>
    obtain ⟨k, hk, rfl, rfl, h1, h2⟩ := hrel
    by_cases hlt : k < 2
    · rcases (show k = 0 ∨ k = 1 by omega) with rfl | rfl
      · by_cases hz : a = 0
        · subst hz
          go_wp2
          go_roundw
          case rel => exact ⟨1, by omega, by go_num, by trivial, fun _ => by trivial, fun h => by omega⟩
          case measure => simp [intOf]
        · have hz0 : (a != 0) = true := by simp [hz]
          go_wp2
          go_ret
          exact ⟨ret_i64 (by simp [errTwo, hz]), grownBy_refl _ _⟩
      · obtain rfl := h1 (by omega)
        by_cases hz : b = 0
        · subst hz
          go_wp2
          go_roundw
          case rel => exact ⟨2, by omega, by go_num, by trivial, fun _ => by trivial, fun _ => by trivial⟩
          case measure => simp [intOf]
        · have hz0 : (b != 0) = true := by simp [hz]
          go_wp2
          go_ret
          exact ⟨ret_i64 (by simp [errTwo]), grownBy_refl _ _⟩
    · obtain rfl : k = 2 := by omega
      obtain rfl := h1 (by omega)
      obtain rfl := h2 (by omega)
      go_wp2
      go_ret
      exact ⟨ret_i64 (by simp [errTwo]), grownBy_refl _ _⟩

end Go.Proofs.YtfilcaolgfghcaaGreat
