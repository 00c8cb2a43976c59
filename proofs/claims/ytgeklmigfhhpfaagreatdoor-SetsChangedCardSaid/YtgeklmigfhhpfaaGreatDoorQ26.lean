/-
 A set, checked. What stands in a condition beside its number tells its terms. Tables of coefficients, told by their values. More of the library's contracts at this program, in plain words. Tables added up.
-/
import Derived.Deep.DeepMust
import Derived.Lib.ItoaNum
import Derived.Maps.OwnSet
import Derived.Sort.KeysCollected
import Derived.Shelf.SlLaysW
import Derived.Shelf.LaysM
import Derived.Ground.SlmcProg
import Derived.Ground.NamesProg
import Derived.Test.YtgeklmigfhhpfaaGreatDoorProg
import Derived.Shelf.SlMaps.Clone
import Derived.Test.YtgeklmigfhhpfaaGreatDoorQ03
import Derived.Test.YtgeklmigfhhpfaaGreatDoorQ08
import Derived.Test.YtgeklmigfhhpfaaGreatDoorQ09
import Derived.Test.YtgeklmigfhhpfaaGreatDoorQ10
import Derived.Test.YtgeklmigfhhpfaaGreatDoorQ20
namespace Go.Proofs.YtgeklmigfhhpfaaGreatDoor
open Go.RowKit
attribute [local go_sem ↓] Go.wp_at_zero Go.wp_at_succ
set_option maxHeartbeats 1000000 in
theorem checkedSet_any (R : List SideD × List CondD) (sv cv : Value) (w : World) (hS : SetAt w sv cv R) :
  Calls Tryz.prog 17 #[.agg #[sv, cv]] w (Res (setErr R) (okSet R) w) := by
 obtain ⟨ps, scap, rfl, _⟩ := id hS.1
 obtain ⟨pc, ccap, rfl, _⟩ := id hS.2
 have HS := uH hS
 have HB := uH (kH (heap_alloc_new w (.cells #[.slice ps R.1.length scap, .slice pc R.2.length ccap] 29)) (gA _ (.cells #[.slice none 0 0, .slice none 0 0] 29) none) (by simp))
 have HR := uH (heap_alloc_new (w.alloc (.cells #[.slice ps R.1.length scap, .slice pc R.2.length ccap] 29)) (.cells #[.slice none 0 0, .slice none 0 0] 29))
 have HG := uH (gT (gA w (.cells #[.slice ps R.1.length scap, .slice pc R.2.length ccap] 29) none) (gA _ (.cells #[.slice none 0 0, .slice none 0 0] 29) none))
 rw [show (w.alloc (.cells #[.slice ps R.1.length scap, .slice pc R.2.length ccap] 29)).heap.size = w.heap.size + 1 by simp] at HR
 clear hS
 by_cases hE : setErr R = 0
 · have hE0 : (setErr R != 0) = false := by simp [hE]
   have HE := uH hE
   clear hE
   go_enter Tryz.func17, Tryz.ntmps17
   go_wp2_with (go_at_call 8; go_must (refine (setFault_any R _ _ _ (HS.out.kept HG.out)).mono ?_; rintro e w1 ⟨rfl, hg1⟩; have HB1 := uH (kH HB.out hg1 (by simp)); have HR1 := uH (kH HR.out hg1 (by simp)); have HG1 := uH (gT HG.out hg1); clear hg1; obtain ⟨x0, x1, _⟩ := cO HB1.out; obtain ⟨r0, r1, rf⟩ := cO HR1.out))
   obtain ⟨f1, f2⟩ := two_set HR1.out (.slice ps R.1.length scap) (.slice pc R.2.length ccap)
   refine bodyPost_ret (results_set rfl _ _ (w.heap.size + 1) _ _ _ _ rfl f1) rfl ⟨gO HG1.out f2 (fun k hk => by cases hk; omega), _, _, by rw [HE.out]; rfl, ?_⟩
   unfold okSet
   rw [if_pos HE.out]
   exact (HS.out.kept HG1.out).over (slBox_two HR1.out) f2
 · have hE0 : (setErr R != 0) = true := by simpa using hE
   have HE := uH hE
   clear hE
   go_enter Tryz.func17, Tryz.ntmps17
   go_wp2_with (go_at_call 8; go_must (refine (setFault_any R _ _ _ (HS.out.kept HG.out)).mono ?_; rintro e w1 ⟨rfl, hg1⟩; have HR1 := uH (kH HR.out hg1 (by simp)); have HG1 := uH (gT HG.out hg1); clear hg1; obtain ⟨r0, r1, rf⟩ := cO HR1.out))
   obtain ⟨f1, f2⟩ := two_set HR1.out (.slice none 0 0) (.slice none 0 0)
   refine bodyPost_ret (results_set rfl _ _ (w.heap.size + 1) _ _ _ _ rfl f1) rfl ⟨gO HG1.out f2 (fun k hk => by cases hk; omega), _, _, rfl, ?_⟩
   unfold okSet
   rw [if_neg HE.out]
   exact set_nil _
end Go.Proofs.YtgeklmigfhhpfaaGreatDoor
namespace Go.Proofs.YtgeklmigfhhpfaaGreatDoor
open Go.RowKit Go.Lib
theorem dec_digit : ∀ (u : Nat), ∀ b ∈ decDigits u, 48 ≤ b.toNat ∧ b.toNat ≤ 57 := by
 intro u
 induction u using Nat.strongRecOn with
 | ind u ih =>
   intro b hb
   rw [decDigits] at hb
   split at hb
   · obtain rfl := List.mem_singleton.1 hb
     rw [UInt8.toNat_ofNat']
     omega
   · rcases List.mem_append.1 hb with h | h
     · exact ih _ (by omega) b h
     · obtain rfl := List.mem_singleton.1 h
       rw [UInt8.toNat_ofNat']
       omega
theorem dec_ne (u : Nat) : decDigits u ≠ [] := by
 rw [decDigits]
 split
 · simp
 · simp
theorem dec_inj : ∀ (u v : Nat), decDigits u = decDigits v → u = v := by
 intro u
 induction u using Nat.strongRecOn with
 | ind u ih =>
   intro v h
   rw [decDigits, decDigits.eq_def v] at h
   split at h
   · split at h
     · have := congrArg UInt8.toNat (List.cons.inj h).1
       rw [UInt8.toNat_ofNat', UInt8.toNat_ofNat'] at this
       omega
     · have hl := congrArg List.length h
       have := List.length_pos_iff.2 (dec_ne (v / 10))
       rw [List.length_append] at hl
       simp only [List.length_singleton] at hl
       omega
   · split at h
     · have hl := congrArg List.length h
       have := List.length_pos_iff.2 (dec_ne (u / 10))
       rw [List.length_append] at hl
       simp only [List.length_singleton] at hl
       omega
     · obtain ⟨h1, h2⟩ := List.append_inj' h rfl
       have e1 := ih (u / 10) (by omega) _ h1
       have := congrArg UInt8.toNat (List.cons.inj h2).1
       rw [UInt8.toNat_ofNat', UInt8.toNat_ofNat'] at this
       omega
theorem cut_inj {α : Type} (q : α → Prop) : ∀ {a b x y : List α}, (∀ e ∈ a, ¬ q e) → (∀ e ∈ b, ¬ q e) → (∀ e, x.head? = some e → q e) → (∀ e, y.head? = some e → q e) → a ++ x = b ++ y → a = b ∧ x = y
 | [], [], x, y, _, _, _, _, h => ⟨rfl, h⟩
 | [], e :: b, x, y, _, hb, hx, _, h => by
   rw [List.nil_append] at h
   exact absurd (hx e (by rw [h]; rfl)) (hb e (by simp))
 | e :: a, [], x, y, ha, _, _, hy, h => by
   rw [List.nil_append] at h
   exact absurd (hy e (by rw [← h]; rfl)) (ha e (by simp))
 | e :: a, f :: b, x, y, ha, hb, hx, hy, h => by
   rw [List.cons_append, List.cons_append] at h
   obtain ⟨rfl, h2⟩ := List.cons.inj h
   obtain ⟨e1, e2⟩ := cut_inj q (fun g hg => ha g (List.mem_cons_of_mem _ hg)) (fun g hg => hb g (List.mem_cons_of_mem _ hg)) hx hy h2
   exact ⟨by rw [e1], e2⟩
def signL (z : Int) : List UInt8 := if z < 0 then [32, 45, 32] else [32, 43, 32]
def bodyL (t : ByteArray × Int) : List UInt8 := if t.2.natAbs = 1 then t.1.toList else decDigits t.2.natAbs ++ 42 :: t.1.toList
def partL (t : ByteArray × Int) : List UInt8 := signL t.2 ++ bodyL t
def outL (ts : List (ByteArray × Int)) : List UInt8 := if ts = [] then [32, 43, 32, 48] else ts.flatMap partL
def wordsL (o : List UInt8) : List UInt8 := if [32, 43, 32].isPrefixOf o then o.drop 3 else 45 :: (if [32, 45, 32].isPrefixOf o then o.drop 3 else o)
def plainN (s : ByteArray) : Prop := s.toList ≠ [] ∧ (∀ b ∈ s.toList, b ≠ 32 ∧ b ≠ 42) ∧ ∀ b, s.toList.head? = some b → b ≠ 45 ∧ ¬ (48 ≤ b.toNat ∧ b.toNat ≤ 57)
theorem body_inj {t u : ByteArray × Int} (ht : plainN t.1) (hu : plainN u.1) (h : bodyL t = bodyL u) : t.1 = u.1 ∧ t.2.natAbs = u.2.natAbs := by
 unfold bodyL at h
 have hno : ∀ (s : ByteArray) (d : List UInt8) (x : List UInt8), plainN s → s.toList = d ++ 42 :: x → False := fun s d x hs e => (hs.2.1 42 (by rw [e]; simp)).2 rfl
 by_cases h1 : t.2.natAbs = 1
 · rw [if_pos h1] at h
   by_cases h2 : u.2.natAbs = 1
   · rw [if_pos h2] at h
     exact ⟨bytes_ext h, by omega⟩
   · rw [if_neg h2] at h
     exact (hno _ _ _ ht h).elim
 · rw [if_neg h1] at h
   by_cases h2 : u.2.natAbs = 1
   · rw [if_pos h2] at h
     exact (hno _ _ _ hu h.symm).elim
   · rw [if_neg h2] at h
     have hd : ∀ n, ∀ e ∈ decDigits n, ¬ e = (42 : UInt8) := fun n e he e2 => by
      have := dec_digit n e he
      rw [e2] at this
      simp at this
     obtain ⟨e1, e2⟩ := cut_inj (fun e => e = (42 : UInt8)) (hd _) (hd _) (by simp) (by simp) h
     exact ⟨bytes_ext (List.cons.inj e2).2, dec_inj _ _ e1⟩
theorem body_plain {t : ByteArray × Int} (ht : plainN t.1) : bodyL t ≠ [] ∧ ∀ e ∈ bodyL t, ¬ e = (32 : UInt8) := by
 unfold bodyL
 split
 · exact ⟨ht.1, fun e he => (ht.2.1 e he).1⟩
 · refine ⟨by simp, fun e he e2 => ?_⟩
   rcases List.mem_append.1 he with h | h
   · have := dec_digit _ e h
     rw [e2] at this
     simp at this
   · rcases List.mem_cons.1 h with h | h
     · rw [e2] at h
       exact absurd h (by decide)
     · exact (ht.2.1 e h).1 e2
theorem sign_three (z : Int) : ∃ b, signL z = [32, b, 32] ∧ (b = 45 ↔ z < 0) := by
 unfold signL
 split
 · rename_i h
   exact ⟨45, rfl, by simp [h]⟩
 · rename_i h
   exact ⟨43, rfl, by simp [h]⟩
theorem flat_head (ts : List (ByteArray × Int)) : ∀ e, (ts.flatMap partL).head? = some e → e = (32 : UInt8) := by
 cases ts with
 | nil => simp
 | cons t r =>
   intro e he
   obtain ⟨b, hb, _⟩ := sign_three t.2
   rw [List.flatMap_cons, partL, hb] at he
   simp at he
   exact he.symm
theorem part_inj {t u : ByteArray × Int} {x y : List UInt8} (ht : plainN t.1) (hu : plainN u.1) (hx : ∀ e, x.head? = some e → e = (32 : UInt8)) (hy : ∀ e, y.head? = some e → e = (32 : UInt8)) (h : partL t ++ x = partL u ++ y) : t = u ∧ x = y := by
 obtain ⟨b, hb, hb2⟩ := sign_three t.2
 obtain ⟨d, hd, hd2⟩ := sign_three u.2
 unfold partL at h
 rw [hb, hd] at h
 simp only [List.cons_append, List.nil_append, List.cons.injEq, true_and] at h
 obtain ⟨rfl, h⟩ := h
 obtain ⟨e1, e2⟩ := cut_inj (fun e => e = (32 : UInt8)) (body_plain ht).2 (body_plain hu).2 hx hy h
 obtain ⟨e3, e4⟩ := body_inj ht hu e1
 refine ⟨Prod.ext e3 ?_, e2⟩
 have : t.2 < 0 ↔ u.2 < 0 := hb2.symm.trans hd2
 omega
theorem flat_inj : ∀ {u v : List (ByteArray × Int)}, (∀ t ∈ u, plainN t.1) → (∀ t ∈ v, plainN t.1) → u.flatMap partL = v.flatMap partL → u = v
 | [], [], _, _, _ => rfl
 | [], t :: v, _, _, h => by
   obtain ⟨b, hb, _⟩ := sign_three t.2
   rw [List.flatMap_cons, partL, hb] at h
   simp at h
 | t :: u, [], _, _, h => by
   obtain ⟨b, hb, _⟩ := sign_three t.2
   rw [List.flatMap_cons, partL, hb] at h
   simp at h
 | t :: u, s :: v, hu, hv, h => by
   rw [List.flatMap_cons, List.flatMap_cons] at h
   obtain ⟨rfl, e⟩ := part_inj (hu t (by simp)) (hv s (by simp)) (flat_head u) (flat_head v) h
   rw [flat_inj (fun x hx => hu x (List.mem_cons_of_mem _ hx)) (fun x hx => hv x (List.mem_cons_of_mem _ hx)) e]
theorem out_inj {u v : List (ByteArray × Int)} (hu : ∀ t ∈ u, plainN t.1) (hv : ∀ t ∈ v, plainN t.1) (h : outL u = outL v) : u = v := by
 have hz : ∀ t : ByteArray × Int, ∀ r, plainN t.1 → [32, 43, 32, 48] = (t :: r).flatMap partL → False := by
  intro t r ht e
  obtain ⟨b, hb, hb2⟩ := sign_three t.2
  rw [List.flatMap_cons, partL, hb] at e
  simp only [List.cons_append, List.nil_append, List.cons.injEq, true_and] at e
  obtain ⟨_, e⟩ := e
  obtain ⟨h1, h2⟩ := cut_inj (a := [48]) (x := []) (fun e => e = (32 : UInt8)) (by simp) (body_plain ht).2 (by simp) (flat_head r) (by simpa using e)
  unfold bodyL at h1
  split at h1
  · exact (ht.2.2 48 (by rw [← h1]; rfl)).2 (by decide)
  · have hl := congrArg List.length h1
    have := List.length_pos_iff.2 (dec_ne t.2.natAbs)
    simp at hl
    omega
 unfold outL at h
 cases u with
 | nil =>
   cases v with
   | nil => rfl
   | cons s v => exact (hz s v (hv s (by simp)) (by simpa using h)).elim
 | cons t u =>
   cases v with
   | nil => exact (hz t u (hu t (by simp)) (by simpa using h.symm)).elim
   | cons s v =>
     rw [if_neg (by simp), if_neg (by simp)] at h
     exact flat_inj hu hv h
theorem out_form (u : List (ByteArray × Int)) (hu : ∀ t ∈ u, plainN t.1) : (∃ r, outL u = 32 :: 43 :: 32 :: r ∧ ∀ e, r.head? = some e → e ≠ (45 : UInt8)) ∨ ∃ r, outL u = 32 :: 45 :: 32 :: r := by
 unfold outL
 cases u with
 | nil => exact .inl ⟨[48], by simp, by simp⟩
 | cons t u =>
   rw [if_neg (by simp), List.flatMap_cons]
   have ht := hu t (by simp)
   by_cases hz : t.2 < 0
   · exact .inr ⟨bodyL t ++ u.flatMap partL, by rw [partL, signL, if_pos hz]; rfl⟩
   · refine .inl ⟨bodyL t ++ u.flatMap partL, by rw [partL, signL, if_neg hz]; rfl, fun e he => ?_⟩
     obtain ⟨b, r, hb⟩ : ∃ b r, bodyL t = b :: r := by
      cases hh : bodyL t with
      | nil => exact absurd hh (body_plain ht).1
      | cons b r => exact ⟨b, r, rfl⟩
     rw [hb] at he
     simp at he
     subst he
     unfold bodyL at hb
     split at hb
     · exact (ht.2.2 b (by rw [hb]; rfl)).1
     · intro e2
       have : b ∈ decDigits t.2.natAbs := by
        cases hd : decDigits t.2.natAbs with
        | nil => exact absurd hd (dec_ne _)
        | cons c s =>
          rw [hd] at hb
          rw [(List.cons.inj hb).1]
          simp
       have := dec_digit _ b this
       rw [e2] at this
       simp at this
theorem words_inj {u v : List (ByteArray × Int)} (hu : ∀ t ∈ u, plainN t.1) (hv : ∀ t ∈ v, plainN t.1) (h : wordsL (outL u) = wordsL (outL v)) : u = v := by
 refine out_inj hu hv ?_
 have p1 : ∀ r : List UInt8, wordsL (32 :: 43 :: 32 :: r) = r := fun r => rfl
 have p2 : ∀ r : List UInt8, wordsL (32 :: 45 :: 32 :: r) = 45 :: r := fun r => rfl
 rcases out_form u hu with ⟨r, e, hr⟩ | ⟨r, e⟩
 · rcases out_form v hv with ⟨s, f, hs⟩ | ⟨s, f⟩
   · rw [e, f, p1, p1] at h
     rw [e, f, h]
   · rw [e, f, p1, p2] at h
     exact absurd rfl (hr 45 (by rw [h]; rfl))
 · rcases out_form v hv with ⟨s, f, hs⟩ | ⟨s, f⟩
   · rw [e, f, p1, p2] at h
     exact absurd rfl (hs 45 (by rw [← h]; rfl))
   · rw [e, f, p2, p2] at h
     rw [e, f, (List.cons.inj h).2]
theorem name_plain {s : ByteArray} (h : nameB s = true) : plainN s := by
 unfold nameB at h
 simp only [Bool.and_eq_true, decide_eq_true_eq] at h
 obtain ⟨⟨h1, h2⟩, h3, h4⟩ := h
 have hok : ∀ k, (hk : k < s.size) → okAt s k = true := fun k hk => (List.all_eq_true.1 h3) k (by simp [hk])
 have hlen : s.toList.length = s.size := by rw [ByteArray.toList_eq]; rfl
 have hget : ∀ k, (hk : k < s.size) → s.toList[k]'(by omega) = s[k] := by
  intro k hk
  simp only [ByteArray.toList_eq]
  rfl
 refine ⟨fun e => ?_, fun b hb => ?_, fun b hb => ?_⟩
 · rw [e] at hlen
   simp at hlen
   omega
 · obtain ⟨k, hk, rfl⟩ := List.getElem_of_mem hb
   have hk' : k < s.size := by omega
   have := hok k hk'
   rw [hget k hk']
   unfold okAt letterB digitB at this
   rw [dif_pos hk'] at this
   simp at this
   constructor <;> intro e <;> (rw [e] at this; simp at this)
 · have h0 := hok 0 (by omega)
   have hb2 : b = s[0] := by
    rw [← hget 0 (by omega)]
    rw [List.head?_eq_getElem?, List.getElem?_eq_getElem (by omega)] at hb
    exact (Option.some.inj hb).symm
   subst hb2
   unfold okAt letterB at h0
   rw [dif_pos (by omega)] at h0
   simp at h0
   constructor
   · intro e
     rw [e] at h0
     simp at h0
   · omega
end Go.Proofs.YtgeklmigfhhpfaaGreatDoor
namespace Go.Proofs.YtgeklmigfhhpfaaGreatDoor
open Go.RowKit Go.Maps Go.WideMaps
structure TabIs (D : Table) (X : ByteArray → Int) : Prop where
 map : IsMap D
 at_ : ∀ n, D.atKey (strL n) (lit64 0) = lit64 (X n)
theorem tab_start : TabIs (.map []) (fun _ => 0) := ⟨isMap_empty, fun _ => rfl⟩
theorem TabIs.put {D : Table} {X : ByteArray → Int} (h : TabIs D X) (n : ByteArray) (z : Int) : TabIs (D.put (strL n) (lit64 z)) (fun m => if m = n then z else X m) := by
 refine ⟨h.map.put _ _, fun m => ?_⟩
 by_cases e : m = n
 · subst e
   simp only [if_true]
   exact atKey_put_same h.map (strL_key _) _ _
 · rw [if_neg e, atKey_put_other (fun e2 => e (strL_inj e2))]
   exact h.at_ m
theorem TabIs.del {D : Table} {X : ByteArray → Int} (h : TabIs D X) (n : ByteArray) : TabIs (D.del (strL n)) (fun m => if m = n then 0 else X m) := by
 refine ⟨h.map.del _, fun m => ?_⟩
 by_cases e : m = n
 · subst e
   simp only [if_true]
   exact atKey_del_same _
 · rw [if_neg e, atKey_del_other (fun e2 => e (strL_inj e2))]
   exact h.at_ m
theorem TabIs.cong {D : Table} {X Y : ByteArray → Int} (h : TabIs D X) (he : ∀ n, X n = Y n) : TabIs D Y := ⟨h.map, fun n => by rw [← he n]; exact h.at_ n⟩
theorem lit64_inj {a b : Int} (h : lit64 a = lit64 b) : a = b := by simpa [lit64] using h
def polyX (c : Int) (ts : List (ByteArray × Int)) (n : ByteArray) : Int := if n = ByteArray.empty then c else coefX ts n
theorem PolyD.tab {D : Table} {c : Int} {ts : List (ByteArray × Int)} (h : PolyD D c ts) (hg : formErr c ts = 0) : TabIs D (polyX c ts) := by
 obtain ⟨h1, h2, h3, h4⟩ := h
 obtain ⟨_, _, hts, hpw⟩ := form_good hg
 refine ⟨h1, fun n => ?_⟩
 unfold polyX
 by_cases e : n = ByteArray.empty
 · rw [if_pos e, e]
   exact h2 _
 · rw [if_neg e]
   by_cases hm : ∃ t ∈ ts, t.1 = n
   · obtain ⟨t, ht, rfl⟩ := hm
     rw [h3 t ht, coefX_mem hpw (z := t.2) ht]
   · have hnone : ∀ t ∈ ts, t.1 ≠ n := fun t ht e2 => hm ⟨t, ht, e2⟩
     rw [coefX_none hnone]
     refine atKey_of_not_has ?_ _
     rw [Bool.eq_false_iff]
     intro hh
     rcases h4 _ hh with e2 | ⟨t, ht, e2⟩
     · exact e (strL_inj e2)
     · exact hnone t ht (strL_inj e2).symm
theorem tab_look {D : Table} {X : ByteArray → Int} {B k : Nat} {w : World} (hM : MapAt w B k D) (hT : TabIs D X) {n : ByteArray} (hs : n.size ≤ maxLen) :
  (Instr.lookup 110 (.map (some B)) (.string n) false).run Tryz.prog w = .ok (.int .i64 (X n)) w := by
 obtain ⟨c, hr, ha, _⟩ := World.ownsMap.lookup_int (q := .i64) hM Tryz.lawStr Tryz.underlying110 Tryz.underlying3 (Tryz.zeroInt w) (key_str hs)
 have : c = X n := lit64_inj (ha.symm.trans (hT.at_ n))
 rw [← this]
 exact hr
theorem tab_has {D : Table} {X : ByteArray → Int} (h : TabIs D X) {n : ByteArray} (hx : X n ≠ 0) : has D (strL n) = true := by
 cases hh : has D (strL n)
 · have h1 := atKey_of_not_has hh (lit64 0)
   rw [h.at_ n] at h1
   exact absurd (lit64_inj h1) hx
 · rfl
def doneY (left : Lit → Bool) (Y : ByteArray → Int) (m : ByteArray) : Int := if left (strL m) = true then 0 else Y m
theorem doneY_start {D : Table} {Y : ByteArray → Int} (h : TabIs D Y) (m : ByteArray) : doneY (has D) Y m = 0 := by
 unfold doneY
 split
 · rfl
 · rename_i hh
   cases hz : decide (Y m = 0)
   · exact absurd (tab_has h (of_decide_eq_false hz)) hh
   · exact of_decide_eq_true hz
theorem doneY_step {left : Lit → Bool} {Y : ByteArray → Int} {x : ByteArray} (m : ByteArray) : doneY (fun z => left z && !z.sameKey (strL x)) Y m = if m = x then Y x else doneY left Y m := by
 unfold doneY
 by_cases e : m = x
 · subst e
   simp [WideAt.sameKey_self (strL_key m)]
 · rw [if_neg e]
   have : (strL m).sameKey (strL x) = false := sameKey_ne (fun e2 => e (strL_inj e2))
   simp [this]
end Go.Proofs.YtgeklmigfhhpfaaGreatDoor
namespace Go.Proofs
open Go.Shelf
def Tryz.clonePoly_ren : Go.Shelf.Ren := ⟨fun | 5 => 119 | 7 => 149 | n => n, fun | 23 => 110 | 25 => 9 | 3 => 3 | 4 => 4 | 20 => 20 | n => n, fun | n => n⟩
theorem Tryz.clonePoly : Go.Proofs.SlLaysW.n5 Tryz.prog Tryz.clonePoly_ren := {
 mixed := by kernel_rfl
 f5 := ⟨Tryz.f119.name, by decide, Tryz.func119.trans (congrArg some (by kernel_rfl))⟩
 f7 := Tryz.func149.trans (congrArg some (by kernel_rfl))
 t4 := Tryz.underlying4
 a4 := Tryz.isAgg4
 z4 := Tryz.sizeOf4
 v4 := Tryz.zeroValue4
 t20 := Tryz.underlying20
 a20 := Tryz.isAgg20
 z20 := Tryz.sizeOf20
 v20 := Tryz.zeroValue20
 t23 := Tryz.underlying110
 a23 := Tryz.isAgg110
 z23 := Tryz.sizeOf110
 v23 := Tryz.zeroValue110 }
def Tryz.itoa_ren : Go.Shelf.Ren := ⟨fun | 171 => 168 | 243 => 190 | 246 => 199 | 283 => 203 | 284 => 204 | 285 => 205 | 286 => 206 | 129 => 160 | 317 => 207 | 318 => 208 | 319 => 209 | 320 => 210 | 337 => 211 | 338 => 212 | n => n, fun | 3 => 3 | 9 => 9 | 2 => 2 | 4 => 4 | 171 => 229 | 0 => 0 | 53 => 163 | 37 => 197 | 5 => 5 | 173 => 231 | 212 => 234 | 51 => 160 | 20 => 20 | 213 => 235 | 46 => 127 | 232 => 236 | 233 => 237 | n => n, fun | 17 => 1 | 18 => 2 | 19 => 3 | n => n⟩
theorem Tryz.itoa : Go.Proofs.LaysM.n171 Tryz.prog Tryz.itoa_ren := {
 mixed := by kernel_rfl
 f129 := Tryz.func160.trans (congrArg some (by kernel_rfl))
 f171 := Tryz.func168.trans (congrArg some (by kernel_rfl))
 f243 := Tryz.func190.trans (congrArg some (by kernel_rfl))
 f246 := Tryz.func199.trans (congrArg some (by kernel_rfl))
 f283 := Tryz.func203.trans (congrArg some (by kernel_rfl))
 f284 := Tryz.func204.trans (congrArg some (by kernel_rfl))
 f285 := Tryz.func205.trans (congrArg some (by kernel_rfl))
 f286 := Tryz.func206.trans (congrArg some (by kernel_rfl))
 f317 := Tryz.func207.trans (congrArg some (by kernel_rfl))
 f318 := Tryz.func208.trans (congrArg some (by kernel_rfl))
 f319 := Tryz.func209.trans (congrArg some (by kernel_rfl))
 f320 := Tryz.func210.trans (congrArg some (by kernel_rfl))
 f337 := Tryz.func211.trans (congrArg some (by kernel_rfl))
 f338 := Tryz.func212.trans (congrArg some (by kernel_rfl))
 t0 := Tryz.underlying0
 a0 := Tryz.isAgg0
 z0 := Tryz.sizeOf0
 v0 := Tryz.zeroValue0
 t2 := Tryz.underlying2
 a2 := Tryz.isAgg2
 z2 := Tryz.sizeOf2
 v2 := Tryz.zeroValue2
 t3 := Tryz.underlying3
 a3 := Tryz.isAgg3
 z3 := Tryz.sizeOf3
 v3 := Tryz.zeroValue3
 t4 := Tryz.underlying4
 a4 := Tryz.isAgg4
 z4 := Tryz.sizeOf4
 v4 := Tryz.zeroValue4
 t5 := Tryz.underlying5
 a5 := Tryz.isAgg5
 z5 := Tryz.sizeOf5
 v5 := Tryz.zeroValue5
 t9 := Tryz.underlying9
 a9 := Tryz.isAgg9
 z9 := Tryz.sizeOf9
 v9 := Tryz.zeroValue9
 t20 := Tryz.underlying20
 a20 := Tryz.isAgg20
 z20 := Tryz.sizeOf20
 v20 := Tryz.zeroValue20
 t37 := Tryz.underlying197
 a37 := Tryz.isAgg197
 z37 := Tryz.sizeOf197
 v37 := Tryz.zeroValue197
 t46 := Tryz.underlying127
 a46 := Tryz.isAgg127
 z46 := Tryz.sizeOf127
 v46 := Tryz.zeroValue127
 t51 := Tryz.underlying160
 a51 := Tryz.isAgg160
 z51 := Tryz.sizeOf160
 v51 := Tryz.zeroValue160
 t53 := Tryz.underlying163
 a53 := Tryz.isAgg163
 z53 := Tryz.sizeOf163
 v53 := Tryz.zeroValue163
 t171 := Tryz.underlying229
 a171 := Tryz.isAgg229
 z171 := Tryz.sizeOf229
 v171 := Tryz.zeroValue229
 t173 := Tryz.underlying231
 a173 := Tryz.isAgg231
 z173 := Tryz.sizeOf231
 v173 := Tryz.zeroValue231
 t212 := Tryz.underlying234
 a212 := Tryz.isAgg234
 z212 := Tryz.sizeOf234
 v212 := Tryz.zeroValue234
 t213 := Tryz.underlying235
 a213 := Tryz.isAgg235
 z213 := Tryz.sizeOf235
 t232 := Tryz.underlying236
 a232 := Tryz.isAgg236
 z232 := Tryz.sizeOf236
 v232 := Tryz.zeroValue236
 t233 := Tryz.underlying237
 a233 := Tryz.isAgg237
 z233 := Tryz.sizeOf237
 v233 := Tryz.zeroValue237
 g17 := by kernel_rfl
 g18 := by kernel_rfl
 g19 := by kernel_rfl
 i0 := by kernel_rfl
 i2 := by kernel_rfl
 i3 := by kernel_rfl
 i4 := by kernel_rfl
 i5 := by kernel_rfl
 i9 := by kernel_rfl
 i20 := by kernel_rfl
 i37 := by kernel_rfl
 i46 := by kernel_rfl
 i51 := by kernel_rfl
 i53 := by kernel_rfl
 i171 := by kernel_rfl
 i173 := by kernel_rfl
 i212 := by kernel_rfl
 i232 := by kernel_rfl
 i233 := by kernel_rfl
 m17 := by kernel_rfl
 m18 := by kernel_rfl
 m19 := by kernel_rfl }
def Tryz.join_ren : Go.Shelf.Ren := ⟨fun | 156 => 146 | 165 => 169 | 166 => 170 | 169 => 171 | 240 => 191 | 241 => 192 | 276 => 200 | 277 => 201 | n => n, fun | 31 => 54 | 9 => 9 | 3 => 3 | 4 => 4 | 0 => 0 | 20 => 20 | 72 => 199 | 76 => 202 | 70 => 196 | 37 => 197 | 75 => 201 | 127 => 218 | 164 => 225 | 5 => 5 | 80 => 204 | n => n, fun | n => n⟩
theorem Tryz.join : Go.Proofs.Lays.n156 Tryz.prog Tryz.join_ren := {
 mixed := by kernel_rfl
 f156 := Tryz.func146.trans (congrArg some (by kernel_rfl))
 f165 := Tryz.func169.trans (congrArg some (by kernel_rfl))
 f166 := Tryz.func170.trans (congrArg some (by kernel_rfl))
 f169 := Tryz.func171.trans (congrArg some (by kernel_rfl))
 f240 := Tryz.func191.trans (congrArg some (by kernel_rfl))
 f241 := Tryz.func192.trans (congrArg some (by kernel_rfl))
 f276 := Tryz.func200.trans (congrArg some (by kernel_rfl))
 f277 := Tryz.func201.trans (congrArg some (by kernel_rfl))
 t0 := Tryz.underlying0
 a0 := Tryz.isAgg0
 z0 := Tryz.sizeOf0
 v0 := Tryz.zeroValue0
 t3 := Tryz.underlying3
 a3 := Tryz.isAgg3
 z3 := Tryz.sizeOf3
 v3 := Tryz.zeroValue3
 t4 := Tryz.underlying4
 a4 := Tryz.isAgg4
 z4 := Tryz.sizeOf4
 v4 := Tryz.zeroValue4
 t9 := Tryz.underlying9
 a9 := Tryz.isAgg9
 z9 := Tryz.sizeOf9
 v9 := Tryz.zeroValue9
 t20 := Tryz.underlying20
 a20 := Tryz.isAgg20
 z20 := Tryz.sizeOf20
 v20 := Tryz.zeroValue20
 t31 := Tryz.underlying54
 a31 := Tryz.isAgg54
 z31 := Tryz.sizeOf54
 v31 := Tryz.zeroValue54
 t37 := Tryz.underlying197
 a37 := Tryz.isAgg197
 z37 := Tryz.sizeOf197
 v37 := Tryz.zeroValue197
 t70 := Tryz.underlying196
 a70 := Tryz.isAgg196
 z70 := Tryz.sizeOf196
 v70 := Tryz.zeroValue196
 t72 := Tryz.underlying199
 a72 := Tryz.isAgg199
 z72 := Tryz.sizeOf199
 v72 := Tryz.zeroValue199
 t75 := Tryz.underlying201
 a75 := Tryz.isAgg201
 z75 := Tryz.sizeOf201
 v75 := Tryz.zeroValue201
 t76 := Tryz.underlying202
 a76 := Tryz.isAgg202
 z76 := Tryz.sizeOf202
 v76 := Tryz.zeroValue202
 t127 := Tryz.underlying218
 a127 := Tryz.isAgg218
 z127 := Tryz.sizeOf218
 v127 := Tryz.zeroValue218
 t164 := Tryz.underlying225
 a164 := Tryz.isAgg225
 z164 := Tryz.sizeOf225
 v164 := Tryz.zeroValue225 }
def Tryz.cutPrefix_ren : Go.Shelf.Ren := ⟨fun | 103 => 147 | 210 => 172 | 206 => 193 | n => n, fun | 9 => 9 | 4 => 4 | 24 => 177 | 3 => 3 | n => n, fun | n => n⟩
theorem Tryz.cutPrefix : Go.Proofs.Lays.n103 Tryz.prog Tryz.cutPrefix_ren := {
 mixed := by kernel_rfl
 f103 := Tryz.func147.trans (congrArg some (by kernel_rfl))
 f206 := Tryz.func193.trans (congrArg some (by kernel_rfl))
 f210 := Tryz.func172.trans (congrArg some (by kernel_rfl))
 t3 := Tryz.underlying3
 a3 := Tryz.isAgg3
 z3 := Tryz.sizeOf3
 v3 := Tryz.zeroValue3
 t4 := Tryz.underlying4
 a4 := Tryz.isAgg4
 z4 := Tryz.sizeOf4
 v4 := Tryz.zeroValue4
 t9 := Tryz.underlying9
 a9 := Tryz.isAgg9
 z9 := Tryz.sizeOf9
 v9 := Tryz.zeroValue9
 t24 := Tryz.underlying177
 a24 := Tryz.isAgg177
 z24 := Tryz.sizeOf177
 v24 := Tryz.zeroValue177 }
def Tryz.trimPrefix_ren : Go.Shelf.Ren := ⟨fun | 101 => 148 | 208 => 173 | 206 => 193 | n => n, fun | 9 => 9 | 4 => 4 | 3 => 3 | n => n, fun | n => n⟩
theorem Tryz.trimPrefix : Go.Proofs.Lays.n101 Tryz.prog Tryz.trimPrefix_ren := {
 mixed := by kernel_rfl
 f101 := Tryz.func148.trans (congrArg some (by kernel_rfl))
 f206 := Tryz.func193.trans (congrArg some (by kernel_rfl))
 f208 := Tryz.func173.trans (congrArg some (by kernel_rfl))
 t3 := Tryz.underlying3
 a3 := Tryz.isAgg3
 z3 := Tryz.sizeOf3
 v3 := Tryz.zeroValue3
 t4 := Tryz.underlying4
 a4 := Tryz.isAgg4
 z4 := Tryz.sizeOf4
 v4 := Tryz.zeroValue4
 t9 := Tryz.underlying9
 a9 := Tryz.isAgg9
 z9 := Tryz.sizeOf9
 v9 := Tryz.zeroValue9 }
end Go.Proofs
namespace Go.Proofs.YtgeklmigfhhpfaaGreatDoor
open Go.RowKit Go.Maps Go.WideMaps Go.Shelf
attribute [local go_sem ↓] Go.wp_at_zero Go.wp_at_succ
def TabNew (Z : ByteArray → Int) (k : Nat) (w : World) (e : Ending) (w' : World) : Prop := ∃ (D : Table) (B : Nat), e = .returned (.map (some B)) ∧ w.heap.size ≤ B ∧ MapAt w' B k D ∧ TabIs D Z ∧ w.grownBy w' none
theorem clonePoly_any (k b : Nat) (D : Table) (w : World) (h : MapAt w b k D) :
  Calls Tryz.prog 119 #[.map (some b)] w (fun e w' => e = .returned (.map (some w.heap.size)) ∧ MapAt w' w.heap.size k D ∧ w.grownBy w' none) :=
 (AnyW.maps_Clone_owns Tryz.clonePoly _ _ b k D w h).mono fun _ _ ⟨he, h1, _, hb⟩ => ⟨he, h1, hb.os, hb.tape, hb.output, hb.size, fun i hi _ => hb.block i hi⟩
set_option maxRecDepth 100000 in
set_option maxHeartbeats 2000000 in
theorem plus_any (a : Int) (X Y : ByteArray → Int) (Dp Dq : Table) (Bp np Bq nq : Nat) (w : World) (hP : MapAt w Bp np Dp) (hQ : MapAt w Bq nq Dq) (hX : TabIs Dp X) (hY : TabIs Dq Y) (hn : np + nq ≤ 900)
  (hb : ∀ n, (-1000000000000000 ≤ X n ∧ X n ≤ 1000000000000000) ∧ (-1000000000000000 ≤ a * Y n ∧ a * Y n ≤ 1000000000000000)) :
  Calls Tryz.prog 76 #[.map (some Bp), .int .i64 a, .map (some Bq)] w (TabNew (fun m => X m + a * Y m) (np + nq) w) := by
 have hlq := World.ownsMap.lt hQ
 have hsq := World.ownsMap.size_le hQ
 have HP := uH hP
 have HQ := uH hQ
 have HX := uH hX
 have HY := uH hY
 have HB := uH hb
 clear hP hQ hX hY hb
 go_enter Tryz.func76, Tryz.ntmps76
 go_wp2_with (first
  | (go_at_call 119; go_must (refine (clonePoly_any np Bp Dp _ HP.out).mono ?_; rintro e w1 ⟨rfl, hm1, hg1⟩; have hs1 := World.ownsMap.lt hm1; have HM1 := uH hm1; have HQ1 : Hid (MapAt w1 Bq nq Dq) := World.ownsMap.kept HQ.out hg1 (by simp); have HG1 := uH hg1; clear hm1 hg1))
  | (at_range; refine wpList_range_own _ rfl _ 110 rfl 9 3 Tryz.lawStr Tryz.underlying110 _ Bq nq Dq rfl HQ1.out ?_; intro w0 hrg0 hg0 hs0; have R0 := uH hrg0; have G0 := uH hg0; clear hrg0 hg0 hs0))
 go_frame
 go_loopw [8] (fun _ wr => ∃ (left : Lit → Bool) (cnt no : Nat) (Do : Table), no + cnt ≤ np + nq ∧ Hid (wr.ranges Tryz.prog 9 (plainElem Tryz.prog 3) Bq w1.heap.size nq Dq left cnt) ∧ Hid (MapAt wr w.heap.size no Do) ∧ Hid (TabIs Do (fun m => X m + a * doneY left Y m)) ∧ Hid (w.grownBy wr none)) (fun _ wr => wr.rangeLeft Bq w1.heap.size)
 case atStart => exact ⟨_, _, np, Dp, by omega, R0.out, World.ownsMap.kept HM1.out G0.out (by simp), HX.out.cong fun n => by rw [doneY_start HY.out]; simp, gT HG1.out G0.out⟩
 case round =>
  obtain ⟨left, cnt, no, Do, hno, HR, HM, HT, HG⟩ := hrel
  go_wp2_with (first
   | (at_next; refine wpList_next_si _ rfl _ rfl Bq w1.heap.size nq Dq left cnt rfl HR.out ?_ ?_))
  · intro _ hl0
    have HZ := uH hl0
    clear hl0
    go_wp2
    go_ret
    exact ⟨Do, w.heap.size, rfl, Nat.le_refl _, World.ownsMap.mono HM.out (by omega), HT.out.cong fun n => by unfold doneY; rw [HZ.out]; simp, HG.out⟩
  · intro x z w2 cnt1 hsz hlx hat hrg1 hlt1 hg1 hen
    obtain rfl : z = Y x := lit64_inj ((hat (lit64 0)).symm.trans (HY.out.at_ x))
    have HG1' : Hid (w.grownBy w2 none) := gO HG.out hg1 (fun i hi => by cases hi; omega)
    have hm2 : MapAt w2 w.heap.size no Do := World.ownsMap.kept HM.out hg1 (by simp; omega)
    have HR1 := uH hrg1
    have Hlt := uH hlt1
    have hkeyx := key_str hsz
    have hz0 : X x + a * doneY left Y x = X x := by unfold doneY; rw [if_pos hlx]; simp
    have hlook := tab_look hm2 HT.out hsz
    simp only [hz0] at hlook
    obtain ⟨⟨b1, b2⟩, b3, b4⟩ := HB.out x
    have hw1 : IntKind.i64.wrap (a * Y x) = a * Y x := wrap_near (by omega)
    have hw2 : IntKind.i64.wrap (X x + a * Y x) = X x + a * Y x := wrap_near (by omega)
    have HM2 := uH hm2
    have HTp := uH (HT.out.put x (X x + a * Y x))
    clear hat hrg1 hlt1 hg1 hlx hz0 hm2
    go_wp2_with (first
     | (at_mapUpdate; refine wpList_mapUpdate_own _ rfl _ _ _ 110 rfl 9 3 Tryz.lawStr Tryz.underlying110 _ w.heap.size no Do rfl HM2.out (lt_maxLen _ (by omega)) _ _ _ rfl rfl hkeyx _ [] (plainElem_int Tryz.underlying3 (wf64 (by omega) (by omega))) ?_; intro w3 hown3 hg3; have HO3 := uH hown3; have HG3 := uH hg3; clear hown3 hg3))
    go_roundw
    case rel =>
     refine ⟨_, _, _, _, _, _, _, _, _, _, _, _, _, _, ?_, rfl⟩
     exact ⟨_, cnt1, no + 1, _, by have := Hlt.out; omega, World.ranges.kept HR1.out HG3.out (by simp; omega) (by simp; omega), HO3.out, HTp.out.cong fun m => by
      show _ = X m + a * doneY _ Y m
      rw [doneY_step m]
      by_cases e : m = x
      · rw [if_pos e, if_pos e, e]
      · rw [if_neg e, if_neg e], gO HG1'.out HG3.out (fun i hi => by cases hi; exact Nat.le_refl _)⟩
    case measure => rw [World.ranges.left_eq (World.ranges.kept HR1.out HG3.out (by simp; omega) (by simp; omega)), World.ranges.left_eq HR.out]; exact Hlt.out
end Go.Proofs.YtgeklmigfhhpfaaGreatDoor
