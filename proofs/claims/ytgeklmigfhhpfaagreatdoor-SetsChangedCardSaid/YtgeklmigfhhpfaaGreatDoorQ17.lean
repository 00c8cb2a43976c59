/-
 Tight conditions. A space of a set: its rows have room. affine.Tight. What lies in memory stays under a write to a block that holds slices alone.
-/
import Derived.Deep.DeepMust
import Derived.Test.YtgeklmigfhhpfaaGreatDoorQ10
import Derived.Test.YtgeklmigfhhpfaaGreatDoorQ11
import Derived.Test.YtgeklmigfhhpfaaGreatDoorQ15
import Derived.Test.YtgeklmigfhhpfaaGreatDoorQ16
namespace Go.Proofs.YtgeklmigfhhpfaaGreatDoor
open Go.RowKit
attribute [local go_sem ↓] Go.wp_at_zero Go.wp_at_succ
theorem rowLen_zero : ∀ {cs : List Int}, rowLen cs = 0 ↔ ∀ c ∈ cs, c = 0
 | [] => by simp [rowLen]
 | c :: cs => by
   have ih := rowLen_zero (cs := cs)
   simp only [rowLen]
   by_cases h : rowLen cs = 0
   · rw [if_pos h]
     by_cases hc : c = 0
     · simp [hc]
       exact ih.1 h
     · simp [hc]
   · rw [if_neg h]
     simp only [Nat.add_one_ne_zero, false_iff]
     intro hall
     exact h (ih.2 fun x hx => hall x (List.mem_cons_of_mem _ hx))
theorem tight_step (r : RowD) : tightR r = if rowLen (divR r).2 = 0 ∧ 0 ≤ (divR r).1 then none else some (divR r) := by
 unfold tightR
 by_cases hg : gcdL r.2 = 0
 · rw [if_pos hg]
   have hd : divR r = r := by unfold divR; rw [if_pos hg]
   rw [hd]
   have hz : rowLen r.2 = 0 := rowLen_zero.2 (gcdL_zero.1 hg)
   by_cases h : 0 ≤ r.1
   · rw [if_pos h, if_pos ⟨hz, h⟩]
   · rw [if_neg h, if_neg (fun e => h e.2)]
 · rw [if_neg hg]
   have hne : rowLen (divR r).2 ≠ 0 := fun e => by
    have h1 := rowLen_zero.1 e
    refine hg (gcdL_zero.2 fun c hc => ?_)
    have h2 := h1 (c / (gcdL r.2 : Int)) (by unfold divR; rw [if_neg hg]; exact List.mem_map.2 ⟨c, hc, rfl⟩)
    have h3 := gcdL_dvd hc
    have h4 := Int.ediv_mul_cancel h3
    rw [h2] at h4
    omega
   rw [if_neg (fun e => hne e.1)]
structure TgSt (w0 w : World) (kv : Value) (rs : List RowD) (cvs : List Value) : Prop where
 grown : w0.grownBy w none
 len : cvs.length = rs.length
 row : w.ownsRow w0.heap.size 86 2 kv rs.length ((rs.zip cvs).flatMap rowCells)
 coefs : ∀ (j : Nat) (q : RowD) (cv : Value), rs[j]? = some q → cvs[j]? = some cv → ∃ p cap, cv = .slice p q.2.length cap ∧ (IntsAt w0 cv q.2 ∨ ∃ Cb, w0.heap.size ≤ Cb ∧ p = some ⟨Cb, 0, none⟩ ∧ some Cb ≠ kv.ownBlock ∧ w.heap[Cb]? = some (.cells (q.2.map (Value.int .i64)).toArray 3 (0, 0)))
 good : ∀ q ∈ rs, q.2.length ≤ 1000 ∧ ∀ c ∈ q.2, mid c
theorem TgSt.start (w : World) : TgSt w w (.slice none 0 0) [] [] := ⟨gR _ _, rfl, World.ownsRow_nil _ _ _ _, fun j f tv h => by simp at h, fun q h => by cases h⟩
theorem TgSt.kept {w0 w w' : World} {kv : Value} {rs : List RowD} {cvs : List Value} (h : TgSt w0 w kv rs cvs) (hg : w.grownBy w' none) : TgSt w0 w' kv rs cvs := by
 refine ⟨gT h.grown hg, h.len, owns_kept h.row hg, fun j q cv h1 h2 => ?_, h.good⟩
 obtain ⟨p, cap, e, ho | ⟨Cb, a, b, c, d⟩⟩ := h.coefs j q cv h1 h2
 · exact ⟨p, cap, e, .inl ho⟩
 · exact ⟨p, cap, e, .inr ⟨Cb, a, b, c, kH d hg (by simp)⟩⟩
theorem TgSt.rw {w0 w : World} {kv : Value} {rs : List RowD} {cvs : List Value} (h : TgSt w0 w kv rs cvs) : RW w w0.heap.size kv rs cvs False := by
 refine ⟨h.len, h.row, fun j q cv h1 h2 => ?_⟩
 obtain ⟨g1, g2⟩ := h.good q (List.mem_of_getElem? h1)
 obtain ⟨p, cap, rfl, ho | ⟨Cb, a, rfl, c, d⟩⟩ := h.coefs j q cv h1 h2
 · exact ⟨p, cap, rfl, fun h => h.elim, fun w2 hw => ho.kept (gO h.grown hw (fun k hk => (h.row.lt k hk).1))⟩
 · exact ⟨_, cap, rfl, fun h => h.elim, fun w2 hw => ints_of_block cap (kH d hw (fun e => c e.symm)) (by omega) (fun x hx => by have := g2 x hx; unfold mid at this; omega)⟩
def Loc (w0 w : World) (B : Nat) (p : Option Addr) (cap : Nat) (cs : List Int) : Prop := IntsAt w0 (.slice p cs.length cap) cs ∨ ∃ Cb, B ≤ Cb ∧ p = some ⟨Cb, 0, none⟩ ∧ w.heap[Cb]? = some (.cells (cs.map (Value.int .i64)).toArray 3 (0, 0))
theorem TgSt.push {w0 w w2 : World} {B g cap cd : Nat} {kv : Value} {rs : List RowD} {cvs : List Value} {d : RowD} {pd : Option Addr} {o : Obj} (h : TgSt w0 w kv rs cvs) (hl : Loc w0 w B pd cd d.2) (hB : w0.heap.size ≤ B) (hne : ∀ k, kv.ownBlock = some k → k < B)
  (k2 : (w.alloc o).grownBy w2 kv.ownBlock) (row : w2.ownsRow w0.heap.size 86 2 (.slice (some ⟨g, 0, none⟩) (rs.length + 1) cap) (rs.length + 1) ((rs.zip cvs).flatMap rowCells ++ rowCells (d, .slice pd d.2.length cd))) (hg : kv.ownBlock = some g ∨ w.heap.size ≤ g)
  (hgd : d.2.length ≤ 1000 ∧ ∀ c ∈ d.2, mid c) : TgSt w0 w2 (.slice (some ⟨g, 0, none⟩) (rs.length + 1) cap) (rs ++ [d]) (cvs ++ [.slice pd d.2.length cd]) := by
 have k12 := gT (gA w o kv.ownBlock) k2
 have fresh : ∀ Cb (x : Obj), w.heap[Cb]? = some x → some Cb ≠ kv.ownBlock → some Cb ≠ some g := fun Cb x hx hn e => by
  obtain rfl := Option.some.inj e
  rcases hg with hg | hg
  · exact hn hg.symm
  · have := (Array.getElem?_eq_some_iff.1 hx).1
    omega
 refine ⟨gO h.grown k12 (fun k hk => (h.row.lt k hk).1), by simp [h.len], ?_, fun j q cv' hj hcv' => ?_, fun q hq => ?_⟩
 · rw [List.length_append, List.zip_append (by rw [h.len]), List.flatMap_append]
   simpa using row
 · by_cases hj' : j < rs.length
   · rw [List.getElem?_append_left hj'] at hj
     rw [List.getElem?_append_left (by rw [h.len]; exact hj')] at hcv'
     obtain ⟨p, c, e, ho | ⟨Cb, a, b, c1, d1⟩⟩ := h.coefs j q cv' hj hcv'
     · exact ⟨p, c, e, .inl ho⟩
     · exact ⟨p, c, e, .inr ⟨Cb, a, b, fresh Cb _ d1 c1, kH d1 k12 (fun e => c1 e.symm)⟩⟩
   · have hj2 : j = rs.length := by
      have := (List.getElem?_eq_some_iff.1 hj).1
      simp at this
      omega
     subst hj2
     simp at hj
     subst hj
     rw [← h.len] at hcv'
     simp at hcv'
     subst hcv'
     refine ⟨pd, cd, rfl, ?_⟩
     rcases hl with hl | ⟨Cb, a, b, c⟩
     · exact .inl hl
     · have hn : some Cb ≠ kv.ownBlock := fun e => by have := hne Cb e.symm; omega
       exact .inr ⟨Cb, by omega, b, fresh Cb _ c hn, kH c k12 (fun e => hn e.symm)⟩
 · rcases List.mem_append.1 hq with hq | hq
   · exact h.good q hq
   · obtain rfl := List.mem_singleton.1 hq
     exact hgd
theorem Loc.kept {w0 w w' : World} {B : Nat} {p : Option Addr} {cap : Nat} {cs : List Int} (h : Loc w0 w B p cap cs) (hg : w.grownBy w' none) : Loc w0 w' B p cap cs := by
 rcases h with h | ⟨Cb, a, b, c⟩
 · exact .inl h
 · exact .inr ⟨Cb, a, b, kH c hg (by simp)⟩
theorem merge_new {l : List RowD} {d : RowD} (h : l.any (sameCo d.2) = false) : mergeK l d = l ++ [d] := by
 unfold mergeK
 have e : l.findIdx? (fun q => decide (q.2 = d.2)) = none := findIdx_miss (q := sameCo d.2) h
 rw [e]
theorem findIdx_none_any {α : Type} {q : α → Bool} {l : List α} (h : l.findIdx? q = none) : l.any q = false := by
 rw [List.findIdx?_eq_none_iff] at h
 rw [List.any_eq_false]
 intro x hx
 simp [h x hx]
theorem findIdx_lt {α : Type} {q : α → Bool} {l : List α} {j : Nat} (h : l.findIdx? q = some j) : j < l.length := by
 obtain ⟨h1, _⟩ := List.findIdx?_eq_some_iff_getElem.1 h
 exact h1
theorem owns_setAt {w : World} {base g : Nat} {e : TypeId} {size n cap : Nat} {xs : List Value} (h : w.ownsRow base e size (.slice (some ⟨g, 0, none⟩) n cap) n xs) (j : Nat) (u : Value) : (w.setCell ⟨g, j, none⟩ u).ownsRow base e size (.slice (some ⟨g, 0, none⟩) n cap) n (xs.set j u) := by
 obtain ⟨h1, h2⟩ := h
 refine ⟨by simp [h1], ?_⟩
 rcases h2 with ⟨e, _⟩ | ⟨g', c', cur, e, a, b, c, d, f, t⟩
 · cases (Value.slice.inj e).1
 · obtain ⟨e1, _, e2⟩ := Value.slice.inj e
   cases e1
   subst e2
   refine .inr ⟨g, cap, cur.setIfInBounds j u, rfl, a, ?_, c, d, by simpa using f, ?_⟩
   · show (w.heap.modify g _)[g]? = _
     rw [Array.getElem?_modify, if_pos rfl, b]
     simp
   · rw [Array.toList_setIfInBounds, List.take_set, t]
theorem rows_set (z : Int) : ∀ (l : List RowD) (cvs : List Value) (k : Nat) (q : RowD), l[k]? = some q → cvs.length = l.length → ((l.set k (z, q.2)).zip cvs).flatMap rowCells = ((l.zip cvs).flatMap rowCells).set (k * 2) (.int .i64 z)
 | [], _, _, _, h, _ => by simp at h
 | _ :: _, [], _, _, _, h => by simp at h
 | a :: l, c :: cvs, 0, q, h, _ => by
   simp at h
   subst h
   simp [rowCells]
 | a :: l, c :: cvs, k + 1, q, h, hl => by
   have ih := rows_set z l cvs k q (by simpa using h) (by simpa using hl)
   rw [List.set_cons_succ, List.zip_cons_cons, List.flatMap_cons, ih, List.zip_cons_cons, List.flatMap_cons, show (k + 1) * 2 = k * 2 + 1 + 1 by omega]
   simp [rowCells]
theorem TgSt.write {w0 w : World} {g n cap k : Nat} {rs : List RowD} {cvs : List Value} {q : RowD} (h : TgSt w0 w (.slice (some ⟨g, 0, none⟩) n cap) rs cvs) (hn : n = rs.length) (hq : rs[k]? = some q) (z : Int) : TgSt w0 (w.setCell ⟨g, k * 2, none⟩ (.int .i64 z)) (.slice (some ⟨g, 0, none⟩) n cap) (rs.set k (z, q.2)) cvs := by
 subst hn
 have hg := gS w g (k * 2) (.int .i64 z)
 refine ⟨gO h.grown hg (fun k hk => (h.row.lt k hk).1), by simp [h.len], ?_, fun j p cv hj hcv => ?_, fun p hp => ?_⟩
 · have h1 := owns_setAt h.row (k * 2) (.int .i64 z)
   rw [List.length_set, rows_set z rs cvs k q hq h.len]
   exact h1
 · have hex : ∃ p0, rs[j]? = some p0 ∧ p0.2 = p.2 := by
    by_cases hkj : k = j
    · subst hkj
      have hlt := (List.getElem?_eq_some_iff.1 hq).1
      rw [List.getElem?_set_self hlt] at hj
      obtain rfl := Option.some.inj hj
      exact ⟨q, hq, rfl⟩
    · rw [List.getElem?_set_ne hkj] at hj
      exact ⟨p, hj, rfl⟩
   obtain ⟨p0, h0, e0⟩ := hex
   obtain ⟨pp, c, e, ho⟩ := h.coefs j p0 cv h0 hcv
   rw [e0] at e ho
   refine ⟨pp, c, e, ?_⟩
   rcases ho with ho | ⟨Cb, a, b, c1, d1⟩
   · exact .inl ho
   · exact .inr ⟨Cb, a, b, c1, kH d1 hg (fun e => c1 e.symm)⟩
 · rcases List.mem_or_eq_of_mem_set hp with hp | rfl
   · exact h.good p hp
   · exact h.good q (List.mem_of_getElem? hq)
theorem TgSt.cell {w0 w : World} {p : Option Addr} {n cap k : Nat} {rs : List RowD} {cvs : List Value} {q : RowD} (h : TgSt w0 w (.slice p n cap) rs cvs) (hq : rs[k]? = some q) : ∃ g, p = some ⟨g, 0, none⟩ ∧ w.cell? ⟨g, k * 2, none⟩ = some (.int .i64 q.1) ∧ w.frozen? ⟨g, k * 2, none⟩ = false := by
 have hjl := (List.getElem?_eq_some_iff.1 hq).1
 have hjt : cvs[k]? = some (cvs[k]'(by rw [h.len]; exact hjl)) := List.getElem?_eq_getElem _
 generalize cvs[k]'(by rw [h.len]; exact hjl) = tv at hjt
 have hz : (rs.zip cvs)[k]? = some (q, tv) := by
  rw [List.getElem?_zip_eq_some]
  exact ⟨hq, hjt⟩
 obtain ⟨b, c1, e1, _, k1⟩ := own_cell h.row (flat_get (k := 2) (fun _ => rfl) hz (i := 0) (v := .int .i64 q.1) rfl)
 obtain ⟨rfl, _, rfl⟩ := Value.slice.inj e1
 refine ⟨b, rfl, by simpa using k1, ?_⟩
 rcases h.row.2 with ⟨e, _⟩ | ⟨g', c', cur, e, a, hb, _⟩
 · cases (Value.slice.inj e).1
 · cases (Value.slice.inj e).1
   simp [World.frozen?, hb]
theorem cell_lt {w : World} {b off : Nat} {v : Value} (h : w.cell? ⟨b, off, none⟩ = some v) : b < w.heap.size := by
 by_cases hb : b < w.heap.size
 · exact hb
 · simp [World.cell?, Array.getElem?_eq_none (Nat.le_of_not_lt hb)] at h
theorem merge_old {l : List RowD} {d q : RowD} {k : Nat} (h : l.findIdx? (sameCo d.2) = some k) (hq : l[k]? = some q) : mergeK l d = l.set k (min q.1 d.1, q.2) := by
 unfold mergeK
 have e : l.findIdx? (fun q => decide (q.2 = d.2)) = some k := h
 rw [e]
 refine List.ext_getElem? fun j => ?_
 simp only
 rw [List.getElem?_modify]
 by_cases hj : k = j
 · subst hj
   rw [List.getElem?_set_self (List.getElem?_eq_some_iff.1 hq).1, hq]
   simp
 · rw [List.getElem?_set_ne hj]
   simp [hj]
def TightOut (rs : List RowD) (w : World) (e : Ending) (w' : World) : Prop :=
 ∃ kv, e = .returned kv ∧ RowLC w' kv (mergeAll (rs.filterMap tightR)) False ∧ w.grownBy w' none
theorem divd_loc {w0 wr w2 : World} {r : RowD} {pr : Option Addr} {rcap : Nat} {o : Obj} {e : Ending} (hi : IntsAt w0 (.slice pr r.2.length rcap) r.2) (h : RowFromC r (.slice pr r.2.length rcap) (divR r) (wr.alloc o) e w2) :
  ∃ pd cd, e = .returned (.agg #[.int .i64 (divR r).1, .slice pd (divR r).2.length cd]) ∧ (wr.alloc o).grownBy w2 none ∧ Loc w0 w2 (wr.heap.size + 1) pd cd (divR r).2 := by
 obtain ⟨hg, ⟨e1, rfl⟩ | ⟨Cb, rfl, hC, hc, _⟩⟩ := h
 · rw [e1]
   exact ⟨pr, rcap, rfl, hg, .inl hi⟩
 · exact ⟨_, _, rfl, hg, .inr ⟨Cb, by simpa using hC, rfl, hc⟩⟩
theorem divd_keep {w0 w w' : World} {X : Nat} {p : Option Addr} {cap : Nat} {cs : List Int} (h : Loc w0 w (X + 1) p cap cs) (hg : w.grownBy w' (some X)) : Loc w0 w' (X + 1) p cap cs := by
 rcases h with h | ⟨Cb, a, b, c⟩
 · exact .inl h
 · exact .inr ⟨Cb, a, b, kH c hg (by simp; omega)⟩
theorem divR_good {n : Nat} {r : RowD} (hl : r.2.length = n) (hm : ∀ c ∈ r.2, mid c) : (divR r).2.length = n ∧ ∀ c ∈ (divR r).2, mid c := by
 unfold divR
 by_cases h : gcdL r.2 = 0
 · rw [if_pos h]
   exact ⟨hl, hm⟩
 · rw [if_neg h]
   refine ⟨by simpa using hl, fun x hx => ?_⟩
   obtain ⟨c, hc, rfl⟩ := List.mem_map.1 hx
   have h1 := hm c hc
   have h2 := tdiv_near (b := (gcdL r.2 : Int)) (mid_near h1)
   have h3 := Int.ediv_mul_cancel (gcdL_dvd hc)
   have h4 : 1 ≤ (gcdL r.2 : Int) := by omega
   unfold mid at h1 ⊢
   rcases Int.le_total 0 (c / (gcdL r.2 : Int)) with h5 | h5
   · have := Int.mul_le_mul_of_nonneg_left h4 h5
     omega
   · have h6 := Int.mul_le_mul_of_nonneg_left h4 (show 0 ≤ -(c / (gcdL r.2 : Int)) by omega)
     have h7 : -(c / (gcdL r.2 : Int)) * (gcdL r.2 : Int) = -c := by rw [Int.neg_mul, h3]
     rw [h7, Int.mul_one] at h6
     omega
theorem loc_ints {w0 w : World} {B n : Nat} {p : Option Addr} {cap : Nat} {d : RowD} (hg : w0.grownBy w none) (h : Loc w0 w B p cap d.2) (hd : d.2.length = n ∧ ∀ c ∈ d.2, mid c) (hn : n ≤ 1000 := by omega) : IntsAt w (.slice p d.2.length cap) d.2 := by
 rcases h with h | ⟨Cb, _, rfl, c⟩
 · exact h.kept hg
 · exact ints_of_block cap c (by omega) (fun x hx => by have := hd.2 x hx; unfold mid at this; omega)
set_option maxRecDepth 100000 in
set_option maxHeartbeats 8000000 in
theorem tight_any (n : Nat) (rs : List RowD) (kv : Value) (w : World) (hk : RowLC w kv rs True) (hl : ∀ r ∈ rs, r.2.length = n) (hn : n ≤ 100) (hrn : rs.length ≤ 100000) (hm : ∀ r ∈ rs, (-1000000000000 ≤ r.1 ∧ r.1 ≤ 1000000000000) ∧ ∀ c ∈ r.2, mid c) :
  Calls Tryz.prog 50 #[kv] w (TightOut rs w) := by
 obtain ⟨pk, kcap, rfl, hki⟩ := id hk
 have HK := uH hki
 have HL := uH hl
 have HM := uH hm
 have hkl := hki.len
 obtain ⟨j0, hj0, hy0, hy1, hy2⟩ := info_parts Tryz.infoRow
 clear hk hki hl hm
 go_enter Tryz.func50, Tryz.ntmps50
 go_wp2
 go_loopw [9, 3] (fun i s3 wr => ∃ (k : Nat) (kv : Value) (l : List RowD) (cvs : List Value), k ≤ rs.length ∧ i = .int .i64 k ∧ s3 = kv ∧ l.length ≤ k ∧ Hid (l = mergeAll ((rs.take k).filterMap tightR)) ∧ Hid (TgSt w wr kv l cvs)) (fun i _ _ => rs.length - (intOf i).toNat)
 case atStart => exact ⟨0, _, [], [], Nat.zero_le _, rfl, rfl, Nat.zero_le _, rfl, TgSt.start _⟩
 case round =>
  obtain ⟨k, kv, l, cvs, hk, rfl, rfl, hlk, HE, HT⟩ := hrel
  by_cases hlt : k < rs.length
  · have h0 := List.getElem?_eq_getElem hlt
    obtain ⟨bk, ok, pr, rcap, rfl, c1, c2, _, hik⟩ := HK.out.cells k _ h0
    have c1 := HT.out.grown.cell c1 (by simp)
    have c2 := HT.out.grown.cell c2 (by simp)
    have HI := uH hik
    have HMr := uH (HM.out _ (List.getElem_mem hlt))
    have HLr := uH (HL.out _ (List.getElem_mem hlt))
    have HTk := uH (List.take_succ_eq_append_getElem hlt)
    generalize rs[k] = r at *
    have hI1 : (k : Int) < (rs.length : Int) := by omega
    clear h0 hik
    go_upto_region 6 with (go_at_call 101; go_must (refine (divided_two r _ _ (HI.out.kept (gT HT.out.grown (gA _ _ none))) (by rw [HLr.out]; omega) HMr.out.1 HMr.out.2).mono ?_; rintro e w2 hd; obtain ⟨pd, cd, rfl, hg, hloc⟩ := divd_loc HI.out hd; have HG := uH hg; have HLc := uH hloc; have hbx := kH (heap_alloc_new wr (.cells #[.int .i64 r.1, .slice pr r.2.length rcap] 86)) hg (by simp); have HBx := uH hbx; obtain ⟨z0, z1, zf⟩ := cO hbx; clear hd hg hloc hbx))
    have hX1 : wr.heap.size < wr.heap.size + 1 := by omega
    obtain ⟨B1, B2⟩ := two_set HBx.out (.int .i64 (divR r).1) (.slice pd (divR r).2.length cd)
    have hW := gO (gT (gA wr _ none) HG.out) B2 (fun k hk => by cases hk; omega)
    have hL3 := divd_keep HLc.out B2
    have HB3 := uH B1
    have HW3 := uH hW
    have HL3 := uH hL3
    have HS := uH (tight_step r)
    have HGd := uH (divR_good (n := n) HLr.out HMr.out.2)
    generalize (w2.setCell ⟨wr.heap.size, 0, none⟩ (.int .i64 (divR r).1)).setCell ⟨wr.heap.size, 1, none⟩ (.slice pd (divR r).2.length cd) = w3 at *
    have HT3 := uH (HT.out.kept HW3.out)
    generalize divR r = d at *
    have HId := uH (loc_ints HT3.out.grown HL3.out HGd.out)
    obtain ⟨y0, y1, yf⟩ := cO HB3.out
    clear z0 z1 zf B1 B2 hW hL3 HBx HLc
    by_cases hz : rowLen d.2 = 0
    · have hz0 : (((rowLen d.2 : Nat) : Int) == 0) = true := by simp [hz]
      by_cases hge : 0 ≤ d.1
      · have hge' : d.1 ≥ 0 := hge
        have HY := uH (show tightR r = none by rw [HS.out, if_pos ⟨hz, hge⟩])
        clear hz
        go_wp2_with (go_at_call 98; go_must (refine (rowLength_any d.1 d.2 _ _ HId.out).mono ?_; rintro e w4 ⟨rfl, hg⟩; have HT4 := uH (HT3.out.kept hg); have u0 := hg.cell y0 (by simp); clear hg))
        go_roundw
        case rel => exact ⟨k + 1, _, l, cvs, by omega, by go_num, rfl, by omega, by show _ = _; rw [HTk.out, List.filterMap_append, List.filterMap_cons, HY.out, List.filterMap_nil, List.append_nil, HE.out], HT4.out⟩
        case measure => simp [intOf]; omega
      · have hge' : ¬ (d.1 ≥ 0) := hge
        have HY := uH (show tightR r = some d by rw [HS.out, if_neg (fun e => hge e.2)])
        by_cases hany : l.any (sameCo d.2) = true
        · obtain ⟨j, hj⟩ : ∃ j, l.findIdx? (sameCo d.2) = some j := by
           cases hf : l.findIdx? (sameCo d.2) with
           | some j => exact ⟨j, rfl⟩
           | none =>
             have h1 := findIdx_none_any hf
             rw [h1] at hany
             cases hany
          have hjl : j < l.length := findIdx_lt hj
          have hq0 := List.getElem?_eq_getElem hjl
          have HM1 := uH (merge_old hj hq0)
          have HFi : Hid (firstI (sameCo d.2) l = (j : Int)) := by show _ = _; unfold firstI; rw [hj]
          have HQ0 := uH hq0
          generalize l[j] = q0 at *
          have hng : ¬ ((j : Int) < 0) := by omega
          have hIj : (j : Int) < (l.length : Int) := by omega
          obtain ⟨p3, cap3, rfl⟩ := own_form HT.out.row
          clear hany hj hq0
          go_upto_region 10 with (first
           | (go_at_call 98; go_must (refine (rowLength_any d.1 d.2 _ _ HId.out).mono ?_; rintro e w4 ⟨rfl, hg⟩; have HG4 := uH hg; have HT4 := uH (HT3.out.kept hg); have HI4 := uH (HId.out.kept hg); have u0 := hg.cell y0 (by simp); have u1 := hg.cell y1 (by simp); clear hg))
           | (go_at_call 102; go_must (refine (indexRow_any _ l False d.2 _ wr.heap.size _ (HT4.out.rw.rowsIn (by omega)) HI4.out u1).mono ?_; rintro e w5 ⟨rfl, hg⟩; rw [HFi.out]; have HG5 := uH hg; have HT5 := uH (HT4.out.kept hg); have v0 := hg.cell u0 (by simp); have v1 := hg.cell u1 (by simp); clear hg)))
          obtain ⟨g3, rfl, e1, ef⟩ := HT5.out.cell HQ0.out
          have hXl : wr.heap.size < w5.heap.size := (cell_lt v0)
          go_still_tail 12, (by kernel_rfl)
          change wpList _ _ _ _ _ w5.drew
          have e1' : w5.drew.cell? ⟨g3, j * 2, none⟩ = some (.int .i64 q0.1) := e1
          have ef' : w5.drew.frozen? ⟨g3, j * 2, none⟩ = false := ef
          go_wp2
          go_roundw
          case rel =>
           have hp := (TgSt.write HT5.out rfl HQ0.out (min q0.1 d.1)).kept (gD _ none)
           exact ⟨k + 1, .slice (some ⟨g3, 0, none⟩) l.length cap3, l.set j (min q0.1 d.1, q0.2), cvs, by omega, by go_num, rfl, by simp; omega, by show _ = _; rw [HTk.out, List.filterMap_append, List.filterMap_cons, HY.out, List.filterMap_nil, mergeAll_snoc, ← HE.out, HM1.out], uH hp⟩
          case measure => simp [intOf]; omega
        · have hany : l.any (sameCo d.2) = false := by simpa using hany
          have hfi := firstI_miss hany
          have HFi := uH hfi
          have HM1 := uH (merge_new hany)
          have hng : (-1 : Int) < 0 := by omega
          clear hany hfi
          go_wp2_with (first
           | (go_at_call 98; go_must (refine (rowLength_any d.1 d.2 _ _ HId.out).mono ?_; rintro e w4 ⟨rfl, hg⟩; have HG4 := uH hg; have HT4 := uH (HT3.out.kept hg); have HL4 := uH (HL3.out.kept hg); have HI4 := uH (HId.out.kept hg); have u0 := hg.cell y0 (by simp); have u1 := hg.cell y1 (by simp); clear hg))
           | (go_at_call 102; go_must (refine (indexRow_any _ l False d.2 _ wr.heap.size _ (HT4.out.rw.rowsIn (by omega)) HI4.out u1).mono ?_; rintro e w5 ⟨rfl, hg⟩; rw [HFi.out]; have HG5 := uH hg; have HT5 := uH (HT4.out.kept hg); have HL5 := uH (HL4.out.kept hg); have v0 := hg.cell u0 (by simp); have v1 := hg.cell u1 (by simp); clear hg))
           | (at_builtin; go_must (refine wpList_append_lies _ rfl _ _ 79 rfl w.heap.size 86 j0 (.agg #[.int .i64 0, .slice none 0 0]) 2 32 Tryz.underlying79 hj0 hy0 hy1 hy2 rfl (by decide) _ l.length ((l.zip cvs).flatMap rowCells) rfl (World.ownsRow.alloc HT5.out.row _) ⟨w5.heap.size, 0, none⟩ 1 1 (rowCells (d, .slice pd d.2.length cd)) rfl rfl news_at (by simp [rowCells, Value.oneCell']) (by decide) (by unfold maxLen; omega) (by omega) (by have := HT5.out.grown.size; simp; omega) (w5.heap.size + 1) (by simp) ?_; intro g' ncap w6 hown5 hgrow5 hat _; have G6 := uH hgrow5; have O6 := uH hown5; have A6 := uH hat; clear hown5 hgrow5 hat)))
          have hp := TgSt.push HT5.out HL5.out (by have := HT.out.grown.size; omega) (fun k hk => by have := (HT.out.row.lt k hk).2; omega) G6.out O6.out (by rcases A6.out with h | h; exact .inl h; exact .inr (by omega)) ⟨by have := HGd.out.1; omega, HGd.out.2⟩
          go_roundw
          case rel => exact ⟨k + 1, _, l ++ [d], cvs ++ [.slice pd d.2.length cd], by omega, by go_num, rfl, by simp; omega, by show _ = _; rw [HTk.out, List.filterMap_append, List.filterMap_cons, HY.out, List.filterMap_nil, mergeAll_snoc, ← HE.out, HM1.out], uH hp⟩
          case measure => simp [intOf]; omega
    · have hz0 : (((rowLen d.2 : Nat) : Int) == 0) = false := by simp; omega
      have HY := uH (show tightR r = some d by rw [HS.out, if_neg (fun e => hz e.1)])
      by_cases hany : l.any (sameCo d.2) = true
      · obtain ⟨j, hj⟩ : ∃ j, l.findIdx? (sameCo d.2) = some j := by
         cases hf : l.findIdx? (sameCo d.2) with
         | some j => exact ⟨j, rfl⟩
         | none =>
           have h1 := findIdx_none_any hf
           rw [h1] at hany
           cases hany
        have hjl : j < l.length := findIdx_lt hj
        have hq0 := List.getElem?_eq_getElem hjl
        have HM1 := uH (merge_old hj hq0)
        have HFi : Hid (firstI (sameCo d.2) l = (j : Int)) := by show _ = _; unfold firstI; rw [hj]
        have HQ0 := uH hq0
        generalize l[j] = q0 at *
        have hng : ¬ ((j : Int) < 0) := by omega
        have hIj : (j : Int) < (l.length : Int) := by omega
        obtain ⟨p3, cap3, rfl⟩ := own_form HT.out.row
        clear hany hj hq0
        go_upto_region 10 with (first
         | (go_at_call 98; go_must (refine (rowLength_any d.1 d.2 _ _ HId.out).mono ?_; rintro e w4 ⟨rfl, hg⟩; have HG4 := uH hg; have HT4 := uH (HT3.out.kept hg); have HI4 := uH (HId.out.kept hg); have u0 := hg.cell y0 (by simp); have u1 := hg.cell y1 (by simp); clear hg))
         | (go_at_call 102; go_must (refine (indexRow_any _ l False d.2 _ wr.heap.size _ (HT4.out.rw.rowsIn (by omega)) HI4.out u1).mono ?_; rintro e w5 ⟨rfl, hg⟩; rw [HFi.out]; have HG5 := uH hg; have HT5 := uH (HT4.out.kept hg); have v0 := hg.cell u0 (by simp); have v1 := hg.cell u1 (by simp); clear hg)))
        obtain ⟨g3, rfl, e1, ef⟩ := HT5.out.cell HQ0.out
        have hXl : wr.heap.size < w5.heap.size := (cell_lt v0)
        go_still_tail 12, (by kernel_rfl)
        change wpList _ _ _ _ _ w5.drew
        have e1' : w5.drew.cell? ⟨g3, j * 2, none⟩ = some (.int .i64 q0.1) := e1
        have ef' : w5.drew.frozen? ⟨g3, j * 2, none⟩ = false := ef
        go_wp2
        go_roundw
        case rel =>
         have hp := (TgSt.write HT5.out rfl HQ0.out (min q0.1 d.1)).kept (gD _ none)
         exact ⟨k + 1, .slice (some ⟨g3, 0, none⟩) l.length cap3, l.set j (min q0.1 d.1, q0.2), cvs, by omega, by go_num, rfl, by simp; omega, by show _ = _; rw [HTk.out, List.filterMap_append, List.filterMap_cons, HY.out, List.filterMap_nil, mergeAll_snoc, ← HE.out, HM1.out], uH hp⟩
        case measure => simp [intOf]; omega
      · have hany : l.any (sameCo d.2) = false := by simpa using hany
        have hfi := firstI_miss hany
        have HFi := uH hfi
        have HM1 := uH (merge_new hany)
        have hng : (-1 : Int) < 0 := by omega
        clear hany hfi
        go_wp2_with (first
         | (go_at_call 98; go_must (refine (rowLength_any d.1 d.2 _ _ HId.out).mono ?_; rintro e w4 ⟨rfl, hg⟩; have HG4 := uH hg; have HT4 := uH (HT3.out.kept hg); have HL4 := uH (HL3.out.kept hg); have HI4 := uH (HId.out.kept hg); have u0 := hg.cell y0 (by simp); have u1 := hg.cell y1 (by simp); clear hg))
         | (go_at_call 102; go_must (refine (indexRow_any _ l False d.2 _ wr.heap.size _ (HT4.out.rw.rowsIn (by omega)) HI4.out u1).mono ?_; rintro e w5 ⟨rfl, hg⟩; rw [HFi.out]; have HG5 := uH hg; have HT5 := uH (HT4.out.kept hg); have HL5 := uH (HL4.out.kept hg); have v0 := hg.cell u0 (by simp); have v1 := hg.cell u1 (by simp); clear hg))
         | (at_builtin; go_must (refine wpList_append_lies _ rfl _ _ 79 rfl w.heap.size 86 j0 (.agg #[.int .i64 0, .slice none 0 0]) 2 32 Tryz.underlying79 hj0 hy0 hy1 hy2 rfl (by decide) _ l.length ((l.zip cvs).flatMap rowCells) rfl (World.ownsRow.alloc HT5.out.row _) ⟨w5.heap.size, 0, none⟩ 1 1 (rowCells (d, .slice pd d.2.length cd)) rfl rfl news_at (by simp [rowCells, Value.oneCell']) (by decide) (by unfold maxLen; omega) (by omega) (by have := HT5.out.grown.size; simp; omega) (w5.heap.size + 1) (by simp) ?_; intro g' ncap w6 hown5 hgrow5 hat _; have G6 := uH hgrow5; have O6 := uH hown5; have A6 := uH hat; clear hown5 hgrow5 hat)))
        have hp := TgSt.push HT5.out HL5.out (by have := HT.out.grown.size; omega) (fun k hk => by have := (HT.out.row.lt k hk).2; omega) G6.out O6.out (by rcases A6.out with h | h; exact .inl h; exact .inr (by omega)) ⟨by have := HGd.out.1; omega, HGd.out.2⟩
        go_roundw
        case rel => exact ⟨k + 1, _, l ++ [d], cvs ++ [.slice pd d.2.length cd], by omega, by go_num, rfl, by simp; omega, by show _ = _; rw [HTk.out, List.filterMap_append, List.filterMap_cons, HY.out, List.filterMap_nil, mergeAll_snoc, ← HE.out, HM1.out], uH hp⟩
        case measure => simp [intOf]; omega
  · obtain rfl : k = rs.length := by omega
    have HE2 : Hid (l = mergeAll (rs.filterMap tightR)) := by
     have h := HE.out
     rwa [List.take_length] at h
    have hll : l.length ≤ 1000000 := by omega
    go_wp2
    go_ret
    refine ⟨_, rfl, ?_, HT.out.grown⟩
    have h := HT.out.rw.rowsIn hll
    rwa [HE2.out] at h
end Go.Proofs.YtgeklmigfhhpfaaGreatDoor
namespace Go.Proofs.YtgeklmigfhhpfaaGreatDoor
open Go.RowKit
attribute [local go_sem ↓] Go.wp_at_zero Go.wp_at_succ
theorem RSt.room {w : World} {P n : Nat} {kv : Value} {rs : List RowD} {cvs : List Value} (h : RSt w P kv rs cvs) (hl : rs.length ≤ 1000000) (hn : n ≤ 1000) (hg : ∀ r ∈ rs, goodRow n r) : RowLC w kv rs True := by
 refine RW.rowsIn (P := P) (cvs := cvs) ⟨h.len, h.row, fun j q cv h1 h2 => ?_⟩ hl
 obtain ⟨Cb, rfl, _, hc, hne⟩ := h.coefs j q cv h1 h2
 obtain ⟨g1, _, g4⟩ := hg q (List.mem_of_getElem? h1)
 exact ⟨_, _, rfl, fun _ => Nat.le_refl _, fun w2 hw => ints_of_block _ (kH hc hw (fun e => hne e.symm)) (by omega) (fun x hx => by have := g4 x hx; omega)⟩
theorem RSt.lower {w : World} {P P' : Nat} {kv : Value} {rs : List RowD} {cvs : List Value} (h : RSt w P kv rs cvs) (hp : P' ≤ P) : RSt w P' kv rs cvs :=
 ⟨h.len, owns_lower h.row hp, fun j q cv h1 h2 => by
   obtain ⟨Cb, e, h3, h4⟩ := h.coefs j q cv h1 h2
   exact ⟨Cb, e, by omega, h4⟩⟩
def SpaceRoom (S : List SideD × List CondD) (sv : Value) (w : World) (e : Ending) (w' : World) : Prop :=
 w.grownBy w' none ∧ (setErr S ≠ 0 → e = .returned (.tuple #[.agg #[.slice none 0 0, .slice none 0 0], .int .i64 (setErr S)])) ∧
  (setErr S = 0 → ∃ kv cvs, e = .returned (.tuple #[.agg #[sv, kv], .int .i64 0]) ∧ RSt w' w.heap.size kv (rowsOf S) cvs)
set_option maxRecDepth 100000 in
set_option maxHeartbeats 4000000 in
theorem spaceOf_room (S : List SideD × List CondD) (sv cv : Value) (w : World) (hS : SetAt w sv cv S) :
  Calls Tryz.prog 49 #[.agg #[sv, cv]] w (SpaceRoom S sv w) := by
 obtain ⟨sides, conds⟩ := S
 obtain ⟨⟨p, cap, hsv, hl, hc⟩, ⟨pc, ccap, hcv, hcl, hcc⟩⟩ := id hS
 simp only at hsv hl hc hcv hcl hcc
 subst hsv hcv
 have HS := uH hS
 have HCC := uH hcc
 have HSd : Hid (SidesAt w (.slice p sides.length cap) sides) := ⟨p, cap, rfl, hl, hc⟩
 clear hS hcc hc
 by_cases hE : setErr (sides, conds) = 0
 · have hE0 : (setErr (sides, conds) != 0) = false := by simp [hE]
   have HE := uH hE
   obtain ⟨g1, g2, g3, g4⟩ := set_good hE
   clear g2
   have HG4 := uH g4
   have HGd := uH (fun f hf => (conds_good g4 f hf).2)
   simp only at g1 g3
   clear hE g4
   go_enter Tryz.func49, Tryz.ntmps49
   go_wp2_with (first | (go_at_call 95; refine (checkSet_any (sides, conds) _ _ _ (HS.out.kept (gT (gA _ _ _) (gA _ _ _)))).mono ?_; rintro e w1 ⟨rfl, hg1⟩; have HB := uH (boxes_of hg1); rw [HE.out]; have HSp := uH HB.out.spc; have bx0 : w1.cell? ⟨w.heap.size, 0, none⟩ = some (.slice p sides.length cap) := (by simp [World.cell?, HB.out.2.2.1]); have bx1 := HSp.out.b1; clear hg1))
   obtain ⟨j0, hj0, hy0, hy1, hy2⟩ := info_parts Tryz.infoRow
   have HSz := uH (show w1.heap.size + 1 ≤ (w1.alloc (.cells #[.slice p sides.length cap, .slice none 0 0] 81)).heap.size by simp)
   generalize hA : w1.heap.size = A at *
   go_loopw [20] (fun i wr => ∃ (k : Nat) (rs : List RowD) (cvs : List Value) (kv : Value), k ≤ conds.length ∧ i = .int .i64 k ∧ Hid (rs.length = k) ∧ Hid (rs = (rowsOf (sides, conds)).take k) ∧ Hid (SpSt w wr A (.slice p sides.length cap) (.slice pc conds.length ccap) kv) ∧ Hid (RSt wr (A + 1) kv rs cvs) ∧ Hid (A + 1 ≤ wr.heap.size)) (fun i _ => conds.length - (intOf i).toNat)
   case atStart => exact ⟨0, [], [], _, Nat.zero_le _, rfl, rfl, rfl, HSp.out, RSt.start _ _, HSz.out⟩
   case round =>
    obtain ⟨k, rs, cvs, kv, hk, rfl, HLen, HRs, HSt, HRt, HSz2⟩ := hrel
    by_cases hlt : k < conds.length
    · have h0 := List.getElem?_eq_getElem hlt
      obtain ⟨b, off, tv, rfl, h3, h4, h5, h6, h7⟩ := (HCC.out k _ h0).kept HSt.out.grown
      obtain ⟨pt, ct, rfl, htl, htc⟩ := h5
      have HT : Hid (TermsAt wr (.slice pt (conds[k]).2.length ct) (conds[k]).2) := ⟨pt, ct, rfl, htl, htc⟩
      have HIn := uH (HGd.out _ (List.getElem_mem hlt))
      have HRk := uH (show (rowsOf (sides, conds)).take (k + 1) = (rowsOf (sides, conds)).take k ++ [((conds[k]).1, coefsOf sides (conds[k]).2)] by
       unfold rowsOf
       rw [List.take_succ_eq_append_getElem (by simpa using hlt)]
       simp)
      have a1 := HSt.out.a1
      have b0 := HSt.out.b0
      generalize hc : (conds[k]).1 = c at *
      generalize hts : (conds[k]).2 = ts at *
      have HCf := uH (coefs_length sides ts)
      have a1a := (gA wr (.cells #[.int .i64 c, .slice pt ts.length ct] 35) none).cell a1 (by simp)
      have b0a := (gA wr (.cells #[.int .i64 c, .slice pt ts.length ct] 35) none).cell b0 (by simp)
      have hwA := HSz2.out
      clear h0 htc hc hts
      go_wp2
      go_region_law (first
       | (go_simp; go_at_call 56; go_must (refine (rowOf_any c ts sides (.slice pt ts.length ct) (.slice p sides.length cap) _ (HT.out.kept (grown_ad _ _ _)) (HSd.out.kept (gT HSt.out.grown (grown_ad _ _ _))) HIn.out (by omega)).mono ?_; rintro e w2 ⟨Cb, rfl, hC, hcb, hg2⟩; have HG2 := uH (gT (grown_ad _ _ _) hg2); have c2 := HG2.out.cell a1 (by simp); have c2a := (gA w2 (.cells #[.int .i64 c, .slice (some ⟨Cb, 0, none⟩) sides.length sides.length] 86) none).cell c2 (by simp); have HCb := uH hcb; have HC := uH (show wr.heap.size ≤ Cb by simp at hC; omega); have hsz2 := HG2.out.size; clear hC hcb hg2))
       | (refine step_append_lies _ (by rfl) _ _ 79 (by rfl) (A + 1) 86 j0 (.agg #[.int .i64 0, .slice none 0 0]) 2 32 Tryz.underlying79 hj0 hy0 hy1 hy2 (by rfl) (by decide) kv rs.length ((rs.zip cvs).flatMap rowCells) (by rfl) (World.ownsRow.alloc (owns_kept HRt.out.row HG2.out) _) ⟨w2.heap.size, 0, none⟩ 1 1 (rowCells ((c, coefsOf sides ts), .slice (some ⟨Cb, 0, none⟩) sides.length sides.length)) (by rfl) (by rfl) news_at (by simp [rowCells, Value.oneCell']) (by decide) (by have := HLen.out; unfold maxLen; omega) (by have := HLen.out; omega) (by simp; omega) (w2.heap.size + 1) (by simp) ?_; intro g ncap w3 hown3 hgrow3 hat _; have HS3 := uH (((HSt.out.kept HG2.out).kept (gA _ _ none)).own hgrow3 (fun k hk => by have := (HRt.out.row.lt _ hk).1; omega)); have c3 := HS3.out.a1; have f3 := HS3.out.af 1; have O3 := uH hown3; have A3 := uH hat; have G3 := uH hgrow3; clear hown3 hgrow3 hat))
      all_goals
       go_wp2
       go_roundw
       case rel =>
        have hrs := HRs.out
        have hlen := HLen.out
        refine ⟨k + 1, rs ++ [(c, coefsOf sides ts)], cvs ++ [.slice (some ⟨Cb, 0, none⟩) sides.length sides.length], .slice (some ⟨g, 0, none⟩) (rs.length + 1) ncap, by omega, by go_num, ?_, ?_, HS3.out.set _, ?_, ?_⟩
        · show _ = _
          simp [hlen]
        · show _ = _
          rw [HRk.out, hrs]
        · have hcf := HCf.out
          have h := HRt.out.push (w1 := w2) (r := (c, coefsOf sides ts)) HSz2.out HG2.out HC.out HCb.out G3.out (by rw [hcf]; exact O3.out) (by rcases A3.out with h | h; exact .inl h; exact .inr (by omega))
          rw [hcf] at h
          exact h.kept (gS _ A 1 _) (fun k hk => by cases hk; omega)
        · show _ ≤ _
          have h1 := G3.out.size
          have h2 := HG2.out.size
          simp [World.setCell] at h1 ⊢
          omega
       case measure => simp [intOf]; omega
    · obtain rfl : k = conds.length := by omega
      obtain ⟨pk, kcap, rfl⟩ := own_form HRt.out.row
      have a0 := HSt.out.a0
      have a1 := HSt.out.a1
      have r0 := HSt.out.r0
      have r1 := HSt.out.r1
      have rf := HSt.out.rf
      go_wp2
      obtain ⟨C1, C2, C3⟩ := res_done HSt.out.res HSt.out.grown (.slice p sides.length cap) (.slice pk rs.length kcap)
      have hne := HE.out
      refine bodyPost_ret (results_space rfl _ _ (w.heap.size + 1) _ _ _ _ rfl C3) rfl ⟨C1, fun h => absurd hne h, fun _ => ⟨_, cvs, rfl, ?_⟩⟩
      have hrs := HRs.out
      rw [List.take_of_length_le (by simp [rowsOf])] at hrs
      have hn := HSt.out.newA
      have hk2 := HRt.out.kept C2 (fun k hk => by cases hk; omega)
      rw [← hrs]
      exact hk2.lower (by omega)
 · have hE0 : (setErr (sides, conds) != 0) = true := by simp [hE]
   go_enter Tryz.func49, Tryz.ntmps49
   go_wp2_with (first | (go_at_call 95; refine (checkSet_any (sides, conds) _ _ _ (HS.out.kept (gT (gA _ _ _) (gA _ _ _)))).mono ?_; rintro e w1 ⟨rfl, hg1⟩; have HB := uH (boxes_of hg1); have r0 : w1.cell? ⟨w.heap.size + 1, 0, none⟩ = some (.slice none 0 0) := (by simp [World.cell?, HB.out.2.2.2]); have r1 : w1.cell? ⟨w.heap.size + 1, 1, none⟩ = some (.slice none 0 0) := (by simp [World.cell?, HB.out.2.2.2]); have rf : ∀ k, w1.frozen? ⟨w.heap.size + 1, k, none⟩ = false := (fun k => by simp [World.frozen?, HB.out.2.2.2]); clear hg1))
   obtain ⟨B1, B2, B3, B4⟩ := HB.out
   obtain ⟨C1, _, C3⟩ := res_done B4 B1 (.slice none 0 0) (.slice none 0 0)
   exact bodyPost_ret (results_space rfl _ _ (w.heap.size + 1) _ _ _ _ rfl C3) rfl ⟨C1, fun _ => rfl, fun h => absurd h hE⟩
end Go.Proofs.YtgeklmigfhhpfaaGreatDoor
namespace Go.Proofs.YtgeklmigfhhpfaaGreatDoor
open Go.RowKit
attribute [local go_sem ↓] Go.wp_at_zero Go.wp_at_succ
theorem mergeK_mem {K : Type} [DecidableEq K] {P : Int → Prop} {R : K → Prop} (hmin : ∀ a b, P a → P b → P (min a b)) {acc : List (Int × K)} {d : Int × K} (ha : ∀ q ∈ acc, P q.1 ∧ R q.2) (hd : P d.1 ∧ R d.2) : ∀ q ∈ mergeK acc d, P q.1 ∧ R q.2 := by
 intro q hq
 unfold mergeK at hq
 cases hf : acc.findIdx? (fun q => decide (q.2 = d.2)) with
 | none =>
   rw [hf] at hq
   rcases List.mem_append.1 hq with h | h
   · exact ha q h
   · obtain rfl := List.mem_singleton.1 h
     exact hd
 | some k =>
   rw [hf] at hq
   obtain ⟨j, hj⟩ := List.mem_iff_getElem?.1 hq
   simp only at hj
   rw [List.getElem?_modify] at hj
   cases ho : acc[j]? with
   | none => rw [ho] at hj; simp at hj
   | some o =>
     have hm := ha o (List.mem_of_getElem? ho)
     rw [ho] at hj
     by_cases hk : k = j
     · simp [hk] at hj
       subst hj
       exact ⟨hmin _ _ hm.1 hd.1, hm.2⟩
     · simp [hk] at hj
       subst hj
       exact hm
theorem mergeK_len {K : Type} [DecidableEq K] (acc : List (Int × K)) (d : Int × K) : (mergeK acc d).length ≤ acc.length + 1 := by
 unfold mergeK
 cases acc.findIdx? (fun q => decide (q.2 = d.2)) with
 | none => simp
 | some k => simp
theorem merge_len {K : Type} [DecidableEq K] (ds : List (Int × K)) : (mergeAll ds).length ≤ ds.length := by
 induction ds using snocInd with
 | h0 => simp [mergeAll]
 | h1 ds d ih =>
   rw [mergeAll_snoc]
   have := mergeK_len (mergeAll ds) d
   simp
   omega
theorem merge_mem {K : Type} [DecidableEq K] {P : Int → Prop} {R : K → Prop} (hmin : ∀ a b, P a → P b → P (min a b)) {ds : List (Int × K)} (h : ∀ d ∈ ds, P d.1 ∧ R d.2) : ∀ q ∈ mergeAll ds, P q.1 ∧ R q.2 := by
 induction ds using snocInd with
 | h0 => intro q hq; simp [mergeAll] at hq
 | h1 ds d ih =>
   rw [mergeAll_snoc]
   exact mergeK_mem hmin (ih fun e he => h e (by simp [he])) (h d (by simp))
theorem div_abs {a g : Int} (hg : 1 ≤ g) {b : Int} (hb : 0 ≤ b) (h : -b ≤ a ∧ a ≤ b) : -b ≤ a / g ∧ a / g ≤ b := by
 constructor
 · refine (Int.le_ediv_iff_mul_le (by omega)).2 ?_
   have := Int.mul_le_mul_of_nonneg_left hg hb
   rw [Int.neg_mul]
   omega
 · have h1 : a / g ≤ b := by
    refine Int.ediv_le_of_le_mul (by omega) ?_
    have := Int.mul_le_mul_of_nonneg_left hg hb
    omega
   exact h1
theorem tight_good {n : Nat} {rs : List RowD} (hl : ∀ r ∈ rs, r.2.length = n) (hm : ∀ r ∈ rs, (-1000000000000 ≤ r.1 ∧ r.1 ≤ 1000000000000) ∧ ∀ c ∈ r.2, mid c) :
  (mergeAll (rs.filterMap tightR)).length ≤ rs.length ∧ ∀ q ∈ mergeAll (rs.filterMap tightR), (-1000000000000 ≤ q.1 ∧ q.1 ≤ 1000000000000) ∧ (q.2.length = n ∧ ∀ c ∈ q.2, mid c) := by
 refine ⟨Nat.le_trans (merge_len _) (List.length_filterMap_le _ _), merge_mem (P := fun x => -1000000000000 ≤ x ∧ x ≤ 1000000000000) (R := fun cs : List Int => cs.length = n ∧ ∀ c ∈ cs, mid c) (fun a b ha hb => by omega) fun d hd => ?_⟩
 obtain ⟨r, hr, e⟩ := List.mem_filterMap.1 hd
 rw [tight_step] at e
 split at e
 · cases e
 · obtain rfl := Option.some.inj e
   refine ⟨?_, divR_good (hl r hr) (hm r hr).2⟩
   unfold divR
   by_cases hg : gcdL r.2 = 0
   · rw [if_pos hg]
     exact (hm r hr).1
   · rw [if_neg hg]
     exact div_abs (by omega) (by omega) (hm r hr).1
end Go.Proofs.YtgeklmigfhhpfaaGreatDoor
namespace Go.Proofs.YtgeklmigfhhpfaaGreatDoor
open Go.RowKit
def SlBox (w : World) (X : Nat) : Prop := ∀ k v, w.cell? ⟨X, k, none⟩ = some v → ∃ p n c, v = .slice p n c
theorem slBox_two {w : World} {X : Nat} {p q : Option Addr} {n m c d : Nat} {T : TypeId} (h : w.heap[X]? = some (.cells #[.slice p n c, .slice q m d] T (0, 0))) : SlBox w X := by
 intro k v hv
 unfold World.cell? at hv
 rw [h] at hv
 match k with
 | 0 => simp at hv; exact ⟨_, _, _, hv.symm⟩
 | 1 => simp at hv; exact ⟨_, _, _, hv.symm⟩
 | k + 2 => simp at hv
theorem over_ne {w : World} {X b k : Nat} {v : Value} (hX : SlBox w X) (h : w.cell? ⟨b, k, none⟩ = some v) (hv : ∀ p n c, v ≠ .slice p n c) : b ≠ X := fun e => by
 subst e
 obtain ⟨p, n, c, rfl⟩ := hX k v h
 exact hv _ _ _ rfl
theorem far_cell {w w' : World} {X b k : Nat} {v : Value} (hb : b ≠ X) (hg : w.grownBy w' (some X)) (h : w.cell? ⟨b, k, none⟩ = some v) : w'.cell? ⟨b, k, none⟩ = some v := by
 have hl : b < w.heap.size := by
  unfold World.cell? at h
  cases hc : w.heap[b]? with
  | none => rw [hc] at h; cases h
  | some o => exact (Array.getElem?_eq_some_iff.1 hc).1
 rw [World.grownBy.cell_far hg ⟨b, k, none⟩ hl (fun e => hb (Option.some.inj e))]
 exact h
variable {w w' : World} {X : Nat}
theorem IntsAt.over {v : Value} {xs : List Int} (h : IntsAt w v xs) (hX : SlBox w X) (hg : w.grownBy w' (some X)) : IntsAt w' v xs := by
 obtain ⟨p, cap, hv, hl, hc⟩ := h
 refine ⟨p, cap, hv, hl, fun j s hj => ?_⟩
 obtain ⟨b, off, hp, hb, h⟩ := hc j s hj
 exact ⟨b, off, hp, hb, far_cell (over_ne hX h (by intro p n c; simp)) hg h⟩
theorem SidesAt.over {v : Value} {l : List SideD} (h : SidesAt w v l) (hX : SlBox w X) (hg : w.grownBy w' (some X)) : SidesAt w' v l := by
 obtain ⟨p, cap, hv, hl, hc⟩ := h
 refine ⟨p, cap, hv, hl, fun j s hj => ?_⟩
 obtain ⟨b, off, hp, h1, h2, h3, h4, h5, h6⟩ := hc j s hj
 have hb := over_ne hX h4 (by intro p n c; simp)
 exact ⟨b, off, hp, h1, h2, h3, far_cell hb hg h4, far_cell hb hg h5, far_cell hb hg h6⟩
theorem TermsAt.over {v : Value} {ts : List (ByteArray × Int)} (h : TermsAt w v ts) (hX : SlBox w X) (hg : w.grownBy w' (some X)) : TermsAt w' v ts := by
 obtain ⟨p, cap, hv, hl, hc⟩ := h
 refine ⟨p, cap, hv, hl, fun j s hj => ?_⟩
 obtain ⟨b, off, hp, h1, h2, h3, h4, h5⟩ := hc j s hj
 have hb := over_ne hX h4 (by intro p n c; simp)
 exact ⟨b, off, hp, h1, h2, h3, far_cell hb hg h4, far_cell hb hg h5⟩
theorem CondsAt.over {v : Value} {l : List CondD} (h : CondsAt w v l) (hX : SlBox w X) (hg : w.grownBy w' (some X)) : CondsAt w' v l := by
 obtain ⟨p, cap, hv, hl, hc⟩ := h
 refine ⟨p, cap, hv, hl, fun j s hj => ?_⟩
 obtain ⟨b, off, tv, hp, h1, h2, h3, h4⟩ := hc j s hj
 have hb := over_ne hX h1 (by intro p n c; simp)
 exact ⟨b, off, tv, hp, far_cell hb hg h1, far_cell hb hg h2, h3.over hX hg, h4⟩
theorem SetAt.over {sv cv : Value} {S : List SideD × List CondD} (h : SetAt w sv cv S) (hX : SlBox w X) (hg : w.grownBy w' (some X)) : SetAt w' sv cv S := ⟨h.1.over hX hg, h.2.over hX hg⟩
theorem RowLC.over {v : Value} {l : List RowD} {K : Prop} (h : RowLC w v l K) (hX : SlBox w X) (hg : w.grownBy w' (some X)) : RowLC w' v l K := by
 obtain ⟨p, cap, hv, h⟩ := h
 refine ⟨p, cap, hv, h.len, h.room, h.nil, fun j r hj => ?_⟩
 obtain ⟨b, off, pc, cc, h1, h2, h3, h4, h5⟩ := h.cells j r hj
 have hb := over_ne hX h2 (by intro p n c; simp)
 exact ⟨b, off, pc, cc, h1, far_cell hb hg h2, far_cell hb hg h3, h4, h5.over hX hg⟩
end Go.Proofs.YtgeklmigfhhpfaaGreatDoor
