/-
 What conditions say of all variables but one. A space without one of its variables.
-/
import Derived.Deep.DeepMust
import Derived.Test.YtgeklmigfhhpfaaGreatDoorQ10
import Derived.Test.YtgeklmigfhhpfaaGreatDoorQ16
import Derived.Test.YtgeklmigfhhpfaaGreatDoorQ18
namespace Go.Proofs.YtgeklmigfhhpfaaGreatDoor
open Go.RowKit
attribute [local go_sem ↓] Go.wp_at_zero Go.wp_at_succ
theorem IntsAt.at_ {w : World} {p : Option Addr} {n cap : Nat} {xs : List Int} (h : IntsAt w (.slice p n cap) xs) {j : Nat} {x : Int} (hj : xs[j]? = some x) :
  ∃ b off, p = some ⟨b, off, none⟩ ∧ (-9223372036854775808 ≤ x ∧ x ≤ 9223372036854775807) ∧ w.cell? ⟨b, off + j, none⟩ = some (.int .i64 x) := by
 obtain ⟨p', c', e, _, h⟩ := h
 obtain ⟨rfl, _, _⟩ := Value.slice.inj e
 exact h j x hj
theorem sum_length' {r q : RowD} {a b : Int} {n : Nat} (h1 : r.2.length = n) (h2 : q.2.length = n) : (sumR r a q b).2.length = n := by simp [sumR, h1, h2]
theorem sum_near {r q : RowD} {a b : Int} (ha : mid a) (hb : mid b) (hr : ∀ x ∈ r.2, mid x) (hq : ∀ x ∈ q.2, mid x) : ∀ x ∈ (sumR r a q b).2, -9223372036854775808 ≤ x ∧ x ≤ 9223372036854775807 := by
 intro x hx
 obtain ⟨i, hi, rfl⟩ := List.getElem_of_mem hx
 have hi' : i < r.2.length ∧ i < q.2.length := by simp [sumR] at hi; omega
 simp only [sumR, List.getElem_zipWith]
 have h1 := mul_mid ha (hr _ (List.getElem_mem hi'.1))
 have h2 := mul_mid hb (hq _ (List.getElem_mem hi'.2))
 omega
def sigR (k : Nat) (o : Int → Bool) (l : List RowD) : List RowD := l.filter fun r => o (coefAt k r)
theorem sig_snoc (k : Nat) (o : Int → Bool) (l : List RowD) (r : RowD) : sigR k o (l ++ [r]) = sigR k o l ++ (if o (coefAt k r) then [r] else []) := by
 unfold sigR
 rw [List.filter_append]
 congr 1
 by_cases h : o (coefAt k r) = true <;> simp [h]
def isZ (x : Int) : Bool := decide (x = 0)
def isP (x : Int) : Bool := decide (0 < x)
def isN (x : Int) : Bool := decide (x < 0)
def Firm (w : World) (kv : Value) (A : World → Prop) : Prop := ∀ w2, w.grownBy w2 kv.ownBlock → A w2
theorem Firm.now {w : World} {kv : Value} {A : World → Prop} (h : Firm w kv A) : A w := h w (grownBy_any _ (gR _ _))
theorem Firm.kept {w w' : World} {kv : Value} {A : World → Prop} (h : Firm w kv A) (hg : w.grownBy w' none) : Firm w' kv A := fun w2 h2 => h w2 (gT (grownBy_any _ hg) h2)
theorem Firm.next {w w1 w2 : World} {kv kv' : Value} {g : Nat} {A : World → Prop} (h : Firm w kv A) (h1 : w.grownBy w1 none) (h2 : w1.grownBy w2 kv.ownBlock) (hg : kv.ownBlock = some g ∨ w1.heap.size ≤ g) (hv : kv'.ownBlock = some g) : Firm w2 kv' A := fun w3 h3 => h w3 (grown_next h1 h2 hg (by rw [hv] at h3; exact h3))
def combs1 (k : Nat) (r : RowD) (ms : List RowD) : List RowD := ms.map fun q => sumR r (-(coefAt k q)) q (coefAt k r)
theorem combs1_snoc (k : Nat) (r : RowD) (ms : List RowD) (q : RowD) : combs1 k r (ms ++ [q]) = combs1 k r ms ++ [sumR r (-(coefAt k q)) q (coefAt k r)] := by simp [combs1]
theorem combsR_snoc (k : Nat) (ls : List RowD) (r : RowD) (ms : List RowD) : combsR k (ls ++ [r]) ms = combsR k ls ms ++ combs1 k r ms := by simp [combsR, combs1]
def ElimOut (q : Nat) (rs : List RowD) (w : World) (e : Ending) (w' : World) : Prop :=
 ∃ kv, e = .returned kv ∧ RowLC w' kv (elimR q rs) True ∧ w.grownBy w' none
set_option maxRecDepth 100000 in
set_option maxHeartbeats 8000000 in
theorem eliminated_any (n q : Nat) (rs : List RowD) (kv : Value) (w : World) (hk : RowLC w kv rs True) (hl : ∀ r ∈ rs, r.2.length = n) (hq : q < n) (hn : n ≤ 100) (hrn : rs.length ≤ 100) (hm : ∀ r ∈ rs, (-1000000 ≤ r.1 ∧ r.1 ≤ 1000000) ∧ ∀ c ∈ r.2, -1000 ≤ c ∧ c ≤ 1000) :
  Calls Tryz.prog 53 #[kv, .int .i64 q] w (ElimOut q rs w) := by
 obtain ⟨pk, kcap, rfl, hki⟩ := id hk
 have HK := uH hki
 have HL := uH hl
 have HM := uH hm
 have hkl := hki.len
 obtain ⟨j0, hj0, hy0, hy1, hy2⟩ := info_parts Tryz.infoRow
 clear hk hki hl hm
 go_enter Tryz.func53, Tryz.ntmps53
 go_wp2
 go_loopw [16, 5, 6, 7] (fun i s5 s6 s7 wr => ∃ (k : Nat) (k1 k2 k3 : Value) (l1 l2 l3 : List RowD) (c1 c2 c3 : List Value), k ≤ rs.length ∧ i = .int .i64 k ∧ s5 = k1 ∧ s6 = k2 ∧ s7 = k3 ∧ l1.length ≤ k ∧ l2.length ≤ k ∧ l3.length ≤ k ∧ Hid (l1 = sigR q isZ (rs.take k)) ∧ Hid (l2 = sigR q isP (rs.take k)) ∧ Hid (l3 = sigR q isN (rs.take k)) ∧ Hid (Accs w wr k1 l1 c1 k2 l2 c2 k3 l3 c3)) (fun i _ _ _ _ => rs.length - (intOf i).toNat)
 case atStart => exact ⟨0, _, _, _, [], [], [], [], [], [], Nat.zero_le _, rfl, rfl, rfl, rfl, Nat.zero_le _, Nat.zero_le _, Nat.zero_le _, rfl, rfl, rfl, Accs.start _⟩
 case round =>
  obtain ⟨k, k1, k2, k3, l1, l2, l3, c1, c2, c3, hk, rfl, rfl, rfl, rfl, b1, b2, b3, H1, H2, H3, HA⟩ := hrel
  by_cases hlt : k < rs.length
  · have h0 := List.getElem?_eq_getElem hlt
    obtain ⟨bk, ok, pr, rcap, rfl, c1', c2', hrc, hik⟩ := HK.out.cells k _ h0
    have c1' := HA.out.grown.cell c1' (by simp)
    have c2' := HA.out.grown.cell c2' (by simp)
    have HI0 := uH hik
    have HRc := uH (hrc trivial)
    have HLk := uH (HL.out _ (List.getElem_mem hlt))
    have HTk := uH (List.take_succ_eq_append_getElem hlt)
    generalize rs[k] = r at *
    have hqr : r.2[q]? = some (coefAt q r) := by
     unfold coefAt
     rw [List.getD_eq_getElem?_getD, List.getElem?_eq_getElem (by rw [HLk.out]; exact hq)]
     rfl
    obtain ⟨pi, ci, ei, hil, hic⟩ := hik
    obtain ⟨bi, oi, hpi, hxr, cq⟩ := hic q _ hqr
    obtain ⟨e1, _, e2⟩ := Value.slice.inj ei
    subst hpi e1 e2
    have cq' := HA.out.grown.cell cq (by simp)
    have cq2 := (gA wr (.cells #[.int .i64 r.1, .slice (some ⟨bi, oi, none⟩) r.2.length rcap] 86) none).cell cq' (by simp)
    have hIq : (q : Int) < (r.2.length : Int) := by rw [HLk.out]; omega
    have hI1 : (k : Int) < (rs.length : Int) := by omega
    have S1 := uH (sig_snoc q isZ (rs.take k) r)
    have S2 := uH (sig_snoc q isP (rs.take k) r)
    have S3 := uH (sig_snoc q isN (rs.take k) r)
    generalize coefAt q r = x at *
    have hsz := HA.out.grown.size
    clear h0 hic ei hqr cq hrc
    have HP := uH (gA wr (.cells #[.int .i64 r.1, .slice (some ⟨bi, oi, none⟩) r.2.length rcap] 86) none)
    have HCv : Hid (∃ p cap, Value.slice (some ⟨bi, oi, none⟩) r.2.length rcap = .slice p r.2.length cap ∧ r.2.length ≤ cap ∧ IntsAt w (.slice (some ⟨bi, oi, none⟩) r.2.length rcap) r.2) := ⟨_, _, rfl, HRc.out, HI0.out⟩
    by_cases hp : 0 < x
    · have hp' : x > 0 := hp
      go_wp2_with (at_builtin; go_must (refine wpList_append_lies _ rfl _ _ 79 rfl w.heap.size 86 j0 (.agg #[.int .i64 0, .slice none 0 0]) 2 32 Tryz.underlying79 hj0 hy0 hy1 hy2 rfl (by decide) _ l2.length ((l2.zip c2).flatMap rowCells) rfl (World.ownsRow.alloc (World.ownsRow.alloc HA.out.a2.row _) _) ⟨wr.heap.size + 1, 0, none⟩ 1 1 (rowCells (r, .slice (some ⟨bi, oi, none⟩) r.2.length rcap)) rfl rfl (news_at' (news := rowCells (r, .slice (some ⟨bi, oi, none⟩) r.2.length rcap)) (by simp)) (by simp [rowCells, Value.oneCell']) (by decide) (by unfold maxLen; omega) (by omega) (by simp; omega) (wr.heap.size + 2) (by simp) ?_; intro g' ncap w5 hown5 hgrow5 hat _; have G5 := uH hgrow5; have O5 := uH hown5; have A5 := uH hat; clear hown5 hgrow5 hat))
      go_roundw
      case rel =>
       have hA := (Accs.push HA.out.rot HP.out HCv.out G5.out O5.out (by rcases A5.out with h | h; exact .inl h; exact .inr (by simp; omega))).rot.rot
       have e1 : isZ x = false := by unfold isZ; simp; omega
       have e2 : isP x = true := by unfold isP; simp; omega
       have e3 : isN x = false := by unfold isN; simp; omega
       exact ⟨k + 1, _, _, _, l1, l2 ++ [r], l3, c1, _, c3, by omega, by go_num, rfl, rfl, rfl, by omega, by simp; omega, by omega, by show _ = _; rw [HTk.out, S1.out, e1, H1.out]; simp, by show _ = _; rw [HTk.out, S2.out, e2, H2.out]; simp, by show _ = _; rw [HTk.out, S3.out, e3, H3.out]; simp, hA⟩
      case measure => simp [intOf]; omega
    · by_cases hn' : x < 0
      · have hp' : ¬ (x > 0) := hp
        go_wp2_with (at_builtin; go_must (refine wpList_append_lies _ rfl _ _ 79 rfl w.heap.size 86 j0 (.agg #[.int .i64 0, .slice none 0 0]) 2 32 Tryz.underlying79 hj0 hy0 hy1 hy2 rfl (by decide) _ l3.length ((l3.zip c3).flatMap rowCells) rfl (World.ownsRow.alloc (World.ownsRow.alloc HA.out.a3.row _) _) ⟨wr.heap.size + 1, 0, none⟩ 1 1 (rowCells (r, .slice (some ⟨bi, oi, none⟩) r.2.length rcap)) rfl rfl (news_at' (news := rowCells (r, .slice (some ⟨bi, oi, none⟩) r.2.length rcap)) (by simp)) (by simp [rowCells, Value.oneCell']) (by decide) (by unfold maxLen; omega) (by omega) (by simp; omega) (wr.heap.size + 2) (by simp) ?_; intro g' ncap w5 hown5 hgrow5 hat _; have G5 := uH hgrow5; have O5 := uH hown5; have A5 := uH hat; clear hown5 hgrow5 hat))
        go_roundw
        case rel =>
         have hA := (Accs.push HA.out.rot.rot HP.out HCv.out G5.out O5.out (by rcases A5.out with h | h; exact .inl h; exact .inr (by simp; omega))).rot
         have e1 : isZ x = false := by unfold isZ; simp; omega
         have e2 : isP x = false := by unfold isP; simp; omega
         have e3 : isN x = true := by unfold isN; simp; omega
         exact ⟨k + 1, _, _, _, l1, l2, l3 ++ [r], c1, c2, _, by omega, by go_num, rfl, rfl, rfl, by omega, by omega, by simp; omega, by show _ = _; rw [HTk.out, S1.out, e1, H1.out]; simp, by show _ = _; rw [HTk.out, S2.out, e2, H2.out]; simp, by show _ = _; rw [HTk.out, S3.out, e3, H3.out]; simp, hA⟩
        case measure => simp [intOf]; omega
      · have hp' : ¬ (x > 0) := hp
        go_wp2_with (at_builtin; go_must (refine wpList_append_lies _ rfl _ _ 79 rfl w.heap.size 86 j0 (.agg #[.int .i64 0, .slice none 0 0]) 2 32 Tryz.underlying79 hj0 hy0 hy1 hy2 rfl (by decide) _ l1.length ((l1.zip c1).flatMap rowCells) rfl (World.ownsRow.alloc (World.ownsRow.alloc HA.out.a1.row _) _) ⟨wr.heap.size + 1, 0, none⟩ 1 1 (rowCells (r, .slice (some ⟨bi, oi, none⟩) r.2.length rcap)) rfl rfl (news_at' (news := rowCells (r, .slice (some ⟨bi, oi, none⟩) r.2.length rcap)) (by simp)) (by simp [rowCells, Value.oneCell']) (by decide) (by unfold maxLen; omega) (by omega) (by simp; omega) (wr.heap.size + 2) (by simp) ?_; intro g' ncap w5 hown5 hgrow5 hat _; have G5 := uH hgrow5; have O5 := uH hown5; have A5 := uH hat; clear hown5 hgrow5 hat))
        go_roundw
        case rel =>
         have hA := Accs.push HA.out HP.out HCv.out G5.out O5.out (by rcases A5.out with h | h; exact .inl h; exact .inr (by simp; omega))
         have e1 : isZ x = true := by unfold isZ; simp; omega
         have e2 : isP x = false := by unfold isP; simp; omega
         have e3 : isN x = false := by unfold isN; simp; omega
         exact ⟨k + 1, _, _, _, l1 ++ [r], l2, l3, _, c2, c3, by omega, by go_num, rfl, rfl, rfl, by simp; omega, by omega, by omega, by show _ = _; rw [HTk.out, S1.out, e1, H1.out]; simp, by show _ = _; rw [HTk.out, S2.out, e2, H2.out]; simp, by show _ = _; rw [HTk.out, S3.out, e3, H3.out]; simp, hA⟩
        case measure => simp [intOf]; omega
  · obtain rfl : k = rs.length := by omega
    rw [List.take_length] at H1 H2 H3
    have hsz := HA.out.grown.size
    have HM2 : Hid (∀ r ∈ l2, r ∈ rs) := fun r hr => by rw [H2.out] at hr; exact (List.mem_filter.1 hr).1
    have HM3 : Hid (∀ r ∈ l3, r ∈ rs) := fun r hr => by rw [H3.out] at hr; exact (List.mem_filter.1 hr).1
    have F2 : Hid (Firm wr u5 fun W => Acc w W u6 l2 c2) := fun w2 h2 => HA.out.a2.kept h2 HA.out.d12.ne
    have F3 : Hid (Firm wr u5 fun W => Acc w W u7 l3 c3) := fun w2 h2 => HA.out.a3.kept h2 HA.out.d13.ne
    have HW := uH (HA.out.a1.rw HA.out.grown)
    have HGr := uH HA.out.grown
    obtain ⟨p6, cap6, rfl⟩ := own_form HA.out.a2.row
    obtain ⟨p7, cap7, rfl⟩ := own_form HA.out.a3.row
    clear HA
    go_wp2
    go_loopw [49, 5] (fun i s5 wo => ∃ (k : Nat) (kv : Value) (st : List RowD) (cvs : List Value), k ≤ l2.length ∧ i = .int .i64 k ∧ s5 = kv ∧ Hid (st = l1 ++ combsR q (l2.take k) l3) ∧ st.length ≤ 200 + k * 200 ∧ Hid (w.grownBy wo none) ∧ Hid (RW wo w.heap.size kv st cvs True) ∧ Hid (Firm wo kv fun W => Acc w W (.slice p6 l2.length cap6) l2 c2) ∧ Hid (Firm wo kv fun W => Acc w W (.slice p7 l3.length cap7) l3 c3)) (fun i _ _ => l2.length - (intOf i).toNat)
    case atStart => exact ⟨0, _, l1, c1, Nat.zero_le _, rfl, rfl, by show _ = _; simp [combsR], by omega, HGr.out, HW.out, F2.out, F3.out⟩
    case round =>
     obtain ⟨k, kv, st, cvs, hk, rfl, rfl, HSt, hst, HGr, HW, F2, F3⟩ := hrel
     by_cases hlt : k < l2.length
     · have h0 := List.getElem?_eq_getElem hlt
       obtain ⟨gk, pr, rcap, rfl, d1, d2, _, hik⟩ := F2.out.now.at_ h0
       have HI := uH hik
       have HMr := uH (HM.out _ (HM2.out _ (List.getElem_mem hlt)))
       have HLr := uH (HL.out _ (HM2.out _ (List.getElem_mem hlt)))
       have HTk := uH (List.take_succ_eq_append_getElem hlt)
       generalize l2[k] = r at *
       have hI1 : (k : Int) < (l2.length : Int) := by omega
       have hqr : r.2[q]? = some (coefAt q r) := by
        unfold coefAt
        rw [List.getD_eq_getElem?_getD, List.getElem?_eq_getElem (by rw [HLr.out]; exact hq)]
        rfl
       obtain ⟨bi, oi, rfl, _, cr⟩ := hik.at_ hqr
       have HCr := uH cr
       have HXr : Hid (-1000 ≤ coefAt q r ∧ coefAt q r ≤ 1000) := HMr.out.2 _ (List.mem_of_getElem? hqr)
       generalize hX : coefAt q r = xr at *
       have HXe := uH hX
       have hIr : (q : Int) < (r.2.length : Int) := by rw [HLr.out]; omega
       have hB : Hid ((wr.alloc (.cells #[.int .i64 r.1, .slice (some ⟨bi, oi, none⟩) r.2.length rcap] 86)).heap[wr.heap.size]? = some (.cells #[.int .i64 r.1, .slice (some ⟨bi, oi, none⟩) r.2.length rcap] 86 (0, 0))) := heap_alloc_new _ _
       have hga := gA wr (.cells #[.int .i64 r.1, .slice (some ⟨bi, oi, none⟩) r.2.length rcap] 86) none
       have HB : Hid (Firm (wr.alloc (.cells #[.int .i64 r.1, .slice (some ⟨bi, oi, none⟩) r.2.length rcap] 86)) u5 fun W => W.heap[wr.heap.size]? = some (.cells #[.int .i64 r.1, .slice (some ⟨bi, oi, none⟩) r.2.length rcap] 86 (0, 0))) := fun w2 h2 => kH hB.out h2 (fun e => by have := (HW.out.row.lt _ e).2; omega)
       have HW' := uH (HW.out.kept hga)
       have F2' := uH (F2.out.kept hga)
       have F3' := uH (F3.out.kept hga)
       have HGr' := uH (gT HGr.out hga)
       generalize hR : wr.heap.size = R at *
       clear h0 hik hX cr hga hB hqr
       go_wp2
       go_loopw [55, 5] (fun i s5 wi => ∃ (m : Nat) (kv2 : Value) (st2 : List RowD) (cvs2 : List Value), m ≤ l3.length ∧ i = .int .i64 m ∧ s5 = kv2 ∧ Hid (st2 = st ++ combs1 q r (l3.take m)) ∧ Hid (st2.length = st.length + m) ∧ Hid (w.grownBy wi none) ∧ Hid (RW wi w.heap.size kv2 st2 cvs2 True) ∧ Hid (Firm wi kv2 fun W => Acc w W (.slice (some ⟨gk, 0, none⟩) l2.length cap6) l2 c2) ∧ Hid (Firm wi kv2 fun W => Acc w W (.slice p7 l3.length cap7) l3 c3) ∧ Hid (Firm wi kv2 fun W => W.heap[R]? = some (.cells #[.int .i64 r.1, .slice (some ⟨bi, oi, none⟩) r.2.length rcap] 86 (0, 0)))) (fun i _ _ => l3.length - (intOf i).toNat)
       case atStart => exact ⟨0, _, st, cvs, Nat.zero_le _, rfl, rfl, by show _ = _; simp [combs1], by show _ = _; omega, HGr'.out, HW'.out, F2'.out, F3'.out, HB.out⟩
       case round =>
        obtain ⟨m, kv2, st2, cvs2, hm, rfl, rfl, HS2, hs2, HGi, HWi, G2, G3, GB⟩ := hrel
        have hs2' : st2.length ≤ 20400 := by have := hs2.out; omega
        by_cases hlt3 : m < l3.length
        · have h0 := List.getElem?_eq_getElem hlt3
          obtain ⟨gm, pq, qcap, rfl, e1, e2, _, hiq⟩ := G3.out.now.at_ h0
          have HQ := uH hiq
          have HMq := uH (HM.out _ (HM3.out _ (List.getElem_mem hlt3)))
          have HLq := uH (HL.out _ (HM3.out _ (List.getElem_mem hlt3)))
          have HTm := uH (List.take_succ_eq_append_getElem hlt3)
          generalize l3[m] = t at *
          have hI2 : (m : Int) < (l3.length : Int) := by omega
          have hqt : t.2[q]? = some (coefAt q t) := by
           unfold coefAt
           rw [List.getD_eq_getElem?_getD, List.getElem?_eq_getElem (by rw [HLq.out]; exact hq)]
           rfl
          obtain ⟨bj, oj, rfl, _, ct⟩ := hiq.at_ hqt
          have HCt := uH ct
          have HXt : Hid (-1000 ≤ coefAt q t ∧ coefAt q t ≤ 1000) := HMq.out.2 _ (List.mem_of_getElem? hqt)
          generalize hX : coefAt q t = xt at *
          have HXf := uH hX
          have hwn : IntKind.i64.wrap (-xt) = -xt := wrap_near (by have := HXt.out; omega)
          have hIt : (q : Int) < (t.2.length : Int) := by rw [HLq.out]; omega
          have hga := gA wr (.cells #[.int .i64 t.1, .slice (some ⟨bj, oj, none⟩) t.2.length qcap] 86) none
          have HGa := uH (gT hga (gD _ none))
          obtain ⟨rb0, rb1, _⟩ := cO GB.out.now
          have rb0 := hga.cell rb0 (by simp)
          have rb1 := hga.cell rb1 (by simp)
          have cr1 := (gT HGi.out hga).cell HCr.out (by simp)
          have ct1 := (gT HGi.out hga).cell HCt.out (by simp)
          have hsr := HGi.out.size
          have HRl : R < wr.heap.size := (Array.getElem?_eq_some_iff.1 GB.out.now).1
          have hdl : (sumR r (-xt) t xr).2.length = n := sum_length' HLr.out HLq.out
          have HDl := uH hdl
          clear h0 hiq hX hqt ct hga hdl
          go_wp2
          refine wp_last fun K8 hK8 => ?_
          go_cut [5] from 59 to 75 (fun s5 wx => ∃ (p' : Option Addr) (cap' : Nat) (cv : Value), s5 = .slice p' (st2.length + 1) cap' ∧ Hid (w.grownBy wx none) ∧ Hid (RW wx w.heap.size (.slice p' (st2.length + 1) cap') (st2 ++ [sumR r (-xt) t xr]) (cvs2 ++ [cv]) True) ∧ Hid (Firm wx (.slice p' (st2.length + 1) cap') fun W => Acc w W (.slice (some ⟨gk, 0, none⟩) l2.length cap6) l2 c2) ∧ Hid (Firm wx (.slice p' (st2.length + 1) cap') fun W => Acc w W (.slice (some ⟨gm, 0, none⟩) l3.length cap7) l3 c3) ∧ Hid (Firm wx (.slice p' (st2.length + 1) cap') fun W => W.heap[R]? = some (.cells #[.int .i64 r.1, .slice (some ⟨bi, oi, none⟩) r.2.length rcap] 86 (0, 0))))
          case first =>
           go_region_held3 (fun W => W.cell? ⟨R, 0, none⟩ = some (.int .i64 r.1) ∧ W.cell? ⟨R, 1, none⟩ = some (.slice (some ⟨bi, oi, none⟩) r.2.length rcap) ∧ W.cell? ⟨wr.heap.size, 0, none⟩ = some (.int .i64 t.1) ∧ W.cell? ⟨wr.heap.size, 1, none⟩ = some (.slice (some ⟨bj, oj, none⟩) t.2.length qcap) ∧ W.cell? ⟨bi, oi + q, none⟩ = some (.int .i64 xr) ∧ W.cell? ⟨bj, oj + q, none⟩ = some (.int .i64 xt)) (first | go_keep | exact ⟨x1, x2, x3, x4, x5, x6⟩) (first
            | (go_at_call 57; go_must (refine (sum_any r t (-xt) xr _ _ _ (HI.out.kept (gT HGi.out HGa.out)) (HQ.out.kept (gT HGi.out HGa.out)) (by rw [HLq.out, HLr.out]) (by rw [HLr.out]; omega) (by have := HXt.out; unfold mid; omega) (by have := HXr.out; unfold mid; omega) (by have := HMr.out.1; unfold mid; omega) (by have := HMq.out.1; unfold mid; omega) (fun x hx => by have := HMr.out.2 x hx; unfold mid; omega) (fun x hx => by have := HMq.out.2 x hx; unfold mid; omega)).mono ?_; rintro e w4 ⟨Cb, rfl, hCb, hcb, hg4⟩; have HCb := uH hcb; have HCl := uH hCb; have HG4 := uH (gT HGa.out hg4); have HD4 := uH hg4; have x1 := hg4.cell rb0 (by simp); have x2 := hg4.cell rb1 (by simp); have x3 : w4.cell? ⟨wr.heap.size, 0, none⟩ = some (.int .i64 t.1) := hg4.cell (by simp) (by simp); have x4 : w4.cell? ⟨wr.heap.size, 1, none⟩ = some (.slice (some ⟨bj, oj, none⟩) t.2.length qcap) := hg4.cell (by simp) (by simp); have x5 := hg4.cell cr1 (by simp); have x6 := hg4.cell ct1 (by simp); clear hcb hCb hg4))
            | (refine step_append_lies _ (by rfl) _ _ 79 (by rfl) w.heap.size 86 j0 (.agg #[.int .i64 0, .slice none 0 0]) 2 32 Tryz.underlying79 hj0 hy0 hy1 hy2 (by rfl) (by decide) _ st2.length ((st2.zip cvs2).flatMap rowCells) (by rfl) (World.ownsRow.alloc (owns_kept HWi.out.row HG4.out) _) ⟨w4.heap.size, 0, none⟩ 1 1 (rowCells (sumR r (-xt) t xr, .slice (some ⟨Cb, 0, none⟩) r.2.length r.2.length)) (by rfl) (by rfl) news_at (by simp [rowCells, Value.oneCell']) (by decide) (by unfold maxLen; omega) (by omega) (by have := HG4.out.size; simp; omega) (w4.heap.size + 1) (by simp) ?_; intro g' ncap w5 hown5 hgrow5 hat _; have G5 := uH hgrow5; have O5 := uH hown5; have A5 := uH hat; have hw5 := gO (gT HGi.out (gT HG4.out (gA _ _ none))) hgrow5 (fun k hk => (HWi.out.row.lt k hk).1); have HW5 := uH hw5; obtain ⟨x1, x2, _⟩ := cO (GB.out w5 (gT (grownBy_any _ (gT HG4.out (gA _ _ none))) hgrow5)); have hbq := kH (r := Value.ownBlock _) (heap_alloc_new wr (.cells #[.int .i64 t.1, .slice (some ⟨bj, oj, none⟩) t.2.length qcap] 86)) (gT (grownBy_any _ (gD _ none)) (gT (grownBy_any _ (gT HD4.out (gA _ _ none))) hgrow5)) (fun e => by have := (HWi.out.row.lt _ e).2; omega); obtain ⟨x3, x4, _⟩ := cO hbq; have x5 := hw5.cell HCr.out (by simp); have x6 := hw5.cell HCt.out (by simp); clear hown5 hgrow5 hat hw5 hbq))
           all_goals
            have hcl : wr.heap.size + 1 ≤ Cb := by have h := HCl.out; simpa using h
            have hcvx : ∃ p cap, Value.slice (some ⟨Cb, 0, none⟩) r.2.length r.2.length = .slice p (sumR r (-xt) t xr).2.length cap ∧ (True → (sumR r (-xt) t xr).2.length ≤ cap) ∧ ∀ w2, w4.grownBy w2 (Value.ownBlock u5) → IntsAt w2 (.slice (some ⟨Cb, 0, none⟩) r.2.length r.2.length) (sumR r (-xt) t xr).2 :=
             ⟨some ⟨Cb, 0, none⟩, r.2.length, by rw [HDl.out, HLr.out], fun _ => by rw [HDl.out, HLr.out]; exact Nat.le_refl _, fun w2 h2 => by
               have h := ints_of_block (xs := (sumR r (-xt) t xr).2) r.2.length (kH HCb.out h2 (fun e => by have := (HWi.out.row.lt _ e).2; omega)) (by rw [HDl.out]; omega) (sum_near (by have := HXt.out; unfold mid; omega) (by have := HXr.out; unfold mid; omega) (fun x hx => by have := HMr.out.2 x hx; unfold mid; omega) (fun x hx => by have := HMq.out.2 x hx; unfold mid; omega))
               rwa [HDl.out, ← HLr.out] at h⟩
            have hgg : Value.ownBlock u5 = some g' ∨ w4.heap.size + 1 ≤ g' := by rcases A5.out with h | h; exact .inl h; exact .inr (by omega)
            have hp := RW.push (g := g') (cap := ncap) HWi.out HG4.out hcvx G5.out O5.out (by rcases hgg with h | h; exact .inl h; exact .inr (by omega))
            have HPp := uH hp
            have HGg := uH hgg
            clear hp hgg hcvx hcl x1 x2 x3 x4 x5 x6
            go_wp2_with fail
            go_meet
            case rel =>
             have k1a := gT HG4.out (gA w4 (.cells (rowCells (sumR r (-xt) t xr, .slice (some ⟨Cb, 0, none⟩) r.2.length r.2.length)).toArray 86) none)
             have hg2 : Value.ownBlock u5 = some g' ∨ (w4.alloc (.cells (rowCells (sumR r (-xt) t xr, .slice (some ⟨Cb, 0, none⟩) r.2.length r.2.length)).toArray 86)).heap.size ≤ g' := by rcases HGg.out with h | h; exact .inl h; exact .inr (by simp; omega)
             exact ⟨some ⟨g', 0, none⟩, ncap, _, rfl, HW5.out, HPp.out, G2.out.next k1a G5.out hg2 rfl, G3.out.next k1a G5.out hg2 rfl, GB.out.next k1a G5.out hg2 rfl⟩
          case rest =>
           obtain ⟨p', cap', cv, rfl, HGx, HWx, G2x, G3x, GBx⟩ := hcut
           refine hK8 _ _ ?_
           go_wp2
           go_roundw
           case rel => exact ⟨m + 1, _, st2 ++ [sumR r (-xt) t xr], cvs2 ++ [cv], by omega, by go_num, rfl, by show _ = _; rw [HTm.out, combs1_snoc, HS2.out, HXf.out, HXe.out, List.append_assoc], by have := hs2.out; show _ = _; simp; omega, HGx.out, HWx.out, G2x.out, G3x.out, GBx.out⟩
           case measure => simp [intOf]; omega
        · obtain rfl : m = l3.length := by omega
          have HSn : Hid (st2 = l1 ++ combsR q (l2.take (k + 1)) l3) := by
           show _ = _
           rw [HTk.out, combsR_snoc, HS2.out, HSt.out, List.take_length, List.append_assoc]
          go_wp2
          go_roundw
          case rel => exact ⟨k + 1, _, st2, cvs2, by omega, by go_num, rfl, HSn.out, by have := hs2.out; omega, HGi.out, HWi.out, G2.out, G3.out⟩
          case measure => simp [intOf]; omega
     · obtain rfl : k = l2.length := by omega
       have HE : Hid (st = elimR q rs) := by
        show _ = _
        rw [HSt.out, List.take_length, H1.out, H2.out, H3.out]
        rfl
       have hstl : st.length ≤ 1000000 := by omega
       go_wp2
       go_ret
       refine ⟨_, rfl, ?_, HGr.out⟩
       have h := HW.out.rowsIn hstl
       rwa [HE.out] at h
end Go.Proofs.YtgeklmigfhhpfaaGreatDoor
namespace Go.Proofs.YtgeklmigfhhpfaaGreatDoor
open Go.RowKit
attribute [local go_sem ↓] Go.wp_at_zero Go.wp_at_succ
structure RnSt (w : World) (P : Nat) (cv : Value) (l : List RowD) (tvs : List Value) : Prop where
 len : tvs.length = l.length
 row : w.ownsRow P 86 2 cv l.length ((l.zip tvs).flatMap rowCells)
 terms : ∀ (j : Nat) (f : RowD) (tv : Value), l[j]? = some f → tvs[j]? = some tv → w.ownsRow P 3 1 tv f.2.length (f.2.map (Value.int .i64)) ∧ (tv.ownBlock = none ∨ tv.ownBlock ≠ cv.ownBlock)
 good : ∀ f ∈ l, f.2.length ≤ 1000 ∧ ∀ c ∈ f.2, mid c
theorem RnSt.start (w : World) (P : Nat) : RnSt w P (.slice none 0 0) [] [] := ⟨rfl, World.ownsRow_nil _ _ _ _, fun j f tv h => by simp at h, fun f h => by cases h⟩
theorem RnSt.kept {w w' : World} {P : Nat} {cv : Value} {l : List RowD} {tvs : List Value} {r : Option Nat} (h : RnSt w P cv l tvs) (hg : w.grownBy w' r) (hr : ∀ k, r = some k → k < P) : RnSt w' P cv l tvs := by
 have key : ∀ {e : TypeId} {size : Nat} {v : Value} {n : Nat} {xs : List Value}, w.ownsRow P e size v n xs → w'.ownsRow P e size v n xs := fun ho => by
  refine ho.kept hg ?_
  cases hb : Value.ownBlock _ with
  | none => exact .inl rfl
  | some g =>
    refine .inr fun e => ?_
    have := (ho.lt g hb).1
    have := hr g e.symm
    omega
 exact ⟨h.len, key h.row, fun j f tv h1 h2 => ⟨key (h.terms j f tv h1 h2).1, (h.terms j f tv h1 h2).2⟩, h.good⟩
theorem RnSt.push {w w1 w2 : World} {P B : Nat} {cv cv' tv : Value} {l : List RowD} {tvs : List Value} {c : Int} {ts : List Int} {g cap : Nat} (h : RnSt w P cv l tvs) (hB : B < P) (hP : P ≤ w.heap.size)
  (k1 : w.grownBy w1 (some B)) (ht : w1.ownsRow w.heap.size 3 1 tv ts.length (ts.map (Value.int .i64))) (k2 : w1.grownBy w2 cv.ownBlock)
  (row : w2.ownsRow P 86 2 cv' (l.length + 1) ((l.zip tvs).flatMap rowCells ++ rowCells ((c, ts), tv))) (hv : cv' = .slice (some ⟨g, 0, none⟩) (l.length + 1) cap) (hg : cv.ownBlock = some g ∨ w1.heap.size ≤ g)
  (good : ts.length ≤ 1000 ∧ ∀ c ∈ ts, mid c) : RnSt w2 P cv' (l ++ [(c, ts)]) (tvs ++ [tv]) := by
 have hob : ∀ k, cv.ownBlock = some k → P ≤ k ∧ k < w.heap.size := h.row.lt
 have hgv : cv'.ownBlock = some g := by rw [hv]; rfl
 have h1 := h.kept k1 (fun k hk => by cases hk; exact hB)
 have ht' : w1.ownsRow P 3 1 tv ts.length (ts.map (Value.int .i64)) := by
  obtain ⟨a1, a2⟩ := ht
  refine ⟨a1, ?_⟩
  rcases a2 with a2 | ⟨g, cap, cur, hv, hb, r⟩
  · exact .inl a2
  · exact .inr ⟨g, cap, cur, hv, by omega, r⟩
 refine ⟨by simp [h.len], ?_, fun j f u hj hu => ?_, fun f hf => ?_⟩
 · rw [List.length_append, List.zip_append (by rw [h.len]), List.flatMap_append]
   simpa using row
 · by_cases hj' : j < l.length
   · rw [List.getElem?_append_left hj'] at hj
     rw [List.getElem?_append_left (by rw [h.len]; exact hj')] at hu
     obtain ⟨r1, r2⟩ := h1.terms j f u hj hu
     have r0 := (h.terms j f u hj hu).1
     refine ⟨r1.kept k2 r2, ?_⟩
     cases hb : u.ownBlock with
     | none => exact .inl rfl
     | some b =>
       refine .inr fun e => ?_
       rw [hgv] at e
       have e := Option.some.inj e
       rcases hg with hg | hg
       · rcases r2 with r2 | r2
         · rw [hb] at r2; cases r2
         · exact r2 (by rw [hb, hg, e])
       · have := (r0.lt b hb).2
         have := k1.size
         omega
   · have hj2 : j = l.length := by
      have := (List.getElem?_eq_some_iff.1 hj).1
      simp at this
      omega
     subst hj2
     simp at hj
     subst hj
     rw [← h.len] at hu
     simp at hu
     subst hu
     refine ⟨ht'.kept k2 ?_, ?_⟩
     · cases hb : tv.ownBlock with
       | none => exact .inl rfl
       | some b =>
         refine .inr fun e => ?_
         have := (ht.lt b hb).1
         have := hob b e.symm
         omega
     · cases hb : tv.ownBlock with
       | none => exact .inl rfl
       | some b =>
         refine .inr fun e => ?_
         rw [hgv] at e
         have e := Option.some.inj e
         have h5 := (ht.lt b hb).1
         have h6 := (ht.lt b hb).2
         rcases hg with hg | hg
         · have := hob g hg
           omega
         · omega
 · rcases List.mem_append.1 hf with hf | hf
   · exact h.good f hf
   · obtain rfl := List.mem_singleton.1 hf
     exact good
theorem RnSt.rw {w : World} {P : Nat} {kv : Value} {rs : List RowD} {cvs : List Value} (h : RnSt w P kv rs cvs) : RW w P kv rs cvs True := by
 refine ⟨h.len, h.row, fun j q cv h1 h2 => ?_⟩
 obtain ⟨d1, d2⟩ := h.terms j q cv h1 h2
 obtain ⟨g1, g2⟩ := h.good q (List.mem_of_getElem? h1)
 obtain ⟨p, cap, rfl⟩ := own_form d1
 exact ⟨p, cap, rfl, fun _ => own_cap d1, fun w2 hw => ints_of_owns (d1.kept hw d2) (by omega) (fun x hx => by have := g2 x hx; unfold mid at this; omega)⟩
structure LsSt (w0 w2 wr : World) (X : Nat) (sv av cv pv : Value) (rs : List RowD) (cvs : List Value) : Prop where
 grown : w2.grownBy wr (some X)
 g0 : w0.grownBy w2 none
 ltX : X < w2.heap.size
 newX : w0.heap.size + 2 ≤ X
 rbox : wr.heap[w0.heap.size]? = some (.cells #[sv, av] 81 (0, 0))
 res : wr.heap[w0.heap.size + 1]? = some (.cells #[.slice none 0 0, .slice none 0 0] 81 (0, 0))
 box : wr.heap[X]? = some (.cells #[cv, pv] 81 (0, 0))
 rows : RnSt wr w2.heap.size pv rs cvs
variable {w0 w2 wr : World} {X : Nat} {sv av cv pv : Value} {rs : List RowD} {cvs : List Value}
theorem LsSt.size (h : LsSt w0 w2 wr X sv av cv pv rs cvs) : X < wr.heap.size := (Array.getElem?_eq_some_iff.1 h.box).1
theorem LsSt.own_from (h : LsSt w0 w2 wr X sv av cv pv rs cvs) : ∀ k, pv.ownBlock = some k → w2.heap.size ≤ k := fun k hk => (World.ownsRow.lt h.rows.row k hk).1
theorem LsSt.all (h : LsSt w0 w2 wr X sv av cv pv rs cvs) : w0.grownBy wr none := gO h.g0 h.grown (fun k hk => by cases hk; have := h.newX; omega)
theorem LsSt.push {w3 w4 : World} {g cap : Nat} {pv' tv : Value} {c : Int} {ts : List Int} (h : LsSt w0 w2 wr X sv av cv pv rs cvs)
  (k1 : wr.grownBy w3 none) (ht : w3.ownsRow wr.heap.size 3 1 tv ts.length (ts.map (Value.int .i64))) (k2 : w3.grownBy w4 pv.ownBlock)
  (row : w4.ownsRow w2.heap.size 86 2 pv' (rs.length + 1) ((rs.zip cvs).flatMap rowCells ++ rowCells ((c, ts), tv))) (hv : pv' = .slice (some ⟨g, 0, none⟩) (rs.length + 1) cap) (hg : pv.ownBlock = some g ∨ w3.heap.size ≤ g)
  (good : ts.length ≤ 1000 ∧ ∀ c ∈ ts, mid c) : LsSt w0 w2 (w4.setCell ⟨X, 1, none⟩ pv') X sv av cv pv' (rs ++ [(c, ts)]) (cvs ++ [tv]) := by
 have hX := h.ltX
 have hob := h.own_from
 have hn := h.newX
 have hs := h.grown.size
 have g2 := gS w4 X 1 pv'
 have k12 : wr.grownBy w4 pv.ownBlock := gT (grownBy_any _ k1) k2
 have hne : ∀ k, k < w2.heap.size → pv.ownBlock ≠ some k := fun k hk e => by have := hob k e; omega
 have hgr : w2.grownBy w4 (some X) := ⟨k12.os.trans h.grown.os, k12.tape.trans h.grown.tape, k12.output.trans h.grown.output, Nat.le_trans hs k12.size, fun k hk hx => (k12.block k (by omega) (fun e => hne k hk e.symm)).trans (h.grown.block k hk hx)⟩
 refine ⟨gT hgr g2, h.g0, hX, hn, kH (kH h.rbox k12 (hne _ (by omega))) g2 (by simp; omega), kH (kH h.res k12 (hne _ (by omega))) g2 (by simp; omega), ?_, (RnSt.push h.rows (B := X) hX hs (grownBy_any _ k1) ht k2 row hv hg good).kept g2 (fun k hk => by cases hk; omega)⟩
 show (w4.heap.modify X _)[X]? = _
 rw [Array.getElem?_modify, if_pos rfl, kH h.box k12 (hne _ hX)]
 simp
theorem LsSt.start (g : w0.grownBy w2 none) (hX : w0.heap.size + 2 ≤ X) (rbox : w2.heap[w0.heap.size]? = some (.cells #[sv, av] 81 (0, 0)))
  (res : w2.heap[w0.heap.size + 1]? = some (.cells #[.slice none 0 0, .slice none 0 0] 81 (0, 0))) (box : w2.heap[X]? = some (.cells #[cv, .slice none 0 0] 81 (0, 0))) : LsSt w0 w2 w2 X sv av cv (.slice none 0 0) [] [] :=
 ⟨grownBy_any _ (gR _ _), g, (Array.getElem?_eq_some_iff.1 box).1, hX, rbox, res, box, RnSt.start _ _⟩
def lessR (q : Nat) (r : RowD) : RowD := (r.1, r.2.eraseIdx q)
def SpaceLess (l : List SideD) (rs : List RowD) (q : Nat) (w : World) (e : Ending) (w' : World) : Prop :=
 ∃ sv kv, e = .returned (.agg #[sv, kv]) ∧ SidesAt w' sv (l.eraseIdx q) ∧ RowLC w' kv (rs.map (lessR q)) True ∧ w.grownBy w' none
theorem part_sides {w : World} {p : Option Addr} {n off cap : Nat} {l : List SideD} {b : Nat} (hn : l.length = n) (hl : n ≤ 1000000) (hc : n ≤ cap) (hp : p = some ⟨b, off, none⟩) (h : ∀ j u, (l.flatMap sideCells)[j]? = some u → w.cell? ⟨b, off + j, none⟩ = some u) : PartAt w (.slice p n cap) 3 (n, l.flatMap sideCells) := by
 refine ⟨p, cap, rfl, hl, hc, (by rw [← hn]; exact flat_length (f := sideCells) (k := 3) (fun _ => rfl) l), fun e => (by rw [hp] at e; cases e), fun a ha j u hj => ?_, fun u hu => ?_⟩
 · rw [hp] at ha
   obtain rfl := Option.some.inj ha
   have hadd : (⟨b, off, none⟩ : Addr).add j = ⟨b, off + j, none⟩ := by unfold Addr.add; split <;> simp_all
   rw [hadd]
   exact h j u hj
 · obtain ⟨t, _, ht⟩ := List.mem_flatMap.1 hu
   simp [sideCells] at ht
   rcases ht with rfl | rfl | rfl <;> rfl
def SidesLess (l : List SideD) (q : Nat) (w : World) (e : Ending) (w' : World) : Prop :=
 ∃ p cap, e = .returned (.slice p (l.eraseIdx q).length cap) ∧ w'.ownsRow w.heap.size 63 3 (.slice p (l.eraseIdx q).length cap) (l.eraseIdx q).length ((l.eraseIdx q).flatMap sideCells) ∧ w.grownBy w' none
theorem sides_less (l : List SideD) (q bb oo cap : Nat) (A : Option Addr) (w1 : World) (hs : SidesAt w1 (.slice (some ⟨bb, oo, none⟩) l.length cap) l) (hq : q < l.length) (hn : l.length ≤ 1000) (hA : A = if cap = q + 1 then some ⟨bb, oo, none⟩ else some ⟨bb, oo + (q + 1) * 3, none⟩)
  (W : World) (b : Nat) (hg : w1.grownBy W none) (c0 : W.cell? ⟨b, 0, none⟩ = some (.slice (some ⟨bb, oo, none⟩) q cap)) (c1 : W.cell? ⟨b, 1, none⟩ = some (.slice A (l.length - (q + 1)) (cap - (q + 1)))) :
  Calls Tryz.prog 106 #[.slice (some ⟨b, 0, none⟩) 2 2] W (SidesLess l q W) := by
 have HC := sides_cells hs
 obtain ⟨_, _, e0, ⟨_, hcap⟩, _⟩ := id hs
 obtain ⟨rfl, _, rfl⟩ := Value.slice.inj e0
 refine (concatSides_any [(q, (l.take q).flatMap sideCells), (l.length - (q + 1), (l.drop (q + 1)).flatMap sideCells)] b 2 [.slice (some ⟨bb, oo, none⟩) q cap, .slice A (l.length - (q + 1)) (cap - (q + 1))] W (by simp) rfl (by simp [lens]; omega) ?_ ?_).mono ?_
 · intro j v hj
   match j, hj with
   | 0, hj => rw [c0]; exact hj
   | 1, hj => rw [c1]; exact hj
 · intro j v x hj hx
   have hsplit : l.flatMap sideCells = (l.take q).flatMap sideCells ++ (l.drop q).flatMap sideCells := by rw [← List.flatMap_append, List.take_append_drop]
   have hsplit2 : l.flatMap sideCells = (l.take (q + 1)).flatMap sideCells ++ (l.drop (q + 1)).flatMap sideCells := by rw [← List.flatMap_append, List.take_append_drop]
   have hlen1 : ((l.take q).flatMap sideCells).length = q * 3 := by rw [flat_length (f := sideCells) (k := 3) (fun _ => rfl), List.length_take]; omega
   have hlen2 : ((l.take (q + 1)).flatMap sideCells).length = (q + 1) * 3 := by rw [flat_length (f := sideCells) (k := 3) (fun _ => rfl), List.length_take]; omega
   match j, hj, hx with
   | 0, hj, hx =>
     obtain rfl := Option.some.inj hj
     obtain rfl := Option.some.inj hx
     exact part_sides (by rw [List.length_take]; omega) (by omega) (by omega) rfl (fun j u hu => hg.cell (HC j u (by
      rw [hsplit, List.getElem?_append_left (by have := (List.getElem?_eq_some_iff.1 hu).1; omega)]
      exact hu)) (by simp))
   | 1, hj, hx =>
     obtain rfl := Option.some.inj hj
     obtain rfl := Option.some.inj hx
     by_cases hc : cap = q + 1
     · rw [if_pos hc] at hA
       have hd : l.drop (q + 1) = [] := List.drop_of_length_le (by omega)
       exact part_sides (by simp) (by omega) (by omega) hA (fun j x hx => by rw [hd] at hx; simp at hx)
     · rw [if_neg hc] at hA
       exact part_sides (by simp) (by omega) (by omega) hA (fun j u hu => by
        have h := hg.cell (HC ((q + 1) * 3 + j) u (by
         rw [hsplit2, List.getElem?_append_right (by omega), hlen2, Nat.add_sub_cancel_left]
         exact hu)) (by simp)
        rwa [← Nat.add_assoc] at h)
 · rintro e w' ⟨v, rfl, ho, hg'⟩
   have hle : (l.eraseIdx q).length = q + (l.length - (q + 1)) := by rw [List.length_eraseIdx]; split <;> omega
   have hls : lens [(q, (l.take q).flatMap sideCells), (l.length - (q + 1), (l.drop (q + 1)).flatMap sideCells)] = (l.eraseIdx q).length := by rw [hle]; simp [lens]
   have hfl : [(q, (l.take q).flatMap sideCells), (l.length - (q + 1), (l.drop (q + 1)).flatMap sideCells)].flatMap (·.2) = (l.eraseIdx q).flatMap sideCells := by rw [List.eraseIdx_eq_take_drop_succ, List.flatMap_append]; simp
   rw [hls, hfl] at ho
   obtain ⟨p, cap, rfl⟩ := own_form ho
   exact ⟨p, cap, rfl, ho, hg'⟩
end Go.Proofs.YtgeklmigfhhpfaaGreatDoor
