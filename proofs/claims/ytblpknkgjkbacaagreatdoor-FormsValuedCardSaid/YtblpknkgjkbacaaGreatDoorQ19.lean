/-
 A sum of forms: a form times a number is added. The checker's bounds.
-/
import Derived.StillTailTactics
import Derived.Test.YtblpknkgjkbacaaGreatDoorQ14
import Derived.Test.YtblpknkgjkbacaaGreatDoorQ17
import Derived.Test.YtblpknkgjkbacaaGreatDoorQ18
namespace Go.Proofs.YtblpknkgjkbacaaGreatDoor
set_option linter.unusedVariables false
open Go.RowKit Go.Maps Go.WideMaps
variable {w w' : World} {T Bm m : Nat} {c : Int} {X : ByteArray → Int}
/-- A sum so far: its number, its coefficients. -/
structure TotIs (T Bm : Nat) (c : Int) (X : ByteArray → Int) (m : Nat) (w : World) : Prop where
  tot : TotAt w T c Bm
  tab : ∃ k D, MapAt w Bm k D ∧ TabIs D X ∧ k ≤ m
theorem TotIs.kept (h : TotIs T Bm c X m w) (hg : w.grownBy w' none) : TotIs T Bm c X m w' := by
  obtain ⟨k, D, h1, h2, h3⟩ := h.tab
  exact ⟨heap_keep h.tot hg (by simp), k, D, World.ownsMap.kept h1 hg (by simp), h2, h3⟩
theorem TotIs.ne (h : TotIs T Bm c X m w) : T ≠ Bm := fun e => by
  subst e
  obtain ⟨k, D, h1, h2, h3⟩ := h.tab
  obtain ⟨a, b, h4⟩ := MapAt.obj h1
  have h5 := h.tot
  unfold TotAt at h5
  rw [h4] at h5
  cases h5
theorem TotIs.lt (h : TotIs T Bm c X m w) : T < w.heap.size ∧ Bm < w.heap.size := by
  obtain ⟨k, D, h1, h2, h3⟩ := h.tab
  exact ⟨(Array.getElem?_eq_some_iff.1 h.tot).1, World.ownsMap.lt h1⟩
theorem TotIs.safe (h : TotIs T Bm c X m w) (hb : But T Bm Bm w w') : Safe w w' := by
  intro b k v hv hs j u hu
  have hl : b < w.heap.size := by
    unfold World.cell? at hv
    cases hc : w.heap[b]? with
    | none => rw [hc] at hv; cases hv
    | some o => exact (Array.getElem?_eq_some_iff.1 hc).1
  have h1 : b ≠ T := fun e => by
    subst e
    have hc := h.tot
    unfold TotAt at hc
    unfold World.cell? at hv
    rw [hc] at hv
    match k with
    | 0 => simp at hv; subst hv; rcases hs with ⟨s, e⟩ | ⟨p, n, c, e⟩ <;> cases e
    | 1 => simp at hv; subst hv; rcases hs with ⟨s, e⟩ | ⟨p, n, c, e⟩ <;> cases e
    | k + 2 => simp at hv
  have h2 : b ≠ Bm := fun e => by
    subst e
    obtain ⟨k, D, h1, h2, h3⟩ := h.tab
    obtain ⟨a, b, h4⟩ := MapAt.obj h1
    unfold World.cell? at hv
    rw [h4] at hv
    cases hv
  rw [World.cell?_of_block (hb.block b hl h1 h2 h2)]
  exact hu
theorem coefX_snoc {l : List (ByteArray × Int)} {n : ByteArray} {z : Int} (h : ∀ t ∈ l, t.1 ≠ n) (x : ByteArray) : coefX (l ++ [(n, z)]) x = if x = n then z else coefX l x := by
  induction l with
  | nil =>
    rw [List.nil_append, coefX_cons]
    by_cases e : x = n
    · rw [if_pos e, if_pos e.symm]
    · rw [if_neg e, if_neg (fun h => e h.symm)]
  | cons a r ih =>
    rw [List.cons_append, coefX_cons, coefX_cons, ih (fun t ht => h t (List.mem_cons_of_mem _ ht))]
    by_cases e : a.1 = x
    · rw [if_pos e, if_pos e, if_neg (fun e2 => h a (List.mem_cons_self ..) (e.trans e2))]
    · rw [if_neg e, if_neg e]
/-- A form times a number more. -/
def plusX (X : ByteArray → Int) (a : Int) (ts : List (ByteArray × Int)) : ByteArray → Int := fun n => X n + a * coefX ts n
theorem prod6_bound {a b : Int} {A B : Int} (hA : 0 ≤ A) (ha : -A ≤ a ∧ a ≤ A) (hb : -B ≤ b ∧ b ≤ B) : -(A * B) ≤ a * b ∧ a * b ≤ A * B := by
  obtain ⟨h1, h2⟩ := ha
  obtain ⟨h3, h4⟩ := hb
  rcases Int.le_total 0 b with h | h
  · have e1 : -A * b ≤ a * b := Int.mul_le_mul_of_nonneg_right h1 h
    have e2 : a * b ≤ A * b := Int.mul_le_mul_of_nonneg_right h2 h
    have e3 : A * b ≤ A * B := Int.mul_le_mul_of_nonneg_left h4 hA
    rw [Int.neg_mul] at e1
    omega
  · have e1 : a * b ≤ -A * b := Int.mul_le_mul_of_nonpos_right h1 h
    have e2 : A * b ≤ a * b := Int.mul_le_mul_of_nonpos_right h2 h
    have e3 : A * (-B) ≤ A * b := Int.mul_le_mul_of_nonneg_left h3 hA
    rw [Int.neg_mul] at e1
    rw [Int.mul_neg] at e3
    omega
set_option maxRecDepth 100000 in
set_option maxHeartbeats 8000000 in
theorem add_any (d : Int) (ts : List (ByteArray × Int)) (tv : Value) (a : Int) (w : World) (hT : TotIs T Bm c X m w) (hm : m ≤ 800) (ht : TermsAt w tv ts) (hf : formErr d ts = 0) (ha : -1000 ≤ a ∧ a ≤ 1000) (hc : -1000000000000 ≤ c ∧ c ≤ 1000000000000) (hX : ∀ n, -1000000000000 ≤ X n ∧ X n ≤ 1000000000000) :
    Calls Tryz.prog 33 #[.pointer (some ⟨T, 0, none⟩), .agg #[.int .i64 d, tv], .int .i64 a] w (fun e w' => e = .returned (.tuple #[]) ∧ But T Bm Bm w w' ∧ TotIs T Bm (c + a * d) (plusX X a ts) (m + 12) w') := by
  obtain ⟨p, cap, rfl, hl, -⟩ := id ht
  obtain ⟨hdr, h12, htr, hpw⟩ := form_good hf
  have HT := Lib.hid hT
  have HTs := Lib.hid ht
  have HX := Lib.hid hX
  have hne := hT.ne
  obtain ⟨hTw, hBw⟩ := hT.lt
  have HPw := Lib.hid hpw
  have HTr := Lib.hid (fun t (h : t ∈ ts) => (htr t h).2)
  have hpd := prod6_bound (A := 1000) (B := 1000000) (by omega) ha hdr
  have HG := Lib.hid (World.grownBy_alloc w (.cells #[.int .i64 d, .slice p ts.length cap] 28) none)
  have HB := Lib.hid (heap_alloc_new w (.cells #[.int .i64 d, .slice p ts.length cap] 28))
  have hlI : (ts.length : Int) ≤ 12 := by omega
  clear hT ht hX htr hpw hf
  have hw1 : IntKind.i64.wrap (a * d) = a * d := wrap_near (by omega)
  have hw2 : IntKind.i64.wrap (c + a * d) = c + a * d := wrap_near (by omega)
  go_enter Tryz.func33, Tryz.ntmps33
  go_upto_region 1 with fail
  generalize w.alloc (.cells #[.int .i64 d, .slice p ts.length cap] 28) = w1 at *
  have HT1 := Lib.hid (HT.out.kept HG.out)
  obtain ⟨x0, x1, xf⟩ := cell_of_two HB.out
  obtain ⟨t0, t1, tf⟩ := cell_of_two HT1.out.tot
  go_still_tail 11, (by kernel_rfl)
  change wpList _ _ _ _ _ w1.drew
  have HG2 := Lib.hid (grownBy_trans HG.out (grown_drew w1 none))
  have HT2 := Lib.hid (HT1.out.kept (grown_drew w1 none))
  have HB2 : Hid (w1.drew.heap[w.heap.size]? = some (.cells #[.int .i64 d, .slice p ts.length cap] 28 (0, 0))) := HB.out
  clear x0 x1 xf t0 t1 tf HB HT1 HG
  generalize w1.drew = w2 at *
  obtain ⟨x0, x1, xf⟩ := cell_of_two HB2.out
  obtain ⟨t0, t1, tf⟩ := cell_of_two HT2.out.tot
  go_upto_region 2 with fail
  have gs := grown_set w2 T 0 (.int .i64 (c + a * d))
  have hts : TotAt (w2.setCell ⟨T, 0, none⟩ (.int .i64 (c + a * d))) T (c + a * d) Bm := by
    have h := HT2.out.tot
    unfold TotAt at h ⊢
    simp [World.setCell, Array.getElem?_modify, h]
  have HT3 : Hid (TotIs T Bm (c + a * d) X m (w2.setCell ⟨T, 0, none⟩ (.int .i64 (c + a * d)))) := by
    obtain ⟨k, D, h1, h2, h3⟩ := HT2.out.tab
    exact ⟨hts, k, D, World.ownsMap.kept h1 gs (by simp; omega), h2, h3⟩
  have HBu : Hid (But T Bm Bm w (w2.setCell ⟨T, 0, none⟩ (.int .i64 (c + a * d)))) := (But.of_grown HG2.out).trans (But.of_one gs (by omega))
  have HB3 := Lib.hid (heap_keep HB2.out gs (by simp; omega))
  clear x0 x1 xf t0 t1 tf gs hts HT2 HB2 HG2
  generalize w2.setCell ⟨T, 0, none⟩ (.int .i64 (c + a * d)) = w3 at *
  obtain ⟨x0, x1, xf⟩ := cell_of_two HB3.out
  go_upto_region 3 with fail
  go_loopw [22] (fun i wr => ∃ k : Nat, k ≤ ts.length ∧ i = .int .i64 k ∧ Hid (But T Bm Bm w wr) ∧ Hid (TotIs T Bm (c + a * d) (plusX X a (ts.take k)) (m + k) wr)) (fun i _ => ts.length - (intOf i).toNat)
  case atStart =>
    refine ⟨0, Nat.zero_le _, rfl, HBu.out, ?_⟩
    have e : plusX X a (ts.take 0) = X := funext fun n => by simp [plusX, coefX]
    show TotIs _ _ _ _ _ _
    rw [e]
    exact HT3.out
  case round =>
    obtain ⟨k, hk, rfl, HBr, HTk⟩ := hrel
    by_cases hlt : k < ts.length
    · have h0 := List.getElem?_eq_getElem hlt
      obtain ⟨p', cap', hv', -, hcell⟩ := HTs.out.safe (HT.out.safe HBr.out)
      cases hv'
      obtain ⟨b, off, rfl, h3, h4, h5, h6, h7⟩ := hcell k _ h0
      have htb := HTr.out _ (List.mem_of_getElem? h0)
      have HTake := Lib.hid (List.take_succ_eq_append_getElem hlt)
      have HNo : Hid (∀ t ∈ ts.take k, t.1 ≠ (ts[k]).1) := fun t ht => by
        obtain ⟨j, hj, rfl⟩ := List.getElem_of_mem ht
        rw [List.length_take] at hj
        rw [List.getElem_take]
        exact List.pairwise_iff_getElem.1 HPw.out j k (by omega) hlt (by omega)
      generalize ts[k] = t at *
      obtain ⟨n, z⟩ := t
      simp only at h3 h4 h5 h6 h7 htb HNo
      have hxn := HX.out n
      have hcn : plusX X a (ts.take k) n = X n := by unfold plusX; rw [coefX_none HNo.out]; simp
      have hpz := prod6_bound (A := 1000) (B := 1000) (by omega) ha htb
      have hw3 : IntKind.i64.wrap (a * z) = a * z := wrap_near (by omega)
      have hw4 : IntKind.i64.wrap (X n + a * z) = X n + a * z := wrap_near (by omega)
      have hkI : (k : Int) < (ts.length : Int) := by omega
      have HGa := Lib.hid (World.grownBy_alloc wr (.cells #[.string n, .int .i64 z] 54) none)
      have HTa := Lib.hid (HTk.out.kept HGa.out)
      have HBx := Lib.hid (heap_alloc_new wr (.cells #[.string n, .int .i64 z] 54))
      have hTr := HTk.out.lt
      clear h0 hcell
      go_upto_region 5 with fail
      generalize wr.alloc (.cells #[.string n, .int .i64 z] 54) = w4 at *
      obtain ⟨b0, b1, bf⟩ := cell_of_two HBx.out
      obtain ⟨t0, t1, tf⟩ := cell_of_two HTa.out.tot
      have hld0 : ∀ k' D, MapAt w4 Bm k' D → TabIs D (plusX X a (ts.take k)) → (Instr.lookup 73 (.map (some Bm)) (.string n) false).run Tryz.prog w4.drew = .ok (.int .i64 (X n)) w4.drew := fun k' D h1 h2 => by
        have := tot_look (World.ownsMap.kept h1 (grown_drew w4 none) (by simp)) h2 h3
        rwa [hcn] at this
      obtain ⟨kd, D, hm1, htab, hkd⟩ := HTa.out.tab
      have hld := hld0 kd D hm1 htab
      have HM := Lib.hid hm1
      have HTb := Lib.hid htab
      clear hld0 hm1 htab
      go_still_tail 12, (by kernel_rfl)
      change wpList _ _ _ _ _ w4.drew
      have HG5 := Lib.hid (grownBy_trans HGa.out (grown_drew w4 none))
      have HM5 : Hid (MapAt w4.drew Bm kd D) := World.ownsMap.kept HM.out (grown_drew w4 none) (by simp)
      have HT5 := Lib.hid (HTa.out.kept (grown_drew w4 none))
      have HBx5 : Hid (w4.drew.heap[wr.heap.size]? = some (.cells #[.string n, .int .i64 z] 54 (0, 0))) := HBx.out
      clear b0 b1 bf t0 t1 tf HGa HTa HBx HM
      generalize w4.drew = w5 at *
      obtain ⟨b0, b1, bf⟩ := cell_of_two HBx5.out
      obtain ⟨t0, t1, tf⟩ := cell_of_two HT5.out.tot
      go_wp2_with (at_mapUpdate; refine wpList_mapUpdate_own _ rfl _ _ _ 73 rfl 9 3 Tryz.lawStr Tryz.underlying73 _ Bm kd D rfl HM5.out (lt_maxLen _ (by omega)) _ _ _ rfl rfl (key_str h3) _ [] (plainElem_int Tryz.underlying3 (wf64 (by omega) (by omega))) ?_; intro w6 hown hg6; have HO6 := Lib.hid hown; have HG6 := Lib.hid hg6; clear hown hg6)
      go_roundw
      case rel =>
        refine ⟨k + 1, by omega, by go_num, HBr.out.trans ((But.of_grown HG5.out).trans (But.of_one HG6.out (by omega))), ?_⟩
        show TotIs _ _ _ _ _ _
        refine ⟨heap_keep HT5.out.tot HG6.out (by simp; omega), kd + 1, _, HO6.out, (HTb.out.put n (X n + a * z)).cong fun x => ?_, by omega⟩
        unfold plusX
        rw [HTake.out, coefX_snoc HNo.out]
        by_cases e : x = n
        · rw [if_pos e, if_pos e, e]
        · rw [if_neg e, if_neg e]
      case measure => simp [intOf]; omega
    · obtain rfl : k = ts.length := by omega
      have HTl := HTk.out
      rw [List.take_length] at HTl
      have HTe : Hid (TotIs T Bm (c + a * d) (plusX X a ts) (m + 12) wr) := by
        obtain ⟨h1, k', D', h2, h3, h4⟩ := HTl
        exact ⟨h1, k', D', h2, h3, by omega⟩
      clear HTl
      go_wp2
      exact bodyPost_end (results_none rfl _ _ _) rfl ⟨rfl, HBr.out, HTe.out⟩
end Go.Proofs.YtblpknkgjkbacaaGreatDoor
namespace Go.Proofs.YtblpknkgjkbacaaGreatDoor
open Go.RowKit Go.Maps Go.WideMaps
variable {w w' : World}
theorem box3_cells {g : Nat} {a b c : Value} {T : TypeId} (h : w.heap[g]? = some (.cells #[a, b, c] T (0, 0))) : w.cell? ⟨g, 0, none⟩ = some a ∧ w.cell? ⟨g, 1, none⟩ = some b ∧ w.cell? ⟨g, 2, none⟩ = some c ∧ ∀ k, w.frozen? ⟨g, k, none⟩ = false := by
  refine ⟨by simp [World.cell?, h], by simp [World.cell?, h], by simp [World.cell?, h], fun k => by simp [World.frozen?, h]⟩
set_option maxRecDepth 100000 in
set_option maxHeartbeats 4000000 in
theorem chkBound_any {C Bd Bs Bl kl : Nat} {cells steps : Int} {Dl : Table} {X : ByteArray → Bool} (c : Int) (ts : List TermD) (dv : Int) (tv : Value) (w : World) (hC : ChkAt w C Bd Bs Bl cells steps) (hL : SetAtB w Bl kl Dl) (hX : SetIs Dl X) (ht : TermsAt w tv ts) :
    Calls Tryz.prog 156 #[.pointer (some ⟨C, 0, none⟩), .agg #[.int .i64 c, tv, .int .i64 dv]] w (Gives (.int .i64 (boundE X (c, ts, dv))) w) := by
  obtain ⟨p, cap, rfl, hl, -⟩ := id ht
  have HC := Lib.hid hC
  have HL := Lib.hid hL
  have HT := Lib.hid ht
  have HG := Lib.hid (World.grownBy_alloc w (.cells #[.int .i64 c, .slice p ts.length cap, .int .i64 dv] 195) none)
  have HB := Lib.hid (heap_alloc_new w (.cells #[.int .i64 c, .slice p ts.length cap, .int .i64 dv] 195))
  obtain ⟨x0, x1, x2, xf⟩ := box3_cells HB.out
  clear hC hL ht
  by_cases hf : inErr X c ts = 0
  case neg =>
    have hf0 : (inErr X c ts != 0) = true := by simpa using hf
    have HI : Hid (boundE X (c, ts, dv) = inErr X c ts) := by show _ = _; unfold boundE; rw [if_pos hf]
    clear hf
    go_enter Tryz.func156, Tryz.ntmps156
    go_wp2_with (go_at_call 157; go_must (refine (chkForm_any c ts _ _ (heap_keep HC.out HG.out (by simp)) (World.ownsMap.kept HL.out HG.out (by simp)) hX (HT.out.kept HG.out)).mono ?_; rintro e w1 ⟨rfl, hg⟩; have G1 := Lib.hid (grownBy_trans HG.out hg); clear hg))
    go_ret
    exact ⟨by rw [HI.out]; rfl, G1.out⟩
  case pos =>
    have hf0 : (inErr X c ts != 0) = false := by simp [hf]
    have HI : Hid (boundE X (c, ts, dv) = if dv < 1 ∨ 1000 < dv then 1 else 0) := by show _ = _; unfold boundE; rw [if_neg (by simp [hf])]
    clear hf
    go_enter Tryz.func156, Tryz.ntmps156
    go_wp2_with (go_at_call 157; go_must (refine (chkForm_any c ts _ _ (heap_keep HC.out HG.out (by simp)) (World.ownsMap.kept HL.out HG.out (by simp)) hX (HT.out.kept HG.out)).mono ?_; rintro e w1 ⟨rfl, hg⟩; have G1 := Lib.hid (grownBy_trans HG.out hg); obtain ⟨x0, x1, x2, xf⟩ := box3_cells (heap_keep HB.out hg (by simp)); clear hg))
    all_goals
      go_ret
      first
        | exact ⟨ret_int (by rw [HI.out, if_pos (by omega)]), G1.out⟩
        | exact ⟨ret_int (by rw [HI.out, if_neg (by omega)]), G1.out⟩
set_option maxRecDepth 100000 in
set_option maxHeartbeats 4000000 in
theorem chkBounds_any {C Bd Bs Bl kl : Nat} {cells steps : Int} {Dl : Table} {X : ByteArray → Bool} (fs : List BoundD) (v : Value) (w : World) (hC : ChkAt w C Bd Bs Bl cells steps) (hL : SetAtB w Bl kl Dl) (hX : SetIs Dl X) (ht : BoundsAt w v fs) :
    Calls Tryz.prog 155 #[v, .func (.func 156) #[.pointer (some ⟨C, 0, none⟩)] #[]] w (Gives (.int .i64 (firstE (fs.map (boundE X)))) w) := by
  obtain ⟨p, cap, rfl, hl, hc⟩ := ht
  have HC := Lib.hid hC
  have HL := Lib.hid hL
  have HT := Lib.hid hc
  have hlen : (fs.length : Int) ≤ 9223372036854775807 := by omega
  clear hC hL hc
  generalize hE : firstE (fs.map (boundE X)) = E
  go_enter Tryz.func155, Tryz.ntmps155
  go_wp2
  go_loopw [10] (fun i wr => ∃ k : Nat, k ≤ fs.length ∧ i = .int .i64 k ∧ Hid (w.grownBy wr none) ∧ Hid (firstE ((fs.map (boundE X)).drop k) = E)) (fun i _ => fs.length - (intOf i).toNat)
  case atStart => exact ⟨0, Nat.zero_le _, rfl, grownBy_refl _ _, hE⟩
  case round =>
    obtain ⟨k, hk, rfl, HG, HR⟩ := hrel
    by_cases hlt : k < fs.length
    · have h0 := List.getElem?_eq_getElem hlt
      obtain ⟨b, off, tv, hp, h1, h2, h3, h4, h5, h6⟩ := HT.out k _ h0
      have HD := Lib.hid (firstE_drop (l := fs.map (boundE X)) (k := k) (e := boundE X fs[k]) (by rw [List.getElem?_map, h0]; rfl))
      generalize fs[k] = f at *
      subst hp
      obtain ⟨pt, tcap, rfl, -⟩ := id h4
      have HTs := Lib.hid (h4.kept HG.out)
      have c1 := HG.out.cell h1 (by simp)
      have c2 := HG.out.cell h2 (by simp)
      have c3 := HG.out.cell h3 (by simp)
      have hkI : (k : Int) < (fs.length : Int) := by omega
      obtain ⟨cf, ts, dv⟩ := f
      simp only at *
      obtain ⟨b0, b1, b2, bf⟩ := box3_cells (heap_alloc_new wr (.cells #[.int .i64 cf, .slice pt ts.length tcap, .int .i64 dv] 195))
      have HGa := Lib.hid (grownBy_trans HG.out (World.grownBy_alloc wr (.cells #[.int .i64 cf, .slice pt ts.length tcap, .int .i64 dv] 195) none))
      clear h0 h1 h2 h3 h4
      go_wp2_with (go_at_call 156; go_must (refine (chkBound_any cf ts dv _ _ (heap_keep HC.out HGa.out (by simp)) (World.ownsMap.kept HL.out HGa.out (by simp)) hX (HTs.out.kept (World.grownBy_alloc _ _ none))).mono ?_; rintro e w2 ⟨rfl, hg⟩; have HG2 := Lib.hid (grownBy_trans HGa.out hg); clear hg))
      · rename_i hne
        have hne' : ¬ boundE X (cf, ts, dv) = 0 := by simpa using hne
        have h6 := HD.out
        rw [if_neg hne', HR.out] at h6
        go_ret
        exact ⟨by rw [h6]; rfl, HG2.out⟩
      · rename_i heq
        have heq' : boundE X (cf, ts, dv) = 0 := by simpa using heq
        have h6 := HD.out
        rw [if_pos heq', HR.out] at h6
        refine ⟨⟨k + 1, by omega, by go_num, HG2.out, h6.symm⟩, by simp [intOf]; omega⟩
    · obtain rfl : k = fs.length := by omega
      have h2 := HR.out
      rw [List.drop_eq_nil_of_le (by simp)] at h2
      go_wp2
      go_ret
      exact ⟨by rw [← h2]; rfl, HG.out⟩
end Go.Proofs.YtblpknkgjkbacaaGreatDoor
