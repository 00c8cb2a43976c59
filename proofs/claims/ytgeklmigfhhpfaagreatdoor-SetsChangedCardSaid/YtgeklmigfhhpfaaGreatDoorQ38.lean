/-
 ASet: a set that a stream draws.
-/
import Derived.Test.YtgeklmigfhhpfaaGreatDoorQ36
import Derived.Test.YtgeklmigfhhpfaaGreatDoorQ37
namespace Go.Proofs.YtgeklmigfhhpfaaGreatDoor
open Go.RowKit
attribute [local go_sem ↓] Go.wp_at_zero Go.wp_at_succ
theorem wp_lastly {P : Program} {s : Code} {Q : Exit → Act → World → Prop} {a : Act} {w : World} (h : ∀ K : Act → World → Prop, (∀ a' w', Q .normal a' w' → K a' w') → s.wp P (Exit.then K Q) a w) : s.wp P Q a w := by
 refine wp_mono (h (fun a w => Q .normal a w) (fun _ _ q => q)) ?_
 intro e a' w' hq
 cases e <;> exact hq
set_option maxRecDepth 100000 in
set_option maxHeartbeats 40000000 in
theorem aSet_any (B m : Nat) (w : World) (hs : StreamAt w B m) (hm : m ≤ 1000000) :
  Calls Tryz.prog 4 #[.pointer (some ⟨B, 0, none⟩)] w (ASetOwn B (m + 1000) w) := by
 have HA := uH (startA_st hs)
 clear hs
 go_enter Tryz.func4, Tryz.ntmps4
 go_wp2_with (first
  | (go_at_call 29; refine (pick_lit' B m (w.heap.size + 1 + 1 + 1) [0, 1, 2, 2, 3] _ (startA w) (startA_size w) HA.out.drawn.2 (by omega) (by simp) (by simp)).mono ?_; rintro e w1 ⟨z, hz, rfl, hd⟩; have HL1 := uH (HA.out.draw hd); clear hd; obtain ⟨n, rfl, hn⟩ : ∃ n : Nat, z = n ∧ n ≤ 3 := (by simp at hz; exact ⟨z.toNat, by omega, by omega⟩); clear hz))
 go_loopw [17] (fun i wr => ∃ (k : Nat) (l : List SideD) (sv : Value), k ≤ n ∧ i = .int .i64 k ∧ Hid (l.length = k) ∧ Hid (LSt B (m + 1 + 2 * k) w wr sv (.slice none 0 0)) ∧ Hid (wr.ownsRow (w.heap.size + 3) 63 3 sv k (l.flatMap sideCells)) ∧ Hid (∀ s ∈ l, goodSide s)) (fun i _ => n - (intOf i).toNat)
 case atStart => exact ⟨0, [], _, Nat.zero_le _, rfl, rfl, HL1.out, World.ownsRow_nil _ _ _ _, fun s hs => by cases hs⟩
 case round =>
  obtain ⟨k, l, sv, hk, rfl, HLen, HL, HO, HGd⟩ := hrel
  by_cases hlt : k < n
  --L1BEGIN
  · skip
    obtain ⟨nm, hnm, hcn⟩ := HL.out.names (k := k) (by omega)
    have HNm := uH hnm
    clear hnm
    obtain ⟨i0, hi, hz0, hz1, hz2⟩ := info_parts Tryz.infoSide
    go_wp2_with (first
     | (go_at_call 29; refine (pick_lit' B (m + 1 + 2 * k) wr.heap.size [0, 0, -2, 1] _ wr rfl HL.out.drawn.2 (by omega) (by simp) (by simp)).mono ?_; rintro e w2 ⟨lo, hlo, rfl, hd⟩; have HL2 := uH (HL.out.draw hd); have HO2 := uH (owns_drawn HO.out hd (by have := HL.out.lt; omega)); clear hd; have HLo := uH (show lo = 0 ∨ lo = -2 ∨ lo = 1 by simpa using hlo); clear hlo))
    have hc0 := HL2.out.cell0
    have hc0a : (w2.alloc (.cells #[.int .i64 0, .int .i64 2, .int .i64 3, .int .i64 4, .int .i64 (-1)] 3)).cell? ⟨w.heap.size + 1, 0, none⟩ = some sv := (gA _ _ none).cell hc0 (by simp)
    have hl1 : -2 ≤ lo ∧ lo ≤ 1 := by have := HLo.out; omega
    obtain ⟨hl1, hl2⟩ := hl1
    go_region_law (first
     | (go_simp; go_at_call 29; refine (pick_drew B (m + 1 + 2 * k + 1) w2.heap.size [0, 2, 3, 4, -1] _ w2 rfl HL2.out.drawn.2 (by omega) (by simp) (by simp)).mono ?_; rintro e w3 ⟨z3, hz3, rfl, hd3⟩; have HL3 := uH (HL2.out.draw hd3); have HO3 := uH (owns_drawn HO2.out hd3 (by have := HL.out.lt; omega)); clear hd3; have c3 := HL3.out.cell0; have c3a := fun o => (gA w3 o none).cell c3 (by simp); have HZ3 := uH (show z3 = 0 ∨ z3 = 2 ∨ z3 = 3 ∨ z3 = 4 ∨ z3 = -1 by simpa using hz3); clear hz3; have hz3a : -1 ≤ z3 := (by have := HZ3.out; omega); have hz3b : z3 ≤ 4 := (by have := HZ3.out; omega); have hwr := IntWalk.i64_in (lo + z3) (by omega); have c3b := c3a (.cells #[.string nm, .int .i64 lo, .int .i64 (lo + z3)] 63); clear c3a)
     | (refine step_append_lies _ (by rfl) _ _ 26 (by rfl) (w.heap.size + 3) 63 i0 (.agg #[.string ByteArray.empty, .int .i64 0, .int .i64 0]) 3 32 Tryz.underlying26 hi hz0 hz1 hz2 (by rfl) (by decide) sv k (l.flatMap sideCells) (by rfl) (World.ownsRow.alloc HO3.out _) ⟨w3.heap.size, 0, none⟩ 1 1 (sideCells (nm, lo, lo + z3)) (by rfl) (by rfl) news_at (by simp [sideCells, Value.oneCell']) (by decide) (by unfold maxLen; omega) (by omega) (by have := HL3.out.size; simp; omega) (w3.heap.size + 1) (by simp) ?_; intro g ncap w4 hown4 hgrow4 hat _; have HL4 := uH ((HL3.out.grown (gA _ _ none)).own hgrow4 (fun k hk => (HO3.out.lt k hk).1)); have c4 := HL4.out.cell0; have f4 := HL4.out.free 0; have O4 := uH hown4; clear hown4 hgrow4 hat))
    all_goals
     go_wp2
     go_roundw
     case rel =>
      refine ⟨k + 1, l ++ [(nm, lo, lo + z3)], .slice (some ⟨g, 0, none⟩) (k + 1) ncap, by omega, by go_num, ?_, (HL4.out.set0 _).more (by omega), ?_, ?_⟩
      · have h := HLen.out
        show _ = _
        simp [h]
      · change World.ownsRow _ _ _ _ _ _ _
        rw [List.flatMap_append]
        exact ownsRow_setCell_below O4.out (show w.heap.size + 1 < w.heap.size + 3 by omega) _
      · intro s hs
        rcases List.mem_append.1 hs with hs | hs
        · exact HGd.out s hs
        · obtain rfl := List.mem_singleton.1 hs
          exact ⟨HNm.out, ⟨by simp only; omega, by simp only; omega⟩, ⟨by simp only; omega, by simp only; omega⟩⟩
     case measure => simp [intOf]; omega
  --L1END
  · obtain rfl : k = n := by omega
    obtain ⟨ps, scap, rfl⟩ := own_form HO.out
    have hB := HL.out.lt
    go_wp2_with (first
     | (go_at_call 29; refine (pick_lit' B (m + 1 + 2 * k) wr.heap.size [0, 1, 1, 2, 3] _ wr rfl HL.out.drawn.2 (by omega) (by simp) (by simp)).mono ?_; rintro e wA ⟨z, hz, rfl, hd⟩; have HLA := uH ((HL.out.draw hd).more (m' := m + 20) (by omega)); have HOA := uH (owns_drawn HO.out hd (by omega)); clear hd; obtain ⟨q, rfl, hq⟩ : ∃ q : Nat, z = q ∧ q ≤ 3 := (by simp at hz; exact ⟨z.toNat, by omega, by omega⟩); clear hz))
    go_loopw [41] (fun i wr => ∃ (j : Nat) (cs : List CondD) (tvs : List Value) (cv : Value), j ≤ q ∧ i = .int .i64 j ∧ Hid (cs.length = j) ∧ Hid (LSt B (m + 20 + 10 * j) w wr (.slice ps k scap) cv) ∧ Hid (wA.heap.size ≤ wr.heap.size) ∧
     Hid (wr.ownsRow (w.heap.size + 3) 63 3 (.slice ps k scap) k (l.flatMap sideCells)) ∧ Hid (CSt wr wA.heap.size cv cs tvs)) (fun i _ => q - (intOf i).toNat)
    case atStart => exact ⟨0, [], [], _, Nat.zero_le _, rfl, rfl, HLA.out, Nat.le_refl _, HOA.out, CSt.start _ _⟩
    case round =>
     obtain ⟨j, cs, tvs, cv, hj, rfl, HCl, HLj, HSz, HOj, HCj⟩ := hrel
     by_cases hlt : j < q
     · have hwA := HSz.out
       go_wp2_with (first
        | (go_at_call 29; refine (pick_lit' B (m + 20 + 10 * j) wr.heap.size [0, 1, -1, 3, 4] _ wr rfl HLj.out.drawn.2 (by omega) (by simp) (by simp)).mono ?_; rintro e w2 ⟨c, hc, rfl, hd⟩; have HL2 := uH (HLj.out.draw hd); have HO2 := uH (owns_drawn HOj.out hd (by omega)); have HC2 := uH (HCj.out.kept hd.1 (fun k hk => by cases hk; have := HLA.out.size; omega)); have hsz2 := hd.1.size; have c20 := HL2.out.cell0; have c20a := fun o => (gA w2 o none).cell c20 (by simp); have c20b := c20a (.cells #[.int .i64 c, .slice none 0 0] 35); clear hd c20a; have HCc := uH (show c = 0 ∨ c = 1 ∨ c = -1 ∨ c = 3 ∨ c = 4 by simpa using hc); clear hc))
       have HK := uH (show B < w2.heap.size by have := HL2.out.size; omega)
       go_loopw [50] (fun i wt => ∃ (t : Nat) (ts : List (ByteArray × Int)) (tv : Value), t ≤ k ∧ i = .int .i64 t ∧ Hid (ts.length ≤ t) ∧ Hid (Drawn B (m + 20 + 10 * j + 1 + t) w2 wt) ∧ Hid (wt.heap[w2.heap.size]? = some (.cells #[.int .i64 c, tv] 35 (0, 0))) ∧
        Hid (wt.ownsRow (w2.heap.size + 1) 65 2 tv ts.length (ts.flatMap termCells)) ∧ Hid (∀ t ∈ ts, goodTerm t)) (fun i _ => k - (intOf i).toNat)
       case atStart => exact ⟨0, [], _, Nat.zero_le _, rfl, Nat.le_refl _, ⟨grownBy_any _ (gA _ _ _), stream_alloc HL2.out.drawn.2 _⟩, heap_alloc_new _ _, World.ownsRow_nil _ _ _ _, fun s hs => by cases hs⟩
       case round =>
        obtain ⟨t, ts, tv, ht, rfl, HTl, HD, HF, HT, HTg⟩ := hrel
        by_cases hlt3 : t < k
        · have hlt4 : t < l.length := by rw [HLen.out]; exact hlt3
          have hz0 := List.getElem?_eq_getElem hlt4
          obtain ⟨p5, cap5, hsv5, _, hside⟩ := sides_of_owns (l := l) (by rw [HLen.out]; exact owns_drawn HO2.out HD.out (by omega)) (by have := HLen.out; omega) HGd.out
          obtain ⟨rfl, hq1, hq2⟩ := Value.slice.inj hsv5
          obtain ⟨b5, o5, rfl, _, ⟨_, _⟩, ⟨_, _⟩, q0, q1, q2⟩ := hside t _ hz0
          have HGn := uH (HGd.out _ (List.getElem_mem hlt4)).1
          generalize (l[t]).1 = nm at *
          generalize (l[t]).2.1 = lo at *
          generalize (l[t]).2.2 = hi5 at *
          obtain ⟨i0, hi, hz0', hz1, hz2⟩ := info_parts Tryz.infoTerm
          clear hsv5 hside hz0 hq1 hq2
          go_upto_region 16 with (first
           | (go_at_call 29; go_must (refine (pick_lit' B (m + 20 + 10 * j + 1 + t) (wr.heap.size + 1) [0, 1, -1, 2, -2, 3] _ (wr.alloc (.cells #[.string nm, .int .i64 lo, .int .i64 hi5] 63)) (by simp) (stream_alloc HD.out.2 _) (by omega) (by simp) (by simp)).mono ?_; rintro e w3 ⟨z, hz, rfl, hd⟩; have D3 := uH ((HD.out.grown (gA _ _ _)).trans hd); have T3 := uH (owns_drawn (World.ownsRow.alloc HT.out _) hd (by have := HK.out; omega)); have hf3 : w3.heap[w2.heap.size]? = some (.cells #[.int .i64 c, tv] 35 (0, 0)) := (hd.1.block _ (by have := (Array.getElem?_eq_some_iff.1 HF.out).1; simp; omega) (by have := HK.out; simp; omega)).trans ((Below.heap_alloc _ _ _ (Array.getElem?_eq_some_iff.1 HF.out).1).trans HF.out); have cf3 : w3.cell? ⟨w2.heap.size, 1, none⟩ = some tv := (by simp [World.cell?, hf3]); have cx3 : w3.cell? ⟨wr.heap.size, 0, none⟩ = some (.string nm) := hd.1.cell (by simp) (by have := HD.out.1.size; have := HK.out; simp; omega); have F3 := uH hf3; have Z3 := uH (show z = 0 ∨ z = 1 ∨ z = -1 ∨ z = 2 ∨ z = -2 ∨ z = 3 by simpa using hz); clear hf3 hd hz)))
          --L3BEGIN
          · have cf3a := (gA w3 (.cells #[.string nm, .int .i64 z] 65) none).cell cf3 (by simp)
            have cx3a := (gA w3 (.cells #[.string nm, .int .i64 z] 65) none).cell cx3 (by simp)
            have hsz3 := D3.out.1.size
            have hB3 := HK.out
            go_wp2_with (first | (at_builtin; go_must (refine wpList_append_lies _ rfl _ _ 33 rfl (w2.heap.size + 1) 65 i0 (.agg #[.string ByteArray.empty, .int .i64 0]) 2 24 Tryz.underlying33 hi hz0' hz1 hz2 rfl (by decide) tv ts.length (ts.flatMap termCells) rfl (World.ownsRow.alloc T3.out _) ⟨w3.heap.size, 0, none⟩ 1 1 (termCells (nm, z)) rfl rfl news_at (by simp [termCells, Value.oneCell']) (by decide) (by have := HTl.out; unfold maxLen; omega) (by have := HTl.out; omega) (by have := (Array.getElem?_eq_some_iff.1 F3.out).1; simp; omega) (w3.heap.size + 1) (by simp) ?_; intro g ncap w4 hown4 hgrow4 hat _; have hf4 : w4.heap[w2.heap.size]? = some (.cells #[.int .i64 c, tv] 35 (0, 0)) := ((gT (grownBy_any _ (gA _ _ _)) hgrow4).block _ (Array.getElem?_eq_some_iff.1 F3.out).1 (fun e => by have := (T3.out.lt _ e.symm).1; omega)).trans F3.out; have cf4 : w4.cell? ⟨w2.heap.size, 1, none⟩ = some tv := (by simp [World.cell?, hf4]); have ff4 : w4.frozen? ⟨w2.heap.size, 1, none⟩ = false := (by simp [World.frozen?, hf4]); have F4 := uH hf4; have O4 := uH hown4; have G4 := uH hgrow4; clear hf4 hown4 hgrow4 hat)))
            all_goals
             go_wp2
             go_roundw
             case rel =>
              refine ⟨t + 1, ts ++ [(nm, z)], .slice (some ⟨g, 0, none⟩) (ts.length + 1) ncap, by omega, by go_num, ?_, ?_, ?_, ?_, ?_⟩
              · have h := HTl.out
                show _ ≤ _
                simp
                omega
              · change Drawn _ _ _ _
                refine ((D3.out.own (gT (grownBy_any _ (gA _ _ _)) G4.out) hB3 (fun k hk => by have := (T3.out.lt _ hk).1; omega)).own (gS _ _ _ _) hB3 (fun k hk => by cases hk; omega)).more (by omega)
              · show _ = _
                have h := F4.out
                simp [World.setCell, Array.getElem?_modify, h]
              · change World.ownsRow _ _ _ _ _ _ _
                rw [List.flatMap_append, List.length_append]
                exact ownsRow_setCell_below O4.out (show w2.heap.size < w2.heap.size + 1 by omega) _
              · intro s hs
                rcases List.mem_append.1 hs with hs | hs
                · exact HTg.out s hs
                · obtain rfl := List.mem_singleton.1 hs
                  exact ⟨HGn.out, by simp only; have := Z3.out; constructor <;> omega⟩
             case measure => simp [intOf]; omega
          · refine ⟨?_, ?_⟩
            · exact ⟨t + 1, ts, tv, by omega, by go_num, Nat.le_trans HTl.out (by omega), D3.out, F3.out, T3.out, HTg.out⟩
            · simp [intOf]; omega
          --L3END
        --L4BEGIN
        · skip
          obtain rfl : t = k := by omega
          obtain ⟨j0, hj0, hy0, hy1, hy2⟩ := info_parts Tryz.infoForm
          obtain ⟨pt, tcap, rfl⟩ := own_form HT.out
          obtain ⟨pc, ccap, rfl⟩ := own_form HCj.out.row
          have HLr := uH (HL2.out.draw HD.out)
          have HCr := uH (HC2.out.kept HD.out.1 (fun k hk => by cases hk; have := HLA.out.size; omega))
          have HOr := uH (owns_drawn HO2.out HD.out (by omega))
          have hf := HF.out
          have cf0 : wr.cell? ⟨w2.heap.size, 0, none⟩ = some (.int .i64 c) := by simp [World.cell?, hf]
          have cf1 : wr.cell? ⟨w2.heap.size, 1, none⟩ = some (.slice pt ts.length tcap) := by simp [World.cell?, hf]
          have cc := HLr.out.cell1
          clear hf
          have HcB := uH (show -1 ≤ c ∧ c ≤ 4 by have := HCc.out; omega)
          have hcl := HcB.out.1
          have hcu := HcB.out.2
          have hPs := HLA.out.size
          have hsr := HD.out.1.size
          go_wp2_with (first | (at_builtin; go_must (refine wpList_append_lies _ rfl _ _ 27 rfl wA.heap.size 35 j0 (.agg #[.int .i64 0, .slice none 0 0]) 2 32 Tryz.underlying27 hj0 hy0 hy1 hy2 rfl (by decide) (.slice pc cs.length ccap) cs.length ((cs.zip tvs).flatMap condCells) rfl (World.ownsRow.alloc HCr.out.row _) ⟨wr.heap.size, 0, none⟩ 1 1 (condCells ((c, ts), .slice pt ts.length tcap)) rfl rfl news_at (by simp [condCells, Value.oneCell']) (by decide) (by have := HCl.out; unfold maxLen; omega) (by have := HCl.out; omega) (by simp; omega) (wr.heap.size + 1) (by simp) ?_; intro g ncap w4 hown4 hgrow4 hat _; have G4 := uH (gT (grownBy_any _ (gA wr _ none)) hgrow4); have HL4 := uH (HLr.out.own G4.out (fun k hk => by have := (HCr.out.row.lt _ hk).1; omega)); have c4 := HL4.out.cell1; have f4 := HL4.out.free 1; have O4 := uH hown4; have A4 := uH hat; clear hown4 hgrow4 hat)))
          go_roundw
          case rel =>
           refine ⟨j + 1, cs ++ [(c, ts)], tvs ++ [.slice pt ts.length tcap], .slice (some ⟨g, 0, none⟩) (cs.length + 1) ncap, by omega, by go_num, ?_, ?_, ?_, ?_, ?_⟩
           · have h := HCl.out
             show _ = _
             simp [h]
           · exact (HL4.out.set1 _).more (by omega)
           · have h := G4.out.size
             show _ ≤ _
             simp [World.setCell]
             omega
           · change World.ownsRow _ _ _ _ _ _ _
             refine ownsRow_setCell_below (HOr.out.kept G4.out ?_) (show w.heap.size + 1 < w.heap.size + 3 by omega) _
             cases hb : (Value.slice ps t scap).ownBlock with
             | none => exact .inl rfl
             | some b =>
               refine .inr fun e => ?_
               have h1 := (HOA.out.lt b hb).2
               have h2 := (HCr.out.row.lt b e.symm).1
               omega
           · change CSt _ _ _ _ _
             refine (HC2.out.push (by omega) (by omega) HD.out.1 (owns_lower HT.out (by omega)) G4.out O4.out rfl ?_ ⟨⟨by omega, by omega⟩, by have := HTl.out; omega, HTg.out⟩).kept (gS _ _ _ _) (fun k hk => by cases hk; omega)
             rcases A4.out with h | h
             · exact .inl h
             · exact .inr (by omega)
          case measure => simp [intOf]; omega
        --L4END
     · obtain rfl : j = q := by omega
       obtain ⟨pc, ccap, rfl⟩ := own_form HCj.out.row
       have HLf := uH (HLj.out.more (m' := m + 50) (by omega))
       go_upto_if 77 with (first
        | (go_at_call 30; refine (flip_any B (m + 50) 12 wr HLf.out.drawn.2 (by omega) (by omega) (by omega)).mono ?_; rintro e wF ⟨bF, rfl, hd⟩; have HLF := uH (HLf.out.draw hd); have HOF := uH (owns_drawn HOj.out hd (by omega)); have HCF := uH (HCj.out.kept hd.1 (fun k hk => by cases hk; have := HLA.out.size; omega)); have hszF := hd.1.size; clear hd))
       go_cut [] (fun wx => Hid (ReadyB B (m + 1000) w wx))
       case rest =>
        obtain ⟨pS, pC, nS, cS, nC, cC, SS, hL, hSl, hSA⟩ := hcut.out
        have HLR := uH hL
        have HSA := uH hSA
        clear hL hSA hcut
        have csR := HLR.out.cell0
        have ccR := HLR.out.cell1
        have raR := HLR.out.res0
        have rbR := HLR.out.res1
        have rfR := HLR.out.resf
        go_wp2
        obtain ⟨f1, f2⟩ := HLR.out.finishB (M := m + 1000) HSA.out hSl (Nat.le_refl _)
        exact bodyPost_ret (results_cell_row rfl _ _ w.heap.size _ _ _ _ rfl f1 Tryz.underlying29 rfl Tryz.infoSet2) rfl f2
       case first =>
        cases bF
        · go_wp2_with (fail)
          go_meet
          case rel => exact readyB_of HLF.out (setOwn_of HOF.out HLen.out (by omega) HGd.out HCF.out (by have := HCl.out; omega) (by have := HLA.out.size; omega) HLA.out.lt) (by have := HLen.out; simp only; omega) (by omega) rfl rfl
        · go_wp2_with (first
           | (go_at_call 31; refine (next_any B (m + 51) 4 wF HLF.out.drawn.2 (by omega) (by omega) (by omega)).mono ?_; rintro e wN ⟨n4, hn40, hn41, rfl, hd⟩; have HLN := uH (HLF.out.draw hd); have HON := uH (owns_drawn HOF.out hd (by omega)); have HCN := uH (HCF.out.kept hd.1 (fun k hk => by cases hk; have := HLA.out.size; omega)); have csN := HLN.out.cell0; have ccN := HLN.out.cell1; have fcN := HLN.out.free 1; have hszN := hd.1.size; clear hd))
          --L7BEGIN
          · refine wp_lastly fun K8 hK8 => ?_
            refine wp_blindly (by rintro _ _ _ _ he ⟨h1, h2⟩; exact And.intro (he.symm.trans h1) h2) ?_
            refine case0_region HLN HON HCN (M := m + 1000) (fun b hb => (HOA.out.lt b hb).2) HLen HGd HCl (by omega) HLA.out.size (by have := HSz.out; omega) HLA.out.lt (by omega) (by omega) (by omega) ?_
            intro v93 v94 v95 v96 v97 v98 v99 v100 v101 v102 v103 v104 v105 v106 wR HRd
            refine hK8 _ _ ?_
            go_wp2_with (fail)
            go_meet
            case rel => exact HRd
          --L7END
          --L6BEGIN
          · refine wp_lastly fun K8 hK8 => ?_
            refine wp_blind1ly (by rintro _ _ _ _ he ⟨h1, h2⟩; exact And.intro (he.symm.trans h1) h2) ?_
            refine case1_region HLN HON HCN (M := m + 1000) (fun b hb => (HOA.out.lt b hb).2) HLen HGd HCl (by omega) HLA.out.size (by have := HSz.out; omega) HLA.out.lt (by omega) (by omega) (by omega) ?_
            intro v109 v110 v111 v112 v113 v114 v115 v116 v117 v118 v119 v120 v121 v122 wR HRd
            refine hK8 _ _ ?_
            go_wp2_with (fail)
            go_meet
            case rel => exact HRd
          --L6END
          --L8BEGIN
          · skip
            go_wp2_with (first
             | (go_at_call 33; refine (repeatB_any HCN.out rfl (by have := HCl.out; omega)).mono ?_; rintro e wR ⟨g, rfl, hgb, hgr, hgc, hsh⟩; have HLR := uH (HLN.out.grown hgr); have HGR := uH hgr; have HGC := uH hgc; have HSh := uH hsh; have ccR := HLR.out.cell1; have fcR := HLR.out.free 1; clear hgr hgc hsh))
            have HLQ := uH (HLR.out.set1 (.slice (some ⟨g, 0, none⟩) (cs.length * 40) (cs.length * 40)))
            have csQ := HLQ.out.cell0
            have ccQ := HLQ.out.cell1
            have raQ := HLQ.out.res0
            have rbQ := HLQ.out.res1
            have rfQ := HLQ.out.resf
            go_wp2_with (fail)
            go_meet
            case rel => exact case2_readyB HLQ HON HCN HGR HSh HGC HLen HGd rfl (by have := HCl.out; omega) HLA.out.size HLA.out.lt hgb (by have := HSz.out; omega) (by omega) (by omega)
          --L8END
          --L5BEGIN
          · skip
            have hk0 : 0 < k := by assumption
            obtain ⟨s0, l1, hl0⟩ : ∃ s0 l1, l = s0 :: l1 := by
             have h := HLen.out
             cases l with
             | nil => simp at h; omega
             | cons a b => exact ⟨a, b, rfl⟩
            have Hl0 := uH hl0
            clear hl0
            obtain ⟨g, gcap, hgv, hgb, hgl⟩ := HON.out.form hk0
            obtain ⟨rfl, _, rfl⟩ := Value.slice.inj hgv
            clear hgv
            have csNa := fun o => (gA wN o none).cell csN (by simp)
            have csNb := csNa (.cells #[.int .i64 (-1000001), .int .i64 (-1000000), .int .i64 0] 3)
            clear csNa
            go_region_law (first
             | (go_simp; go_at_call 29; go_must (refine (pick_drew B (m + 52) wN.heap.size [-1000001, -1000000, 0] _ wN rfl HLN.out.drawn.2 (by omega) (by simp) (by simp)).mono ?_; rintro e wP ⟨z, hz, rfl, hd⟩; have HLP := uH (HLN.out.draw hd); have HOP := uH (owns_drawn HON.out hd (by omega)); have HCP := uH (HCN.out.kept hd.1 (fun k hk => by cases hk; have := HLA.out.size; omega)); have csP := HLP.out.cell0; have HZ := uH (show z = -1000001 ∨ z = -1000000 ∨ z = 0 by simpa using hz); have hszP := hd.1.size; have fP := HOP.out.frozenAt; have gP : wP.cell? ⟨g, 1, none⟩ = some (.int .i64 s0.2.1) := (by rw [HOP.out.cellAt 1 (by omega), Hl0.out]; rfl); have raP := HLP.out.res0; have rbP := HLP.out.res1; have rfP := HLP.out.resf; clear hd hz)))
            all_goals
             have HOQ := uH (HOP.out.stored 1 (.int .i64 z)).1
             have HGQ := uH (HOP.out.stored 1 (.int .i64 z)).2
             have HLQ := uH (HLP.out.own HGQ.out (fun k hk => by cases hk; omega))
             have HCQ := uH (HCP.out.kept HGQ.out (fun k hk => by cases hk; exact (HOA.out.lt g rfl).2))
             have csQ := HLQ.out.cell0
             have ccQ := HLQ.out.cell1
             have raQ := HLQ.out.res0
             have rbQ := HLQ.out.res1
             have rfQ := HLQ.out.resf
             go_wp2_with (fail)
             have hO : World.ownsRow (wP.setCell ⟨g, 1, none⟩ (.int .i64 z)) (w.heap.size + 3) 63 3 (.slice (some ⟨g, 0, none⟩) k scap) k (((s0.1, z, s0.2.2) :: l1).flatMap sideCells) := by
              have h := HOQ.out
              rw [Hl0.out] at h
              exact h
             have hl3 := Hl0.out
             have hg3 := HGd.out
             go_meet
             case rel => exact readyB_of HLQ.out (setOwn_of hO (by have := HLen.out; rw [hl3] at this; simpa using this) (by omega) (fun s hs => by
              rcases List.mem_cons.1 hs with rfl | hs
              · have h := hg3 s0 (by rw [hl3]; exact List.mem_cons_self ..)
                exact ⟨h.1, by have := HZ.out; constructor <;> simp only <;> omega, h.2.2⟩
              · exact hg3 s (by rw [hl3]; exact List.mem_cons_of_mem _ hs)) HCQ.out (by have := HCl.out; omega) (by have := HLA.out.size; omega) HLA.out.lt) (by have h := HLen.out; rw [hl3] at h; simp at h ⊢; omega) (by omega) rfl rfl
          --L5END
          · go_meet
            case rel => exact readyB_of HLN.out (setOwn_of HON.out HLen.out (by omega) HGd.out HCN.out (by have := HCl.out; omega) (by have := HLA.out.size; omega) HLA.out.lt) (by have := HLen.out; simp only; omega) (by omega) rfl rfl
end Go.Proofs.YtgeklmigfhhpfaaGreatDoor
