/-
 The checker's lists of steps: the check says what is wrong, for all steps.
-/
import Derived.Test.YtblpknkgjkbacaaGreatDoorQ26
namespace Go.Proofs.YtblpknkgjkbacaaGreatDoor
set_option linter.unusedVariables false
open Go.RowKit Go.Maps Go.WideMaps
variable {w w' : World} {C Bd Bs Bl kd : Nat} {cells : Int} {Dd : Table} {Xd : ByteArray → Int}
theorem stepsR_drop {d : Nat} {X S : ByteArray → Bool} {n : Int} {l : List StepD} {k : Nat} {s : StepD} (h : l[k]? = some s) : stepsR Dd Xd d X n S (l.drop k) = if (stepR Dd Xd d X n S s).1 = 0 then stepsR Dd Xd d X (stepR Dd Xd d X n S s).2.1 (stepR Dd Xd d X n S s).2.2 (l.drop (k + 1)) else stepR Dd Xd d X n S s := by
  obtain ⟨hk, rfl⟩ := List.getElem?_eq_some_iff.1 h
  rw [List.drop_eq_getElem_cons hk]
  rw [stepsR]
mutual
theorem stepR_le : ∀ (s : StepD) (d : Nat) (X S : ByteArray → Bool) (n : Int), (stepR Dd Xd d X n S s).1 = 0 → (stepR Dd Xd d X n S s).2.1 ≤ 200000
  | .mk kind name low high conds body arr subs x, d, X, S, n, h => by
    rw [stepR_eq] at h ⊢
    by_cases h1 : 12 < d ∨ 200000 < n + 1
    · rw [if_pos h1] at h; simp at h
    rw [if_neg h1] at h ⊢
    by_cases h2 : kind < 1 ∨ 3 < kind
    · rw [if_pos h2] at h; simp at h
    rw [if_neg h2] at h ⊢
    by_cases h3 : stepMore kind name low.length high.length conds.length body.length arr subs.length x = true
    · rw [if_pos h3] at h; simp at h
    rw [if_neg h3] at h ⊢
    by_cases h4 : kind ≠ 2 ∧ nameB name = false
    · rw [if_pos h4] at h; simp at h
    rw [if_neg h4] at h ⊢
    have hn : n + 1 ≤ 200000 := by omega
    by_cases h5 : kind = 1
    · rw [if_pos h5] at h ⊢
      unfold loopR at h ⊢
      by_cases g1 : has Dd (strL name) = true ∨ X name = true
      · rw [if_pos g1] at h; simp at h
      rw [if_neg g1] at h ⊢
      by_cases g2 : low.length = 0 ∨ high.length = 0
      · rw [if_pos g2] at h; simp at h
      rw [if_neg g2] at h ⊢
      by_cases g3 : 6 < low.length ∨ 6 < high.length
      · rw [if_pos g3] at h; simp at h
      rw [if_neg g3] at h ⊢
      by_cases g4 : firstE (low.map (boundE X)) ≠ 0
      · rw [if_pos g4] at h; exact absurd h g4
      rw [if_neg g4] at h ⊢
      by_cases g5 : firstE (high.map (boundE X)) ≠ 0
      · rw [if_pos g5] at h; exact absurd h g5
      rw [if_neg g5] at h ⊢
      exact stepsR_le body _ _ _ _ hn h
    rw [if_neg h5] at h ⊢
    by_cases h6 : kind = 2
    · rw [if_pos h6] at h ⊢
      unfold condR at h ⊢
      by_cases g1 : conds.length = 0
      · rw [if_pos g1] at h; simp at h
      rw [if_neg g1] at h ⊢
      by_cases g2 : 6 < conds.length
      · rw [if_pos g2] at h; simp at h
      rw [if_neg g2] at h ⊢
      by_cases g3 : firstE (conds.map fun f => inErr X f.1 f.2) ≠ 0
      · rw [if_pos g3] at h; exact absurd h g3
      rw [if_neg g3] at h ⊢
      exact stepsR_le body _ _ _ _ hn h
    rw [if_neg h6] at h ⊢
    unfold stmtR at h ⊢
    by_cases g1 : S name = true
    · rw [if_pos g1] at h; simp at h
    rw [if_neg g1] at h ⊢
    by_cases g2 : placeE Dd Xd X arr subs ≠ 0
    · rw [if_pos g2] at h; exact absurd h g2
    rw [if_neg g2] at h ⊢
    exact hn
theorem stepsR_le : ∀ (l : List StepD) (d : Nat) (X S : ByteArray → Bool) (n : Int), n ≤ 200000 → (stepsR Dd Xd d X n S l).1 = 0 → (stepsR Dd Xd d X n S l).2.1 ≤ 200000
  | [], d, X, S, n, hn, h => by rw [stepsR]; exact hn
  | s :: r, d, X, S, n, hn, h => by
    rw [stepsR] at h ⊢
    by_cases h1 : (stepR Dd Xd d X n S s).1 = 0
    · rw [if_pos h1] at h ⊢
      exact stepsR_le r _ _ _ _ (stepR_le s _ _ _ _ h1) h
    · rw [if_neg h1] at h
      exact absurd h h1
end
set_option maxRecDepth 100000 in
set_option maxHeartbeats 8000000 in
theorem stepFn_any (s : StepD) (hs : StepGood C Bd Bs Bl kd cells Dd Xd s) (X S : ByteArray → Bool) (steps : Int) (d P Q : Nat) (w : World) (vs : List Value) (hP : w.heap[P]? = some (.cells #[.pointer (some ⟨C, 0, none⟩)] 132 (0, 0))) (hQ : w.heap[Q]? = some (.cells #[.int .i64 d] 3 (0, 0))) (hE : EnvS C Bd Bs Bl kd cells Dd X S steps w) (hn : steps ≤ 200000) (hd : d ≤ 13) (hF : StepF w vs s) :
    Calls Tryz.prog 110 #[.agg vs.toArray, .pointer (some ⟨P, 0, none⟩), .pointer (some ⟨Q, 0, none⟩)] w (Checks C Bd Bs Bl kd cells Dd X (stepR Dd Xd d X steps S s) w) := by
  obtain ⟨kind, name, low, high, conds, body, arr, subs, x⟩ := s
  have hF0 := hF
  unfold StepF at hF0
  obtain ⟨vlo, vhi, vcs, p5, k5, vsb, e0, e1, e2, e3, e4, e5, e6, rfl, hkr, hns, hlo, hhi, hcs, hars, hsb, hx, hbl, hbd⟩ := hF0
  obtain ⟨p2, k2, rfl, l2, -⟩ := hlo
  obtain ⟨p3, k3, rfl, l3, -⟩ := hhi
  obtain ⟨p4, k4, rfl, -, -⟩ := hcs
  obtain ⟨p7, k7, rfl, -, -⟩ := hsb
  obtain ⟨op, n, c, ts, xa, xs, args⟩ := x
  unfold ExprF at hx
  obtain ⟨⟨rfl, -⟩, ⟨rfl, -⟩, ⟨rfl, -⟩, ⟨p11, k11, rfl, -⟩, ⟨rfl, -⟩, ⟨p13, k13, rfl, -⟩, p14, k14, rfl, -⟩ := hx
  have HF := Lib.hid hF
  clear hF hbd
  have HE := Lib.hid hE
  have HS := Lib.hid hs
  clear hE hs
  go_enter Tryz.func110, Tryz.ntmps110
  have hg := World.grownBy_alloc w (.cells #[.int .i64 kind, .string name, .slice p2 low.length k2, .slice p3 high.length k3, .slice p4 conds.length k4, .slice p5 body.length k5, .string arr, .slice p7 subs.length k7, .int .i64 op, .int .i64 n, .int .i64 c, .slice p11 ts.length k11, .string xa, .slice p13 xs.length k13, .slice p14 args.length k14] 96) none
  obtain ⟨⟨x0, x1, x2, x3, x4, x5, x6, x7, x8, x9, x10, x11, x12, x13, x14⟩, xf⟩ := box15_cells (heap_alloc_new w (.cells #[.int .i64 kind, .string name, .slice p2 low.length k2, .slice p3 high.length k3, .slice p4 conds.length k4, .slice p5 body.length k5, .string arr, .slice p7 subs.length k7, .int .i64 op, .int .i64 n, .int .i64 c, .slice p11 ts.length k11, .string xa, .slice p13 xs.length k13, .slice p14 args.length k14] 96))
  have p0 := box1_cell (heap_keep hP hg (by simp))
  have q0 := box1_cell (heap_keep hQ hg (by simp))
  have HG := Lib.hid hg
  clear hg
  go_wp2_with (go_at_call 111; go_must (refine (HS.out d X S steps _ _ (HE.out.kept HG.out) hn hd (stepF_safe (Safe.of_grown HG.out) _ _ HF.out)).mono ?_; rintro e w1 ⟨rfl, hb1, he1⟩; have B1 := Lib.hid hb1; have E1 := Lib.hid he1; clear hb1 he1))
  go_ret
  exact ⟨rfl, (But.of_grown HG.out).trans B1.out, E1.out⟩
set_option maxRecDepth 100000 in
set_option maxHeartbeats 8000000 in
theorem chkSteps_any (l : List StepD) (hg : ∀ s ∈ l, StepGood C Bd Bs Bl kd cells Dd Xd s) (X S : ByteArray → Bool) (steps : Int) (d P Q : Nat) (p : Option Addr) (cap : Nat) (w : World) (hP : w.heap[P]? = some (.cells #[.pointer (some ⟨C, 0, none⟩)] 132 (0, 0))) (hQ : w.heap[Q]? = some (.cells #[.int .i64 d] 3 (0, 0))) (hPn : P ≠ C ∧ P ≠ Bs ∧ P ≠ Bl) (hQn : Q ≠ C ∧ Q ≠ Bs ∧ Q ≠ Bl) (hE : EnvS C Bd Bs Bl kd cells Dd X S steps w) (hn : steps ≤ 200000) (hd : d ≤ 13) (hl : l.length ≤ 1000000) (hL : StepL w p 0 l) :
    Calls Tryz.prog 109 #[.slice p l.length cap, .func (.func 110) #[] #[.pointer (some ⟨P, 0, none⟩), .pointer (some ⟨Q, 0, none⟩)]] w (Checks C Bd Bs Bl kd cells Dd X (stepsR Dd Xd d X steps S l) w) := by
  have HP := Lib.hid hP
  have HQ := Lib.hid hQ
  have HE := Lib.hid hE
  have HL := Lib.hid hL
  have HX := Lib.hid hg
  have hlen : (l.length : Int) ≤ 9223372036854775807 := by omega
  clear hP hQ hE hL hg
  generalize hEq : stepsR Dd Xd d X steps S l = R
  go_enter Tryz.func109, Tryz.ntmps109
  go_wp2
  go_loopw [10] (fun i wr => ∃ k : Nat, ∃ m : Int, ∃ T : ByteArray → Bool, k ≤ l.length ∧ i = .int .i64 k ∧ m ≤ 200000 ∧ Hid (But C Bs Bl w wr) ∧ Hid (EnvS C Bd Bs Bl kd cells Dd X T m wr) ∧ Hid (stepsR Dd Xd d X m T (l.drop k) = R)) (fun i _ => l.length - (intOf i).toNat)
  case atStart => exact ⟨0, steps, S, Nat.zero_le _, rfl, hn, But.refl _, HE.out, hEq⟩
  case round =>
    obtain ⟨k, m, T, hk, rfl, hm, HBu, HEr, HR⟩ := hrel
    by_cases hlt : k < l.length
    · have h0 := List.getElem?_eq_getElem hlt
      obtain ⟨b, off, vs, hp, hrow, hF⟩ := stepL_at (stepL_safe (HE.out.safe HBu.out) _ _ _ HL.out) h0
      have HD := Lib.hid (stepsR_drop (Dd := Dd) (Xd := Xd) (d := d) (X := X) (S := T) (n := m) h0)
      have HGs := Lib.hid (HX.out _ (List.getElem_mem hlt))
      have HLe := Lib.hid (stepR_le (Dd := Dd) (Xd := Xd) l[k] d X T m)
      have HPr := Lib.hid (HBu.out.keep HP.out hPn.1 hPn.2.1 hPn.2.2)
      have HQr := Lib.hid (HBu.out.keep HQ.out hQn.1 hQn.2.1 hQn.2.2)
      generalize l[k] = s at *
      subst hp
      rw [Nat.zero_add] at hrow
      have hkI : (k : Int) < (l.length : Int) := by omega
      obtain ⟨kind, name, low, high, conds, body, arr, subs, x⟩ := s
      have hF0 := hF
      unfold StepF at hF0
      obtain ⟨vlo, vhi, vcs, p5, k5, vsb, e0, e1, e2, e3, e4, e5, e6, rfl, hkr, hns, hlo, hhi, hcs, hars, hsb, hx, hbl, hbd⟩ := hF0
      obtain ⟨p2, k2, rfl, l2, -⟩ := hlo
      obtain ⟨p3, k3, rfl, l3, -⟩ := hhi
      obtain ⟨p4, k4, rfl, -, -⟩ := hcs
      obtain ⟨p7, k7, rfl, -, -⟩ := hsb
      obtain ⟨op, n, c, ts, xa, xs, args⟩ := x
      unfold ExprF at hx
      obtain ⟨⟨rfl, -⟩, ⟨rfl, -⟩, ⟨rfl, -⟩, ⟨p11, k11, rfl, -⟩, ⟨rfl, -⟩, ⟨p13, k13, rfl, -⟩, p14, k14, rfl, -⟩ := hx
      have HF := Lib.hid hF
      clear hF hbd
      have y0 := hrow 0 _ rfl
      have y1 := hrow 1 _ rfl
      have y2 := hrow 2 _ rfl
      have y3 := hrow 3 _ rfl
      have y4 := hrow 4 _ rfl
      have y5 := hrow 5 _ rfl
      have y6 := hrow 6 _ rfl
      have y7 := hrow 7 _ rfl
      have y8 := hrow 8 _ rfl
      have y9 := hrow 9 _ rfl
      have y10 := hrow 10 _ rfl
      have y11 := hrow 11 _ rfl
      have y12 := hrow 12 _ rfl
      have y13 := hrow 13 _ rfl
      have y14 := hrow 14 _ rfl
      rw [Nat.add_zero] at y0
      have HGa := Lib.hid (World.grownBy_alloc wr (.cells #[.int .i64 kind, .string name, .slice p2 low.length k2, .slice p3 high.length k3, .slice p4 conds.length k4, .slice p5 body.length k5, .string arr, .slice p7 subs.length k7, .int .i64 op, .int .i64 n, .int .i64 c, .slice p11 ts.length k11, .string xa, .slice p13 xs.length k13, .slice p14 args.length k14] 96) none)
      obtain ⟨⟨x0, x1, x2, x3, x4, x5, x6, x7, x8, x9, x10, x11, x12, x13, x14⟩, xf⟩ := box15_cells (heap_alloc_new wr (.cells #[.int .i64 kind, .string name, .slice p2 low.length k2, .slice p3 high.length k3, .slice p4 conds.length k4, .slice p5 body.length k5, .string arr, .slice p7 subs.length k7, .int .i64 op, .int .i64 n, .int .i64 c, .slice p11 ts.length k11, .string xa, .slice p13 xs.length k13, .slice p14 args.length k14] 96))
      clear h0 hrow
      go_wp2_with (go_at_call 110; go_must (refine (stepFn_any _ HGs.out X T m d P Q _ _ (heap_keep HPr.out HGa.out (by simp)) (heap_keep HQr.out HGa.out (by simp)) (HEr.out.kept HGa.out) hm hd (stepF_safe (Safe.of_grown HGa.out) _ _ HF.out)).mono ?_; rintro e w2 ⟨rfl, hb2, he2⟩; have B2 := Lib.hid (HBu.out.trans ((But.of_grown HGa.out).trans hb2)); have E2 := Lib.hid he2; clear hb2 he2))
      · rename_i hne
        have hne' : ¬ (stepR Dd Xd d X m T (.mk kind name low high conds body arr subs (.mk op n c ts xa xs args))).1 = 0 := by simpa using hne
        have h6 := HD.out
        rw [if_neg hne', HR.out] at h6
        go_ret
        exact ⟨by rw [h6]; rfl, B2.out, by rw [h6]; exact E2.out⟩
      · rename_i heq
        have heq' : (stepR Dd Xd d X m T (.mk kind name low high conds body arr subs (.mk op n c ts xa xs args))).1 = 0 := by simpa using heq
        have h6 := HD.out
        rw [if_pos heq', HR.out] at h6
        have hle := HLe.out heq'
        refine ⟨⟨k + 1, _, _, by omega, by go_num, hle, B2.out, E2.out, h6.symm⟩, by simp [intOf]; omega⟩
    · obtain rfl : k = l.length := by omega
      have h2 := HR.out
      rw [List.drop_eq_nil_of_le (by simp), stepsR] at h2
      go_wp2
      go_ret
      exact ⟨by rw [← h2]; rfl, HBu.out, by rw [← h2]; exact HEr.out⟩
set_option maxRecDepth 100000 in
set_option maxHeartbeats 8000000 in
theorem body_of (l : List StepD) (hg : ∀ s ∈ l, StepGood C Bd Bs Bl kd cells Dd Xd s) : BodyGood C Bd Bs Bl kd cells Dd Xd l := by
  intro d X S steps w p cap hE hn hd hl hL
  have hap := hE.apart
  have hCw : C < w.heap.size := (Array.getElem?_eq_some_iff.1 hE.chk).1
  have hsB : Bs < w.heap.size := by
    obtain ⟨k, D, h1, _⟩ := hE.sts
    exact World.ownsMap.lt h1
  have hsL : Bl < w.heap.size := by
    obtain ⟨k, D, h1, _⟩ := hE.loops
    exact World.ownsMap.lt h1
  have HE := Lib.hid hE
  have HL := Lib.hid hL
  have HX := Lib.hid hg
  clear hE hL hg
  go_enter Tryz.func83, Tryz.ntmps83
  go_upto_region 1 with fail
  have g1 := World.grownBy_alloc w (.cells #[.pointer (some ⟨C, 0, none⟩)] 132) none
  have g2 := World.grownBy_alloc (w.alloc (.cells #[.pointer (some ⟨C, 0, none⟩)] 132)) (.cells #[.int .i64 d] 3) none
  have hP := heap_keep (heap_alloc_new w (.cells #[.pointer (some ⟨C, 0, none⟩)] 132)) g2 (by simp)
  have hQ := heap_alloc_new (w.alloc (.cells #[.pointer (some ⟨C, 0, none⟩)] 132)) (.cells #[.int .i64 d] 3)
  simp only [World.size_alloc] at hQ
  have HG := Lib.hid (grownBy_trans g1 g2)
  generalize (w.alloc (.cells #[.pointer (some ⟨C, 0, none⟩)] 132)).alloc (.cells #[.int .i64 d] 3) = w2 at *
  have HP := Lib.hid hP
  have HQ := Lib.hid hQ
  clear g1 g2 hP hQ
  go_wp2_with (go_at_call 109; go_must (refine (chkSteps_any l HX.out X S steps d _ _ p cap _ HP.out HQ.out (by omega) (by omega) (HE.out.kept HG.out) hn hd hl (stepL_safe (Safe.of_grown HG.out) _ _ _ HL.out)).mono ?_; rintro e w3 ⟨rfl, hb3, he3⟩; have B3 := Lib.hid hb3; have E3 := Lib.hid he3; clear hb3 he3))
  go_ret
  exact ⟨rfl, (But.of_grown HG.out).trans B3.out, E3.out⟩
mutual
theorem stepGood (hXd : TabIs Dd Xd) : ∀ s : StepD, StepGood C Bd Bs Bl kd cells Dd Xd s
  | .mk kind name low high conds body arr subs x => chkStep_step hXd kind name low high conds body arr subs x (body_of body (stepsGood hXd body))
theorem stepsGood (hXd : TabIs Dd Xd) : ∀ l : List StepD, ∀ s ∈ l, StepGood C Bd Bs Bl kd cells Dd Xd s
  | [], s, h => by cases h
  | x :: r, s, h => by
    rcases List.mem_cons.1 h with e | h2
    · rw [e]
      exact stepGood hXd x
    · exact stepsGood hXd r s h2
end
theorem bodyGood (hXd : TabIs Dd Xd) (l : List StepD) : BodyGood C Bd Bs Bl kd cells Dd Xd l := body_of l (stepsGood hXd l)
end Go.Proofs.YtblpknkgjkbacaaGreatDoor
