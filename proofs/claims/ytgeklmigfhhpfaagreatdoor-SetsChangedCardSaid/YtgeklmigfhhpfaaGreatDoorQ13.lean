/-
 The library's contracts at this program, in plain words. slices.SortFunc at terms, by their names; the form of a stream's draws. wbmake.form: a form of a number and of terms. slices.Reverse at terms. The state of each's recursion. each's recursion: where a condition is not met; its step.
-/
import Derived.Shelf.SlGeneric
import Derived.Shelf.SlSortCmp.NoneTotal
import Derived.Shelf.Small.Strs
import Derived.Shelf.SlicesQ.Reverse
import Derived.Shelf.SlIter.Nil
import Derived.Shelf.SortM.Plain
import Derived.Shelf.SortM.SortNone
import Derived.Ground.SlsfProg
import Derived.Ground.NamesProg
import Derived.Ground.SlgnProg
import Derived.Ground.GgzProg
import Derived.Ground.SlgmProg
import Derived.Test.YtgeklmigfhhpfaaGreatDoorProg
import Derived.Deep.RegionLaw
import Derived.Deep.DeepMust
import Derived.IntWalk
import Derived.Test.YtgeklmigfhhpfaaGreatDoorQ08
import Derived.Test.YtgeklmigfhhpfaaGreatDoorQ09
import Derived.Test.YtgeklmigfhhpfaaGreatDoorQ12
namespace Go.Proofs
open Go.Shelf
def Tryz.sortTerms_ren : Go.Shelf.Ren := ⟨fun | 6 => 88 | 15 => 126 | 14 => 125 | 28 => 159 | 29 => 160 | 20 => 151 | 21 => 152 | 22 => 153 | 23 => 154 | 24 => 155 | 25 => 156 | 26 => 157 | 27 => 158 | 46 => 174 | 47 => 175 | 48 => 176 | 49 => 177 | 50 => 178 | 57 => 194 | n => n, fun | 22 => 33 | 24 => 65 | 25 => 136 | 3 => 3 | 39 => 127 | 0 => 0 | 53 => 160 | 55 => 163 | 4 => 4 | 46 => 184 | 45 => 183 | 50 => 111 | 5 => 5 | 9 => 9 | 66 => 205 | 70 => 209 | 76 => 219 | 77 => 220 | n => n, fun | n => n⟩
theorem Tryz.sortTerms : Go.Proofs.SlLaysF0.n6 Tryz.prog Tryz.sortTerms_ren := {
 mixed := by kernel_rfl
 f6 := ⟨Tryz.f88.name, by decide, Tryz.func88.trans (congrArg some (by kernel_rfl))⟩
 f14 := ⟨Tryz.f125.name, by decide, Tryz.func125.trans (congrArg some (by kernel_rfl))⟩
 f15 := Tryz.func126.trans (congrArg some (by kernel_rfl))
 f20 := ⟨Tryz.f151.name, by decide, Tryz.func151.trans (congrArg some (by kernel_rfl))⟩
 f21 := ⟨Tryz.f152.name, by decide, Tryz.func152.trans (congrArg some (by kernel_rfl))⟩
 f22 := ⟨Tryz.f153.name, by decide, Tryz.func153.trans (congrArg some (by kernel_rfl))⟩
 f23 := ⟨Tryz.f154.name, by decide, Tryz.func154.trans (congrArg some (by kernel_rfl))⟩
 f24 := ⟨Tryz.f155.name, by decide, Tryz.func155.trans (congrArg some (by kernel_rfl))⟩
 f25 := ⟨Tryz.f156.name, by decide, Tryz.func156.trans (congrArg some (by kernel_rfl))⟩
 f26 := ⟨Tryz.f157.name, by decide, Tryz.func157.trans (congrArg some (by kernel_rfl))⟩
 f27 := ⟨Tryz.f158.name, by decide, Tryz.func158.trans (congrArg some (by kernel_rfl))⟩
 f28 := Tryz.func159.trans (congrArg some (by kernel_rfl))
 f29 := Tryz.func160.trans (congrArg some (by kernel_rfl))
 f46 := ⟨Tryz.f174.name, by decide, Tryz.func174.trans (congrArg some (by kernel_rfl))⟩
 f47 := Tryz.func175.trans (congrArg some (by kernel_rfl))
 f48 := Tryz.func176.trans (congrArg some (by kernel_rfl))
 f49 := ⟨Tryz.f177.name, by decide, Tryz.func177.trans (congrArg some (by kernel_rfl))⟩
 f50 := ⟨Tryz.f178.name, by decide, Tryz.func178.trans (congrArg some (by kernel_rfl))⟩
 f57 := ⟨Tryz.f194.name, by decide, Tryz.func194.trans (congrArg some (by kernel_rfl))⟩
 t0 := Tryz.underlying0
 a0 := Tryz.isAgg0
 z0 := Tryz.sizeOf0
 v0 := Tryz.zeroValue0
 t3 := Tryz.underlying3
 a3 := Tryz.isAgg3
 z3 := Tryz.sizeOf3
 v3 := Tryz.zeroValue3
 t4 := Tryz.underlying4
 a4 := Tryz.isAgg4
 z4 := Tryz.sizeOf4
 v4 := Tryz.zeroValue4
 t5 := Tryz.underlying5
 a5 := Tryz.isAgg5
 z5 := Tryz.sizeOf5
 v5 := Tryz.zeroValue5
 t9 := Tryz.underlying9
 a9 := Tryz.isAgg9
 z9 := Tryz.sizeOf9
 v9 := Tryz.zeroValue9
 t22 := Tryz.underlying33
 a22 := Tryz.isAgg33
 z22 := Tryz.sizeOf33
 v22 := Tryz.zeroValue33
 t25 := Tryz.underlying136
 a25 := Tryz.isAgg136
 z25 := Tryz.sizeOf136
 v25 := Tryz.zeroValue136
 t39 := Tryz.underlying127
 a39 := Tryz.isAgg127
 z39 := Tryz.sizeOf127
 v39 := Tryz.zeroValue127
 t45 := Tryz.underlying183
 a45 := Tryz.isAgg183
 z45 := Tryz.sizeOf183
 v45 := Tryz.zeroValue183
 t46 := Tryz.underlying184
 a46 := Tryz.isAgg184
 z46 := Tryz.sizeOf184
 v46 := Tryz.zeroValue184
 t50 := Tryz.underlying111
 a50 := Tryz.isAgg111
 z50 := Tryz.sizeOf111
 v50 := Tryz.zeroValue111
 t53 := Tryz.underlying160
 a53 := Tryz.isAgg160
 z53 := Tryz.sizeOf160
 v53 := Tryz.zeroValue160
 t55 := Tryz.underlying163
 a55 := Tryz.isAgg163
 z55 := Tryz.sizeOf163
 v55 := Tryz.zeroValue163
 t66 := Tryz.underlying205
 a66 := Tryz.isAgg205
 z66 := Tryz.sizeOf205
 v66 := Tryz.zeroValue205
 t70 := Tryz.underlying209
 a70 := Tryz.isAgg209
 z70 := Tryz.sizeOf209
 v70 := Tryz.zeroValue209
 t76 := Tryz.underlying219
 a76 := Tryz.isAgg219
 z76 := Tryz.sizeOf219
 v76 := Tryz.zeroValue219
 t77 := Tryz.underlying220
 a77 := Tryz.isAgg220
 z77 := Tryz.sizeOf220
 v77 := Tryz.zeroValue220 }
def Tryz.strCmp_ren : Go.Shelf.Ren := ⟨fun | 106 => 90 | 213 => 127 | 265 => 161 | n => n, fun | 9 => 9 | 3 => 3 | n => n, fun | n => n⟩
theorem Tryz.strCmp : Go.Proofs.Lays.n106 Tryz.prog Tryz.strCmp_ren := {
 mixed := by kernel_rfl
 f106 := Tryz.func90.trans (congrArg some (by kernel_rfl))
 f213 := Tryz.func127.trans (congrArg some (by kernel_rfl))
 f265 := Tryz.func161.trans (congrArg some (by kernel_rfl))
 t3 := Tryz.underlying3
 a3 := Tryz.isAgg3
 z3 := Tryz.sizeOf3
 v3 := Tryz.zeroValue3
 t9 := Tryz.underlying9
 a9 := Tryz.isAgg9
 z9 := Tryz.sizeOf9
 v9 := Tryz.zeroValue9 }
def Tryz.reverseTerms_ren : Go.Shelf.Ren := ⟨fun | 35 => 38 | n => n, fun | 22 => 33 | 23 => 65 | 3 => 3 | 4 => 4 | 0 => 0 | n => n, fun | n => n⟩
theorem Tryz.reverseTerms : Go.Proofs.SlLaysE0.n35 Tryz.prog Tryz.reverseTerms_ren := {
 mixed := by kernel_rfl
 f35 := ⟨Tryz.f38.name, by decide, Tryz.func38.trans (congrArg some (by kernel_rfl))⟩
 t0 := Tryz.underlying0
 a0 := Tryz.isAgg0
 z0 := Tryz.sizeOf0
 v0 := Tryz.zeroValue0
 t3 := Tryz.underlying3
 a3 := Tryz.isAgg3
 z3 := Tryz.sizeOf3
 v3 := Tryz.zeroValue3
 t4 := Tryz.underlying4
 a4 := Tryz.isAgg4
 z4 := Tryz.sizeOf4
 v4 := Tryz.zeroValue4
 t22 := Tryz.underlying33
 a22 := Tryz.isAgg33
 z22 := Tryz.sizeOf33
 v22 := Tryz.zeroValue33 }
def Tryz.keysPoly_ren : Go.Shelf.Ren := ⟨fun | 7 => 113 | 10 => 143 | n => n, fun | 23 => 110 | 26 => 9 | 3 => 3 | 28 => 153 | 0 => 0 | 27 => 152 | 33 => 75 | 4 => 4 | n => n, fun | n => n⟩
theorem Tryz.keysPoly : Go.Proofs.SlLaysZ.n7 Tryz.prog Tryz.keysPoly_ren := {
 mixed := by kernel_rfl
 f7 := ⟨Tryz.f113.name, by decide, Tryz.func113.trans (congrArg some (by kernel_rfl))⟩
 f10 := ⟨Tryz.f143.name, by decide, Tryz.func143.trans (congrArg some (by kernel_rfl))⟩
 t0 := Tryz.underlying0
 a0 := Tryz.isAgg0
 z0 := Tryz.sizeOf0
 v0 := Tryz.zeroValue0
 t4 := Tryz.underlying4
 a4 := Tryz.isAgg4
 z4 := Tryz.sizeOf4
 v4 := Tryz.zeroValue4
 t23 := Tryz.underlying110
 a23 := Tryz.isAgg110
 z23 := Tryz.sizeOf110
 v23 := Tryz.zeroValue110
 t26 := Tryz.underlying9
 a26 := Tryz.isAgg9
 z26 := Tryz.sizeOf9
 v26 := Tryz.zeroValue9
 t27 := Tryz.underlying152
 a27 := Tryz.isAgg152
 z27 := Tryz.sizeOf152
 v27 := Tryz.zeroValue152
 t28 := Tryz.underlying153
 a28 := Tryz.isAgg153
 z28 := Tryz.sizeOf153
 v28 := Tryz.zeroValue153
 t33 := Tryz.underlying75
 a33 := Tryz.isAgg75
 z33 := Tryz.sizeOf75
 v33 := Tryz.zeroValue75 }
def Tryz.sortedStr_ren : Go.Shelf.Ren := ⟨fun | 6 => 112 | 8 => 141 | 9 => 142 | 11 => 166 | 13 => 126 | 12 => 167 | 23 => 159 | 24 => 160 | 14 => 181 | 15 => 182 | 16 => 183 | 17 => 184 | 18 => 185 | 19 => 186 | 20 => 187 | 21 => 188 | 22 => 189 | 25 => 195 | 26 => 175 | 27 => 176 | 28 => 196 | 29 => 197 | 30 => 198 | 31 => 202 | n => n, fun | 26 => 9 | 28 => 153 | 24 => 54 | 0 => 0 | 3 => 3 | 37 => 127 | 48 => 160 | 50 => 163 | 4 => 4 | 40 => 184 | 39 => 183 | 45 => 111 | 5 => 5 | 9 => 9 | 51 => 205 | 55 => 209 | 57 => 219 | 58 => 220 | 33 => 75 | n => n, fun | n => n⟩
theorem Tryz.sortedStr : Go.Proofs.SlLaysZ.n6 Tryz.prog Tryz.sortedStr_ren := {
 mixed := by kernel_rfl
 f6 := ⟨Tryz.f112.name, by decide, Tryz.func112.trans (congrArg some (by kernel_rfl))⟩
 f8 := ⟨Tryz.f141.name, by decide, Tryz.func141.trans (congrArg some (by kernel_rfl))⟩
 f11 := ⟨Tryz.f166.name, by decide, Tryz.func166.trans (congrArg some (by kernel_rfl))⟩
 t0 := Tryz.underlying0
 a0 := Tryz.isAgg0
 z0 := Tryz.sizeOf0
 v0 := Tryz.zeroValue0
 t24 := Tryz.underlying54
 a24 := Tryz.isAgg54
 z24 := Tryz.sizeOf54
 v24 := Tryz.zeroValue54
 t26 := Tryz.underlying9
 a26 := Tryz.isAgg9
 z26 := Tryz.sizeOf9
 v26 := Tryz.zeroValue9
 t28 := Tryz.underlying153
 a28 := Tryz.isAgg153
 z28 := Tryz.sizeOf153
 v28 := Tryz.zeroValue153
 i26 := by kernel_rfl }
def Tryz.sortStr_ren : Go.Shelf.Ren := ⟨fun | 6 => 142 | 8 => 126 | 9 => 167 | 19 => 159 | 20 => 160 | 21 => 181 | 22 => 182 | 23 => 183 | 24 => 184 | 25 => 185 | 26 => 186 | 27 => 187 | 28 => 188 | 29 => 189 | 36 => 195 | 31 => 175 | 32 => 176 | 37 => 196 | 38 => 197 | 39 => 198 | 41 => 202 | n => n, fun | 27 => 54 | 29 => 9 | 3 => 3 | 32 => 127 | 26 => 54 | 0 => 0 | 44 => 160 | 46 => 163 | 4 => 4 | 36 => 184 | 35 => 183 | 41 => 111 | 5 => 5 | 9 => 9 | 53 => 205 | 57 => 209 | 63 => 219 | 64 => 220 | n => n, fun | n => n⟩
theorem Tryz.sortStr : Go.Proofs.SlLaysM.n6 Tryz.prog Tryz.sortStr_ren := {
 mixed := by kernel_rfl
 f6 := ⟨Tryz.f142.name, by decide, Tryz.func142.trans (congrArg some (by kernel_rfl))⟩
 f8 := Tryz.func126.trans (congrArg some (by kernel_rfl))
 f9 := ⟨Tryz.f167.name, by decide, Tryz.func167.trans (congrArg some (by kernel_rfl))⟩
 f19 := Tryz.func159.trans (congrArg some (by kernel_rfl))
 f20 := Tryz.func160.trans (congrArg some (by kernel_rfl))
 f21 := ⟨Tryz.f181.name, by decide, Tryz.func181.trans (congrArg some (by kernel_rfl))⟩
 f22 := ⟨Tryz.f182.name, by decide, Tryz.func182.trans (congrArg some (by kernel_rfl))⟩
 f23 := ⟨Tryz.f183.name, by decide, Tryz.func183.trans (congrArg some (by kernel_rfl))⟩
 f24 := ⟨Tryz.f184.name, by decide, Tryz.func184.trans (congrArg some (by kernel_rfl))⟩
 f25 := ⟨Tryz.f185.name, by decide, Tryz.func185.trans (congrArg some (by kernel_rfl))⟩
 f26 := ⟨Tryz.f186.name, by decide, Tryz.func186.trans (congrArg some (by kernel_rfl))⟩
 f27 := ⟨Tryz.f187.name, by decide, Tryz.func187.trans (congrArg some (by kernel_rfl))⟩
 f28 := ⟨Tryz.f188.name, by decide, Tryz.func188.trans (congrArg some (by kernel_rfl))⟩
 f29 := ⟨Tryz.f189.name, by decide, Tryz.func189.trans (congrArg some (by kernel_rfl))⟩
 f31 := Tryz.func175.trans (congrArg some (by kernel_rfl))
 f32 := Tryz.func176.trans (congrArg some (by kernel_rfl))
 f36 := ⟨Tryz.f195.name, by decide, Tryz.func195.trans (congrArg some (by kernel_rfl))⟩
 f37 := ⟨Tryz.f196.name, by decide, Tryz.func196.trans (congrArg some (by kernel_rfl))⟩
 f38 := ⟨Tryz.f197.name, by decide, Tryz.func197.trans (congrArg some (by kernel_rfl))⟩
 f39 := ⟨Tryz.f198.name, by decide, Tryz.func198.trans (congrArg some (by kernel_rfl))⟩
 f41 := ⟨Tryz.f202.name, by decide, Tryz.func202.trans (congrArg some (by kernel_rfl))⟩
 t0 := Tryz.underlying0
 a0 := Tryz.isAgg0
 z0 := Tryz.sizeOf0
 v0 := Tryz.zeroValue0
 t3 := Tryz.underlying3
 a3 := Tryz.isAgg3
 z3 := Tryz.sizeOf3
 v3 := Tryz.zeroValue3
 t4 := Tryz.underlying4
 a4 := Tryz.isAgg4
 z4 := Tryz.sizeOf4
 v4 := Tryz.zeroValue4
 t5 := Tryz.underlying5
 a5 := Tryz.isAgg5
 z5 := Tryz.sizeOf5
 v5 := Tryz.zeroValue5
 t9 := Tryz.underlying9
 a9 := Tryz.isAgg9
 z9 := Tryz.sizeOf9
 v9 := Tryz.zeroValue9
 t26 := Tryz.underlying54
 a26 := Tryz.isAgg54
 z26 := Tryz.sizeOf54
 v26 := Tryz.zeroValue54
 t27 := Tryz.underlying54
 a27 := Tryz.isAgg54
 z27 := Tryz.sizeOf54
 v27 := Tryz.zeroValue54
 t29 := Tryz.underlying9
 a29 := Tryz.isAgg9
 z29 := Tryz.sizeOf9
 v29 := Tryz.zeroValue9
 t32 := Tryz.underlying127
 a32 := Tryz.isAgg127
 z32 := Tryz.sizeOf127
 v32 := Tryz.zeroValue127
 t35 := Tryz.underlying183
 a35 := Tryz.isAgg183
 z35 := Tryz.sizeOf183
 v35 := Tryz.zeroValue183
 t36 := Tryz.underlying184
 a36 := Tryz.isAgg184
 z36 := Tryz.sizeOf184
 v36 := Tryz.zeroValue184
 t41 := Tryz.underlying111
 a41 := Tryz.isAgg111
 z41 := Tryz.sizeOf111
 v41 := Tryz.zeroValue111
 t44 := Tryz.underlying160
 a44 := Tryz.isAgg160
 z44 := Tryz.sizeOf160
 v44 := Tryz.zeroValue160
 t46 := Tryz.underlying163
 a46 := Tryz.isAgg163
 z46 := Tryz.sizeOf163
 v46 := Tryz.zeroValue163
 t53 := Tryz.underlying205
 a53 := Tryz.isAgg205
 z53 := Tryz.sizeOf205
 v53 := Tryz.zeroValue205
 t57 := Tryz.underlying209
 a57 := Tryz.isAgg209
 z57 := Tryz.sizeOf209
 v57 := Tryz.zeroValue209
 t63 := Tryz.underlying219
 a63 := Tryz.isAgg219
 z63 := Tryz.sizeOf219
 v63 := Tryz.zeroValue219
 t64 := Tryz.underlying220
 a64 := Tryz.isAgg220
 z64 := Tryz.sizeOf220
 v64 := Tryz.zeroValue220 }
end Go.Proofs
namespace Go.Proofs.YtgeklmigfhhpfaaGreatDoor
open Go.RowKit Go.Sort
def cmpT (x y : TermD) : Int := Lib.compareBytes x.1.data.toList y.1.data.toList
theorem cmpT_swo : SWO (ltOf cmpT) where
 irrefl x := by simp [ltOf, cmpT, cmpB_lex, cmpL_self]
 trans x y z h k := by
  simp only [ltOf, cmpT, cmpB_lex, decide_eq_true_eq] at *
  exact cmpL_trans _ _ _ h k
 ntrans x y z h k := by
  simp only [ltOf, cmpT, cmpB_lex, decide_eq_false_iff_not] at *
  exact cmpL_le_trans k h
set_option maxHeartbeats 1000000 in
theorem form2_any (x y : TermD) (W : World) : Calls Tryz.prog 89 #[.agg #[.string x.1, .int .i64 x.2], .agg #[.string y.1, .int .i64 y.2]] W fun e w' => e = .returned (.int .i64 (cmpT x y)) ∧ ∃ q os', w' = grow (W.drewN q) os' := by
 have hcon := fun W' => Any.strings_Compare Tryz.strCmp x.1 y.1 W'
 change ∀ W', Calls Tryz.prog 90 _ _ _ at hcon
 have e0 : Lib.compareBytes x.1.data.toList y.1.data.toList = cmpT x y := rfl
 rw [e0] at hcon
 generalize cmpT x y = r at hcon ⊢
 clear e0
 go_enter Tryz.func89, Tryz.ntmps89
 go_wp2_with (go_at_call 90; refine (hcon _).mono ?_; rintro e w' ⟨rfl, rfl⟩)
 go_ret
 exact ⟨rfl, 0, _, by rw [alloc_eq_grow, alloc_eq_grow, grow_grow]; rfl⟩
def SortedTerms (P g n cap : Nat) (ts : List TermD) (w : World) (e : Ending) (w' : World) : Prop :=
 e = .returned (.tuple #[]) ∧ ∃ us, us.length = ts.length ∧ (∀ t ∈ us, t ∈ ts) ∧ TermRow w' P (.slice (some ⟨g, 0, none⟩) n cap) us ∧ w.grownBy w' (some g)
theorem sortTerm_any (P g n cap : Nat) (ts : List TermD) (w : World) (hl : ts.length ≤ 1000) (h : TermRow w P (.slice (some ⟨g, 0, none⟩) n cap) ts) :
  Calls Tryz.prog 88 #[.slice (some ⟨g, 0, none⟩) n cap, .func (.func 89) #[] #[]] w (SortedTerms P g n cap ts w) := by
 obtain ⟨p, c, hv⟩ := own_form h
 cases hv
 have eg : ∀ args w, (callFunc 89 args).run Tryz.prog w = .ok (.enter 89 args) w := enters_of Tryz.func89 (by kernel_rfl) rfl
 have hd : ts.toArray.toList.flatMap termCells = ts.flatMap termCells := by simp
 have hH : HoldsK termCells 2 w g 0 ts.toArray := sorted_holds (enc := termCells) (k := 2) (d := ts.toArray) (n := ts.length) (cap := cap) (P := P) (e := 65) (fun _ => rfl) (by rw [hd]; exact h)
 obtain ⟨_, _, _, _, cur, hb, _⟩ := own_free h
 have hcon := AnyQ.slices_SortFunc Tryz.sortTerms 2 Tryz.isAgg65 Tryz.sizeOf65 termCells (fun _ => rfl) (fun x v hv => by simp [termCells] at hv; rcases hv with rfl | rfl <;> rfl) cmpT cmpT_swo 89 #[] g 0 cap ts.toArray w eg (fun _ _ _ _ x y => form2_any x y _) hH (Array.getElem?_eq_some_iff.1 hb).1 (by simp; omega)
 change Calls Tryz.prog 88 _ _ _ at hcon
 refine hcon.mono ?_
 rintro e w' ⟨rfl, d, m, os, ⟨p1, _, p2⟩, _, rfl⟩
 have hs : d.size = ts.length := by rw [p1]; simp
 have ex : d.extract 0 ts.toArray.size = d := by rw [← p1]; simp
 rw [ex] at p2
 have p3 : d.toList.Perm ts := by simpa using p2
 obtain ⟨s1, s2⟩ := sorted_own id h m (flatK termCells 2 d) os (by simp [hs])
 rw [flatK_list termCells 2 (fun _ => rfl), List.map_id] at s1
 exact ⟨rfl, d.toList, by simpa using hs, fun t ht => p3.mem_iff.1 ht, by unfold TermRow; rw [show d.toList.length = ts.length by simpa using hs]; exact s1, s2⟩
end Go.Proofs.YtgeklmigfhhpfaaGreatDoor
namespace Go.Proofs.YtgeklmigfhhpfaaGreatDoor
open Go.RowKit
attribute [local go_sem ↓] Go.wp_at_zero Go.wp_at_succ
theorem Tryz.infoFormD : (Tryz.prog.info? 35).map (·.size) = some 2 := by kernel_rfl
theorem two_stored {w : World} {R : Nat} {x y : Value} {T : TypeId} (hr : w.heap[R]? = some (.cells #[x, y] T (0, 0))) (a b : Value) :
  ((w.setCell ⟨R, 0, none⟩ a).setCell ⟨R, 1, none⟩ b).heap[R]? = some (.cells #[a, b] T (0, 0)) ∧ w.grownBy ((w.setCell ⟨R, 0, none⟩ a).setCell ⟨R, 1, none⟩ b) (some R) :=
 ⟨by simp [World.setCell, Array.getElem?_modify, hr], gT (gS _ _ _ _) (gS _ _ _ _)⟩
def FormOf (c : Int) (ts : List TermD) (w : World) (e : Ending) (w' : World) : Prop :=
 ∃ n cap us g, e = .returned (.agg #[.int .i64 c, .slice (some ⟨g, 0, none⟩) n cap]) ∧ us.length = n ∧ n ≤ ts.length ∧ TermRow w' w.heap.size (.slice (some ⟨g, 0, none⟩) n cap) us ∧ (∀ t ∈ us, t ∈ ts) ∧ w.grownBy w' none
theorem TermRow.other {w w' : World} {P : Nat} {v : Value} {ts : List TermD} {R : Nat} (h : TermRow w P v ts) (hg : w.grownBy w' (some R)) (hR : R < P) : TermRow w' P v ts := World.ownsRow.kept h hg (own_ne h hR)
set_option maxRecDepth 100000 in
set_option maxHeartbeats 2000000 in
theorem form_any (c : Int) (b off cap : Nat) (ts : List TermD) (w : World) (h1 : 0 < ts.length) (hl : ts.length ≤ 1000) (hc : ∀ j u, (ts.flatMap termCells)[j]? = some u → w.cell? ⟨b, off + j, none⟩ = some u) :
  Calls Tryz.prog 37 #[.int .i64 c, .slice (some ⟨b, off, none⟩) ts.length cap] w (FormOf c ts w) := by
 have HC := uH (fun W (hg : w.grownBy W none) => cloneTerm_any b off cap ts W hl (fun j u hj => hg.cell (hc j u hj) (by simp)))
 clear hc
 go_enter Tryz.func37, Tryz.ntmps37
 go_wp2_with (first
  | (go_at_call 86; go_must (refine (HC.out _ (gA w (.cells #[.int .i64 0, .slice none 0 0] 35) none)).mono ?_; rintro e w1 ⟨v, rfl, ho, hg⟩; obtain ⟨g, cap1, rfl, _, _⟩ := World.ownsRow.form ho h1; have HO := uH ho; have HG := uH hg; have HB := uH (kH (heap_alloc_new w (.cells #[.int .i64 0, .slice none 0 0] 35)) hg (by simp)); clear ho hg))
  | (go_at_call 85; go_must (refine (deleteTerm_any _ g _ cap1 ts w1 hl HO.out).mono ?_; rintro e w2 ⟨n, cap2, us, g2, rfl, hn, hle, hob, ho2, hm2, hg2⟩; cases hob; have HN := uH hn; have HO2 := uH ho2; have HM2 := uH hm2; have HG2 := uH hg2; clear hn ho2 hm2 hg2))
  | (go_at_call 88; go_must (refine (sortTerm_any _ g n cap2 us w2 (by rw [HN.out]; omega) HO2.out).mono ?_; rintro e w3 ⟨rfl, us3, hl3, hm3, ho3, hg3⟩; have HL3 := uH hl3; have HM3 := uH hm3; have HO3 := uH ho3; have hgb := ho3.free.2.2.2.1; have HB3 := uH (kH (kH HB.out HG2.out (by simp at hgb ⊢; omega)) hg3 (by simp at hgb ⊢; omega)); have HG3 := uH hg3; have r0 : w3.cell? ⟨w.heap.size, 0, none⟩ = some (.int .i64 0) := (by simp [World.cell?, HB3.out]); have r1 : w3.cell? ⟨w.heap.size, 1, none⟩ = some (.slice none 0 0) := (by simp [World.cell?, HB3.out]); have rf : ∀ k, w3.frozen? ⟨w.heap.size, k, none⟩ = false := (fun k => by simp [World.frozen?, HB3.out]); clear hl3 hm3 ho3 hg3)))
 obtain ⟨q1, q2⟩ := two_stored HB3.out (.int .i64 c) (.slice (some ⟨g, 0, none⟩) n cap2)
 refine bodyPost_ret (results_cell_row rfl _ _ w.heap.size _ _ _ _ rfl q1 Tryz.underlying35 rfl Tryz.infoFormD) rfl ⟨n, cap2, us3, g, rfl, HL3.out.trans HN.out, hle, ?_, fun t ht => HM2.out t (HM3.out t ht), ?_⟩
 · exact owns_lower (HO3.out.other q2 (by simp)) (by simp)
 · refine gO (gO (gO (gT (gA _ _ _) HG.out) HG2.out (fun k hk => by cases hk; simp at hgb; omega)) HG3.out (fun k hk => by cases hk; simp at hgb; omega)) q2 (fun k hk => by cases hk; exact Nat.le_refl _)
end Go.Proofs.YtgeklmigfhhpfaaGreatDoor
namespace Go.Proofs.YtgeklmigfhhpfaaGreatDoor
open Go.RowKit Go.Sort
theorem grow_none (w : World) : grow w #[] = w := by
 show { w with heap := w.heap ++ #[] } = w
 rw [Array.append_empty]
theorem reverseTerm_any (P g n cap : Nat) (ts : List TermD) (w : World) (hl : ts.length ≤ 1000) (h : TermRow w P (.slice (some ⟨g, 0, none⟩) n cap) ts) :
  Calls Tryz.prog 38 #[.slice (some ⟨g, 0, none⟩) n cap] w (SortedTerms P g n cap ts w) := by
 obtain ⟨p, c, hv⟩ := own_form h
 cases hv
 have hd : ts.toArray.toList.flatMap termCells = ts.flatMap termCells := by simp
 have hH : HoldsK termCells 2 w g 0 ts.toArray := sorted_holds (enc := termCells) (k := 2) (d := ts.toArray) (n := ts.length) (cap := cap) (P := P) (e := 65) (fun _ => rfl) (by rw [hd]; exact h)
 have hcon := AnyQ.slices_Reverse Tryz.reverseTerms 2 Tryz.isAgg65 Tryz.sizeOf65 termCells (fun _ => rfl) (fun x v hv => by simp [termCells] at hv; rcases hv with rfl | rfl <;> rfl) g 0 cap ts.toArray w hH (by simp; omega)
 change Calls Tryz.prog 38 _ _ _ at hcon
 refine hcon.mono ?_
 rintro e w' ⟨rfl, m, rfl⟩
 have s := sorted_own id h m (flatK termCells 2 ts.toArray.reverse) #[] (by simp)
 rw [flatK_list termCells 2 (fun _ => rfl), List.map_id, grow_none] at s
 refine ⟨rfl, ts.reverse, by simp, fun t ht => List.mem_reverse.1 ht, ?_, s.2⟩
 unfold TermRow
 rw [List.length_reverse]
 have e : ts.toArray.reverse.toList = ts.reverse := by simp
 rw [← e]
 exact s.1
end Go.Proofs.YtgeklmigfhhpfaaGreatDoor
namespace Go.Proofs.YtgeklmigfhhpfaaGreatDoor
open Go.RowKit
structure Framed (wE W : World) (V V2 : Nat) : Prop where
 os : W.os = wE.os
 tape : W.tape = wE.tape
 output : W.output = wE.output
 size : wE.heap.size ≤ W.heap.size
 block : ∀ k, k < wE.heap.size → ¬ (V ≤ k ∧ k < V2) → W.heap[k]? = wE.heap[k]?
variable {wE w W W' : World} {V V2 Bb n : Nat}
theorem Framed.refl (w : World) (V V2 : Nat) : Framed w w V V2 := ⟨rfl, rfl, rfl, Nat.le_refl _, fun _ _ _ => rfl⟩
theorem Framed.more {r : Option Nat} (h : Framed wE W V V2) (hg : W.grownBy W' r) (hr : ∀ k, r = some k → wE.heap.size ≤ k ∨ (V ≤ k ∧ k < V2)) : Framed wE W' V V2 := by
 refine ⟨hg.os.trans h.os, hg.tape.trans h.tape, hg.output.trans h.output, Nat.le_trans h.size hg.size, fun k hk hn => ?_⟩
 refine (hg.block k (Nat.lt_of_lt_of_le hk h.size) (fun e => ?_)).trans (h.block k hk hn)
 rcases hr k e.symm with h1 | h1
 · omega
 · exact hn h1
theorem Framed.grown (h : Framed wE W V V2) (hg : W.grownBy W' none) : Framed wE W' V V2 := h.more hg (fun k hk => by cases hk)
theorem Framed.heap {k : Nat} {o : Obj} (h : Framed wE W V V2) (ho : wE.heap[k]? = some o) (hn : ¬ (V ≤ k ∧ k < V2)) : W.heap[k]? = some o :=
 (h.block k (Array.getElem?_eq_some_iff.1 ho).1 hn).trans ho
theorem Framed.pre {w : World} (h : Framed wE W V V2) (hg : w.grownBy wE none) (hV : w.heap.size ≤ V) : w.grownBy W none :=
 ⟨h.os.trans hg.os, h.tape.trans hg.tape, h.output.trans hg.output, Nat.le_trans hg.size h.size, fun k hk _ => (h.block k (Nat.lt_of_lt_of_le hk hg.size) (by omega)).trans (hg.block k hk (by simp))⟩
def fromFn (H Db Fb : Nat) : Value := .func (.func 99) #[] #[.pointer (some ⟨Db, 0, none⟩), .pointer (some ⟨H, 0, none⟩), .pointer (some ⟨H + 1, 0, none⟩), .pointer (some ⟨Fb, 0, none⟩)]
structure FromMem (W : World) (H Db Dm Fb : Nat) (S : List SideD × List CondD) (sv fv : Value) : Prop where
 a0 : W.cell? ⟨H, 0, none⟩ = some sv
 v0 : W.cell? ⟨H + 1, 0, none⟩ = some fv
 d0 : W.cell? ⟨Db, 0, none⟩ = some (.slice (some ⟨Dm, 0, none⟩) (S.1.length + 1) (S.1.length + 1))
 f0 : W.cell? ⟨Fb, 0, none⟩ = some (fromFn H Db Fb)
 sides : SidesAt W sv S.1
 dec : ∀ m, m ≤ S.1.length → ∃ v, W.cell? ⟨Dm, m, none⟩ = some v ∧ RowLAt W v (rowsLen (rowsOf S) m)
structure FromSt (wE w : World) (V V2 Bb n : Nat) (I : List (List Int) → World → Prop) (d : List (List Int)) (xs : List Int) : Prop where
 framed : Framed wE w V V2
 lo : wE.heap.size ≤ Bb
 hi : V2 ≤ wE.heap.size
 buf : w.heap[Bb]? = some (.cells (xs.map (Value.int .i64)).toArray 3 (0, 0))
 len : xs.length = n
 inv : I d w
def Steady (Bb : Nat) (I : List (List Int) → World → Prop) : Prop := ∀ d w w', I d w → w.grownBy w' (some Bb) → I d w'
variable {I : List (List Int) → World → Prop} {d : List (List Int)} {xs : List Int}
theorem FromSt.kept (h : FromSt wE w V V2 Bb n I d xs) (hI : Steady Bb I) (hg : w.grownBy W none) : FromSt wE W V V2 Bb n I d xs :=
 ⟨h.framed.grown hg, h.lo, h.hi, (hg.block _ (Array.getElem?_eq_some_iff.1 h.buf).1 (by simp)).trans h.buf, h.len, hI _ _ _ h.inv (grownBy_any _ hg)⟩
theorem FromSt.set (h : FromSt wE w V V2 Bb n I d xs) (hI : Steady Bb I) (i : Nat) (z : Int) : FromSt wE (w.setCell ⟨Bb, i, none⟩ (.int .i64 z)) V V2 Bb n I d (xs.set i z) := by
 have hg := gS w Bb i (.int .i64 z)
 have hl := h.lo
 refine ⟨h.framed.more hg (fun k hk => by cases hk; exact .inl hl), h.lo, h.hi, ?_, by simp [h.len], hI _ _ _ h.inv hg⟩
 show (w.heap.modify Bb _)[Bb]? = _
 rw [Array.getElem?_modify, if_pos rfl, h.buf]
 simp [List.map_set]
theorem FromSt.ints (h : FromSt wE w V V2 Bb n I d xs) (hn : n ≤ 1000) (cap i : Nat) (hi : i ≤ n) (hb : near (xs.take i)) : IntsAt w (.slice (some ⟨Bb, 0, none⟩) i cap) (xs.take i) := by
 have hl := h.len
 have e : (xs.take i).length = i := by simp; omega
 refine ⟨_, cap, by rw [e], by omega, fun j x hj => ⟨Bb, 0, rfl, by have := hb x (List.mem_of_getElem? hj); omega, ?_⟩⟩
 obtain ⟨hj1, rfl⟩ := List.getElem?_eq_some_iff.1 hj
 have hj2 : j < xs.length := by simp at hj1; omega
 simp [World.cell?, h.buf, hj2]
theorem FromSt.cell (h : FromSt wE w V V2 Bb n I d xs) {i : Nat} (hi : i < n) : (w.cell? ⟨Bb, i, none⟩).isSome = true := by
 have hl := h.len
 have hj2 : i < xs.length := by omega
 simp [World.cell?, h.buf, hj2]
theorem FromSt.free (h : FromSt wE w V V2 Bb n I d xs) (i : Nat) : w.frozen? ⟨Bb, i, none⟩ = false := by
 simp [World.frozen?, h.buf]
def FromPost (wE : World) (V V2 Bb n : Nat) (I : List (List Int) → World → Prop) (go : List (List Int) → Bool) (d ps : List (List Int)) (pre : List Int) (e : Ending) (w' : World) : Prop :=
 e = .returned (.bool (walkP go d ps).2) ∧ ∃ xs', FromSt wE w' V V2 Bb n I (walkP go d ps).1 xs' ∧ xs'.take pre.length = pre
theorem walk_stop {go : List (List Int) → Bool} {d dm : List (List Int)} {F : Int → List (List Int)} {lo : Int} {m cnt : Nat} (h : walkP go d ((rangeI lo m).flatMap F) = (dm, true)) (hm : m < cnt) (hs : (walkP go dm (F (lo + (m : Int)))).2 = false) :
  walkP go d ((rangeI lo cnt).flatMap F) = walkP go dm (F (lo + (m : Int))) := by
 obtain ⟨k, rfl⟩ : ∃ k, cnt = (m + 1) + k := ⟨cnt - (m + 1), by omega⟩
 rw [rangeI_add lo (m + 1) k, rangeI_succ, List.flatMap_append, List.flatMap_append, List.append_assoc, walkP_append, h]
 simp only [if_true, List.flatMap_cons, List.flatMap_nil, List.append_nil]
 rw [walkP_append, hs]
 simp
theorem walk_next {go : List (List Int) → Bool} {d dm : List (List Int)} {F : Int → List (List Int)} {lo : Int} {m : Nat} (h : walkP go d ((rangeI lo m).flatMap F) = (dm, true)) (hs : (walkP go dm (F (lo + (m : Int)))).2 = true) :
  walkP go d ((rangeI lo (m + 1)).flatMap F) = ((walkP go dm (F (lo + (m : Int)))).1, true) := by
 rw [rangeI_succ, List.flatMap_append, walkP_append, h]
 simp only [if_true, List.flatMap_cons, List.flatMap_nil, List.append_nil]
 rw [← hs]
end Go.Proofs.YtgeklmigfhhpfaaGreatDoor
namespace Go.Proofs.YtgeklmigfhhpfaaGreatDoor
open Go.RowKit
attribute [local go_sem ↓] Go.wp_at_zero Go.wp_at_succ
variable {wE : World} {V V2 Bb n : Nat} {I : List (List Int) → World → Prop} {go : List (List Int) → Bool} {H Db Dm Fb : Nat} {sv fv : Value} {S : List SideD × List CondD}
def FromGives (wE : World) (V V2 Bb n : Nat) (I : List (List Int) → World → Prop) (go : List (List Int) → Bool) (H Db Fb : Nat) (S : List SideD × List CondD) (rest : List SideD) : Prop :=
 ∀ (i : Nat) (w : World) (xs : List Int) (d : List (List Int)), S.1.drop i = rest → i ≤ n → FromSt wE w V V2 Bb n I d xs → near (xs.take i) → d.length + (fromP (rowsOf S) (xs.take i) rest).length ≤ 900000 →
   Calls Tryz.prog 99 #[.slice (some ⟨Bb, 0, none⟩) i n, .pointer (some ⟨Db, 0, none⟩), .pointer (some ⟨H, 0, none⟩), .pointer (some ⟨H + 1, 0, none⟩), .pointer (some ⟨Fb, 0, none⟩)] w
    (FromPost wE V V2 Bb n I go d (fromP (rowsOf S) (xs.take i) rest) (xs.take i))
theorem rowsLen_good (hgood : setErr S = 0) (i : Nat) : ∀ r ∈ rowsLen (rowsOf S) i, goodRow S.1.length r := fun r hr => by
 unfold rowsLen at hr
 exact rows_good hgood r (List.mem_filter.1 hr).1
set_option maxHeartbeats 1000000 in
theorem from_bad (hM : ∀ W, Framed wE W V V2 → FromMem W H Db Dm Fb S sv fv) (hI : Steady Bb I) (hgood : setErr S = 0) (hn : n = S.1.length) (i : Nat) (w : World) (xs : List Int) (d : List (List Int)) (rest : List SideD) (hi : i ≤ n) (h : FromSt wE w V V2 Bb n I d xs) (hb : near (xs.take i))
  (hbad : (rowsLen (rowsOf S) i).any (negRow (xs.take i)) = true) :
  Calls Tryz.prog 99 #[.slice (some ⟨Bb, 0, none⟩) i n, .pointer (some ⟨Db, 0, none⟩), .pointer (some ⟨H, 0, none⟩), .pointer (some ⟨H + 1, 0, none⟩), .pointer (some ⟨Fb, 0, none⟩)] w
   (FromPost wE V V2 Bb n I go d (fromP (rowsOf S) (xs.take i) rest) (xs.take i)) := by
 have hn8 := (set_good hgood).1
 have hm := hM w h.framed
 have hd0 := hm.d0
 obtain ⟨dv, hdv, hrl⟩ := hm.dec i (by omega)
 obtain ⟨pd, dcap, rfl, hdl, hdc⟩ := id hrl
 have hpl : (xs.take i).length = i := by have := h.len; simp; omega
 have HX := uH (h.ints (by omega) n i hi hb)
 have HR := uH hrl
 have HB := uH hb
 have HG := uH (rowsLen_good hgood i)
 have HS := uH h
 have HE := uH (show fromP (rowsOf S) (xs.take i) rest = [] by cases rest <;> simp [fromP, hpl, hbad])
 have HN := uH hbad
 have HPl := uH hpl
 have hI2 : (i : Int) < (S.1.length : Int) + 1 := by omega
 have hI3 : (0 : Int) ≤ (i : Int) := by omega
 have hpl2 : (xs.take i).length ≤ S.1.length := by omega
 clear hrl hb h hbad hm hpl hn hdc
 generalize (rowsLen (rowsOf S) i).length = dl at *
 go_enter Tryz.func99, Tryz.ntmps99
 go_wp2_with (first | (go_at_call 100; go_must (refine (areMet_any S.1.length (rowsLen (rowsOf S) i) _ _ (xs.take i) _ HR.out HG.out (by omega) HX.out hpl2 HB.out).mono ?_; rintro e w' ⟨rfl, hg1⟩; rw [HN.out]; have G1 := uH hg1; clear hg1)))
 go_ret
 exact ⟨by rw [HE.out]; rfl, xs, by rw [HE.out]; exact HS.out.kept hI G1.out, by rw [HPl.out]⟩
theorem near_snoc {pre : List Int} {v : Int} (h : near pre) (hv : -1000000 ≤ v ∧ v ≤ 1000000) : near (pre ++ [v]) := fun x hx => by
 rcases List.mem_append.1 hx with hx | hx
 · exact h x hx
 · obtain rfl := List.mem_singleton.1 hx
   exact hv
theorem setCells_one (w : World) (b o : Nat) (v : Value) : w.setCells b o [v] = w.setCell ⟨b, o, none⟩ v := rfl
theorem take_succ_set {xs : List Int} {i : Nat} (h : i < xs.length) (v : Int) : (xs.set i v).take (i + 1) = xs.take i ++ [v] := by
 rw [take_succ_of (v := v) (take_set xs i v) (by simp [h])]
set_option maxRecDepth 100000 in
set_option maxHeartbeats 4000000 in
theorem from_step (hM : ∀ W, Framed wE W V V2 → FromMem W H Db Dm Fb S sv fv) (hI : Steady Bb I) (hgood : setErr S = 0) (hne : emptyB S.1 = false) (hn : n = S.1.length) (s : SideD) (r : List SideD)
  (ih : FromGives wE V V2 Bb n I go H Db Fb S r) : FromGives wE V V2 Bb n I go H Db Fb S (s :: r) := by
 intro i w xs d hd hi h hb hR
 cases hbad : (rowsLen (rowsOf S) i).any (negRow (xs.take i))
 case true => exact from_bad hM hI hgood hn i w xs d (s :: r) hi h hb hbad
 have hn8 := (set_good hgood).1
 have hi2 : i < S.1.length := by
  have := congrArg List.length hd
  simp at this
  omega
 have hd2 : S.1.drop (i + 1) = r := by
  have := List.drop_eq_getElem_cons hi2
  rw [hd] at this
  exact (List.cons.inj this).2.symm
 have hs0 : S.1[i]? = some s := by
  have := List.drop_eq_getElem_cons hi2
  rw [hd] at this
  rw [List.getElem?_eq_getElem hi2, (List.cons.inj this).1]
 have hmem : s ∈ S.1 := List.mem_of_getElem? hs0
 obtain ⟨r1, r2, r3, r4⟩ := side_range (sides_good [] (set_good hgood).2.1 s hmem).2
 have r5 := not_empty hne hmem
 have hm := hM w h.framed
 have hd0 := hm.d0
 have ha0 := hm.a0
 obtain ⟨dv, hdv, hrl⟩ := hm.dec i (by omega)
 obtain ⟨pd, dcap, rfl, hdl, hdc⟩ := id hrl
 obtain ⟨p, cap, rfl, ⟨hl, hlc⟩, hc⟩ := hm.sides
 obtain ⟨b, off, rfl, h3, ⟨h4, h4'⟩, ⟨h5, h5'⟩, h6, h7, h8⟩ := hc i s hs0
 have hpl : (xs.take i).length = i := by have := h.len; simp; omega
 have HX := uH (h.ints (by omega) n i hi hb)
 have HRl := uH hrl
 have HB := uH hb
 have HG := uH (rowsLen_good hgood i)
 have HS := uH h
 have HN := uH hbad
 have HPl := uH hpl
 have HD := uH hd2
 have HIH := uH ih
 have HM := uH hM
 have hI2 : (i : Int) < (S.1.length : Int) + 1 := by omega
 have hI3 : (0 : Int) ≤ (i : Int) := by omega
 have hI4 : (i : Int) < (S.1.length : Int) := by omega
 have hin : ((i : Int) == (S.1.length : Int)) = false := by
  rw [Bool.eq_false_iff]
  intro e
  simp at e
  omega
 have hpl2 : (xs.take i).length ≤ S.1.length := by omega
 have hin2 : i < n := by omega
 have hxi : i < xs.length := by have := h.len; omega
 have HXi := uH hxi
 have HF := uH (show fromP (rowsOf S) (xs.take i) (s :: r) = (rangeI s.2.1 (s.2.2 - s.2.1 + 1).toNat).flatMap fun v => fromP (rowsOf S) (xs.take i ++ [v]) r by
  simp only [fromP, hpl, hbad, Bool.false_eq_true, if_false])
 have HRo := uH (show d.length + ((rangeI s.2.1 (s.2.2 - s.2.1 + 1).toNat).flatMap fun v => fromP (rowsOf S) (xs.take i ++ [v]) r).length ≤ 900000 by rw [← HF.out]; exact hR)
 generalize hlo : s.2.1 = lo at *
 generalize hhi : s.2.2 = hi' at *
 have HI8 := uH (fun (W : World) (hf : Framed wE W V V2) => show W.cell? ⟨b, off + i * 3 + 2, none⟩ = some (.int .i64 hi') by
  obtain ⟨p', cap', hv, _, hc'⟩ := (hM W hf).sides
  obtain ⟨rfl, _, _⟩ := Value.slice.inj hv
  obtain ⟨b', off', hbb, _, _, _, _, _, h8'⟩ := hc' i s hs0
  simp only [Option.some.injEq, Addr.mk.injEq] at hbb
  obtain ⟨rfl, rfl, _⟩ := hbb
  rw [← hhi]
  exact h8')
 have hn1 : n ≤ S.1.length := by omega
 have hFb : Fb < Bb := Nat.lt_of_lt_of_le (World.block_lt_of_cell? wE _ (hM wE (Framed.refl _ _ _)).f0) h.lo
 clear hrl hb h hbad hm hpl hdc hd hd2 ih hR hc hs0 h3 h6 h8 hmem hne hgood hM hxi hlo hhi hn
 generalize (rowsLen (rowsOf S) i).length = dl at *
 go_enter Tryz.func99, Tryz.ntmps99
 go_wp2_with (first | (go_at_call 100; go_must (refine (areMet_any S.1.length (rowsLen (rowsOf S) i) _ _ (xs.take i) _ HRl.out HG.out (by omega) HX.out hpl2 HB.out).mono ?_; rintro e w1 ⟨rfl, hg1⟩; rw [HN.out]; have HS1 := uH (HS.out.kept hI hg1); have d1 := hg1.cell ha0 (by simp); have d2 := hg1.cell h7 (by simp); clear hg1)))
 go_loopw [8] (fun nx wr => ∃ (m : Nat) (xr : List Int) (dm : List (List Int)), m ≤ (hi' - lo + 1).toNat ∧ nx = .int .i64 (lo + (m : Int)) ∧ Hid (walkP go d ((rangeI lo m).flatMap fun v => fromP (rowsOf S) (xs.take i ++ [v]) r) = (dm, true)) ∧ Hid (FromSt wE wr V V2 Bb n I dm xr) ∧ Hid (xr.take i = xs.take i)) (fun nx _ => (hi' + 1 - intOf nx).toNat)
 case atStart => exact ⟨0, xs, d, Nat.zero_le _, by simp, by show _ = _; simp [rangeI, walkP], HS1.out, rfl⟩
 case round =>
  obtain ⟨m, xr, dm, hm, rfl, HW, HSr, HT⟩ := hrel
  have hmr := HM.out wr HSr.out.framed
  have e0 := hmr.a0
  have e1 := HI8.out wr HSr.out.framed
  have e2 := hmr.f0
  unfold fromFn at e2
  by_cases hlt : m < (hi' - lo + 1).toNat
  · have hxr : i < xr.length := by have := HSr.out.len; omega
    have hle : lo + (m : Int) ≤ hi' := by omega
    have hb1 : -1000000 ≤ lo + (m : Int) := by omega
    have hb2 : lo + (m : Int) ≤ 1000000 := by omega
    have hroom : dm.length + (fromP (rowsOf S) (xs.take i ++ [lo + (m : Int)]) r).length ≤ 900000 := by
     have h1 := walkP_length go ((rangeI lo m).flatMap fun v => fromP (rowsOf S) (xs.take i ++ [v]) r) d
     rw [HW.out] at h1
     have h2 := flatMap_room (fun v => fromP (rowsOf S) (xs.take i ++ [v]) r) lo hlt
     have h3 := HRo.out
     simp only at h1 h2
     omega
    have hT2 : ∀ v, (xr.set i v).take (i + 1) = xs.take i ++ [v] := fun v => by rw [take_succ_set hxr, HT.out]
    obtain ⟨⟨dq, bq⟩, hq⟩ : ∃ q, walkP go dm (fromP (rowsOf S) (xs.take i ++ [lo + (m : Int)]) r) = q := ⟨_, rfl⟩
    have HC := uH (fun W (hS : FromSt wE W V V2 Bb n I dm (xr.set i (lo + (m : Int)))) => show Calls Tryz.prog 99 #[.slice (some ⟨Bb, 0, none⟩) (i + 1) n, .pointer (some ⟨Db, 0, none⟩), .pointer (some ⟨H, 0, none⟩), .pointer (some ⟨H + 1, 0, none⟩), .pointer (some ⟨Fb, 0, none⟩)] W
      (fun e w' => e = .returned (.bool bq) ∧ ∃ xs', FromSt wE w' V V2 Bb n I dq xs' ∧ xs'.take (xs.take i ++ [lo + (m : Int)]).length = xs.take i ++ [lo + (m : Int)]) from by
     have h := HIH.out (i + 1) W _ dm HD.out (by omega) hS (by rw [hT2]; exact near_snoc HB.out ⟨hb1, hb2⟩) (by rw [hT2]; exact hroom)
     rw [hT2] at h
     unfold FromPost at h
     rw [hq] at h
     exact h)
    have HQ := uH hq
    clear hq
    have HT2 := uH (hT2 (lo + (m : Int)))
    have hwr := IntWalk.i64_in (lo + (m : Int)) (by omega)
    obtain ⟨i0, hi0, hz0, hz1, hz2⟩ := info_parts Tryz.infoInt
    have e2a := (gA wr (.cells #[.int .i64 (lo + (m : Int))] 3) none).cell e2 (by simp)
    have e2b := (gS (wr.alloc (.cells #[.int .i64 (lo + (m : Int))] 3)) Bb i (.int .i64 (lo + (m : Int)))).cell e2a (by simp; omega)
    clear hroom hT2 hxr hmr
    go_wp2
    go_region_law (first
     | (go_simp; go_at_call 99; go_must (refine (HC.out _ ?st).mono ?_; (case st => (first | exact (HSr.out.kept hI (grown_ad _ _ _)).set hI i _ | exact (HSr.out.kept hI (gA _ _ _)).set hI i _ | exact ((HSr.out.kept hI (gA _ _ _)).set hI i _).kept hI (grown_d _ _))); rintro e w2 ⟨rfl, x2, hs2, ht2⟩; have S2 := uH hs2; have T2 := uH ht2; clear hs2 ht2))
     | (refine step_append_room (by rfl) _ _ 22 (by rfl) 3 i0 1 Tryz.underlying22 hi0 hz1 Bb 0 i n (by rfl) ⟨wr.heap.size, 0, none⟩ 1 1 [.int .i64 (lo + (m : Int))] (by rfl) (by rfl) news_at (by simp [Value.oneCell']) (by omega) ?sp ?_; (case sp => (intro j hj; obtain rfl : j = 0 := (by simp at hj; omega); rw [show 0 + i * 1 + 0 = i by omega]; first | exact ⟨(HSr.out.kept hI (grown_ad _ _ _)).cell hin2, (HSr.out.kept hI (grown_ad _ _ _)).free i⟩ | exact ⟨(HSr.out.kept hI (gA _ _ _)).cell hin2, (HSr.out.kept hI (gA _ _ _)).free i⟩)); rw [setCells_one, show 0 + i * 1 = i by omega]))
    all_goals
     cases bq
     · go_wp2
       go_ret
       have hw := walk_stop (F := fun v => fromP (rowsOf S) (xs.take i ++ [v]) r) HW.out hlt (by simp only [HQ.out])
       rw [HQ.out] at hw
       refine ⟨ret_bool (by rw [HF.out, hw]), x2, by rw [HF.out, hw]; exact S2.out, ?_⟩
       exact take_of_take T2.out
     · go_wp2
       go_roundw
       case rel =>
        have hw := walk_next (F := fun v => fromP (rowsOf S) (xs.take i ++ [v]) r) HW.out (by simp only [HQ.out])
        rw [HQ.out] at hw
        refine ⟨m + 1, x2, dq, by omega, by go_num, hw, S2.out, ?_⟩
        have h := take_of_take T2.out
        rwa [HPl.out] at h
       case measure => simp [intOf]; omega
  · have hle : hi' < lo + (m : Int) := by omega
    have hcnt : m = (hi' - lo + 1).toNat := by omega
    clear hmr
    go_wp2
    go_ret
    have hw := HW.out
    rw [hcnt] at hw
    refine ⟨ret_bool (by rw [HF.out, hw]), xr, by rw [HF.out, hw]; exact HSr.out, by rw [HPl.out]; exact HT.out⟩
end Go.Proofs.YtgeklmigfhhpfaaGreatDoor
