/- Of the library: strconv.ParseInt and FormatInt, strings.ContainsAny and IndexAny: their contracts, laid for this program. -/
import Derived.Test.YtpaenieafkmmeaaGreatDoorProg
import Derived.Test.YtpaenieafkmmeaaGreatDoorM01
import Derived.Test.YtpaenieafkmmeaaGreatDoorM30
import Derived.Shelf.Strconv.ParseIntPublic10
import Derived.Shelf.Strconv.Itoa4
import Derived.Shelf.Strings.IndexAnyAll
namespace Go.Proofs.YtpaenieafkmmeaaGreatDoor
set_option maxRecDepth 100000
open Go.RowKit

def ren19 : Go.Shelf.Ren := ⟨fun | 119 => 83 | 129 => 70 | 137 => 82 | 150 => 16 | 152 => 51 | 153 => 27 | 171 => 61 | 173 => 12 | 174 => 11 | 205 => 68 | 217 => 113 | 224 => 84 | 225 => 85 | 226 => 52 | 227 => 53 | 228 => 54 | 243 => 93 | 245 => 24 | 246 => 25 | 247 => 23 | 266 => 142 | 279 => 38 | 280 => 39 | 281 => 40 | 282 => 41 | 283 => 42 | 284 => 43 | 285 => 44 | 286 => 45 | 287 => 37 | 316 => 67 | 317 => 69 | 318 => 71 | 319 => 72 | 320 => 73 | 321 => 65 | 322 => 66 | 337 => 99 | 338 => 100 | n => n, fun | 0 => 0 | 2 => 2 | 3 => 3 | 4 => 4 | 5 => 5 | 9 => 9 | 20 => 20 | 21 => 21 | 37 => 79 | 46 => 71 | 51 => 113 | 53 => 68 | 75 => 34 | 80 => 136 | 85 => 35 | 116 => 90 | 117 => 91 | 124 => 126 | 127 => 137 | 143 => 138 | 145 => 140 | 167 => 67 | 168 => 72 | 171 => 76 | 173 => 80 | 175 => 69 | 210 => 108 | 212 => 112 | 213 => 114 | 232 => 152 | 233 => 153 | n => n, fun | 15 => 0 | 16 => 1 | 17 => 2 | 18 => 4 | 19 => 5 | n => n⟩
theorem lays19_174 : LaysC.n174 Tryz.prog ren19 := {
  mixed := by kernel_rfl
  f129 := Tryz.func70.trans (congrArg some (by kernel_rfl))
  f171 := Tryz.func61.trans (congrArg some (by kernel_rfl))
  f174 := Tryz.func11.trans (congrArg some (by kernel_rfl))
  f205 := Tryz.func68.trans (congrArg some (by kernel_rfl))
  f243 := Tryz.func93.trans (congrArg some (by kernel_rfl))
  f245 := Tryz.func24.trans (congrArg some (by kernel_rfl))
  f246 := Tryz.func25.trans (congrArg some (by kernel_rfl))
  f247 := Tryz.func23.trans (congrArg some (by kernel_rfl))
  f279 := Tryz.func38.trans (congrArg some (by kernel_rfl))
  f280 := Tryz.func39.trans (congrArg some (by kernel_rfl))
  f281 := Tryz.func40.trans (congrArg some (by kernel_rfl))
  f282 := Tryz.func41.trans (congrArg some (by kernel_rfl))
  f283 := Tryz.func42.trans (congrArg some (by kernel_rfl))
  f284 := Tryz.func43.trans (congrArg some (by kernel_rfl))
  f285 := Tryz.func44.trans (congrArg some (by kernel_rfl))
  f286 := Tryz.func45.trans (congrArg some (by kernel_rfl))
  f287 := Tryz.func37.trans (congrArg some (by kernel_rfl))
  f316 := Tryz.func67.trans (congrArg some (by kernel_rfl))
  f317 := Tryz.func69.trans (congrArg some (by kernel_rfl))
  f318 := Tryz.func71.trans (congrArg some (by kernel_rfl))
  f319 := Tryz.func72.trans (congrArg some (by kernel_rfl))
  f320 := Tryz.func73.trans (congrArg some (by kernel_rfl))
  f321 := Tryz.func65.trans (congrArg some (by kernel_rfl))
  f322 := Tryz.func66.trans (congrArg some (by kernel_rfl))
  f337 := Tryz.func99.trans (congrArg some (by kernel_rfl))
  f338 := Tryz.func100.trans (congrArg some (by kernel_rfl))
  t0 := Tryz.underlying0
  a0 := Tryz.isAgg0
  z0 := Tryz.sizeOf0
  v0 := Tryz.zeroValue0
  t2 := Tryz.underlying2
  a2 := Tryz.isAgg2
  z2 := Tryz.sizeOf2
  v2 := Tryz.zeroValue2
  t3 := Tryz.underlying3
  a3 := Tryz.isAgg3
  z3 := Tryz.sizeOf3
  v3 := Tryz.zeroValue3
  t4 := Tryz.underlying4
  a4 := Tryz.isAgg4
  z4 := Tryz.sizeOf4
  v4 := Tryz.zeroValue4
  t5 := Tryz.underlying5
  a5 := Tryz.isAgg5
  z5 := Tryz.sizeOf5
  v5 := Tryz.zeroValue5
  t9 := Tryz.underlying9
  a9 := Tryz.isAgg9
  z9 := Tryz.sizeOf9
  v9 := Tryz.zeroValue9
  t20 := Tryz.underlying20
  a20 := Tryz.isAgg20
  z20 := Tryz.sizeOf20
  v20 := Tryz.zeroValue20
  t21 := Tryz.underlying21
  a21 := Tryz.isAgg21
  z21 := Tryz.sizeOf21
  v21 := Tryz.zeroValue21
  t37 := Tryz.underlying79
  a37 := Tryz.isAgg79
  z37 := Tryz.sizeOf79
  v37 := Tryz.zeroValue79
  t46 := Tryz.underlying71
  a46 := Tryz.isAgg71
  z46 := Tryz.sizeOf71
  v46 := Tryz.zeroValue71
  t51 := Tryz.underlying113
  a51 := Tryz.isAgg113
  z51 := Tryz.sizeOf113
  v51 := Tryz.zeroValue113
  t53 := Tryz.underlying68
  a53 := Tryz.isAgg68
  z53 := Tryz.sizeOf68
  v53 := Tryz.zeroValue68
  t75 := Tryz.underlying34
  a75 := Tryz.isAgg34
  z75 := Tryz.sizeOf34
  v75 := Tryz.zeroValue34
  t85 := Tryz.underlying35
  a85 := Tryz.isAgg35
  z85 := Tryz.sizeOf35
  v85 := Tryz.zeroValue35
  t127 := Tryz.underlying137
  a127 := Tryz.isAgg137
  z127 := Tryz.sizeOf137
  v127 := Tryz.zeroValue137
  t143 := Tryz.underlying138
  a143 := Tryz.isAgg138
  z143 := Tryz.sizeOf138
  v143 := Tryz.zeroValue138
  t145 := Tryz.underlying140
  a145 := Tryz.isAgg140
  z145 := Tryz.sizeOf140
  v145 := Tryz.zeroValue140
  t167 := Tryz.underlying67
  a167 := Tryz.isAgg67
  z167 := Tryz.sizeOf67
  v167 := Tryz.zeroValue67
  t168 := Tryz.underlying72
  a168 := Tryz.isAgg72
  z168 := Tryz.sizeOf72
  v168 := Tryz.zeroValue72
  t171 := Tryz.underlying76
  a171 := Tryz.isAgg76
  z171 := Tryz.sizeOf76
  v171 := Tryz.zeroValue76
  t173 := Tryz.underlying80
  a173 := Tryz.isAgg80
  z173 := Tryz.sizeOf80
  v173 := Tryz.zeroValue80
  t175 := Tryz.underlying69
  a175 := Tryz.isAgg69
  z175 := Tryz.sizeOf69
  v175 := Tryz.zeroValue69
  t210 := Tryz.underlying108
  a210 := Tryz.isAgg108
  z210 := Tryz.sizeOf108
  v210 := Tryz.zeroValue108
  t212 := Tryz.underlying112
  a212 := Tryz.isAgg112
  z212 := Tryz.sizeOf112
  v212 := Tryz.zeroValue112
  t213 := Tryz.underlying114
  a213 := Tryz.isAgg114
  z213 := Tryz.sizeOf114
  t232 := Tryz.underlying152
  a232 := Tryz.isAgg152
  z232 := Tryz.sizeOf152
  v232 := Tryz.zeroValue152
  t233 := Tryz.underlying153
  a233 := Tryz.isAgg153
  z233 := Tryz.sizeOf153
  v233 := Tryz.zeroValue153
  g15 := by kernel_rfl
  g16 := by kernel_rfl
  g17 := by kernel_rfl
  g18 := by kernel_rfl
  g19 := by kernel_rfl
  t80 := Tryz.underlying136
  a80 := Tryz.isAgg136
  z80 := Tryz.sizeOf136
  v80 := Tryz.zeroValue136
  i0 := by kernel_rfl
  i2 := by kernel_rfl
  i3 := by kernel_rfl
  i4 := by kernel_rfl
  i5 := by kernel_rfl
  i9 := by kernel_rfl
  i20 := by kernel_rfl
  i21 := by kernel_rfl
  i37 := by kernel_rfl
  i46 := by kernel_rfl
  i51 := by kernel_rfl
  i53 := by kernel_rfl
  i75 := by kernel_rfl
  i80 := by kernel_rfl
  i85 := by kernel_rfl
  i127 := by kernel_rfl
  i143 := by kernel_rfl
  i145 := by kernel_rfl
  i167 := by kernel_rfl
  i168 := by kernel_rfl
  i171 := by kernel_rfl
  i173 := by kernel_rfl
  i175 := by kernel_rfl
  i210 := by kernel_rfl
  i212 := by kernel_rfl
  i232 := by kernel_rfl
  i233 := by kernel_rfl
  m15 := by kernel_rfl
  m16 := by kernel_rfl
  m17 := by kernel_rfl
  m18 := by kernel_rfl
  m19 := by kernel_rfl
  c0 := by kernel_rfl
  c2 := by kernel_rfl
  c3 := by kernel_rfl
  c4 := by kernel_rfl
  c5 := by kernel_rfl
  c9 := by kernel_rfl
  c20 := by kernel_rfl
  c21 := by kernel_rfl
  c37 := by kernel_rfl
  c46 := by kernel_rfl
  c51 := by kernel_rfl
  c53 := by kernel_rfl
  c75 := by kernel_rfl
  c80 := by kernel_rfl
  c85 := by kernel_rfl
  c127 := by kernel_rfl
  c143 := by kernel_rfl
  c145 := by kernel_rfl
  c167 := by kernel_rfl
  c168 := by kernel_rfl
  c171 := by kernel_rfl
  c173 := by kernel_rfl
  c175 := by kernel_rfl
  c210 := by kernel_rfl
  c212 := by kernel_rfl
  c213 := by kernel_rfl
  c232 := by kernel_rfl
  c233 := by kernel_rfl }
theorem lays19_173 : LaysM.n173 Tryz.prog ren19 := {
  mixed := by kernel_rfl
  f129 := Tryz.func70.trans (congrArg some (by kernel_rfl))
  f173 := Tryz.func12.trans (congrArg some (by kernel_rfl))
  f246 := Tryz.func25.trans (congrArg some (by kernel_rfl))
  f283 := Tryz.func42.trans (congrArg some (by kernel_rfl))
  f284 := Tryz.func43.trans (congrArg some (by kernel_rfl))
  f285 := Tryz.func44.trans (congrArg some (by kernel_rfl))
  f286 := Tryz.func45.trans (congrArg some (by kernel_rfl))
  f317 := Tryz.func69.trans (congrArg some (by kernel_rfl))
  f318 := Tryz.func71.trans (congrArg some (by kernel_rfl))
  f319 := Tryz.func72.trans (congrArg some (by kernel_rfl))
  f320 := Tryz.func73.trans (congrArg some (by kernel_rfl))
  f337 := Tryz.func99.trans (congrArg some (by kernel_rfl))
  f338 := Tryz.func100.trans (congrArg some (by kernel_rfl))
  t0 := Tryz.underlying0
  a0 := Tryz.isAgg0
  z0 := Tryz.sizeOf0
  v0 := Tryz.zeroValue0
  t2 := Tryz.underlying2
  a2 := Tryz.isAgg2
  z2 := Tryz.sizeOf2
  v2 := Tryz.zeroValue2
  t3 := Tryz.underlying3
  a3 := Tryz.isAgg3
  z3 := Tryz.sizeOf3
  v3 := Tryz.zeroValue3
  t4 := Tryz.underlying4
  a4 := Tryz.isAgg4
  z4 := Tryz.sizeOf4
  v4 := Tryz.zeroValue4
  t5 := Tryz.underlying5
  a5 := Tryz.isAgg5
  z5 := Tryz.sizeOf5
  v5 := Tryz.zeroValue5
  t9 := Tryz.underlying9
  a9 := Tryz.isAgg9
  z9 := Tryz.sizeOf9
  v9 := Tryz.zeroValue9
  t20 := Tryz.underlying20
  a20 := Tryz.isAgg20
  z20 := Tryz.sizeOf20
  v20 := Tryz.zeroValue20
  t37 := Tryz.underlying79
  a37 := Tryz.isAgg79
  z37 := Tryz.sizeOf79
  v37 := Tryz.zeroValue79
  t46 := Tryz.underlying71
  a46 := Tryz.isAgg71
  z46 := Tryz.sizeOf71
  v46 := Tryz.zeroValue71
  t51 := Tryz.underlying113
  a51 := Tryz.isAgg113
  z51 := Tryz.sizeOf113
  v51 := Tryz.zeroValue113
  t53 := Tryz.underlying68
  a53 := Tryz.isAgg68
  z53 := Tryz.sizeOf68
  v53 := Tryz.zeroValue68
  t171 := Tryz.underlying76
  a171 := Tryz.isAgg76
  z171 := Tryz.sizeOf76
  v171 := Tryz.zeroValue76
  t173 := Tryz.underlying80
  a173 := Tryz.isAgg80
  z173 := Tryz.sizeOf80
  v173 := Tryz.zeroValue80
  t212 := Tryz.underlying112
  a212 := Tryz.isAgg112
  z212 := Tryz.sizeOf112
  v212 := Tryz.zeroValue112
  t213 := Tryz.underlying114
  a213 := Tryz.isAgg114
  z213 := Tryz.sizeOf114
  t232 := Tryz.underlying152
  a232 := Tryz.isAgg152
  z232 := Tryz.sizeOf152
  v232 := Tryz.zeroValue152
  t233 := Tryz.underlying153
  a233 := Tryz.isAgg153
  z233 := Tryz.sizeOf153
  v233 := Tryz.zeroValue153
  g17 := by kernel_rfl
  g18 := by kernel_rfl
  g19 := by kernel_rfl
  i0 := by kernel_rfl
  i2 := by kernel_rfl
  i3 := by kernel_rfl
  i4 := by kernel_rfl
  i5 := by kernel_rfl
  i9 := by kernel_rfl
  i20 := by kernel_rfl
  i37 := by kernel_rfl
  i46 := by kernel_rfl
  i51 := by kernel_rfl
  i53 := by kernel_rfl
  i171 := by kernel_rfl
  i173 := by kernel_rfl
  i212 := by kernel_rfl
  i232 := by kernel_rfl
  i233 := by kernel_rfl
  m17 := by kernel_rfl
  m18 := by kernel_rfl
  m19 := by kernel_rfl }
theorem lays19_150 : Lays.n150 Tryz.prog ren19 := {
  mixed := by kernel_rfl
  f119 := Tryz.func83.trans (congrArg some (by kernel_rfl))
  f137 := Tryz.func82.trans (congrArg some (by kernel_rfl))
  f150 := Tryz.func16.trans (congrArg some (by kernel_rfl))
  f152 := Tryz.func51.trans (congrArg some (by kernel_rfl))
  f153 := Tryz.func27.trans (congrArg some (by kernel_rfl))
  f217 := Tryz.func113.trans (congrArg some (by kernel_rfl))
  f224 := Tryz.func84.trans (congrArg some (by kernel_rfl))
  f225 := Tryz.func85.trans (congrArg some (by kernel_rfl))
  f226 := Tryz.func52.trans (congrArg some (by kernel_rfl))
  f227 := Tryz.func53.trans (congrArg some (by kernel_rfl))
  f228 := Tryz.func54.trans (congrArg some (by kernel_rfl))
  f266 := Tryz.func142.trans (congrArg some (by kernel_rfl))
  t0 := Tryz.underlying0
  a0 := Tryz.isAgg0
  z0 := Tryz.sizeOf0
  v0 := Tryz.zeroValue0
  t3 := Tryz.underlying3
  a3 := Tryz.isAgg3
  z3 := Tryz.sizeOf3
  v3 := Tryz.zeroValue3
  t4 := Tryz.underlying4
  a4 := Tryz.isAgg4
  z4 := Tryz.sizeOf4
  v4 := Tryz.zeroValue4
  t5 := Tryz.underlying5
  a5 := Tryz.isAgg5
  z5 := Tryz.sizeOf5
  v5 := Tryz.zeroValue5
  t9 := Tryz.underlying9
  a9 := Tryz.isAgg9
  z9 := Tryz.sizeOf9
  v9 := Tryz.zeroValue9
  t21 := Tryz.underlying21
  a21 := Tryz.isAgg21
  z21 := Tryz.sizeOf21
  v21 := Tryz.zeroValue21
  t46 := Tryz.underlying71
  a46 := Tryz.isAgg71
  z46 := Tryz.sizeOf71
  v46 := Tryz.zeroValue71
  t116 := Tryz.underlying90
  a116 := Tryz.isAgg90
  z116 := Tryz.sizeOf90
  t117 := Tryz.underlying91
  a117 := Tryz.isAgg91
  z117 := Tryz.sizeOf91
  v117 := Tryz.zeroValue91
  t124 := Tryz.underlying126
  a124 := Tryz.isAgg126
  z124 := Tryz.sizeOf126
  v124 := Tryz.zeroValue126 }
theorem lays19_153 : Lays.n153 Tryz.prog ren19 := {
  mixed := by kernel_rfl
  f119 := Tryz.func83.trans (congrArg some (by kernel_rfl))
  f137 := Tryz.func82.trans (congrArg some (by kernel_rfl))
  f152 := Tryz.func51.trans (congrArg some (by kernel_rfl))
  f153 := Tryz.func27.trans (congrArg some (by kernel_rfl))
  f217 := Tryz.func113.trans (congrArg some (by kernel_rfl))
  f224 := Tryz.func84.trans (congrArg some (by kernel_rfl))
  f225 := Tryz.func85.trans (congrArg some (by kernel_rfl))
  f226 := Tryz.func52.trans (congrArg some (by kernel_rfl))
  f227 := Tryz.func53.trans (congrArg some (by kernel_rfl))
  f228 := Tryz.func54.trans (congrArg some (by kernel_rfl))
  f266 := Tryz.func142.trans (congrArg some (by kernel_rfl))
  t0 := Tryz.underlying0
  a0 := Tryz.isAgg0
  z0 := Tryz.sizeOf0
  v0 := Tryz.zeroValue0
  t3 := Tryz.underlying3
  a3 := Tryz.isAgg3
  z3 := Tryz.sizeOf3
  v3 := Tryz.zeroValue3
  t4 := Tryz.underlying4
  a4 := Tryz.isAgg4
  z4 := Tryz.sizeOf4
  v4 := Tryz.zeroValue4
  t5 := Tryz.underlying5
  a5 := Tryz.isAgg5
  z5 := Tryz.sizeOf5
  v5 := Tryz.zeroValue5
  t9 := Tryz.underlying9
  a9 := Tryz.isAgg9
  z9 := Tryz.sizeOf9
  v9 := Tryz.zeroValue9
  t21 := Tryz.underlying21
  a21 := Tryz.isAgg21
  z21 := Tryz.sizeOf21
  v21 := Tryz.zeroValue21
  t46 := Tryz.underlying71
  a46 := Tryz.isAgg71
  z46 := Tryz.sizeOf71
  v46 := Tryz.zeroValue71
  t116 := Tryz.underlying90
  a116 := Tryz.isAgg90
  z116 := Tryz.sizeOf90
  t117 := Tryz.underlying91
  a117 := Tryz.isAgg91
  z117 := Tryz.sizeOf91
  v117 := Tryz.zeroValue91
  t124 := Tryz.underlying126
  a124 := Tryz.isAgg126
  z124 := Tryz.sizeOf126
  v124 := Tryz.zeroValue126 }
theorem lays19_152 : Lays.n152 Tryz.prog ren19 := {
  mixed := by kernel_rfl
  f119 := Tryz.func83.trans (congrArg some (by kernel_rfl))
  f137 := Tryz.func82.trans (congrArg some (by kernel_rfl))
  f152 := Tryz.func51.trans (congrArg some (by kernel_rfl))
  f217 := Tryz.func113.trans (congrArg some (by kernel_rfl))
  f224 := Tryz.func84.trans (congrArg some (by kernel_rfl))
  f225 := Tryz.func85.trans (congrArg some (by kernel_rfl))
  f266 := Tryz.func142.trans (congrArg some (by kernel_rfl))
  t0 := Tryz.underlying0
  a0 := Tryz.isAgg0
  z0 := Tryz.sizeOf0
  v0 := Tryz.zeroValue0
  t3 := Tryz.underlying3
  a3 := Tryz.isAgg3
  z3 := Tryz.sizeOf3
  v3 := Tryz.zeroValue3
  t4 := Tryz.underlying4
  a4 := Tryz.isAgg4
  z4 := Tryz.sizeOf4
  v4 := Tryz.zeroValue4
  t5 := Tryz.underlying5
  a5 := Tryz.isAgg5
  z5 := Tryz.sizeOf5
  v5 := Tryz.zeroValue5
  t9 := Tryz.underlying9
  a9 := Tryz.isAgg9
  z9 := Tryz.sizeOf9
  v9 := Tryz.zeroValue9
  t21 := Tryz.underlying21
  a21 := Tryz.isAgg21
  z21 := Tryz.sizeOf21
  v21 := Tryz.zeroValue21
  t46 := Tryz.underlying71
  a46 := Tryz.isAgg71
  z46 := Tryz.sizeOf71
  v46 := Tryz.zeroValue71 }
theorem lays19_226 : Lays.n226 Tryz.prog ren19 := {
  mixed := by kernel_rfl
  f226 := Tryz.func52.trans (congrArg some (by kernel_rfl))
  t3 := Tryz.underlying3
  a3 := Tryz.isAgg3
  z3 := Tryz.sizeOf3
  v3 := Tryz.zeroValue3
  t4 := Tryz.underlying4
  a4 := Tryz.isAgg4
  z4 := Tryz.sizeOf4
  v4 := Tryz.zeroValue4 }
theorem fmt19 (n : Int) (w : World) (h0 : -9223372036854775808 ≤ n) (h1 : n ≤ 9223372036854775807) (h : S17.Ly w) :
    Calls Tryz.prog 12 #[.int .i64 n, .int .i64 10] w fun e w' => e = .returned (.string ⟨(Lib.itoa n).toArray⟩) ∧ Below w.heap.size w w' := by
  refine (Any.strconv_FormatInt_10 lays19_173 n h0 h1 w ?_).mono fun e w' ⟨he, hg⟩ => ⟨he, (show Gr w w' from hg).below⟩
  obtain ⟨⟨t, fr, h⟩, _⟩ := h
  have hg := lays19_173.m17
  unfold Lib.TabIs World.var?
  rw [hg, Option.bind_some]
  show (match w.heap[2]? with | some (.cells cs _ _) => some cs | _ => none) = _
  rw [h]
/-- What ParseInt tells: the number, or an error. -/
def prsI (s : ByteArray) : Option Int := match Lib.parseIntB 64 s.data.toList with
  | .ok v => some v
  | _ => none
theorem prs_yes (s : ByteArray) (v : Int) (w : World) (hs : s.size ≤ 281474976710656) (h : prsI s = some v) :
    Calls Tryz.prog 11 #[.string s, .int .i64 10, .int .i64 64] w fun e w' => e = .returned (.tuple #[.int .i64 v, .nilIface]) ∧ Below w.heap.size w w' := by
  have e : Lib.parseIntB 64 s.data.toList = .ok v := by
    unfold prsI at h
    cases hq : Lib.parseIntB 64 s.data.toList <;> rw [hq] at h <;> simp at h
    rw [h]
  refine (Any.strconv_ParseInt_10_at64_ok lays19_174 s (by omega) v e w).mono fun e w' ⟨he, hw⟩ => ⟨he, ?_⟩
  rcases hw with rfl | ⟨t, rfl⟩
  · exact Below.refl _ _
  · exact Lib.bytesWorld_below _ _ _
theorem prs_no (s : ByteArray) (w : World) (hL : S17.Ly w) (hs : s.size ≤ 281474976710656) (h : prsI s = none) :
    Calls Tryz.prog 11 #[.string s, .int .i64 10, .int .i64 64] w fun e w' => ∃ x t p, e = .returned (.tuple #[.int .i64 x, .iface t p]) ∧ Below w.heap.size w w' := by
  obtain ⟨_, ⟨te, pe, h1⟩, ⟨te2, pe2, h2⟩⟩ := hL
  cases hq : Lib.parseIntB 64 s.data.toList
  · unfold prsI at h; rw [hq] at h; simp at h
  · exact (Any.strconv_ParseInt_10_at64_syntax lays19_174 s hs hq _ w h1 (.inr ⟨te, pe, rfl⟩)).mono fun e w' ⟨N, he, _, _, hb⟩ => ⟨_, _, _, he, hb⟩
  · exact (Any.strconv_ParseInt_10_at64_range lays19_174 s hs hq _ w h2 (.inr ⟨te2, pe2, rfl⟩)).mono fun e w' ⟨N, he, _, _, hb⟩ => ⟨_, _, _, he, hb⟩
/-- The ten digits. -/
def dig19 : ByteArray := ⟨#[48, 49, 50, 51, 52, 53, 54, 55, 56, 57]⟩
theorem dig19_asc : ∀ (j : Nat) (b : UInt8), dig19.data.toList[j]? = some b → b.toNat < 128 := fun j b h =>
  (show ∀ x ∈ dig19.data.toList, x.toNat < 128 by decide) b (List.mem_of_getElem? h)
theorem set_info : (Tryz.prog.info? (ren19.t 116)).map (fun i => (i.zero, i.size)) = some (some (.agg (Array.replicate 256 (.bool false))), 256) := by kernel_rfl
theorem cany19 (s : ByteArray) (w : World) (hs : s.size < 4294967281) (ha : ∀ (j : Nat) b, s.data.toList[j]? = some b → b.toNat < 128) :
    Calls Tryz.prog 16 #[.string s, .string dig19] w fun e w' => e = .returned (.bool (Lib.containsAny s.data.toList dig19.data.toList)) ∧ Below w.heap.size w w' :=
  Any.strings_ContainsAny_laid lays19_150 set_info s dig19 w hs (by decide) ha dig19_asc
theorem iany19_long (s : ByteArray) (w : World) (h8 : 8 < s.size) (hs : s.size < 4294967281) :
    Calls Tryz.prog 27 #[.string s, .string dig19] w fun e w' => ∃ n, e = .returned (.int .i64 n) ∧ Below w.heap.size w w' :=
  (Any.strings_IndexAny_long lays19_153 (zero_of_info set_info).1 (zero_of_info set_info).2 s dig19 w (by decide) h8 hs (by decide) dig19_asc).mono fun e w' ⟨he, hw⟩ => ⟨_, he, by
    rw [hw]
    have b1 := (Below.refl w.heap.size w).alloc (Nat.le_refl _) (.cells (Lib.setCells dig19.data.toList) (ren19.t 116))
    exact b1.alloc b1.size _⟩
end Go.Proofs.YtpaenieafkmmeaaGreatDoor
/- The landed Integer of layer 19. -/
namespace Go.Proofs.YtpaenieafkmmeaaGreatDoor
set_option maxRecDepth 100000
open Go.RowKit

/-- The whole number of a text. -/
def intP (s : ByteArray) : Option Int := match prsI s with
  | some n => if -999999999999999999 ≤ n ∧ n ≤ 999999999999999999 ∧ Lib.itoa n = s.data.toList then some n else none
  | none => none
def intN (s : ByteArray) : Int := (intP s).getD 0
def intE (s : ByteArray) : Int := if (intP s).isSome then 0 else 180
theorem int_none {s : ByteArray} (h : intP s = none) : intN s = 0 ∧ intE s = 180 := by unfold intN intE; rw [h]; exact ⟨rfl, rfl⟩
theorem int_some {s : ByteArray} {n : Int} (h : intP s = some n) : intN s = n ∧ intE s = 0 := by unfold intN intE; rw [h]; exact ⟨rfl, rfl⟩
theorem intP_text {s : ByteArray} {n : Int} (h : intP s = some n) : Lib.itoa n = s.data.toList := by
  unfold intP at h
  split at h
  · split at h
    · rename_i hq
      cases h
      exact hq.2.2
    · cases h
  · cases h
/-- Texts of one number are one text. -/
theorem intP_inj {s t : ByteArray} {n : Int} (h1 : intP s = some n) (h2 : intP t = some n) : s = t := by
  have e := (intP_text h1).symm.trans (intP_text h2)
  cases s with | mk a => cases t with | mk b =>
  simp only at e
  rw [Array.toList_inj.1 e]
theorem dec_asc (u : Nat) : ∀ b ∈ Lib.decDigits u, b.toNat < 128 := by
  induction u using Nat.strongRecOn with
  | _ u ih =>
    intro b hb
    rw [Lib.decDigits] at hb
    split at hb
    · simp at hb
      rw [hb]
      simp
      omega
    · rcases List.mem_append.1 hb with hb | hb
      · exact ih (u / 10) (by omega) b hb
      · simp at hb
        rw [hb]
        simp
        omega
theorem itoa_asc (n : Int) : ∀ b ∈ Lib.itoa n, b.toNat < 128 := by
  intro b hb
  unfold Lib.itoa at hb
  split at hb
  · rcases List.mem_cons.1 hb with rfl | hb
    · decide
    · exact dec_asc _ b hb
  · exact dec_asc _ b hb
theorem intP_asc {s : ByteArray} {n : Int} (h : intP s = some n) : ∀ b ∈ s.data.toList, b.toNat < 128 := by
  rw [← intP_text h]
  exact itoa_asc n
theorem mk_eq (n : Int) (s : ByteArray) : ((⟨(Lib.itoa n).toArray⟩ : ByteArray).toList == s.toList) = decide (Lib.itoa n = s.data.toList) := by
  rw [Lib.toList_data, Lib.toList_data]
  by_cases h : Lib.itoa n = s.data.toList
  · rw [decide_eq_true h, ← h]
    simp
  · rw [decide_eq_false h]
    simpa using h
set_option maxHeartbeats 1600000 in
theorem int_any (s : ByteArray) (w : World) (hL : S17.Ly w) (hs : s.size ≤ 281474976710656) : Calls Tryz.prog 8 #[.string s] w fun e w' => e = .returned (.tuple #[.int .i64 (intN s), .int .i64 (intE s)]) ∧ Below w.heap.size w w' := by
  cases hp : prsI s with
  | none =>
    obtain ⟨e1, e2⟩ := int_none (s := s) (by unfold intP; rw [hp])
    rw [e1, e2]
    have C := hide (prs_no s w hL hs hp)
    clear hp e1 e2 hL
    go_enter Tryz.func8, Tryz.ntmps8
    go_wp2_with (go_at_call 11; refine (unhide C).mono ?_; rintro e w1 ⟨x, t, p, rfl, b1⟩)
    go_ret2
    exact ⟨rfl, b1⟩
  | some n =>
    have C := hide (prs_yes s n w hs hp)
    by_cases h1 : n < -999999999999999999
    · obtain ⟨e1, e2⟩ := int_none (s := s) (by unfold intP; rw [hp]; simp only; rw [if_neg (by omega)])
      rw [e1, e2]
      clear hp e1 e2 hL
      go_enter Tryz.func8, Tryz.ntmps8
      go_wp2_with (go_at_call 11; refine (unhide C).mono ?_; rintro e w1 ⟨rfl, b1⟩)
      go_ret2
      exact ⟨rfl, b1⟩
    by_cases h2 : 999999999999999999 < n
    · obtain ⟨e1, e2⟩ := int_none (s := s) (by unfold intP; rw [hp]; simp only; rw [if_neg (by omega)])
      rw [e1, e2]
      clear hp e1 e2 hL
      go_enter Tryz.func8, Tryz.ntmps8
      go_wp2_with (go_at_call 11; refine (unhide C).mono ?_; rintro e w1 ⟨rfl, b1⟩)
      go_ret2
      exact ⟨rfl, b1⟩
    have CF := hide (fun W h => fmt19 n W (by omega) (by omega) h)
    have HL := hide hL
    clear hL
    have hq := mk_eq n s
    generalize (⟨(Lib.itoa n).toArray⟩ : ByteArray) = t at *
    by_cases h3 : Lib.itoa n = s.data.toList
    · obtain ⟨e1, e2⟩ := int_some (s := s) (n := n) (by unfold intP; rw [hp]; simp only; rw [if_pos ⟨by omega, by omega, h3⟩])
      rw [e1, e2]
      rw [decide_eq_true h3] at hq
      clear hp e1 e2 h3
      go_enter Tryz.func8, Tryz.ntmps8
      go_wp2_with (first
        | (go_at_call 12; refine (unhide CF _ ((unhide HL).keep b1)).mono ?_; rintro e w2 ⟨rfl, b2⟩)
        | (go_at_call 11; refine (unhide C).mono ?_; rintro e w1 ⟨rfl, b1⟩))
      go_ret2
      exact ⟨rfl, b1.trans (b2.mono b1.size)⟩
    · obtain ⟨e1, e2⟩ := int_none (s := s) (by unfold intP; rw [hp]; simp only; rw [if_neg (fun q => h3 q.2.2)])
      rw [e1, e2]
      rw [decide_eq_false h3] at hq
      clear hp e1 e2 h3
      go_enter Tryz.func8, Tryz.ntmps8
      go_wp2_with (first
        | (go_at_call 12; refine (unhide CF _ ((unhide HL).keep b1)).mono ?_; rintro e w2 ⟨rfl, b2⟩)
        | (go_at_call 11; refine (unhide C).mono ?_; rintro e w1 ⟨rfl, b1⟩))
      go_ret2
      exact ⟨rfl, b1.trans (b2.mono b1.size)⟩
end Go.Proofs.YtpaenieafkmmeaaGreatDoor
