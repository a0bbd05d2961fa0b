/-
  strconv.AppendInt, strconv.Atoi, strings.Cut, slices.Reverse: the contracts of the library at this program. What trace's fields does: the addresses of the fields that a line names.
-/
import Derived.Shelf.Strconv.AppendIntPublic10
import Derived.Shelf.Strconv.AtoiAll
import Derived.Shelf.Strconv.ErrVarAll
import Derived.Shelf.Strings.Cut
import Derived.Shelf.SlicesE.Reverse
import Derived.Shelf.SlGeneric
import Derived.Ground.NamesProg
import Derived.Ground.SlgnProg
import Derived.Test.YtpojhplnhppcpaaGreatDoorProg
import Derived.Test.YtpojhplnhppcpaaGreatDoorQV1
import Derived.Lib.OthersKept
namespace Go.Proofs
open Go.Shelf
def Tryz.appI_ren : Go.Shelf.Ren := ⟨fun | 176 => 115 | 249 => 137 | 288 => 157 | 283 => 186 | 284 => 187 | 285 => 188 | 286 => 189 | 129 => 179 | 317 => 206 | 318 => 207 | 319 => 208 | 320 => 203 | 337 => 211 | 338 => 212 | n => n, fun | 37 => 31 | 2 => 2 | 3 => 3 | 53 => 183 | 4 => 4 | 9 => 9 | 171 => 220 | 0 => 0 | 173 => 222 | 212 => 237 | 51 => 72 | 5 => 5 | 20 => 20 | 213 => 238 | 46 => 192 | 232 => 242 | 233 => 243 | n => n, fun | 17 => 4 | 18 => 5 | 19 => 6 | n => n⟩
theorem Tryz.appI : Go.Proofs.LaysM.n176 Tryz.prog Tryz.appI_ren := {
  mixed := by kernel_rfl
  f129 := Tryz.func179.trans (congrArg some (by kernel_rfl))
  f176 := Tryz.func115.trans (congrArg some (by kernel_rfl))
  f249 := Tryz.func137.trans (congrArg some (by kernel_rfl))
  f283 := Tryz.func186.trans (congrArg some (by kernel_rfl))
  f284 := Tryz.func187.trans (congrArg some (by kernel_rfl))
  f285 := Tryz.func188.trans (congrArg some (by kernel_rfl))
  f286 := Tryz.func189.trans (congrArg some (by kernel_rfl))
  f288 := Tryz.func157.trans (congrArg some (by kernel_rfl))
  f317 := Tryz.func206.trans (congrArg some (by kernel_rfl))
  f318 := Tryz.func207.trans (congrArg some (by kernel_rfl))
  f319 := Tryz.func208.trans (congrArg some (by kernel_rfl))
  f320 := Tryz.func203.trans (congrArg some (by kernel_rfl))
  f337 := Tryz.func211.trans (congrArg some (by kernel_rfl))
  f338 := Tryz.func212.trans (congrArg some (by kernel_rfl))
  t0 := Tryz.underlying0
  a0 := Tryz.isAgg0
  z0 := Tryz.sizeOf0
  v0 := Tryz.zeroValue0
  t2 := Tryz.underlying2
  a2 := Tryz.isAgg2
  z2 := Tryz.sizeOf2
  v2 := Tryz.zeroValue2
  t3 := Tryz.underlying3
  a3 := Tryz.isAgg3
  z3 := Tryz.sizeOf3
  v3 := Tryz.zeroValue3
  t4 := Tryz.underlying4
  a4 := Tryz.isAgg4
  z4 := Tryz.sizeOf4
  v4 := Tryz.zeroValue4
  t5 := Tryz.underlying5
  a5 := Tryz.isAgg5
  z5 := Tryz.sizeOf5
  v5 := Tryz.zeroValue5
  t9 := Tryz.underlying9
  a9 := Tryz.isAgg9
  z9 := Tryz.sizeOf9
  v9 := Tryz.zeroValue9
  t20 := Tryz.underlying20
  a20 := Tryz.isAgg20
  z20 := Tryz.sizeOf20
  v20 := Tryz.zeroValue20
  t37 := Tryz.underlying31
  a37 := Tryz.isAgg31
  z37 := Tryz.sizeOf31
  v37 := Tryz.zeroValue31
  t46 := Tryz.underlying192
  a46 := Tryz.isAgg192
  z46 := Tryz.sizeOf192
  v46 := Tryz.zeroValue192
  t51 := Tryz.underlying72
  a51 := Tryz.isAgg72
  z51 := Tryz.sizeOf72
  v51 := Tryz.zeroValue72
  t53 := Tryz.underlying183
  a53 := Tryz.isAgg183
  z53 := Tryz.sizeOf183
  v53 := Tryz.zeroValue183
  t171 := Tryz.underlying220
  a171 := Tryz.isAgg220
  z171 := Tryz.sizeOf220
  v171 := Tryz.zeroValue220
  t173 := Tryz.underlying222
  a173 := Tryz.isAgg222
  z173 := Tryz.sizeOf222
  v173 := Tryz.zeroValue222
  t212 := Tryz.underlying237
  a212 := Tryz.isAgg237
  z212 := Tryz.sizeOf237
  v212 := Tryz.zeroValue237
  t213 := Tryz.underlying238
  a213 := Tryz.isAgg238
  z213 := Tryz.sizeOf238
  t232 := Tryz.underlying242
  a232 := Tryz.isAgg242
  z232 := Tryz.sizeOf242
  v232 := Tryz.zeroValue242
  t233 := Tryz.underlying243
  a233 := Tryz.isAgg243
  z233 := Tryz.sizeOf243
  v233 := Tryz.zeroValue243
  g17 := by kernel_rfl
  g18 := by kernel_rfl
  g19 := by kernel_rfl
  i0 := by kernel_rfl
  i2 := by kernel_rfl
  i3 := by kernel_rfl
  i4 := by kernel_rfl
  i5 := by kernel_rfl
  i9 := by kernel_rfl
  i20 := by kernel_rfl
  i37 := by kernel_rfl
  i46 := by kernel_rfl
  i51 := by kernel_rfl
  i53 := by kernel_rfl
  i171 := by kernel_rfl
  i173 := by kernel_rfl
  i212 := by kernel_rfl
  i232 := by kernel_rfl
  i233 := by kernel_rfl
  m17 := by kernel_rfl
  m18 := by kernel_rfl
  m19 := by kernel_rfl }
def Tryz.atoi_ren : Go.Shelf.Ren := ⟨fun | 172 => 86 | 244 => 118 | 245 => 119 | 247 => 139 | 279 => 140 | 280 => 141 | 281 => 142 | 282 => 143 | 287 => 162 | 316 => 163 | 171 => 165 | 205 => 164 | 321 => 192 | 322 => 193 | 243 => 194 | 246 => 209 | 283 => 186 | 284 => 187 | 285 => 188 | 286 => 189 | 129 => 179 | 317 => 206 | 318 => 207 | 319 => 208 | 320 => 203 | 337 => 211 | 338 => 212 | n => n, fun | 9 => 9 | 3 => 3 | 75 => 140 | 76 => 141 | 4 => 4 | 5 => 5 | 167 => 177 | 37 => 31 | 0 => 0 | 85 => 178 | 2 => 2 | 168 => 180 | 53 => 183 | 175 => 200 | 46 => 192 | 210 => 204 | 127 => 227 | 145 => 230 | 143 => 228 | 21 => 21 | 171 => 220 | 173 => 222 | 212 => 237 | 51 => 72 | 20 => 20 | 213 => 238 | 232 => 242 | 233 => 243 | 80 => 244 | n => n, fun | 15 => 2 | 16 => 3 | 17 => 4 | 18 => 5 | 19 => 6 | n => n⟩
theorem Tryz.atoi : Go.Proofs.LaysC.n172 Tryz.prog Tryz.atoi_ren := {
  mixed := by kernel_rfl
  f129 := Tryz.func179.trans (congrArg some (by kernel_rfl))
  f171 := Tryz.func165.trans (congrArg some (by kernel_rfl))
  f172 := Tryz.func86.trans (congrArg some (by kernel_rfl))
  f205 := Tryz.func164.trans (congrArg some (by kernel_rfl))
  f243 := Tryz.func194.trans (congrArg some (by kernel_rfl))
  f244 := Tryz.func118.trans (congrArg some (by kernel_rfl))
  f245 := Tryz.func119.trans (congrArg some (by kernel_rfl))
  f246 := Tryz.func209.trans (congrArg some (by kernel_rfl))
  f247 := Tryz.func139.trans (congrArg some (by kernel_rfl))
  f279 := Tryz.func140.trans (congrArg some (by kernel_rfl))
  f280 := Tryz.func141.trans (congrArg some (by kernel_rfl))
  f281 := Tryz.func142.trans (congrArg some (by kernel_rfl))
  f282 := Tryz.func143.trans (congrArg some (by kernel_rfl))
  f283 := Tryz.func186.trans (congrArg some (by kernel_rfl))
  f284 := Tryz.func187.trans (congrArg some (by kernel_rfl))
  f285 := Tryz.func188.trans (congrArg some (by kernel_rfl))
  f286 := Tryz.func189.trans (congrArg some (by kernel_rfl))
  f287 := Tryz.func162.trans (congrArg some (by kernel_rfl))
  f316 := Tryz.func163.trans (congrArg some (by kernel_rfl))
  f317 := Tryz.func206.trans (congrArg some (by kernel_rfl))
  f318 := Tryz.func207.trans (congrArg some (by kernel_rfl))
  f319 := Tryz.func208.trans (congrArg some (by kernel_rfl))
  f320 := Tryz.func203.trans (congrArg some (by kernel_rfl))
  f321 := Tryz.func192.trans (congrArg some (by kernel_rfl))
  f322 := Tryz.func193.trans (congrArg some (by kernel_rfl))
  f337 := Tryz.func211.trans (congrArg some (by kernel_rfl))
  f338 := Tryz.func212.trans (congrArg some (by kernel_rfl))
  t0 := Tryz.underlying0
  a0 := Tryz.isAgg0
  z0 := Tryz.sizeOf0
  v0 := Tryz.zeroValue0
  t2 := Tryz.underlying2
  a2 := Tryz.isAgg2
  z2 := Tryz.sizeOf2
  v2 := Tryz.zeroValue2
  t3 := Tryz.underlying3
  a3 := Tryz.isAgg3
  z3 := Tryz.sizeOf3
  v3 := Tryz.zeroValue3
  t4 := Tryz.underlying4
  a4 := Tryz.isAgg4
  z4 := Tryz.sizeOf4
  v4 := Tryz.zeroValue4
  t5 := Tryz.underlying5
  a5 := Tryz.isAgg5
  z5 := Tryz.sizeOf5
  v5 := Tryz.zeroValue5
  t9 := Tryz.underlying9
  a9 := Tryz.isAgg9
  z9 := Tryz.sizeOf9
  v9 := Tryz.zeroValue9
  t20 := Tryz.underlying20
  a20 := Tryz.isAgg20
  z20 := Tryz.sizeOf20
  v20 := Tryz.zeroValue20
  t21 := Tryz.underlying21
  a21 := Tryz.isAgg21
  z21 := Tryz.sizeOf21
  v21 := Tryz.zeroValue21
  t37 := Tryz.underlying31
  a37 := Tryz.isAgg31
  z37 := Tryz.sizeOf31
  v37 := Tryz.zeroValue31
  t46 := Tryz.underlying192
  a46 := Tryz.isAgg192
  z46 := Tryz.sizeOf192
  v46 := Tryz.zeroValue192
  t51 := Tryz.underlying72
  a51 := Tryz.isAgg72
  z51 := Tryz.sizeOf72
  v51 := Tryz.zeroValue72
  t53 := Tryz.underlying183
  a53 := Tryz.isAgg183
  z53 := Tryz.sizeOf183
  v53 := Tryz.zeroValue183
  t75 := Tryz.underlying140
  a75 := Tryz.isAgg140
  z75 := Tryz.sizeOf140
  v75 := Tryz.zeroValue140
  t76 := Tryz.underlying141
  a76 := Tryz.isAgg141
  z76 := Tryz.sizeOf141
  v76 := Tryz.zeroValue141
  t85 := Tryz.underlying178
  a85 := Tryz.isAgg178
  z85 := Tryz.sizeOf178
  v85 := Tryz.zeroValue178
  t127 := Tryz.underlying227
  a127 := Tryz.isAgg227
  z127 := Tryz.sizeOf227
  v127 := Tryz.zeroValue227
  t143 := Tryz.underlying228
  a143 := Tryz.isAgg228
  z143 := Tryz.sizeOf228
  v143 := Tryz.zeroValue228
  t145 := Tryz.underlying230
  a145 := Tryz.isAgg230
  z145 := Tryz.sizeOf230
  v145 := Tryz.zeroValue230
  t167 := Tryz.underlying177
  a167 := Tryz.isAgg177
  z167 := Tryz.sizeOf177
  v167 := Tryz.zeroValue177
  t168 := Tryz.underlying180
  a168 := Tryz.isAgg180
  z168 := Tryz.sizeOf180
  v168 := Tryz.zeroValue180
  t171 := Tryz.underlying220
  a171 := Tryz.isAgg220
  z171 := Tryz.sizeOf220
  v171 := Tryz.zeroValue220
  t173 := Tryz.underlying222
  a173 := Tryz.isAgg222
  z173 := Tryz.sizeOf222
  v173 := Tryz.zeroValue222
  t175 := Tryz.underlying200
  a175 := Tryz.isAgg200
  z175 := Tryz.sizeOf200
  v175 := Tryz.zeroValue200
  t210 := Tryz.underlying204
  a210 := Tryz.isAgg204
  z210 := Tryz.sizeOf204
  v210 := Tryz.zeroValue204
  t212 := Tryz.underlying237
  a212 := Tryz.isAgg237
  z212 := Tryz.sizeOf237
  v212 := Tryz.zeroValue237
  t213 := Tryz.underlying238
  a213 := Tryz.isAgg238
  z213 := Tryz.sizeOf238
  t232 := Tryz.underlying242
  a232 := Tryz.isAgg242
  z232 := Tryz.sizeOf242
  v232 := Tryz.zeroValue242
  t233 := Tryz.underlying243
  a233 := Tryz.isAgg243
  z233 := Tryz.sizeOf243
  v233 := Tryz.zeroValue243
  g15 := by kernel_rfl
  g16 := by kernel_rfl
  g17 := by kernel_rfl
  g18 := by kernel_rfl
  g19 := by kernel_rfl
  t80 := Tryz.underlying244
  a80 := Tryz.isAgg244
  z80 := Tryz.sizeOf244
  v80 := Tryz.zeroValue244
  i0 := by kernel_rfl
  i2 := by kernel_rfl
  i3 := by kernel_rfl
  i4 := by kernel_rfl
  i5 := by kernel_rfl
  i9 := by kernel_rfl
  i20 := by kernel_rfl
  i21 := by kernel_rfl
  i37 := by kernel_rfl
  i46 := by kernel_rfl
  i51 := by kernel_rfl
  i53 := by kernel_rfl
  i75 := by kernel_rfl
  i76 := by kernel_rfl
  i80 := by kernel_rfl
  i85 := by kernel_rfl
  i127 := by kernel_rfl
  i143 := by kernel_rfl
  i145 := by kernel_rfl
  i167 := by kernel_rfl
  i168 := by kernel_rfl
  i171 := by kernel_rfl
  i173 := by kernel_rfl
  i175 := by kernel_rfl
  i210 := by kernel_rfl
  i212 := by kernel_rfl
  i232 := by kernel_rfl
  i233 := by kernel_rfl
  m15 := by kernel_rfl
  m16 := by kernel_rfl
  m17 := by kernel_rfl
  m18 := by kernel_rfl
  m19 := by kernel_rfl
  c0 := by kernel_rfl
  c2 := by kernel_rfl
  c3 := by kernel_rfl
  c4 := by kernel_rfl
  c5 := by kernel_rfl
  c9 := by kernel_rfl
  c20 := by kernel_rfl
  c21 := by kernel_rfl
  c37 := by kernel_rfl
  c46 := by kernel_rfl
  c51 := by kernel_rfl
  c53 := by kernel_rfl
  c75 := by kernel_rfl
  c76 := by kernel_rfl
  c80 := by kernel_rfl
  c85 := by kernel_rfl
  c127 := by kernel_rfl
  c143 := by kernel_rfl
  c145 := by kernel_rfl
  c167 := by kernel_rfl
  c168 := by kernel_rfl
  c171 := by kernel_rfl
  c173 := by kernel_rfl
  c175 := by kernel_rfl
  c210 := by kernel_rfl
  c212 := by kernel_rfl
  c213 := by kernel_rfl
  c232 := by kernel_rfl
  c233 := by kernel_rfl }
def Tryz.cut_ren : Go.Shelf.Ren := ⟨fun | 145 => 83 | 220 => 116 | 219 => 138 | 217 => 158 | 225 => 159 | 224 => 160 | 267 => 161 | 266 => 190 | 314 => 191 | n => n, fun | 9 => 9 | 4 => 4 | 59 => 132 | 3 => 3 | 5 => 5 | 46 => 192 | 146 => 224 | 51 => 72 | n => n, fun | 1 => 1 | n => n⟩
theorem Tryz.cut : Go.Proofs.Lays.n145 Tryz.prog Tryz.cut_ren := {
  mixed := by kernel_rfl
  f145 := Tryz.func83.trans (congrArg some (by kernel_rfl))
  f217 := Tryz.func158.trans (congrArg some (by kernel_rfl))
  f219 := Tryz.func138.trans (congrArg some (by kernel_rfl))
  f220 := Tryz.func116.trans (congrArg some (by kernel_rfl))
  f224 := Tryz.func160.trans (congrArg some (by kernel_rfl))
  f225 := Tryz.func159.trans (congrArg some (by kernel_rfl))
  f266 := Tryz.func190.trans (congrArg some (by kernel_rfl))
  f267 := Tryz.func161.trans (congrArg some (by kernel_rfl))
  f314 := Tryz.func191.trans (congrArg some (by kernel_rfl))
  t3 := Tryz.underlying3
  a3 := Tryz.isAgg3
  z3 := Tryz.sizeOf3
  v3 := Tryz.zeroValue3
  t4 := Tryz.underlying4
  a4 := Tryz.isAgg4
  z4 := Tryz.sizeOf4
  v4 := Tryz.zeroValue4
  t5 := Tryz.underlying5
  a5 := Tryz.isAgg5
  z5 := Tryz.sizeOf5
  v5 := Tryz.zeroValue5
  t9 := Tryz.underlying9
  a9 := Tryz.isAgg9
  z9 := Tryz.sizeOf9
  v9 := Tryz.zeroValue9
  t46 := Tryz.underlying192
  a46 := Tryz.isAgg192
  z46 := Tryz.sizeOf192
  v46 := Tryz.zeroValue192
  t51 := Tryz.underlying72
  a51 := Tryz.isAgg72
  z51 := Tryz.sizeOf72
  v51 := Tryz.zeroValue72
  t59 := Tryz.underlying132
  a59 := Tryz.isAgg132
  z59 := Tryz.sizeOf132
  v59 := Tryz.zeroValue132
  t146 := Tryz.underlying224
  a146 := Tryz.isAgg224
  z146 := Tryz.sizeOf224
  v146 := Tryz.zeroValue224
  g1 := by kernel_rfl }
def Tryz.rev_ren : Go.Shelf.Ren := ⟨fun | 35 => 117 | n => n, fun | 22 => 135 | 23 => 138 | 3 => 3 | 4 => 4 | 0 => 0 | n => n, fun | n => n⟩
theorem Tryz.rev : Go.Proofs.SlLaysE.n35 Tryz.prog Tryz.rev_ren := {
  mixed := by kernel_rfl
  f35 := ⟨Tryz.f117.name, by decide, Tryz.func117.trans (congrArg some (by kernel_rfl))⟩
  t0 := Tryz.underlying0
  a0 := Tryz.isAgg0
  z0 := Tryz.sizeOf0
  v0 := Tryz.zeroValue0
  t3 := Tryz.underlying3
  a3 := Tryz.isAgg3
  z3 := Tryz.sizeOf3
  v3 := Tryz.zeroValue3
  t4 := Tryz.underlying4
  a4 := Tryz.isAgg4
  z4 := Tryz.sizeOf4
  v4 := Tryz.zeroValue4
  t22 := Tryz.underlying135
  a22 := Tryz.isAgg135
  z22 := Tryz.sizeOf135
  v22 := Tryz.zeroValue135
  a23 := Tryz.isAgg138
  z23 := Tryz.sizeOf138 }
end Go.Proofs
namespace Go.Proofs.YtpojhplnhppcpaaGreatDoor
open Go.RowKit Go.Maps Go.Sort
def ptrV (b i : Nat) : Value := .pointer (some ⟨b, i, none⟩)
/-- A slice of addresses in the block b, that is new since w0. -/
structure PS (w0 w : World) (b : Nat) (v : Value) (is : List Nat) : Prop where
  sl : Sl w 138 1 v is.length (is.map (ptrV b))
  own : ∀ q, v.ownBlock = some q → w0.heap.size ≤ q
  below : Below w0.heap.size w0 w
theorem infoPtr : (Tryz.prog.info? 138).map (fun i => (i.zero, i.size, i.bytes)) = some (some (.pointer none), 1, 8) := by kernel_rfl
theorem PS.step {w0 w w' : World} {b : Nat} {v v' : Value} {is : List Nat} {i : Nat} (h : PS w0 w b v is) (h1 : Sl w' 138 1 v' (is.length + 1) (is.map (ptrV b) ++ [ptrV b i])) (h2 : (w.alloc (.cells #[ptrV b i] 138)).grownBy w' v.ownBlock)
    (h3 : v'.ownBlock = v.ownBlock ∨ v'.ownBlock = some (w.alloc (.cells #[ptrV b i] 138)).heap.size) : PS w0 w' b v' (is ++ [i]) := by
  have hb := bel_on h.below (bel_new w (.cells #[ptrV b i] 138))
  refine ⟨by rw [List.length_append, List.map_append]; exact h1, fun q hq => ?_, hb.grown h2 hb.size fun g hg => h.own g hg⟩
  rcases h3 with h3 | h3
  · exact h.own q (h3 ▸ hq)
  · rw [h3] at hq
    simp only [Option.some.injEq] at hq
    have := hb.size
    omega
section
variable {ops : Array Oper} {rest : List Oper} {o : Oper} {a : Act} {Q : Exit → Act → World → Prop} {w0 w : World}
/-- An address more. -/
theorem arm_ptr (s x : Operand) (ho : o.op = .call { callee := .builtin .append, args := #[s, x], argTypes := #[135, 135] }) (hgd : o.guard = none) (b i : Nat) (v : Value) (is : List Nat) (h : Hid (PS w0 w b v is)) (hs : a.eval s = v) (hx : a.eval x = .slice (some ⟨w.heap.size, 0, none⟩) 1 1) (hn : is.length ≤ 1000)
    (hK : ∀ A' cap' w', Hid (PS w0 w' b (.slice A' (is.length + 1) cap') (is ++ [i])) → wpList Tryz.prog ops Q rest (a.put o.dst (.slice A' (is.length + 1) cap')) w') : wpList Tryz.prog ops Q (o :: rest) a (w.alloc (.cells #[.pointer (some ⟨b, i, none⟩)] 138)) := by
  obtain ⟨i0, hi, hz0, hz1, hz2⟩ := info_parts infoPtr
  refine arm_append_sl s x 135 ho hgd 138 i0 _ 1 8 Tryz.underlying135 hi hz0 hz1 hz2 rfl (by decide) v is.length (is.map (ptrV b)) hs (h.out.sl.keep fun g hg => (bel_new w _).block g (h.out.sl.lt hg)) ⟨w.heap.size, 0, none⟩ 1 1 [ptrV b i] hx rfl (cell_one_new w (ptrV b i) 138) (by intro u hu; simp only [List.mem_singleton] at hu; subst hu; rfl) (by unfold maxLen; omega) (by omega) fun v' w' h1 h2 h3 => ?_
  obtain ⟨A', cap', rfl, _⟩ := h1.shape
  exact hK A' cap' w' (Lib.hid (h.out.step h1 h2 h3))
end
theorem Sl.of_cells {w : World} {e n g o cap : Nat} {cur : Array Value} {xs : List Value} (hb : w.heap[g]? = some (.cells cur e (0, 0))) (hn : n ≤ cap) (hc : cap ≤ maxLen) (hs : o + cap ≤ cur.size) (hl : xs.length = n) (hx : ∀ j u, xs[j]? = some u → w.cell? ⟨g, o + j, none⟩ = some u) : Sl w e 1 (.slice (some ⟨g, o, none⟩) n cap) n xs := by
  refine ⟨by omega, .inr ⟨g, o, cap, cur, rfl, hb, hn, hc, by omega, ?_⟩⟩
  refine List.ext_getElem? fun j => ?_
  rw [List.getElem?_take]
  by_cases hj : j < n
  · obtain ⟨u, hu⟩ : ∃ u, xs[j]? = some u := ⟨_, List.getElem?_eq_getElem (by omega)⟩
    have h1 := hx j u hu
    rw [cell_of_row w g (o + j) cur e (0, 0) hb] at h1
    rw [if_pos (by omega), List.getElem?_drop, hu, ← h1]
    simp
  · rw [if_neg (by omega), List.getElem?_eq_none (by omega)]
/-- slices.Reverse of addresses. -/
theorem rev_any (b : Nat) (v : Value) (is : List Nat) (w0 w : World) (h : PS w0 w b v is) (hn : is.length ≤ 1000) :
    Calls Tryz.prog 117 #[v] w fun e w' => e = .returned (.tuple #[]) ∧ PS w0 w' b v is.reverse := by
  obtain ⟨hl, h0 | ⟨g, o, cap, cur, rfl, hb, h1, h2, h3, h4⟩⟩ := h.sl
  · obtain ⟨rfl, hz⟩ := h0
    have : is = [] := List.eq_nil_of_length_eq_zero hz
    subst this
    refine (AnyE.slices_Reverse_empty Tryz.rev none 0 w).mono ?_
    rintro e w' ⟨rfl, rfl⟩
    exact ⟨rfl, h⟩
  · have hcell : ∀ j, j < is.length → w.cell? ⟨g, o + j, none⟩ = some (ptrV b is[j]!) := fun j hj => h.sl.cells rfl j _ (by rw [List.getElem?_map, List.getElem?_eq_getElem hj, getElem!_pos is j hj]; rfl)
    have hH : Holds (ptrV b) w g o is.toArray := fun j hj => by
      have hj' : j < is.length := by simpa using hj
      refine ⟨?_, frozen_of_row w g (o + j) cur 138 hb⟩
      rw [hcell j hj']
      simp
    have hown := h.own g rfl
    refine (AnyE.slices_Reverse Tryz.rev (ptrV b) (fun _ => rfl) g o cap is w hH (by omega)).mono ?_
    rintro e w' ⟨rfl, n, rfl⟩
    have hb' : (putRow (ptrV b) (Sort.ahead w n) g o is.reverse.toArray).heap[g]? = some (.cells (putCells (ptrV b) o is.reverse.toArray cur) 138 (0, 0)) := by
      show (w.heap.modify g (onCells (putCells (ptrV b) o is.reverse.toArray)))[g]? = _
      rw [Array.getElem?_modify, if_pos rfl, hb]
      rfl
    have hkeep : Below w0.heap.size w0 (putRow (ptrV b) (Sort.ahead w n) g o is.reverse.toArray) := by
      refine h.below.trans ⟨rfl, rfl, rfl, by simp, fun k hk => ?_⟩
      have hne : g ≠ k := by omega
      show (w.heap.modify g (onCells (putCells (ptrV b) o is.reverse.toArray)))[k]? = _
      rw [Array.getElem?_modify, if_neg hne]
    refine ⟨rfl, ⟨?_, h.own, hkeep⟩⟩
    have hsz : (putCells (ptrV b) o is.reverse.toArray cur).size = cur.size := by simp [putCells]
    rw [List.length_reverse]
    refine Sl.of_cells hb' h1 h2 (by rw [hsz]; omega) (by simp) fun j u hu => ?_
    have hj : j < is.length := by have := (List.getElem?_eq_some_iff.1 hu).1; simpa using this
    have hc := cell?_putRow (ptrV b) (Sort.ahead w n) g o is.toArray is.reverse.toArray hH (by simp) j (by simpa using hj)
    rw [hc, ← hu, List.getElem?_map, List.getElem?_eq_getElem (by simpa using hj)]
    simp [hj]
/-- The cells of the fields that a line names, in its order. -/
def idxK (k : Int) : List Nat :=
  if k = 1 ∨ k = 2 then [1, 2, 3] else if k = 5 then [1, 2] else if k = 3 then [1] else if k = 7 then [1, 4, 5, 6, 7, 8, 9, 10, 11, 2] else if k = 6 then [1, 4, 5, 6, 7, 8, 9, 10, 11] else if k = 4 then [] else [0]
set_option maxRecDepth 100000 in
set_option maxHeartbeats 8000000 in
set_option linter.unusedSimpArgs false in
theorem fields_any (b : Nat) (x : List Int) (w : World) (hx : x.length = 12) (hA : Arr w b 68 (iv x)) :
    Calls Tryz.prog 85 #[.pointer (some ⟨b, 0, none⟩)] w fun e w' => ∃ v, e = .returned v ∧ PS w w' b v (idxK (x.getD 0 0)) := by
  obtain ⟨k, a1, a2, a3, a4, a5, a6, a7, a8, a9, b0, b1, rfl⟩ := line12 hx
  have e0 := hA.cell (j := 0) (u := .int .i64 k) rfl
  have HR := Lib.hid fun (v : Value) (is : List Nat) (w1 : World) (h : PS w w1 b v is) (hn : is.length ≤ 1000) => rev_any b v is w w1 h hn
  have HP0 : Hid (PS w w b (.slice none 0 0) []) := Lib.hid ⟨Sl.nil _ _ _, fun q hq => by simp [Value.ownBlock] at hq, Below.refl _ _⟩
  show Calls _ _ _ _ fun e w' => ∃ v, e = .returned v ∧ PS w w' b v (idxK k)
  obtain ⟨IK, hIK⟩ : ∃ IK, idxK k = IK := ⟨_, rfl⟩
  rw [hIK]
  have HIK := Lib.hid hIK
  clear hIK hx hA
  by_cases q1 : k = 1
  · subst q1
    obtain rfl : IK = [1, 2, 3] := HIK.out.symm
    clear HIK
    go_enter Tryz.func85, Tryz.ntmps85
    go_wp2_with (first
      | (at_builtin; (refine arm_ptr _ _ rfl rfl b _ _ _ (by assumption) rfl rfl (by simp) ?_); intro A' cap' w' hps)
      | (go_at_call 117; refine (HR.out _ _ _ (Hid.out (by assumption)) (by simp)).mono ?_; rintro e w' ⟨rfl, hps⟩; refine Hid.out ?_))
    refine Lib.hid ?_
    go_wp2_with fail
    go_ret
    exact ⟨_, rfl, hps⟩
  by_cases q2 : k = 2
  · subst q2
    obtain rfl : IK = [1, 2, 3] := HIK.out.symm
    clear HIK
    go_enter Tryz.func85, Tryz.ntmps85
    go_wp2_with (first
      | (at_builtin; (refine arm_ptr _ _ rfl rfl b _ _ _ (by assumption) rfl rfl (by simp) ?_); intro A' cap' w' hps)
      | (go_at_call 117; refine (HR.out _ _ _ (Hid.out (by assumption)) (by simp)).mono ?_; rintro e w' ⟨rfl, hps⟩; refine Hid.out ?_))
    refine Lib.hid ?_
    go_wp2_with fail
    go_ret
    exact ⟨_, rfl, hps⟩
  by_cases q5 : k = 5
  · subst q5
    obtain rfl : IK = [1, 2] := HIK.out.symm
    clear HIK
    go_enter Tryz.func85, Tryz.ntmps85
    go_wp2_with (first
      | (at_builtin; (refine arm_ptr _ _ rfl rfl b _ _ _ (by assumption) rfl rfl (by simp) ?_); intro A' cap' w' hps)
      | (go_at_call 117; refine (HR.out _ _ _ (Hid.out (by assumption)) (by simp)).mono ?_; rintro e w' ⟨rfl, hps⟩; refine Hid.out ?_))
    refine Lib.hid ?_
    go_wp2_with fail
    go_ret
    exact ⟨_, rfl, hps⟩
  by_cases q3 : k = 3
  · subst q3
    obtain rfl : IK = [1] := HIK.out.symm
    clear HIK
    go_enter Tryz.func85, Tryz.ntmps85
    go_wp2_with (first
      | (at_builtin; (refine arm_ptr _ _ rfl rfl b _ _ _ (by assumption) rfl rfl (by simp) ?_); intro A' cap' w' hps)
      | (go_at_call 117; refine (HR.out _ _ _ (Hid.out (by assumption)) (by simp)).mono ?_; rintro e w' ⟨rfl, hps⟩; refine Hid.out ?_))
    refine Lib.hid ?_
    go_wp2_with fail
    go_ret
    exact ⟨_, rfl, hps⟩
  by_cases q4 : k = 4
  · subst q4
    obtain rfl : IK = [] := HIK.out.symm
    clear HIK
    go_enter Tryz.func85, Tryz.ntmps85
    go_wp2_with (first
      | (at_builtin; (refine arm_ptr _ _ rfl rfl b _ _ _ (by assumption) rfl rfl (by simp) ?_); intro A' cap' w' hps)
      | (go_at_call 117; refine (HR.out _ _ _ (Hid.out (by assumption)) (by simp)).mono ?_; rintro e w' ⟨rfl, hps⟩; refine Hid.out ?_))
    refine Lib.hid ?_
    go_wp2_with fail
    go_ret
    exact ⟨_, rfl, hps⟩
  by_cases q7 : k = 7
  · subst q7
    obtain rfl : IK = [1, 4, 5, 6, 7, 8, 9, 10, 11, 2] := HIK.out.symm
    clear HIK
    go_enter Tryz.func85, Tryz.ntmps85
    go_wp2_with (at_builtin; (refine arm_ptr _ _ rfl rfl b _ _ _ (by assumption) rfl rfl (by simp) ?_); intro A' cap' w' hps)
    go_loopw [3, 46] (fun s i wr => ∃ (A' : Option Addr) (cap' j : Nat), s = .slice A' (1 + j) cap' ∧ i = .int .i64 (j : Int) ∧ j ≤ 8 ∧ Hid (PS w wr b (.slice A' (1 + j) cap') ([2] ++ (List.range j).map fun q => 11 - q))) (fun _ i _ => 8 - (intOf i).toNat)
    case atStart => exact ⟨_, _, 0, rfl, rfl, by omega, by assumption⟩
    case round =>
      obtain ⟨A0, cap0, j, rfl, rfl, hj, HPS⟩ := hrel
      by_cases hlt : j < 8
      · have hjI : (j : Int) < 8 := by omega
        have hw1 : IntKind.i64.wrap (7 - (j : Int)) = ((7 - j : Nat) : Int) := by rw [i64_wraps]; omega
        have h1 : (7 - j : Nat) < 8 := by omega
        have h1I : ((7 - j : Nat) : Int) < 8 := by omega
        have h4 : 4 + (7 - j) = 11 - j := by omega
        have hlen : ([2] ++ (List.range j).map fun q => 11 - q).length = 1 + j := by simp only [List.length_append, List.length_map, List.length_range, List.length_cons, List.length_nil]
        have HLEN := Lib.hid hlen
        clear hlen
        go_wp2_with (at_builtin; (refine arm_ptr _ _ rfl rfl b (11 - j) _ _ HPS rfl rfl (by rw [HLEN.out]; omega) ?_); intro A' cap' w' hps; rw [HLEN.out] at hps; try rw [HLEN.out])
        go_roundw
        case rel => exact ⟨A', cap', j + 1, by first | rw [Nat.add_assoc] | rw [Nat.zero_add], by simp, by omega, by
          rw [List.range_succ, List.map_append, ← List.append_assoc]
          exact hps⟩
        case measure => simp [intOf]; omega
      · obtain rfl : j = 8 := by omega
        go_wp2_with (first
          | (at_builtin; (refine arm_ptr _ _ rfl rfl b _ _ _ (by assumption) rfl rfl (by simp) ?_); intro A' cap' w' hps)
          | (go_at_call 117; refine (HR.out _ _ _ (Hid.out (by assumption)) (by simp)).mono ?_; rintro e w' ⟨rfl, hps⟩; refine Hid.out ?_))
        refine Lib.hid ?_
        go_wp2_with fail
        go_ret
        exact ⟨_, rfl, hps⟩
  by_cases q6 : k = 6
  · subst q6
    obtain rfl : IK = [1, 4, 5, 6, 7, 8, 9, 10, 11] := HIK.out.symm
    clear HIK
    go_enter Tryz.func85, Tryz.ntmps85
    go_wp2_with (at_builtin; (refine arm_ptr _ _ rfl rfl b _ _ _ (by assumption) rfl rfl (by simp) ?_); intro A' cap' w' hps)
    go_loopw [3, 46] (fun s i wr => ∃ (A' : Option Addr) (cap' j : Nat), s = .slice A' (0 + j) cap' ∧ i = .int .i64 (j : Int) ∧ j ≤ 8 ∧ Hid (PS w wr b (.slice A' (0 + j) cap') ([] ++ (List.range j).map fun q => 11 - q))) (fun _ i _ => 8 - (intOf i).toNat)
    case atStart => exact ⟨_, _, 0, rfl, rfl, by omega, by assumption⟩
    case round =>
      obtain ⟨A0, cap0, j, rfl, rfl, hj, HPS⟩ := hrel
      by_cases hlt : j < 8
      · have hjI : (j : Int) < 8 := by omega
        have hw1 : IntKind.i64.wrap (7 - (j : Int)) = ((7 - j : Nat) : Int) := by rw [i64_wraps]; omega
        have h1 : (7 - j : Nat) < 8 := by omega
        have h1I : ((7 - j : Nat) : Int) < 8 := by omega
        have h4 : 4 + (7 - j) = 11 - j := by omega
        have hlen : ([] ++ (List.range j).map fun q => 11 - q).length = 0 + j := by simp only [List.length_append, List.length_map, List.length_range, List.length_cons, List.length_nil]
        have HLEN := Lib.hid hlen
        clear hlen
        go_wp2_with (at_builtin; (refine arm_ptr _ _ rfl rfl b (11 - j) _ _ HPS rfl rfl (by rw [HLEN.out]; omega) ?_); intro A' cap' w' hps; rw [HLEN.out] at hps; try rw [HLEN.out])
        go_roundw
        case rel => exact ⟨A', cap', j + 1, by first | rw [Nat.add_assoc] | rw [Nat.zero_add], by simp, by omega, by
          rw [List.range_succ, List.map_append, ← List.append_assoc]
          exact hps⟩
        case measure => simp [intOf]; omega
      · obtain rfl : j = 8 := by omega
        go_wp2_with (first
          | (at_builtin; (refine arm_ptr _ _ rfl rfl b _ _ _ (by assumption) rfl rfl (by simp) ?_); intro A' cap' w' hps)
          | (go_at_call 117; refine (HR.out _ _ _ (Hid.out (by assumption)) (by simp)).mono ?_; rintro e w' ⟨rfl, hps⟩; refine Hid.out ?_))
        refine Lib.hid ?_
        go_wp2_with fail
        go_ret
        exact ⟨_, rfl, hps⟩
  · have hik : IK = [0] := by rw [← HIK.out]; unfold idxK; simp [q1, q2, q3, q4, q5, q6, q7]
    subst hik
    clear HIK
    go_enter Tryz.func85, Tryz.ntmps85
    go_wp2_with (first
      | (at_builtin; (refine arm_ptr _ _ rfl rfl b _ _ _ (by assumption) rfl rfl (by simp) ?_); intro A' cap' w' hps)
      | (go_at_call 117; refine (HR.out _ _ _ (Hid.out (by assumption)) (by simp)).mono ?_; rintro e w' ⟨rfl, hps⟩; refine Hid.out ?_))
    refine Lib.hid ?_
    go_wp2_with fail
    go_ret
    exact ⟨_, rfl, hps⟩
end Go.Proofs.YtpojhplnhppcpaaGreatDoor
