import Derived.Shelf.Small.Strs
import Derived.Shelf.Strconv.Itoa0
import Derived.Shelf.Strconv.Itoa1
import Derived.Shelf.LaysM
import Derived.Shelf.Strconv.Itoa2
import Derived.Shelf.Strconv.Itoa3
import Derived.Shelf.Strings.Search1
import Derived.Test.YtbfmoiaedopeiaaDoorProg
import Derived.WalkKit
import Derived.WalkLawsBesides
import Derived.WalkSpells
import Derived.Outline
import Derived.BigQuiet
import Derived.Deep.QuietTactic
import Derived.Deep.RegionWith
import Derived.Deep.DeepCutAuto
import Derived.Deep.LoopGhost
import Derived.Deep.DeepMust
import Derived.Deep.RegionHeld3
import Derived.Deep.RegionHeldLaw
import Derived.Laws.BytesArg
import Derived.Deep.AppendLies
import Derived.ArgAppend
import Derived.Laws.ResultCell
import Derived.Laws.Rows
import Derived.Test.YtbfmoiaedopeiaaDoorRows
import Derived.Lib.Strings
import Derived.Lib.Bytealg
import Derived.Lib.IndexBytes
import Derived.Shelf.Pu.Clone

/-
  DERIVED: THE SHELF's CONTRACTS AT THIS DUMP, IN PLAIN WORDS (tools/lay-plain.mjs out of 'TrydShelf.lean', which tools/lay-shelf.mjs wrote): THE SAME DECLARATIONS UNDER THE SAME NAMES: 'import', 'namespace', 'open', 'def', 'theorem' AND NOTHING ELSE: no command of the shelf's: FOR A HAND-IN. Each laying: the table of numbers ('.._ren') and one theorem, a field a fact of the dump's own or the kernel's comparison; each contract: ONE APPLICATION.
-/
namespace Go.Proofs
open Go.Shelf
def Tryd.lays137_ren : Go.Shelf.Ren := ⟨fun | 137 => 52 | 217 => 65 | 266 => 73 | n => n, fun | 9 => 9 | 5 => 5 | 3 => 3 | n => n, fun | n => n⟩
theorem Tryd.lays137 : Go.Proofs.Lays.n137 Tryd.prog Tryd.lays137_ren := {
  mixed := by kernel_rfl
  f137 := Tryd.func52.trans (congrArg some (by kernel_rfl))
  f217 := Tryd.func65.trans (congrArg some (by kernel_rfl))
  f266 := Tryd.func73.trans (congrArg some (by kernel_rfl))
  t3 := Tryd.underlying3
  a3 := Tryd.isAgg3
  z3 := Tryd.sizeOf3
  v3 := Tryd.zeroValue3
  t5 := Tryd.underlying5
  a5 := Tryd.isAgg5
  z5 := Tryd.sizeOf5
  v5 := Tryd.zeroValue5
  t9 := Tryd.underlying9
  a9 := Tryd.isAgg9
  z9 := Tryd.sizeOf9
  v9 := Tryd.zeroValue9 }
open Go.RowKit in
/-- strings.IndexByte: "IndexByte returns the index of the first instance of c in s, or -1 if c is not present in s.": IT RETURNS 'Lib.indexByte s c'; the world is as it was. (LAID: no walk: one application.) -/
theorem Tryd.strings_IndexByte (s : ByteArray) (c : Int) (w : World) :
    Calls Tryd.prog 52 #[.string s, .int .u8 c] w fun e w' => e = .returned (.int .i64 (Lib.indexByte s.data.toList c.toNat.toUInt8)) ∧ w' = w := Any.strings_IndexByte Tryd.lays137 s c w
def Tryd.lays129_ren : Go.Shelf.Ren := ⟨fun | 129 => 84 | n => n, fun | 53 => 105 | 3 => 3 | 4 => 4 | 46 => 118 | 5 => 5 | 9 => 9 | n => n, fun | n => n⟩
theorem Tryd.lays129 : Go.Proofs.Lays.n129 Tryd.prog Tryd.lays129_ren := {
  mixed := by kernel_rfl
  f129 := Tryd.func84.trans (congrArg some (by kernel_rfl))
  t3 := Tryd.underlying3
  a3 := Tryd.isAgg3
  z3 := Tryd.sizeOf3
  v3 := Tryd.zeroValue3
  t4 := Tryd.underlying4
  a4 := Tryd.isAgg4
  z4 := Tryd.sizeOf4
  v4 := Tryd.zeroValue4
  t5 := Tryd.underlying5
  a5 := Tryd.isAgg5
  z5 := Tryd.sizeOf5
  v5 := Tryd.zeroValue5
  t9 := Tryd.underlying9
  a9 := Tryd.isAgg9
  z9 := Tryd.sizeOf9
  v9 := Tryd.zeroValue9
  t46 := Tryd.underlying118
  a46 := Tryd.isAgg118
  z46 := Tryd.sizeOf118
  v46 := Tryd.zeroValue118
  t53 := Tryd.underlying105
  a53 := Tryd.isAgg105
  z53 := Tryd.sizeOf105
  v53 := Tryd.zeroValue105 }
/-- bits.Len64: "Len64 returns the minimum number of bits required to represent x; the result is 0 for x == 0.": IT RETURNS 'Lib.bitLen x'; the world is as it was. ('h0', 'h1': x is a uint64.) (LAID: no walk: one application.) -/
theorem Tryd.bits_Len64 (x : Int) (w : World) (h0 : 0 ≤ x) (h1 : x ≤ 18446744073709551615) :
    Calls Tryd.prog 84 #[.int .u64 x] w fun e w' => e = .returned (.int .i64 (Lib.bitLen x.toNat)) ∧ w' = w := Any.bits_Len64 Tryd.lays129 x w h0 h1
def Tryd.lays317_ren : Go.Shelf.Ren := ⟨fun | 317 => 83 | n => n, fun | 3 => 3 | 46 => 118 | n => n, fun | n => n⟩
theorem Tryd.lays317 : Go.Proofs.Lays.n317 Tryd.prog Tryd.lays317_ren := {
  mixed := by kernel_rfl
  f317 := Tryd.func83.trans (congrArg some (by kernel_rfl))
  t3 := Tryd.underlying3
  a3 := Tryd.isAgg3
  z3 := Tryd.sizeOf3
  v3 := Tryd.zeroValue3
  t46 := Tryd.underlying118
  a46 := Tryd.isAgg118
  z46 := Tryd.sizeOf118
  v46 := Tryd.zeroValue118 }
open Go.Lib in
/-- internal/strconv.log10Pow2: "log10Pow2(x) returns ⌊log₁₀ 2**x⌋ = ⌊x * log₁₀ 2⌋.": '(x * 78913) >> 18', at an x up to 64 (a length in bits). The world is as it was. (LAID: no walk: one application.) -/
theorem Tryd.internal_strconv_log10Pow2 (x : Nat) (h : x ≤ 64) (w : World) :
    Calls Tryd.prog 83 #[.int .i64 x] w fun e w' => e = .returned (.int .i64 (Lib.l10 x)) ∧ w' = w := Any.internal_strconv_log10Pow2 Tryd.lays317 x h w
def Tryd.lays318_ren : Go.Shelf.Ren := ⟨fun | 318 => 85 | n => n, fun | 3 => 3 | 4 => 4 | n => n, fun | n => n⟩
theorem Tryd.lays318 : Go.Proofs.Lays.n318 Tryd.prog Tryd.lays318_ren := {
  mixed := by kernel_rfl
  f318 := Tryd.func85.trans (congrArg some (by kernel_rfl))
  t3 := Tryd.underlying3
  a3 := Tryd.isAgg3
  z3 := Tryd.sizeOf3
  v3 := Tryd.zeroValue3
  t4 := Tryd.underlying4
  a4 := Tryd.isAgg4
  z4 := Tryd.sizeOf4
  v4 := Tryd.zeroValue4 }
open Go.Lib in
/-- internal/strconv.bool2: "bool2 converts b to an integer: 1 for true, 0 for false." The world is as it was. (LAID: no walk: one application.) -/
theorem Tryd.internal_strconv_bool2_int (b : Bool) (w : World) :
    Calls Tryd.prog 85 #[.bool b] w fun e w' => e = .returned (.int .i64 (if b then 1 else 0)) ∧ w' = w := Any.internal_strconv_bool2_int Tryd.lays318 b w
def Tryd.lays283_ren : Go.Shelf.Ren := ⟨fun | 283 => 69 | n => n, fun | 3 => 3 | 9 => 9 | 4 => 4 | n => n, fun | n => n⟩
theorem Tryd.lays283 : Go.Proofs.Lays.n283 Tryd.prog Tryd.lays283_ren := {
  mixed := by kernel_rfl
  f283 := Tryd.func69.trans (congrArg some (by kernel_rfl))
  t3 := Tryd.underlying3
  a3 := Tryd.isAgg3
  z3 := Tryd.sizeOf3
  v3 := Tryd.zeroValue3
  t4 := Tryd.underlying4
  a4 := Tryd.isAgg4
  z4 := Tryd.sizeOf4
  v4 := Tryd.zeroValue4
  t9 := Tryd.underlying9
  a9 := Tryd.isAgg9
  z9 := Tryd.sizeOf9
  v9 := Tryd.zeroValue9 }
open Go.Lib in
/-- internal/strconv.small: "small returns the string for an i with 0 <= i < nSmalls.": i's decimal numeral. The world is as it was. (LAID: no walk: one application.) -/
theorem Tryd.internal_strconv_small (i : Nat) (h : i < 100) (w : World) :
    Calls Tryd.prog 69 #[.int .i64 i] w fun e w' => e = .returned (.string ⟨(Lib.decDigits i).toArray⟩) ∧ w' = w := Any.internal_strconv_small Tryd.lays283 i h w
def Tryd.laysM284_ren : Go.Shelf.Ren := ⟨fun | 284 => 70 | 129 => 84 | 317 => 83 | 318 => 85 | n => n, fun | 53 => 105 | 3 => 3 | 212 => 115 | 0 => 0 | 4 => 4 | 46 => 118 | 5 => 5 | 9 => 9 | n => n, fun | 17 => 1 | n => n⟩
theorem Tryd.laysM284 : Go.Proofs.LaysM.n284 Tryd.prog Tryd.laysM284_ren := {
  mixed := by kernel_rfl
  f129 := Tryd.func84.trans (congrArg some (by kernel_rfl))
  f284 := Tryd.func70.trans (congrArg some (by kernel_rfl))
  f317 := Tryd.func83.trans (congrArg some (by kernel_rfl))
  f318 := Tryd.func85.trans (congrArg some (by kernel_rfl))
  t0 := Tryd.underlying0
  a0 := Tryd.isAgg0
  z0 := Tryd.sizeOf0
  v0 := Tryd.zeroValue0
  t3 := Tryd.underlying3
  a3 := Tryd.isAgg3
  z3 := Tryd.sizeOf3
  v3 := Tryd.zeroValue3
  t4 := Tryd.underlying4
  a4 := Tryd.isAgg4
  z4 := Tryd.sizeOf4
  v4 := Tryd.zeroValue4
  t5 := Tryd.underlying5
  a5 := Tryd.isAgg5
  z5 := Tryd.sizeOf5
  v5 := Tryd.zeroValue5
  t9 := Tryd.underlying9
  a9 := Tryd.isAgg9
  z9 := Tryd.sizeOf9
  v9 := Tryd.zeroValue9
  t46 := Tryd.underlying118
  a46 := Tryd.isAgg118
  z46 := Tryd.sizeOf118
  v46 := Tryd.zeroValue118
  t53 := Tryd.underlying105
  a53 := Tryd.isAgg105
  z53 := Tryd.sizeOf105
  v53 := Tryd.zeroValue105
  t212 := Tryd.underlying115
  a212 := Tryd.isAgg115
  z212 := Tryd.sizeOf115
  v212 := Tryd.zeroValue115
  g17 := by kernel_rfl
  i0 := by kernel_rfl
  i3 := by kernel_rfl
  i4 := by kernel_rfl
  i5 := by kernel_rfl
  i9 := by kernel_rfl
  i46 := by kernel_rfl
  i53 := by kernel_rfl
  i212 := by kernel_rfl
  m17 := by kernel_rfl }
open Go.Lib in
/-- internal/strconv.numDigits, at a d that is not 0: THE NUMBER OF d's DECIMAL DIGITS. The world is as it was. (LAID: no walk: one application.) -/
theorem Tryd.internal_strconv_numDigits (u : Nat) (h1 : 1 ≤ u) (h2 : u < 18446744073709551616) (w : World) (htab : Lib.TabIs Tryd.prog w "internal/strconv.uint64pow10" .u64 Lib.pow10Tab) :
    Calls Tryd.prog 70 #[.int .u64 u] w fun e w' => e = .returned (.int .i64 (Lib.nDigits u)) ∧ w' = w := Any.internal_strconv_numDigits Tryd.laysM284 u h1 h2 w htab
def Tryd.lays285_ren : Go.Shelf.Ren := ⟨fun | 285 => 71 | n => n, fun | 37 => 46 | 53 => 105 | 3 => 3 | 4 => 4 | 51 => 116 | 9 => 9 | 5 => 5 | 0 => 0 | n => n, fun | n => n⟩
theorem Tryd.lays285 : Go.Proofs.Lays.n285 Tryd.prog Tryd.lays285_ren := {
  mixed := by kernel_rfl
  f285 := Tryd.func71.trans (congrArg some (by kernel_rfl))
  t0 := Tryd.underlying0
  a0 := Tryd.isAgg0
  z0 := Tryd.sizeOf0
  v0 := Tryd.zeroValue0
  t3 := Tryd.underlying3
  a3 := Tryd.isAgg3
  z3 := Tryd.sizeOf3
  v3 := Tryd.zeroValue3
  t4 := Tryd.underlying4
  a4 := Tryd.isAgg4
  z4 := Tryd.sizeOf4
  v4 := Tryd.zeroValue4
  t5 := Tryd.underlying5
  a5 := Tryd.isAgg5
  z5 := Tryd.sizeOf5
  v5 := Tryd.zeroValue5
  t9 := Tryd.underlying9
  a9 := Tryd.isAgg9
  z9 := Tryd.sizeOf9
  v9 := Tryd.zeroValue9
  t37 := Tryd.underlying46
  a37 := Tryd.isAgg46
  z37 := Tryd.sizeOf46
  v37 := Tryd.zeroValue46
  t51 := Tryd.underlying116
  a51 := Tryd.isAgg116
  z51 := Tryd.sizeOf116
  v51 := Tryd.zeroValue116
  t53 := Tryd.underlying105
  a53 := Tryd.isAgg105
  z53 := Tryd.sizeOf105
  v53 := Tryd.zeroValue105 }
open Go.RowKit Go.Sort Go.Lib in
/-- internal/strconv.formatBase10: "formatBase10 formats the decimal representation of u into a. The caller is responsible for ensuring that a is big enough to hold u. If a is too big, leading zeros will be filled in as needed.": THE ROW HOLDS u's DIGITS ('FmtInv .. 0 ..': every place t holds 'dg u (len - 1 - t)'); all else is as it was but for the count of draws. (LAID: no walk: one application.) -/
theorem Tryd.internal_strconv_formatBase10 (blk off cap : Nat) (u : Nat) (d : Array UInt8) (w : World) (hH : Holds (fun (b : UInt8) => Value.int .u8 (b.toNat : Int)) w blk off d) (hu : u < 10 ^ d.size) (hu64 : u < 18446744073709551616) (hsz : d.size < 4611686018427387904) :
    Calls Tryd.prog 71 #[.slice (some ⟨blk, off, none⟩) d.size cap, .int .u64 u] w fun e w' =>
      e = .returned (.tuple #[]) ∧ ∃ (n v' : Nat) (dk : Array UInt8), w' = (putRow (fun (b : UInt8) => Value.int .u8 (b.toNat : Int)) w blk off dk).drewN n ∧ FmtInv d.size u 0 v' dk := Any.internal_strconv_formatBase10 Tryd.lays285 blk off cap u d w hH hu hu64 hsz
def Tryd.laysM246_ren : Go.Shelf.Ren := ⟨fun | 246 => 63 | 283 => 69 | 284 => 70 | 285 => 71 | 286 => 72 | 129 => 84 | 317 => 83 | 318 => 85 | 319 => 86 | 320 => 87 | 337 => 88 | 338 => 89 | n => n, fun | 2 => 2 | 3 => 3 | 9 => 9 | 4 => 4 | 171 => 104 | 0 => 0 | 53 => 105 | 37 => 46 | 5 => 5 | 173 => 108 | 212 => 115 | 51 => 116 | 20 => 20 | 213 => 117 | 46 => 118 | 232 => 122 | 233 => 123 | n => n, fun | 17 => 1 | 18 => 3 | 19 => 4 | n => n⟩
theorem Tryd.laysM246 : Go.Proofs.LaysM.n246 Tryd.prog Tryd.laysM246_ren := {
  mixed := by kernel_rfl
  f129 := Tryd.func84.trans (congrArg some (by kernel_rfl))
  f246 := Tryd.func63.trans (congrArg some (by kernel_rfl))
  f283 := Tryd.func69.trans (congrArg some (by kernel_rfl))
  f284 := Tryd.func70.trans (congrArg some (by kernel_rfl))
  f285 := Tryd.func71.trans (congrArg some (by kernel_rfl))
  f286 := Tryd.func72.trans (congrArg some (by kernel_rfl))
  f317 := Tryd.func83.trans (congrArg some (by kernel_rfl))
  f318 := Tryd.func85.trans (congrArg some (by kernel_rfl))
  f319 := Tryd.func86.trans (congrArg some (by kernel_rfl))
  f320 := Tryd.func87.trans (congrArg some (by kernel_rfl))
  f337 := Tryd.func88.trans (congrArg some (by kernel_rfl))
  f338 := Tryd.func89.trans (congrArg some (by kernel_rfl))
  t0 := Tryd.underlying0
  a0 := Tryd.isAgg0
  z0 := Tryd.sizeOf0
  v0 := Tryd.zeroValue0
  t2 := Tryd.underlying2
  a2 := Tryd.isAgg2
  z2 := Tryd.sizeOf2
  v2 := Tryd.zeroValue2
  t3 := Tryd.underlying3
  a3 := Tryd.isAgg3
  z3 := Tryd.sizeOf3
  v3 := Tryd.zeroValue3
  t4 := Tryd.underlying4
  a4 := Tryd.isAgg4
  z4 := Tryd.sizeOf4
  v4 := Tryd.zeroValue4
  t5 := Tryd.underlying5
  a5 := Tryd.isAgg5
  z5 := Tryd.sizeOf5
  v5 := Tryd.zeroValue5
  t9 := Tryd.underlying9
  a9 := Tryd.isAgg9
  z9 := Tryd.sizeOf9
  v9 := Tryd.zeroValue9
  t20 := Tryd.underlying20
  a20 := Tryd.isAgg20
  z20 := Tryd.sizeOf20
  v20 := Tryd.zeroValue20
  t37 := Tryd.underlying46
  a37 := Tryd.isAgg46
  z37 := Tryd.sizeOf46
  v37 := Tryd.zeroValue46
  t46 := Tryd.underlying118
  a46 := Tryd.isAgg118
  z46 := Tryd.sizeOf118
  v46 := Tryd.zeroValue118
  t51 := Tryd.underlying116
  a51 := Tryd.isAgg116
  z51 := Tryd.sizeOf116
  v51 := Tryd.zeroValue116
  t53 := Tryd.underlying105
  a53 := Tryd.isAgg105
  z53 := Tryd.sizeOf105
  v53 := Tryd.zeroValue105
  t171 := Tryd.underlying104
  a171 := Tryd.isAgg104
  z171 := Tryd.sizeOf104
  v171 := Tryd.zeroValue104
  t173 := Tryd.underlying108
  a173 := Tryd.isAgg108
  z173 := Tryd.sizeOf108
  v173 := Tryd.zeroValue108
  t212 := Tryd.underlying115
  a212 := Tryd.isAgg115
  z212 := Tryd.sizeOf115
  v212 := Tryd.zeroValue115
  t213 := Tryd.underlying117
  a213 := Tryd.isAgg117
  z213 := Tryd.sizeOf117
  t232 := Tryd.underlying122
  a232 := Tryd.isAgg122
  z232 := Tryd.sizeOf122
  v232 := Tryd.zeroValue122
  t233 := Tryd.underlying123
  a233 := Tryd.isAgg123
  z233 := Tryd.sizeOf123
  v233 := Tryd.zeroValue123
  g17 := by kernel_rfl
  g18 := by kernel_rfl
  g19 := by kernel_rfl
  i0 := by kernel_rfl
  i2 := by kernel_rfl
  i3 := by kernel_rfl
  i4 := by kernel_rfl
  i5 := by kernel_rfl
  i9 := by kernel_rfl
  i20 := by kernel_rfl
  i37 := by kernel_rfl
  i46 := by kernel_rfl
  i51 := by kernel_rfl
  i53 := by kernel_rfl
  i171 := by kernel_rfl
  i173 := by kernel_rfl
  i212 := by kernel_rfl
  i232 := by kernel_rfl
  i233 := by kernel_rfl
  m17 := by kernel_rfl
  m18 := by kernel_rfl
  m19 := by kernel_rfl }
open Go.RowKit Go.Sort Go.Lib in
/-- internal/strconv.FormatInt: "FormatInt returns the string representation of i in the given base": AT BASE 10: i's decimal numeral, for every int64. The world behind the call: the world before it, new blocks behind the heap, draws. (LAID: no walk: one application.) -/
theorem Tryd.internal_strconv_FormatInt_10 (n : Int) (h0 : -9223372036854775808 ≤ n) (h1 : n ≤ 9223372036854775807) (w : World) (htab : Lib.TabIs Tryd.prog w "internal/strconv.uint64pow10" .u64 Lib.pow10Tab) :
    Calls Tryd.prog 63 #[.int .i64 n, .int .i64 10] w fun e w' => e = .returned (.string ⟨(Lib.itoa n).toArray⟩) ∧ ∃ k os, w' = grow (w.drewN k) os := Any.internal_strconv_FormatInt_10 Tryd.laysM246 n h0 h1 w htab
def Tryd.lays246_ren : Go.Shelf.Ren := ⟨fun | 246 => 63 | 283 => 69 | 284 => 70 | 285 => 71 | 286 => 72 | 129 => 84 | 317 => 83 | 318 => 85 | 319 => 86 | 320 => 87 | 337 => 88 | 338 => 89 | n => n, fun | 2 => 2 | 3 => 3 | 9 => 9 | 4 => 4 | 171 => 104 | 0 => 0 | 53 => 105 | 37 => 46 | 5 => 5 | 173 => 108 | 212 => 115 | 51 => 116 | 20 => 20 | 213 => 117 | 46 => 118 | 232 => 122 | 233 => 123 | n => n, fun | 17 => 1 | 18 => 3 | 19 => 4 | n => n⟩
theorem Tryd.lays246 : Go.Proofs.Lays.n246 Tryd.prog Tryd.lays246_ren := {
  mixed := by kernel_rfl
  f129 := Tryd.func84.trans (congrArg some (by kernel_rfl))
  f246 := Tryd.func63.trans (congrArg some (by kernel_rfl))
  f283 := Tryd.func69.trans (congrArg some (by kernel_rfl))
  f284 := Tryd.func70.trans (congrArg some (by kernel_rfl))
  f285 := Tryd.func71.trans (congrArg some (by kernel_rfl))
  f286 := Tryd.func72.trans (congrArg some (by kernel_rfl))
  f317 := Tryd.func83.trans (congrArg some (by kernel_rfl))
  f318 := Tryd.func85.trans (congrArg some (by kernel_rfl))
  f319 := Tryd.func86.trans (congrArg some (by kernel_rfl))
  f320 := Tryd.func87.trans (congrArg some (by kernel_rfl))
  f337 := Tryd.func88.trans (congrArg some (by kernel_rfl))
  f338 := Tryd.func89.trans (congrArg some (by kernel_rfl))
  t0 := Tryd.underlying0
  a0 := Tryd.isAgg0
  z0 := Tryd.sizeOf0
  v0 := Tryd.zeroValue0
  t2 := Tryd.underlying2
  a2 := Tryd.isAgg2
  z2 := Tryd.sizeOf2
  v2 := Tryd.zeroValue2
  t3 := Tryd.underlying3
  a3 := Tryd.isAgg3
  z3 := Tryd.sizeOf3
  v3 := Tryd.zeroValue3
  t4 := Tryd.underlying4
  a4 := Tryd.isAgg4
  z4 := Tryd.sizeOf4
  v4 := Tryd.zeroValue4
  t5 := Tryd.underlying5
  a5 := Tryd.isAgg5
  z5 := Tryd.sizeOf5
  v5 := Tryd.zeroValue5
  t9 := Tryd.underlying9
  a9 := Tryd.isAgg9
  z9 := Tryd.sizeOf9
  v9 := Tryd.zeroValue9
  t20 := Tryd.underlying20
  a20 := Tryd.isAgg20
  z20 := Tryd.sizeOf20
  v20 := Tryd.zeroValue20
  t37 := Tryd.underlying46
  a37 := Tryd.isAgg46
  z37 := Tryd.sizeOf46
  v37 := Tryd.zeroValue46
  t46 := Tryd.underlying118
  a46 := Tryd.isAgg118
  z46 := Tryd.sizeOf118
  v46 := Tryd.zeroValue118
  t51 := Tryd.underlying116
  a51 := Tryd.isAgg116
  z51 := Tryd.sizeOf116
  v51 := Tryd.zeroValue116
  t53 := Tryd.underlying105
  a53 := Tryd.isAgg105
  z53 := Tryd.sizeOf105
  v53 := Tryd.zeroValue105
  t171 := Tryd.underlying104
  a171 := Tryd.isAgg104
  z171 := Tryd.sizeOf104
  v171 := Tryd.zeroValue104
  t173 := Tryd.underlying108
  a173 := Tryd.isAgg108
  z173 := Tryd.sizeOf108
  v173 := Tryd.zeroValue108
  t212 := Tryd.underlying115
  a212 := Tryd.isAgg115
  z212 := Tryd.sizeOf115
  v212 := Tryd.zeroValue115
  t213 := Tryd.underlying117
  a213 := Tryd.isAgg117
  z213 := Tryd.sizeOf117
  t232 := Tryd.underlying122
  a232 := Tryd.isAgg122
  z232 := Tryd.sizeOf122
  v232 := Tryd.zeroValue122
  t233 := Tryd.underlying123
  a233 := Tryd.isAgg123
  z233 := Tryd.sizeOf123
  v233 := Tryd.zeroValue123
  g17 := by kernel_rfl
  g18 := by kernel_rfl
  g19 := by kernel_rfl }
open Go.RowKit Go.Sort Go.Lib in
/-- THE ROAD WITHOUT THE TABLE: 0 <= i < 100: two constants are read, nothing is laid: no premise on the world, and the world is as it was. (LAID: no walk: one application.) -/
theorem Tryd.internal_strconv_FormatInt_10_small (i : Nat) (hi : i < 100) (w : World) :
    Calls Tryd.prog 63 #[.int .i64 i, .int .i64 10] w fun e w' => e = .returned (.string ⟨(Lib.decDigits i).toArray⟩) ∧ w' = w := Any.internal_strconv_FormatInt_10_small Tryd.lays246 i hi w
def Tryd.laysM243_ren : Go.Shelf.Ren := ⟨fun | 243 => 45 | 246 => 63 | 283 => 69 | 284 => 70 | 285 => 71 | 286 => 72 | 129 => 84 | 317 => 83 | 318 => 85 | 319 => 86 | 320 => 87 | 337 => 88 | 338 => 89 | n => n, fun | 3 => 3 | 9 => 9 | 2 => 2 | 4 => 4 | 171 => 104 | 0 => 0 | 53 => 105 | 37 => 46 | 5 => 5 | 173 => 108 | 212 => 115 | 51 => 116 | 20 => 20 | 213 => 117 | 46 => 118 | 232 => 122 | 233 => 123 | n => n, fun | 17 => 1 | 18 => 3 | 19 => 4 | n => n⟩
theorem Tryd.laysM243 : Go.Proofs.LaysM.n243 Tryd.prog Tryd.laysM243_ren := {
  mixed := by kernel_rfl
  f129 := Tryd.func84.trans (congrArg some (by kernel_rfl))
  f243 := Tryd.func45.trans (congrArg some (by kernel_rfl))
  f246 := Tryd.func63.trans (congrArg some (by kernel_rfl))
  f283 := Tryd.func69.trans (congrArg some (by kernel_rfl))
  f284 := Tryd.func70.trans (congrArg some (by kernel_rfl))
  f285 := Tryd.func71.trans (congrArg some (by kernel_rfl))
  f286 := Tryd.func72.trans (congrArg some (by kernel_rfl))
  f317 := Tryd.func83.trans (congrArg some (by kernel_rfl))
  f318 := Tryd.func85.trans (congrArg some (by kernel_rfl))
  f319 := Tryd.func86.trans (congrArg some (by kernel_rfl))
  f320 := Tryd.func87.trans (congrArg some (by kernel_rfl))
  f337 := Tryd.func88.trans (congrArg some (by kernel_rfl))
  f338 := Tryd.func89.trans (congrArg some (by kernel_rfl))
  t0 := Tryd.underlying0
  a0 := Tryd.isAgg0
  z0 := Tryd.sizeOf0
  v0 := Tryd.zeroValue0
  t2 := Tryd.underlying2
  a2 := Tryd.isAgg2
  z2 := Tryd.sizeOf2
  v2 := Tryd.zeroValue2
  t3 := Tryd.underlying3
  a3 := Tryd.isAgg3
  z3 := Tryd.sizeOf3
  v3 := Tryd.zeroValue3
  t4 := Tryd.underlying4
  a4 := Tryd.isAgg4
  z4 := Tryd.sizeOf4
  v4 := Tryd.zeroValue4
  t5 := Tryd.underlying5
  a5 := Tryd.isAgg5
  z5 := Tryd.sizeOf5
  v5 := Tryd.zeroValue5
  t9 := Tryd.underlying9
  a9 := Tryd.isAgg9
  z9 := Tryd.sizeOf9
  v9 := Tryd.zeroValue9
  t20 := Tryd.underlying20
  a20 := Tryd.isAgg20
  z20 := Tryd.sizeOf20
  v20 := Tryd.zeroValue20
  t37 := Tryd.underlying46
  a37 := Tryd.isAgg46
  z37 := Tryd.sizeOf46
  v37 := Tryd.zeroValue46
  t46 := Tryd.underlying118
  a46 := Tryd.isAgg118
  z46 := Tryd.sizeOf118
  v46 := Tryd.zeroValue118
  t51 := Tryd.underlying116
  a51 := Tryd.isAgg116
  z51 := Tryd.sizeOf116
  v51 := Tryd.zeroValue116
  t53 := Tryd.underlying105
  a53 := Tryd.isAgg105
  z53 := Tryd.sizeOf105
  v53 := Tryd.zeroValue105
  t171 := Tryd.underlying104
  a171 := Tryd.isAgg104
  z171 := Tryd.sizeOf104
  v171 := Tryd.zeroValue104
  t173 := Tryd.underlying108
  a173 := Tryd.isAgg108
  z173 := Tryd.sizeOf108
  v173 := Tryd.zeroValue108
  t212 := Tryd.underlying115
  a212 := Tryd.isAgg115
  z212 := Tryd.sizeOf115
  v212 := Tryd.zeroValue115
  t213 := Tryd.underlying117
  a213 := Tryd.isAgg117
  z213 := Tryd.sizeOf117
  t232 := Tryd.underlying122
  a232 := Tryd.isAgg122
  z232 := Tryd.sizeOf122
  v232 := Tryd.zeroValue122
  t233 := Tryd.underlying123
  a233 := Tryd.isAgg123
  z233 := Tryd.sizeOf123
  v233 := Tryd.zeroValue123
  g17 := by kernel_rfl
  g18 := by kernel_rfl
  g19 := by kernel_rfl
  i0 := by kernel_rfl
  i2 := by kernel_rfl
  i3 := by kernel_rfl
  i4 := by kernel_rfl
  i5 := by kernel_rfl
  i9 := by kernel_rfl
  i20 := by kernel_rfl
  i37 := by kernel_rfl
  i46 := by kernel_rfl
  i51 := by kernel_rfl
  i53 := by kernel_rfl
  i171 := by kernel_rfl
  i173 := by kernel_rfl
  i212 := by kernel_rfl
  i232 := by kernel_rfl
  i233 := by kernel_rfl
  m17 := by kernel_rfl
  m18 := by kernel_rfl
  m19 := by kernel_rfl }
open Go.RowKit Go.Sort Go.Lib in
/-- internal/strconv.Itoa: "Itoa is equivalent to FormatInt(int64(i), 10).": i's decimal numeral, for every int. (LAID: no walk: one application.) -/
theorem Tryd.internal_strconv_Itoa (n : Int) (h0 : -9223372036854775808 ≤ n) (h1 : n ≤ 9223372036854775807) (w : World) (htab : Lib.TabIs Tryd.prog w "internal/strconv.uint64pow10" .u64 Lib.pow10Tab) :
    Calls Tryd.prog 45 #[.int .i64 n] w fun e w' => e = .returned (.string ⟨(Lib.itoa n).toArray⟩) ∧ ∃ k os, w' = grow (w.drewN k) os := Any.internal_strconv_Itoa Tryd.laysM243 n h0 h1 w htab
def Tryd.lays243_ren : Go.Shelf.Ren := ⟨fun | 243 => 45 | 246 => 63 | 283 => 69 | 284 => 70 | 285 => 71 | 286 => 72 | 129 => 84 | 317 => 83 | 318 => 85 | 319 => 86 | 320 => 87 | 337 => 88 | 338 => 89 | n => n, fun | 3 => 3 | 9 => 9 | 2 => 2 | 4 => 4 | 171 => 104 | 0 => 0 | 53 => 105 | 37 => 46 | 5 => 5 | 173 => 108 | 212 => 115 | 51 => 116 | 20 => 20 | 213 => 117 | 46 => 118 | 232 => 122 | 233 => 123 | n => n, fun | 17 => 1 | 18 => 3 | 19 => 4 | n => n⟩
theorem Tryd.lays243 : Go.Proofs.Lays.n243 Tryd.prog Tryd.lays243_ren := {
  mixed := by kernel_rfl
  f129 := Tryd.func84.trans (congrArg some (by kernel_rfl))
  f243 := Tryd.func45.trans (congrArg some (by kernel_rfl))
  f246 := Tryd.func63.trans (congrArg some (by kernel_rfl))
  f283 := Tryd.func69.trans (congrArg some (by kernel_rfl))
  f284 := Tryd.func70.trans (congrArg some (by kernel_rfl))
  f285 := Tryd.func71.trans (congrArg some (by kernel_rfl))
  f286 := Tryd.func72.trans (congrArg some (by kernel_rfl))
  f317 := Tryd.func83.trans (congrArg some (by kernel_rfl))
  f318 := Tryd.func85.trans (congrArg some (by kernel_rfl))
  f319 := Tryd.func86.trans (congrArg some (by kernel_rfl))
  f320 := Tryd.func87.trans (congrArg some (by kernel_rfl))
  f337 := Tryd.func88.trans (congrArg some (by kernel_rfl))
  f338 := Tryd.func89.trans (congrArg some (by kernel_rfl))
  t0 := Tryd.underlying0
  a0 := Tryd.isAgg0
  z0 := Tryd.sizeOf0
  v0 := Tryd.zeroValue0
  t2 := Tryd.underlying2
  a2 := Tryd.isAgg2
  z2 := Tryd.sizeOf2
  v2 := Tryd.zeroValue2
  t3 := Tryd.underlying3
  a3 := Tryd.isAgg3
  z3 := Tryd.sizeOf3
  v3 := Tryd.zeroValue3
  t4 := Tryd.underlying4
  a4 := Tryd.isAgg4
  z4 := Tryd.sizeOf4
  v4 := Tryd.zeroValue4
  t5 := Tryd.underlying5
  a5 := Tryd.isAgg5
  z5 := Tryd.sizeOf5
  v5 := Tryd.zeroValue5
  t9 := Tryd.underlying9
  a9 := Tryd.isAgg9
  z9 := Tryd.sizeOf9
  v9 := Tryd.zeroValue9
  t20 := Tryd.underlying20
  a20 := Tryd.isAgg20
  z20 := Tryd.sizeOf20
  v20 := Tryd.zeroValue20
  t37 := Tryd.underlying46
  a37 := Tryd.isAgg46
  z37 := Tryd.sizeOf46
  v37 := Tryd.zeroValue46
  t46 := Tryd.underlying118
  a46 := Tryd.isAgg118
  z46 := Tryd.sizeOf118
  v46 := Tryd.zeroValue118
  t51 := Tryd.underlying116
  a51 := Tryd.isAgg116
  z51 := Tryd.sizeOf116
  v51 := Tryd.zeroValue116
  t53 := Tryd.underlying105
  a53 := Tryd.isAgg105
  z53 := Tryd.sizeOf105
  v53 := Tryd.zeroValue105
  t171 := Tryd.underlying104
  a171 := Tryd.isAgg104
  z171 := Tryd.sizeOf104
  v171 := Tryd.zeroValue104
  t173 := Tryd.underlying108
  a173 := Tryd.isAgg108
  z173 := Tryd.sizeOf108
  v173 := Tryd.zeroValue108
  t212 := Tryd.underlying115
  a212 := Tryd.isAgg115
  z212 := Tryd.sizeOf115
  v212 := Tryd.zeroValue115
  t213 := Tryd.underlying117
  a213 := Tryd.isAgg117
  z213 := Tryd.sizeOf117
  t232 := Tryd.underlying122
  a232 := Tryd.isAgg122
  z232 := Tryd.sizeOf122
  v232 := Tryd.zeroValue122
  t233 := Tryd.underlying123
  a233 := Tryd.isAgg123
  z233 := Tryd.sizeOf123
  v233 := Tryd.zeroValue123
  g17 := by kernel_rfl
  g18 := by kernel_rfl
  g19 := by kernel_rfl }
open Go.RowKit Go.Sort Go.Lib in
/-- THE ROAD WITHOUT THE TABLE: 0 <= i < 100. (LAID: no walk: one application.) -/
theorem Tryd.internal_strconv_Itoa_small (i : Nat) (hi : i < 100) (w : World) :
    Calls Tryd.prog 45 #[.int .i64 i] w fun e w' => e = .returned (.string ⟨(Lib.decDigits i).toArray⟩) ∧ w' = w := Any.internal_strconv_Itoa_small Tryd.lays243 i hi w
def Tryd.laysM171_ren : Go.Shelf.Ren := ⟨fun | 171 => 28 | 243 => 45 | 246 => 63 | 283 => 69 | 284 => 70 | 285 => 71 | 286 => 72 | 129 => 84 | 317 => 83 | 318 => 85 | 319 => 86 | 320 => 87 | 337 => 88 | 338 => 89 | n => n, fun | 3 => 3 | 9 => 9 | 2 => 2 | 4 => 4 | 171 => 104 | 0 => 0 | 53 => 105 | 37 => 46 | 5 => 5 | 173 => 108 | 212 => 115 | 51 => 116 | 20 => 20 | 213 => 117 | 46 => 118 | 232 => 122 | 233 => 123 | n => n, fun | 17 => 1 | 18 => 3 | 19 => 4 | n => n⟩
theorem Tryd.laysM171 : Go.Proofs.LaysM.n171 Tryd.prog Tryd.laysM171_ren := {
  mixed := by kernel_rfl
  f129 := Tryd.func84.trans (congrArg some (by kernel_rfl))
  f171 := Tryd.func28.trans (congrArg some (by kernel_rfl))
  f243 := Tryd.func45.trans (congrArg some (by kernel_rfl))
  f246 := Tryd.func63.trans (congrArg some (by kernel_rfl))
  f283 := Tryd.func69.trans (congrArg some (by kernel_rfl))
  f284 := Tryd.func70.trans (congrArg some (by kernel_rfl))
  f285 := Tryd.func71.trans (congrArg some (by kernel_rfl))
  f286 := Tryd.func72.trans (congrArg some (by kernel_rfl))
  f317 := Tryd.func83.trans (congrArg some (by kernel_rfl))
  f318 := Tryd.func85.trans (congrArg some (by kernel_rfl))
  f319 := Tryd.func86.trans (congrArg some (by kernel_rfl))
  f320 := Tryd.func87.trans (congrArg some (by kernel_rfl))
  f337 := Tryd.func88.trans (congrArg some (by kernel_rfl))
  f338 := Tryd.func89.trans (congrArg some (by kernel_rfl))
  t0 := Tryd.underlying0
  a0 := Tryd.isAgg0
  z0 := Tryd.sizeOf0
  v0 := Tryd.zeroValue0
  t2 := Tryd.underlying2
  a2 := Tryd.isAgg2
  z2 := Tryd.sizeOf2
  v2 := Tryd.zeroValue2
  t3 := Tryd.underlying3
  a3 := Tryd.isAgg3
  z3 := Tryd.sizeOf3
  v3 := Tryd.zeroValue3
  t4 := Tryd.underlying4
  a4 := Tryd.isAgg4
  z4 := Tryd.sizeOf4
  v4 := Tryd.zeroValue4
  t5 := Tryd.underlying5
  a5 := Tryd.isAgg5
  z5 := Tryd.sizeOf5
  v5 := Tryd.zeroValue5
  t9 := Tryd.underlying9
  a9 := Tryd.isAgg9
  z9 := Tryd.sizeOf9
  v9 := Tryd.zeroValue9
  t20 := Tryd.underlying20
  a20 := Tryd.isAgg20
  z20 := Tryd.sizeOf20
  v20 := Tryd.zeroValue20
  t37 := Tryd.underlying46
  a37 := Tryd.isAgg46
  z37 := Tryd.sizeOf46
  v37 := Tryd.zeroValue46
  t46 := Tryd.underlying118
  a46 := Tryd.isAgg118
  z46 := Tryd.sizeOf118
  v46 := Tryd.zeroValue118
  t51 := Tryd.underlying116
  a51 := Tryd.isAgg116
  z51 := Tryd.sizeOf116
  v51 := Tryd.zeroValue116
  t53 := Tryd.underlying105
  a53 := Tryd.isAgg105
  z53 := Tryd.sizeOf105
  v53 := Tryd.zeroValue105
  t171 := Tryd.underlying104
  a171 := Tryd.isAgg104
  z171 := Tryd.sizeOf104
  v171 := Tryd.zeroValue104
  t173 := Tryd.underlying108
  a173 := Tryd.isAgg108
  z173 := Tryd.sizeOf108
  v173 := Tryd.zeroValue108
  t212 := Tryd.underlying115
  a212 := Tryd.isAgg115
  z212 := Tryd.sizeOf115
  v212 := Tryd.zeroValue115
  t213 := Tryd.underlying117
  a213 := Tryd.isAgg117
  z213 := Tryd.sizeOf117
  t232 := Tryd.underlying122
  a232 := Tryd.isAgg122
  z232 := Tryd.sizeOf122
  v232 := Tryd.zeroValue122
  t233 := Tryd.underlying123
  a233 := Tryd.isAgg123
  z233 := Tryd.sizeOf123
  v233 := Tryd.zeroValue123
  g17 := by kernel_rfl
  g18 := by kernel_rfl
  g19 := by kernel_rfl
  i0 := by kernel_rfl
  i2 := by kernel_rfl
  i3 := by kernel_rfl
  i4 := by kernel_rfl
  i5 := by kernel_rfl
  i9 := by kernel_rfl
  i20 := by kernel_rfl
  i37 := by kernel_rfl
  i46 := by kernel_rfl
  i51 := by kernel_rfl
  i53 := by kernel_rfl
  i171 := by kernel_rfl
  i173 := by kernel_rfl
  i212 := by kernel_rfl
  i232 := by kernel_rfl
  i233 := by kernel_rfl
  m17 := by kernel_rfl
  m18 := by kernel_rfl
  m19 := by kernel_rfl }
open Go.RowKit Go.Sort Go.Lib in
/-- strconv.Itoa: "Itoa is equivalent to FormatInt(int64(i), 10).": i's DECIMAL NUMERAL ('Lib.itoa': a '-' where i is negative, then the digits), FOR EVERY int. The world behind the call: the world before it, new blocks behind the heap (the library's 'var a [24]byte'), draws. (LAID: no walk: one application.) -/
theorem Tryd.strconv_Itoa (n : Int) (h0 : -9223372036854775808 ≤ n) (h1 : n ≤ 9223372036854775807) (w : World) (htab : Lib.TabIs Tryd.prog w "internal/strconv.uint64pow10" .u64 Lib.pow10Tab) :
    Calls Tryd.prog 28 #[.int .i64 n] w fun e w' => e = .returned (.string ⟨(Lib.itoa n).toArray⟩) ∧ ∃ k os, w' = grow (w.drewN k) os := Any.strconv_Itoa Tryd.laysM171 n h0 h1 w htab
def Tryd.lays171_ren : Go.Shelf.Ren := ⟨fun | 171 => 28 | 243 => 45 | 246 => 63 | 283 => 69 | 284 => 70 | 285 => 71 | 286 => 72 | 129 => 84 | 317 => 83 | 318 => 85 | 319 => 86 | 320 => 87 | 337 => 88 | 338 => 89 | n => n, fun | 3 => 3 | 9 => 9 | 2 => 2 | 4 => 4 | 171 => 104 | 0 => 0 | 53 => 105 | 37 => 46 | 5 => 5 | 173 => 108 | 212 => 115 | 51 => 116 | 20 => 20 | 213 => 117 | 46 => 118 | 232 => 122 | 233 => 123 | n => n, fun | 17 => 1 | 18 => 3 | 19 => 4 | n => n⟩
theorem Tryd.lays171 : Go.Proofs.Lays.n171 Tryd.prog Tryd.lays171_ren := {
  mixed := by kernel_rfl
  f129 := Tryd.func84.trans (congrArg some (by kernel_rfl))
  f171 := Tryd.func28.trans (congrArg some (by kernel_rfl))
  f243 := Tryd.func45.trans (congrArg some (by kernel_rfl))
  f246 := Tryd.func63.trans (congrArg some (by kernel_rfl))
  f283 := Tryd.func69.trans (congrArg some (by kernel_rfl))
  f284 := Tryd.func70.trans (congrArg some (by kernel_rfl))
  f285 := Tryd.func71.trans (congrArg some (by kernel_rfl))
  f286 := Tryd.func72.trans (congrArg some (by kernel_rfl))
  f317 := Tryd.func83.trans (congrArg some (by kernel_rfl))
  f318 := Tryd.func85.trans (congrArg some (by kernel_rfl))
  f319 := Tryd.func86.trans (congrArg some (by kernel_rfl))
  f320 := Tryd.func87.trans (congrArg some (by kernel_rfl))
  f337 := Tryd.func88.trans (congrArg some (by kernel_rfl))
  f338 := Tryd.func89.trans (congrArg some (by kernel_rfl))
  t0 := Tryd.underlying0
  a0 := Tryd.isAgg0
  z0 := Tryd.sizeOf0
  v0 := Tryd.zeroValue0
  t2 := Tryd.underlying2
  a2 := Tryd.isAgg2
  z2 := Tryd.sizeOf2
  v2 := Tryd.zeroValue2
  t3 := Tryd.underlying3
  a3 := Tryd.isAgg3
  z3 := Tryd.sizeOf3
  v3 := Tryd.zeroValue3
  t4 := Tryd.underlying4
  a4 := Tryd.isAgg4
  z4 := Tryd.sizeOf4
  v4 := Tryd.zeroValue4
  t5 := Tryd.underlying5
  a5 := Tryd.isAgg5
  z5 := Tryd.sizeOf5
  v5 := Tryd.zeroValue5
  t9 := Tryd.underlying9
  a9 := Tryd.isAgg9
  z9 := Tryd.sizeOf9
  v9 := Tryd.zeroValue9
  t20 := Tryd.underlying20
  a20 := Tryd.isAgg20
  z20 := Tryd.sizeOf20
  v20 := Tryd.zeroValue20
  t37 := Tryd.underlying46
  a37 := Tryd.isAgg46
  z37 := Tryd.sizeOf46
  v37 := Tryd.zeroValue46
  t46 := Tryd.underlying118
  a46 := Tryd.isAgg118
  z46 := Tryd.sizeOf118
  v46 := Tryd.zeroValue118
  t51 := Tryd.underlying116
  a51 := Tryd.isAgg116
  z51 := Tryd.sizeOf116
  v51 := Tryd.zeroValue116
  t53 := Tryd.underlying105
  a53 := Tryd.isAgg105
  z53 := Tryd.sizeOf105
  v53 := Tryd.zeroValue105
  t171 := Tryd.underlying104
  a171 := Tryd.isAgg104
  z171 := Tryd.sizeOf104
  v171 := Tryd.zeroValue104
  t173 := Tryd.underlying108
  a173 := Tryd.isAgg108
  z173 := Tryd.sizeOf108
  v173 := Tryd.zeroValue108
  t212 := Tryd.underlying115
  a212 := Tryd.isAgg115
  z212 := Tryd.sizeOf115
  v212 := Tryd.zeroValue115
  t213 := Tryd.underlying117
  a213 := Tryd.isAgg117
  z213 := Tryd.sizeOf117
  t232 := Tryd.underlying122
  a232 := Tryd.isAgg122
  z232 := Tryd.sizeOf122
  v232 := Tryd.zeroValue122
  t233 := Tryd.underlying123
  a233 := Tryd.isAgg123
  z233 := Tryd.sizeOf123
  v233 := Tryd.zeroValue123
  g17 := by kernel_rfl
  g18 := by kernel_rfl
  g19 := by kernel_rfl }
open Go.RowKit Go.Sort Go.Lib in
/-- THE ROAD WITHOUT THE TABLE: 0 <= i < 100: NO PREMISE ON THE WORLD, AND THE WORLD IS AS IT WAS: a row that keeps its argument in that range need list no table ('laid = []'). (LAID: no walk: one application.) -/
theorem Tryd.strconv_Itoa_small (i : Nat) (hi : i < 100) (w : World) :
    Calls Tryd.prog 28 #[.int .i64 i] w fun e w' => e = .returned (.string ⟨(Lib.decDigits i).toArray⟩) ∧ w' = w := Any.strconv_Itoa_small Tryd.lays171 i hi w
def Tryd.lays217_ren : Go.Shelf.Ren := ⟨fun | 217 => 65 | 266 => 73 | n => n, fun | 9 => 9 | 5 => 5 | 3 => 3 | n => n, fun | n => n⟩
theorem Tryd.lays217 : Go.Proofs.Lays.n217 Tryd.prog Tryd.lays217_ren := {
  mixed := by kernel_rfl
  f217 := Tryd.func65.trans (congrArg some (by kernel_rfl))
  f266 := Tryd.func73.trans (congrArg some (by kernel_rfl))
  t3 := Tryd.underlying3
  a3 := Tryd.isAgg3
  z3 := Tryd.sizeOf3
  v3 := Tryd.zeroValue3
  t5 := Tryd.underlying5
  a5 := Tryd.isAgg5
  z5 := Tryd.sizeOf5
  v5 := Tryd.zeroValue5
  t9 := Tryd.underlying9
  a9 := Tryd.isAgg9
  z9 := Tryd.sizeOf9
  v9 := Tryd.zeroValue9 }
open Go.RowKit Go.Lib in
/-- internal/stringslite.IndexByte (what strings.IndexByte calls): IT RETURNS 'Lib.indexByte s c'; the world is as it was. (LAID: no walk: one application.) -/
theorem Tryd.stringslite_IndexByte (s : ByteArray) (c : Int) (w : World) :
    Calls Tryd.prog 65 #[.string s, .int .u8 c] w fun e w' => e = .returned (.int .i64 (Lib.indexByte s.data.toList c.toNat.toUInt8)) ∧ w' = w := Any.stringslite_IndexByte Tryd.lays217 s c w
end Go.Proofs

/-
  Lemmas that hold over any program: rows of integers in memory, copies by append, strings out of bytes, appends by their run. For a new seat: copy this text as <Name>Base.lean and put the seat's Name for 'Seat' in the two namespace rows.
-/
namespace Go.Proofs.YtbfmoiaedopeiaaDoor
open Go.RowKit
set_option linter.unusedVariables false

theorem hide_ {p : Prop} (h : p) : Hid p := h
theorem w64 (n : Int) (h : -9223372036854775808 ≤ n ∧ n ≤ 9223372036854775807) : wrap64 n = n := by unfold wrap64; omega
theorem ret_int {k : IntKind} {a b : Int} (h : a = b) : Ending.returned (.int k a) = .returned (.int k b) := by rw [h]
theorem ret_bool {a : Bool} (h : a = true) : Ending.returned (.bool a) = .returned (.bool true) := by rw [h]
theorem ret_two {k m : IntKind} {a b c d : Int} (h : a = b) (g : c = d) : Ending.returned (.tuple #[.int k a, .int m c]) = .returned (.tuple #[.int k b, .int m d]) := by rw [h, g]
theorem below_to {a b c : World} (h : Below a.heap.size a b) (k : Below b.heap.size b c) : Below a.heap.size a c := h.trans (k.mono h.size)
theorem add_none (b off i : Nat) : (⟨b, off, none⟩ : Addr).add i = ⟨b, off + i, none⟩ := by unfold Addr.add; split <;> simp_all

/-! ### append by its run: in a walk; in a region that draws -/
theorem wpList_append_run {P : Program} {w w' : World} {ops : Array Oper} {rest : List Oper} {o : Oper} {a : Act} {Q : Exit → Act → World → Prop} (hgd : o.guard = none) (s x : Operand) (t t2 : TypeId)
    (ho : o.op = .call { callee := .builtin .append, args := #[s, x], argTypes := #[t, t2] }) {v u v' : Value} (hs : a.eval s = v) (hx : a.eval x = u)
    (hr : (Builtin.append_ #[t, t2] o.type #[v, u]).run P w = .ok v' w') (h : wpList P ops Q rest (a.put o.dst v') w') : wpList P ops Q (o :: rest) a w := by
  refine wpList_plain hgd fun K hK => ?_
  unfold Oper.wp execOp
  simp only [ho, resolve, invoke, builtin, Sem.run_bind, Sem.run_pure, Result.andThen_ok, List.map_toArray, List.map_cons, List.map_nil, hs, hx, hr]
  exact hK _ _ h
theorem step_append_run {P : Program} {ops : Array Oper} {o : Oper} {a : Act} {w w' : World} {K : Act → World → Prop} {Q : Exit → Act → World → Prop} {E : Prop}
    (hg : o.guard = none) (s x : Operand) (t t2 : TypeId) (hop : o.op = Op.call { callee := Callee.builtin Builtin.append, args := #[s, x], argTypes := #[t, t2] })
    {v u v' : Value} (hs : a.eval s = v) (hx : a.eval x = u) (hr : (Builtin.append_ #[t, t2] o.type #[v, u]).run P w = .ok v' w') (hK : K (a.put o.dst v') w') :
    if Region.wanted o (yielded ops a.tmps) = true then Oper.wp P o a w K Q else E := by
  have hw : Region.wanted o (yielded ops a.tmps) = true := by simp [Region.wanted, hg]
  rw [if_pos hw]
  unfold Oper.wp
  simp [execOp, hop, resolve, invoke, builtin, hs, hx, hr, Result.andThen]
  exact hK

/-! ### Rows of integers -/
/-- It is nil and empty, or its cells hold these numbers. -/
def Row (k : IntKind) (w : World) (a : Option Addr) (l : List Int) : Prop :=
  (a = none ∧ l = []) ∨ ∃ x, a = some x ∧ ∀ i, i < l.length → w.cell? (x.add i) = some (.int k (l.getD i 0))
def cellsL (k : IntKind) (l : List Int) : List Value := l.map (Value.int k)
theorem cellsL_length (k : IntKind) (l : List Int) : (cellsL k l).length = l.length := by simp [cellsL]
theorem cellsL_append (k : IntKind) (l r : List Int) : cellsL k (l ++ r) = cellsL k l ++ cellsL k r := by simp [cellsL]
theorem cellsL_at (k : IntKind) (l : List Int) (j : Nat) (h : j < l.length) : (cellsL k l)[j]? = some (.int k (l.getD j 0)) := by simp [cellsL, List.getD, h]
theorem cellsL_get (k : IntKind) (l : List Int) (j : Nat) (u : Value) (h : (cellsL k l)[j]? = some u) : j < l.length ∧ u = .int k (l.getD j 0) := by
  by_cases hj : j < l.length
  · rw [cellsL_at k l j hj] at h; exact ⟨hj, (Option.some.inj h).symm⟩
  · rw [List.getElem?_eq_none (by rw [cellsL_length]; omega)] at h; cases h
theorem cellsL_one (k : IntKind) (l : List Int) : ∀ u ∈ cellsL k l, u.oneCell' = true := by
  intro u hu
  obtain ⟨j, _, rfl⟩ := List.mem_map.1 hu
  rfl
theorem Row.later {k : IntKind} {w w' : World} {a : Option Addr} {l : List Int} (h : Row k w a l) (hB : Below w.heap.size w w') : Row k w' a l := by
  rcases h with ⟨rfl, rfl⟩ | ⟨x, rfl, hc⟩
  · exact .inl ⟨rfl, rfl⟩
  · refine .inr ⟨x, rfl, fun i hi => ?_⟩
    have h1 := hc i hi
    exact (hB.cell (World.block_lt_of_cell? w _ h1)).trans h1
theorem Row.drew {k : IntKind} {w : World} {a : Option Addr} {l : List Int} (h : Row k w a l) : Row k w.drew a l := h
theorem Row.take {k : IntKind} {w : World} {a : Option Addr} {l : List Int} (h : Row k w a l) (m : Nat) : Row k w a (l.take m) := by
  rcases h with ⟨rfl, rfl⟩ | ⟨x, rfl, hc⟩
  · exact .inl ⟨rfl, by simp⟩
  · refine .inr ⟨x, rfl, fun i hi => ?_⟩
    have h1 : i < l.length ∧ i < m := by simp at hi; omega
    rw [hc i h1.1]
    simp [List.getD, h1.2]
theorem Row.open {k : IntKind} {w : World} {a : Option Addr} {l : List Int} (h : Row k w a l) (hl : 0 < l.length) :
    ∃ b off, a = some ⟨b, off, none⟩ ∧ b < w.heap.size ∧ ∀ i, i < l.length → w.cell? ⟨b, off + i, none⟩ = some (.int k (l.getD i 0)) := by
  rcases h with ⟨rfl, rfl⟩ | ⟨x, rfl, hc⟩
  · simp at hl
  · obtain ⟨b, off, spot⟩ := x
    have hc0 := hc 0 hl
    have hspot : spot = none := by simpa [Addr.add] using World.cell?_spot hc0
    subst hspot
    exact ⟨b, off, rfl, World.block_lt_of_cell? w _ hc0, fun i hi => (add_none b off i) ▸ hc i hi⟩
theorem Row.mk {k : IntKind} {w : World} {b off : Nat} {l : List Int} (h : ∀ i, i < l.length → w.cell? ⟨b, off + i, none⟩ = some (.int k (l.getD i 0))) : Row k w (some ⟨b, off, none⟩) l :=
  .inr ⟨_, rfl, fun i hi => (add_none b off i).symm ▸ h i hi⟩
theorem Row.drop {k : IntKind} {w : World} {b off : Nat} {l : List Int} (h : Row k w (some ⟨b, off, none⟩) l) (m : Nat) : Row k w (some ⟨b, off + m, none⟩) (l.drop m) := by
  refine Row.mk fun i hi => ?_
  have hi' : m + i < l.length := by simp at hi; omega
  rcases h with ⟨e, _⟩ | ⟨x, e, hc⟩
  · cases e
  · injection e with e
    subst e
    have h1 := hc (m + i) hi'
    rw [add_none, ← Nat.add_assoc] at h1
    rw [h1]
    simp [List.getD]
theorem Row.one {k : IntKind} {w : World} {b : Nat} {x : Int} (h0 : w.cell? ⟨b, 0, none⟩ = some (.int k x)) : Row k w (some ⟨b, 0, none⟩) [x] := by
  refine Row.mk fun i hi => ?_
  match i, hi with
  | 0, _ => simpa using h0
theorem Row.two {k : IntKind} {w : World} {b : Nat} {x y : Int} (h0 : w.cell? ⟨b, 0, none⟩ = some (.int k x)) (h1 : w.cell? ⟨b, 1, none⟩ = some (.int k y)) : Row k w (some ⟨b, 0, none⟩) [x, y] := by
  refine Row.mk fun i hi => ?_
  match i, hi with
  | 0, _ => simpa using h0
  | 1, _ => simpa using h1

/-! ### append of rows -/
/-- A slice type t over an integer type e of kind k. -/
structure Elem (P : Program) (t e : TypeId) (k : IntKind) (bytes : Nat) : Prop where
  sl : P.underlying t = some (.slice e)
  el : P.underlying e = some (.int k)
  info : (P.info? e).map (fun i => (i.zero, i.size, i.bytes)) = some (some (.int k 0), 1, bytes)
/-- append(v, x...), v a row of the call's own, x any row (nil too). -/
theorem run_app {P : Program} {t e : TypeId} {k : IntKind} {bytes : Nat} (E : Elem P t e k bytes) (w : World) (ty base : Nat) (v : Value) (n : Nat) (l : List Int) (hown : w.ownsRow base e 1 v n (cellsL k l))
    (a : Option Addr) (m cap : Nat) (r : List Int) (hr : r.length = m) (hrow : Row k w a r) (hnil : a = none → cap = 0) (h63 : n + m ≤ maxLen) (hb : (n + m) * bytes ≤ 140737488355328) (hbase : base ≤ w.heap.size) :
    ∃ v' w', (Builtin.append_ #[t, t] ty #[v, .slice a m cap]).run P w = .ok v' w' ∧ w'.ownsRow base e 1 v' (n + m) (cellsL k (l ++ r)) ∧ w.grownBy w' v.ownBlock := by
  obtain ⟨i0, hi, hz0, hz1, hz2⟩ := info_parts E.info
  subst hr
  rcases hrow with ⟨rfl, rfl⟩ | ⟨x, rfl, hc⟩
  · obtain rfl := hnil rfl
    refine ⟨v, w, ?_, by simpa using hown, ⟨rfl, rfl, rfl, Nat.le_refl _, fun _ _ _ => rfl⟩⟩
    rcases hown.2 with ⟨rfl, rfl⟩ | ⟨g, c, cur, rfl, _, _, hnc, _⟩
    · simp [Builtin.append_, run_underlying E.sl, sizeOf, typeInfo, hi, Builtin.lenOf, Builtin.firstCells]
    · simp [Builtin.append_, run_underlying E.sl, sizeOf, typeInfo, hi, Builtin.lenOf, Builtin.firstCells, hnc, storeCells]
  · obtain ⟨v', w', h1, h2, h3, _⟩ := run_append_own (P := P) w base t ty e i0 (.int k 0) 1 bytes E.sl hi hz0 hz1 hz2 rfl (by decide) v n (cellsL k l) hown x r.length cap (cellsL k r)
      (by rw [cellsL_length, Nat.mul_one]) (fun j u hj => by obtain ⟨h, rfl⟩ := cellsL_get k r j u hj; exact hc j h) (cellsL_one k r) h63 hb hbase
    rw [← cellsL_append] at h2
    exact ⟨v', w', h1, h2, h3⟩
/-- A new copy: append(nil, x...). -/
theorem run_copy {P : Program} {t e : TypeId} {k : IntKind} {bytes : Nat} (E : Elem P t e k bytes) (w : World) (ty base : Nat) (a : Option Addr) (m cap : Nat) (r : List Int) (hr : r.length = m) (hrow : Row k w a r) (hnil : a = none → cap = 0)
    (h63 : m ≤ maxLen) (hb : m * bytes ≤ 140737488355328) (hbase : base ≤ w.heap.size) :
    ∃ v' w', (Builtin.append_ #[t, t] ty #[.slice none 0 0, .slice a m cap]).run P w = .ok v' w' ∧ w'.ownsRow base e 1 v' m (cellsL k r) ∧ w.grownBy w' none := by
  obtain ⟨v', w', h1, h2, h3⟩ := run_app E w ty base (.slice none 0 0) 0 [] (World.ownsRow_nil _ _ _ _) a m cap r hr hrow hnil (by omega) (by rw [Nat.zero_add]; exact hb) hbase
  rw [Nat.zero_add, List.nil_append] at h2
  exact ⟨v', w', h1, h2, h3⟩
/-- What a row of the call's own is. -/
theorem own_open {w : World} {base n : Nat} {e : TypeId} {k : IntKind} {v : Value} {l : List Int} (h : w.ownsRow base e 1 v n (cellsL k l)) (hl : l.length = n) :
    ∃ a c, v = .slice a n c ∧ Row k w a l ∧ (a = none → c = 0) ∧ n ≤ c ∧ c ≤ maxLen ∧ (0 < n → ∃ g, a = some ⟨g, 0, none⟩ ∧ base ≤ g ∧ g < w.heap.size ∧ (∀ i, i < n → w.cell? ⟨g, i, none⟩ = some (.int k (l.getD i 0))) ∧ ∀ o, w.frozen? ⟨g, o, none⟩ = false) := by
  have hcells := @World.ownsRow.cells _ _ _ _ _ _ _ h
  rcases h.2 with ⟨rfl, rfl⟩ | ⟨g, cap, cur, rfl, hb, hg, hnc, hcm, _⟩
  · exact ⟨none, 0, rfl, .inl ⟨rfl, List.length_eq_zero_iff.1 hl⟩, fun _ => rfl, Nat.le_refl _, Nat.zero_le _, fun h => by omega⟩
  · have hc : ∀ i, i < l.length → w.cell? ((⟨g, 0, none⟩ : Addr).add i) = some (.int k (l.getD i 0)) := fun i hi => hcells rfl i _ (cellsL_at k l i hi)
    refine ⟨_, _, rfl, .inr ⟨_, rfl, hc⟩, (fun h => by cases h), hnc, hcm, fun _ => ⟨g, rfl, hb, (h.lt g rfl).2, fun i hi => ?_, fun o => ?_⟩⟩
    · have h1 := hc i (by omega)
      rw [add_none, Nat.zero_add] at h1
      exact h1
    · simp [World.frozen?, hg]

/-! ### Strings out of bytes -/
/-- string(b), b any row of bytes (nil and empty too). -/
theorem conv_row {P : Program} {t e s : TypeId} {bytes : Nat} (E : Elem P t e .u8 bytes) (hs : P.underlying s = some .string) (w : World) (a : Option Addr) (m cap : Nat) (l : List Int) (hl : l.length = m) (hrow : Row .u8 w a l) :
    (convert t s (.slice a m cap)).run P w = .ok (.string (strOfNums l)) w := by
  subst hl
  rcases hrow with ⟨rfl, rfl⟩ | ⟨x, rfl, hc⟩
  · exact run_convert_bytes_nil (P := P) w t e E.sl E.el 0 cap s hs
  · by_cases h0 : l = []
    · subst h0
      rw [List.length_nil, run_convert_bytes_string w t s e _ 0 cap E.sl E.el hs, run_bytesToString w x 0 cap [] (by simp [loadCells, loadCellsFrom])]
      rfl
    · obtain ⟨b, off, hx, _, hcell⟩ := Row.open (k := .u8) (w := w) (.inr ⟨x, rfl, hc⟩) (List.length_pos_iff.2 h0)
      injection hx with hx
      subst hx
      exact run_convert_bytes_arg (P := P) w t e E.sl E.el b off l.length cap l rfl hcell s hs
theorem strOfNums_inj {l r : List Int} (hl : ∀ x ∈ l, 0 ≤ x ∧ x ≤ 255) (hr : ∀ x ∈ r, 0 ≤ x ∧ x ≤ 255) (h : strOfNums l = strOfNums r) : l = r := by
  have h1 : l.map (fun n => UInt8.ofNat n.toNat) = r.map (fun n => UInt8.ofNat n.toNat) := by
    rw [← strOfNums_data, ← strOfNums_data, h]
  have key : ∀ x y : Int, 0 ≤ x ∧ x ≤ 255 → 0 ≤ y ∧ y ≤ 255 → UInt8.ofNat x.toNat = UInt8.ofNat y.toNat → x = y := by
    intro x y hx hy e
    have e1 := congrArg UInt8.toNat e
    simp at e1
    omega
  clear h
  induction l generalizing r with
  | nil => cases r with
    | nil => rfl
    | cons y r => simp at h1
  | cons x l ih => cases r with
    | nil => simp at h1
    | cons y r =>
      simp only [List.map_cons, List.cons.injEq] at h1
      rw [key x y (hl x (by simp)) (hr y (by simp)) h1.1, ih (fun z hz => hl z (by simp [hz])) (fun z hz => hr z (by simp [hz])) h1.2]
end Go.Proofs.YtbfmoiaedopeiaaDoor

/-
  Whole blocks of memory, over any program: what a block holds, what a store does to it, what a call may change. For a new seat: copy as <Name>Blk.lean; put the Name for 'Seat', also in the import.
-/
namespace Go.Proofs.YtbfmoiaedopeiaaDoor
open Go.RowKit
set_option linter.unusedVariables false

/-- Block g holds these cells, and nothing of it is frozen. -/
def Blk (w : World) (g : Nat) (t : TypeId) (xs : List Value) : Prop := w.heap[g]? = some (.cells xs.toArray t (0, 0))
section
variable {w w' : World} {g : Nat} {t : TypeId} {xs : List Value}
theorem Blk.lt (h : Blk w g t xs) : g < w.heap.size := (Array.getElem?_eq_some_iff.1 h).1
theorem Blk.cell (h : Blk w g t xs) (i : Nat) : w.cell? ⟨g, i, none⟩ = xs[i]? := by
  unfold Blk at h
  simp [World.cell?, h]
theorem Blk.frozen (h : Blk w g t xs) (i : Nat) : w.frozen? ⟨g, i, none⟩ = false := by
  unfold Blk at h
  simp [World.frozen?, h]
theorem Blk.of_eq (h : Blk w g t xs) (e : w'.heap[g]? = w.heap[g]?) : Blk w' g t xs := Eq.trans e h
theorem Blk.other (h : Blk w g t xs) (a : Addr) (u : Value) (hn : g ≠ a.block) : Blk (w.setCell a u) g t xs := h.of_eq (Below.heap_setCell w a u g hn)
theorem Blk.set (h : Blk w g t xs) (i : Nat) (u : Value) : Blk (w.setCell ⟨g, i, none⟩ u) g t (xs.set i u) := by
  unfold Blk at h ⊢
  have hlt := (Array.getElem?_eq_some_iff.1 h).1
  unfold World.setCell
  simp [Array.getElem?_modify, h]
theorem Blk.alloc (h : Blk w g t xs) (o : Obj) : Blk (w.alloc o) g t xs := h.of_eq (Below.heap_alloc w o g h.lt)
theorem Blk.drew (h : Blk w g t xs) : Blk w.drew g t xs := h
theorem Blk.below {B : Nat} (h : Blk w g t xs) (hB : Below B w w') (hg : g < B) : Blk w' g t xs := h.of_eq (hB.block g hg)
theorem Blk.later (h : Blk w g t xs) (hB : Below w.heap.size w w') : Blk w' g t xs := h.below hB h.lt
theorem Blk.new (w : World) (xs : List Value) (t : TypeId) : Blk (w.alloc (.cells xs.toArray t)) w.heap.size t xs := by
  unfold Blk World.alloc
  simp
theorem Blk.newA (w : World) (xs : Array Value) (t : TypeId) : Blk (w.alloc (.cells xs t)) w.heap.size t xs.toList := by
  have := Blk.new w xs.toList t
  rwa [Array.toArray_toList] at this
/-- As a row of the call's own. -/
theorem Blk.owns (h : Blk w g t xs) (base n cap : Nat) (hb : base ≤ g) (hl : xs.length = cap) (hn : n ≤ cap) (hm : cap ≤ maxLen) : w.ownsRow base t 1 (.slice (some ⟨g, 0, none⟩) n cap) n (xs.take n) :=
  ⟨by simp; omega, .inr ⟨g, cap, xs.toArray, rfl, hb, h, hn, hm, by simp [hl], by simp⟩⟩
theorem Blk.row {k : IntKind} {l : List Int} (h : Blk w g t (cellsL k l)) : Row k w (some ⟨g, 0, none⟩) l := by
  refine Row.mk fun i hi => ?_
  rw [Nat.zero_add, h.cell, cellsL_at k l i hi]
end
theorem own_blk {w : World} {base n : Nat} {e : TypeId} {v : Value} {xs : List Value} (h : w.ownsRow base e 1 v n xs) (hn : 0 < n) :
    ∃ g cap ys, v = .slice (some ⟨g, 0, none⟩) n cap ∧ base ≤ g ∧ n ≤ cap ∧ cap ≤ maxLen ∧ ys.length = cap ∧ ys.take n = xs ∧ Blk w g e ys := by
  rcases h.2 with ⟨_, h0⟩ | ⟨g, cap, cur, rfl, hb, hg, hnc, hcm, hs, ht⟩
  · omega
  · exact ⟨g, cap, cur.toList, rfl, hb, hnc, hcm, by simpa using hs, by simpa using ht, by unfold Blk; rw [Array.toArray_toList]; exact hg⟩
theorem cellsL_set (k : IntKind) (l : List Int) (i : Nat) (x : Int) : (cellsL k l).set i (.int k x) = cellsL k (l.set i x) := by simp [cellsL, List.map_set]

/-- What a call may change: the blocks of S, and what it makes. -/
structure Upd (S : Nat → Prop) (w w' : World) : Prop where
  os : w'.os = w.os
  tape : w'.tape = w.tape
  output : w'.output = w.output
  size : w.heap.size ≤ w'.heap.size
  block : ∀ k, k < w.heap.size → ¬ S k → w'.heap[k]? = w.heap[k]?
theorem Upd.refl (S : Nat → Prop) (w : World) : Upd S w w := ⟨rfl, rfl, rfl, Nat.le_refl _, fun _ _ _ => rfl⟩
theorem Upd.of_below {S : Nat → Prop} {w w' : World} (h : Below w.heap.size w w') : Upd S w w' := ⟨h.os, h.tape, h.output, h.size, fun k hk _ => h.block k hk⟩
theorem Upd.trans {S T : Nat → Prop} {a b c : World} (h : Upd S a b) (g : Upd T b c) (hs : ∀ k, k < a.heap.size → T k → S k) : Upd S a c :=
  ⟨g.os.trans h.os, g.tape.trans h.tape, g.output.trans h.output, Nat.le_trans h.size g.size, fun k hk hn => (g.block k (Nat.lt_of_lt_of_le hk h.size) (fun ht => hn (hs k hk ht))).trans (h.block k hk hn)⟩
theorem Upd.to {S : Nat → Prop} {a b c : World} (h : Upd S a b) (g : Upd S b c) : Upd S a c := h.trans g (fun _ _ h => h)
theorem Upd.mono {S T : Nat → Prop} {a b : World} (h : Upd S a b) (hs : ∀ k, k < a.heap.size → S k → T k) : Upd T a b := ⟨h.os, h.tape, h.output, h.size, fun k hk hn => h.block k hk (fun ht => hn (hs k hk ht))⟩
theorem Upd.then {S : Nat → Prop} {a b c : World} (h : Upd S a b) (g : Below b.heap.size b c) : Upd S a c := h.trans (Upd.of_below (S := fun _ => False) g) (fun _ _ h => h.elim)
theorem Upd.below {S : Nat → Prop} {w w' : World} (h : Upd S w w') (B : Nat) (hB : B ≤ w.heap.size) (hs : ∀ k, S k → B ≤ k) : Below B w w' :=
  ⟨h.os, h.tape, h.output, h.size, fun k hk => h.block k (by omega) (fun ht => by have := hs k ht; omega)⟩
theorem Upd.set {S : Nat → Prop} {a w : World} (h : Upd S a w) (p : Addr) (u : Value) (hp : S p.block ∨ a.heap.size ≤ p.block) : Upd S a (w.setCell p u) :=
  ⟨h.os, h.tape, h.output, by rw [World.size_setCell]; exact h.size, fun k hk hn => (Below.heap_setCell w p u k (by rintro rfl; rcases hp with hp | hp; exact hn hp; omega)).trans (h.block k hk hn)⟩
theorem Upd.alloc {S : Nat → Prop} {a w : World} (h : Upd S a w) (o : Obj) : Upd S a (w.alloc o) :=
  h.then ((Below.refl _ _).alloc (Nat.le_refl _) o)
theorem Upd.drew {S : Nat → Prop} {a w : World} (h : Upd S a w) : Upd S a w.drew := ⟨h.os, h.tape, h.output, h.size, h.block⟩
theorem Upd.grown {S : Nat → Prop} {a w w' : World} {row : Option Nat} (h : Upd S a w) (hg : w.grownBy w' row) (hr : ∀ k, row = some k → S k ∨ a.heap.size ≤ k) : Upd S a w' :=
  ⟨hg.os.trans h.os, hg.tape.trans h.tape, hg.output.trans h.output, Nat.le_trans h.size hg.size, fun k hk hn => (hg.block k (Nat.lt_of_lt_of_le hk h.size) (fun e => by rcases hr k e.symm with h1 | h1; exact hn h1; omega)).trans (h.block k hk hn)⟩
theorem Blk.upd {w w' : World} {g : Nat} {t : TypeId} {xs : List Value} {S : Nat → Prop} (h : Blk w g t xs) (hu : Upd S w w') (hg : ¬ S g) : Blk w' g t xs := h.of_eq (hu.block g h.lt hg)
theorem Row.upd {k : IntKind} {w w' : World} {a : Option Addr} {l : List Int} {S : Nat → Prop} (h : Row k w a l) (hu : Upd S w w') (hg : ∀ x, a = some x → ¬ S x.block) : Row k w' a l := by
  rcases h with ⟨rfl, rfl⟩ | ⟨x, rfl, hc⟩
  · exact .inl ⟨rfl, rfl⟩
  · refine .inr ⟨x, rfl, fun i hi => ?_⟩
    have h1 := hc i hi
    have hb : (x.add i).block = x.block := by unfold Addr.add; split <;> rfl
    have hlt := World.block_lt_of_cell? w _ h1
    rw [World.cell?_of_block (w := w) (hu.block _ hlt (by rw [hb]; exact hg x rfl))]
    exact h1
end Go.Proofs.YtbfmoiaedopeiaaDoor

/-
  append of one element that is written out, over any program; where the new slice lies. For a new seat: copy as <Name>Push.lean; put the Name for 'Seat', also in the import.
-/
namespace Go.Proofs.YtbfmoiaedopeiaaDoor
open Go.RowKit
set_option linter.unusedVariables false

/-! ### append(v, x), x written out -/
theorem run_pushV {P : Program} {t e : TypeId} {z : Value} {bytes : Nat} (ht : P.underlying t = some (.slice e)) (hinfo : (P.info? e).map (fun i => (i.zero, i.size, i.bytes)) = some (some z, 1, bytes)) (hzs : z.cells.size = 1)
    (w : World) (ty base : Nat) (v : Value) (n : Nat) (xs : List Value) (hown : w.ownsRow base e 1 v n xs) (x : Value) (hx : x.oneCell' = true) (h63 : n + 1 ≤ maxLen) (hb : (n + 1) * bytes ≤ 140737488355328) (hbase : base ≤ w.heap.size) :
    ∃ g cap w', (Builtin.append_ #[t, t] ty #[v, .slice (some ⟨w.heap.size, 0, none⟩) 1 1]).run P (w.alloc (.cells #[x] e)) = .ok (.slice (some ⟨g, 0, none⟩) (n + 1) cap) w' ∧
      w'.ownsRow base e 1 (.slice (some ⟨g, 0, none⟩) (n + 1) cap) (n + 1) (xs ++ [x]) ∧ Upd (fun k => v.ownBlock = some k) w w' ∧ (v.ownBlock = some g ∨ w.heap.size ≤ g) := by
  obtain ⟨i0, hi, hz0, hz1, hz2⟩ := info_parts hinfo
  have hsz : (w.alloc (.cells #[x] e)).heap.size = w.heap.size + 1 := by simp
  obtain ⟨g, cap, w', h1, h2, h3, h4, h5⟩ := run_append_lies (P := P) (w.alloc (.cells #[x] e)) t ty base e i0 z 1 bytes ht hi hz0 hz1 hz2 hzs (by decide) v n xs (hown.alloc _) ⟨w.heap.size, 0, none⟩ 1 1 [x] rfl
    (fun j u hj => by
      have hj0 : j = 0 := by
        rcases Nat.eq_zero_or_pos j with h | h
        · exact h
        · rw [List.getElem?_eq_none h] at hj; cases hj
      subst hj0
      rw [add_none, (Blk.newA w #[x] e).cell]
      exact hj)
    (fun u hu => by simp at hu; subst hu; exact hx) (by decide) h63 hb (by omega) _ rfl
  refine ⟨g, cap, w', h1, h2, ((Upd.refl _ w).alloc _).grown h3 (fun k hk => .inl hk), ?_⟩
  rcases h4 with h4 | h4
  · exact .inl h4
  · exact .inr (by omega)
theorem run_push {P : Program} {t e : TypeId} {k : IntKind} {bytes : Nat} (E : Elem P t e k bytes) (w : World) (ty base : Nat) (v : Value) (n : Nat) (l : List Int) (hown : w.ownsRow base e 1 v n (cellsL k l)) (x : Int) (h63 : n + 1 ≤ maxLen) (hb : (n + 1) * bytes ≤ 140737488355328) (hbase : base ≤ w.heap.size) :
    ∃ g cap w', (Builtin.append_ #[t, t] ty #[v, .slice (some ⟨w.heap.size, 0, none⟩) 1 1]).run P (w.alloc (.cells #[.int k x] e)) = .ok (.slice (some ⟨g, 0, none⟩) (n + 1) cap) w' ∧
      w'.ownsRow base e 1 (.slice (some ⟨g, 0, none⟩) (n + 1) cap) (n + 1) (cellsL k (l ++ [x])) ∧ Upd (fun k => v.ownBlock = some k) w w' ∧ (v.ownBlock = some g ∨ w.heap.size ≤ g) := by
  rw [cellsL_append]
  exact run_pushV E.sl E.info rfl w ty base v n (cellsL k l) hown (.int k x) rfl h63 hb hbase
theorem owns_upd {w w' : World} {base n : Nat} {e : TypeId} {v : Value} {xs : List Value} {S : Nat → Prop} (h : w.ownsRow base e 1 v n xs) (hu : Upd S w w') (hs : ∀ k, v.ownBlock = some k → ¬ S k) : w'.ownsRow base e 1 v n xs := by
  refine ⟨h.1, ?_⟩
  rcases h.2 with hn | ⟨g, cap, cur, rfl, hb, hg, rest⟩
  · exact .inl hn
  · exact .inr ⟨g, cap, cur, rfl, hb, (hu.block g (Array.getElem?_eq_some_iff.1 hg).1 (hs g rfl)).trans hg, rest⟩
end Go.Proofs.YtbfmoiaedopeiaaDoor

/-
  Rows of values of one cell each (slices, pointers ..) of the call's own, number j being F j; blocks of two types are two; functions that grow by one. Over any program. For a new seat: copy as <Name>Rows2.lean (Rows is taken); put the Name for 'Seat', also in the import.
-/
namespace Go.Proofs.YtbfmoiaedopeiaaDoor
open Go.RowKit
set_option linter.unusedVariables false

/-! ### Blocks of two types are two -/
theorem blk_ne {w : World} {g g' : Nat} {t t' : TypeId} {xs ys : List Value} (h : Blk w g t xs) (h' : Blk w g' t' ys) (ht : t ≠ t') : g ≠ g' := by
  intro e
  subst e
  unfold Blk at h h'
  rw [h] at h'
  injection h' with h'
  injection h' with _ h3 _
  exact ht h3
theorem own_ne_t {B br n : Nat} {w : World} {v : Value} {xs ys : List Value} {t t' : TypeId} (h : w.ownsRow B t 1 v n xs) (hb : Blk w br t' ys) (ht : t ≠ t') : v.ownBlock ≠ some br := by
  intro e
  rcases h.2 with ⟨rfl, _⟩ | ⟨g, cap, cur, rfl, _, hg, _⟩
  · cases e
  · injection e with e
    have e' : g = br := e
    subst e'
    unfold Blk at hb
    rw [hb] at hg
    injection hg with hg
    injection hg with _ h3 _
    exact ht h3.symm
/-! ### Rows -/
def RowE (e : TypeId) (B : Nat) (w : World) (v : Value) (N : Nat) (F : Nat → Value) : Prop := w.ownsRow B e 1 v N ((List.range N).map F)
section
variable {e : TypeId} {B N : Nat} {w w' : World} {v : Value} {F : Nat → Value}
theorem RowE.open (h : RowE e B w v N F) (hN : 0 < N) : ∃ q cap, v = .slice (some ⟨q, 0, none⟩) N cap ∧ B ≤ q ∧ N ≤ cap ∧ cap ≤ maxLen ∧ ∀ j, j < N → w.cell? ⟨q, j, none⟩ = some (F j) := by
  obtain ⟨q, cap, ys, rfl, h1, h2, h3, h4, h5, h6⟩ := own_blk h hN
  refine ⟨q, cap, rfl, h1, h2, h3, fun j hj => ?_⟩
  rw [h6.cell j]
  have e : (ys.take N)[j]? = ys[j]? := by rw [List.getElem?_take, if_pos hj]
  rw [← e, h5]
  simp [hj]
theorem RowE.at {q cap : Nat} (h : RowE e B w (.slice (some ⟨q, 0, none⟩) N cap) N F) (j : Nat) (hj : j < N) : w.cell? ⟨q, j, none⟩ = some (F j) := by
  obtain ⟨q', cap', e, _, _, _, hc⟩ := h.open (by omega)
  injection e with e1 _ _
  injection e1 with e1
  injection e1 with e1 _ _
  subst e1
  exact hc j hj
theorem RowE.nil (e : TypeId) (B : Nat) (w : World) (F : Nat → Value) : RowE e B w (.slice none 0 0) 0 F := World.ownsRow_nil _ _ _ _
theorem RowE.congr {G : Nat → Value} (h : RowE e B w v N F) (eq : ∀ j, j < N → F j = G j) : RowE e B w v N G := by
  unfold RowE at h ⊢
  rw [← List.map_congr_left (fun j hj => eq j (List.mem_range.1 hj))]
  exact h
theorem RowE.upd {S : Nat → Prop} (h : RowE e B w v N F) (hu : Upd S w w') (hs : ∀ k, v.ownBlock = some k → ¬ S k) : RowE e B w' v N F := owns_upd h hu hs
theorem RowE.later (h : RowE e B w v N F) (hB : Below w.heap.size w w') : RowE e B w' v N F := h.upd (Upd.of_below (S := fun _ => False) hB) (fun _ _ h => h)
theorem RowE.lt (h : RowE e B w v N F) (k : Nat) (hk : v.ownBlock = some k) : B ≤ k ∧ k < w.heap.size := World.ownsRow.lt h k hk
/-- append(v, x), x written out. -/
theorem RowE.push {P : Program} {t : TypeId} {z : Value} {bytes : Nat} (ht : P.underlying t = some (.slice e)) (hinfo : (P.info? e).map (fun i => (i.zero, i.size, i.bytes)) = some (some z, 1, bytes)) (hzs : z.cells.size = 1)
    (h : RowE e B w v N F) (hx : (F N).oneCell' = true) (h63 : N + 1 ≤ maxLen) (hb : (N + 1) * bytes ≤ 140737488355328) (hB : B ≤ w.heap.size) (ty : Nat) :
    ∃ g cap w', (Builtin.append_ #[t, t] ty #[v, .slice (some ⟨w.heap.size, 0, none⟩) 1 1]).run P (w.alloc (.cells #[F N] e)) = .ok (.slice (some ⟨g, 0, none⟩) (N + 1) cap) w' ∧
      RowE e B w' (.slice (some ⟨g, 0, none⟩) (N + 1) cap) (N + 1) F ∧ Upd (fun k => v.ownBlock = some k) w w' ∧ (v.ownBlock = some g ∨ w.heap.size ≤ g) := by
  obtain ⟨g, cap, w', h1, h2, h3, h4⟩ := run_pushV ht hinfo hzs w ty B v N _ h (F N) hx h63 hb hB
  refine ⟨g, cap, w', h1, ?_, h3, h4⟩
  unfold RowE
  rw [List.range_succ, List.map_append]
  exact h2
end
def ext {α : Type} (g : Nat → α) (N : Nat) (x : α) (j : Nat) : α := if j = N then x else g j
theorem ext_at {α : Type} (g : Nat → α) (N : Nat) (x : α) : ext g N x N = x := by unfold ext; rw [if_pos rfl]
theorem ext_ne {α : Type} (g : Nat → α) (N : Nat) (x : α) (j : Nat) (h : j ≠ N) : ext g N x j = g j := by unfold ext; rw [if_neg h]
/-! ### append(v, x) onto a full row of integers: what was there stays -/
theorem run_push_full {P : Program} {t e : TypeId} {k : IntKind} {bytes : Nat} (E : Elem P t e k bytes) (w : World) (ty g n : Nat) (l : List Int) (x : Int) (hl : l.length = n) (hb : Blk w g e (cellsL k l)) (h63 : n + 1 ≤ maxLen) (hby : (n + 1) * bytes ≤ 140737488355328) :
    ∃ g' cap w', (Builtin.append_ #[t, t] ty #[.slice (some ⟨g, 0, none⟩) n n, .slice (some ⟨w.heap.size, 0, none⟩) 1 1]).run P (w.alloc (.cells #[.int k x] e)) = .ok (.slice (some ⟨g', 0, none⟩) (n + 1) cap) w' ∧
      w'.ownsRow w.heap.size e 1 (.slice (some ⟨g', 0, none⟩) (n + 1) cap) (n + 1) (cellsL k (l ++ [x])) ∧ Below w.heap.size w w' := by
  obtain ⟨i0, hi, hz0, hz1, hz2⟩ := info_parts E.info
  have hbl := Blk.newA w #[.int k x] e
  have hBa : Below w.heap.size w (w.alloc (.cells #[.int k x] e)) := (Below.refl _ _).alloc (Nat.le_refl _) _
  have hb1 := hb.later hBa
  obtain ⟨v1, w1, r1, o1, gr1⟩ := run_append_arg_grows (P := P) (w.alloc (.cells #[.int k x] e)) t ty e i0 (.int k 0) 1 bytes E.sl hi hz0 hz1 hz2 rfl (by decide)
    ⟨g, 0, none⟩ n n (cellsL k l) (by rw [cellsL_length, Nat.mul_one]; exact hl)
    (fun j u hj => by rw [add_none, Nat.zero_add, hb1.cell j]; exact hj) ⟨w.heap.size, 0, none⟩ 1 1 [.int k x] rfl
    (fun j u hj => by rw [add_none, Nat.zero_add, hbl.cell j]; exact hj) (by omega) h63 hby
  have hBg : Below w.heap.size w w1 := below_to hBa ((Below.refl _ _).grown gr1 (Nat.le_refl _) (fun k hk => by cases hk))
  obtain ⟨x', dx, ys, rfl, hx, h4, h5, h6, h7, h8⟩ := own_blk o1 (by omega)
  refine ⟨x', dx, w1, r1, ?_, hBg⟩
  have := h8.owns w.heap.size (n + 1) dx (Nat.le_trans hBa.size hx) h6 h4 h5
  rw [h7] at this
  rw [cellsL_append]
  exact this
end Go.Proofs.YtbfmoiaedopeiaaDoor

/- Rows of structs of the call's own; append of a struct written out; results that lie in a cell. Over any program. -/
namespace Go.Proofs.YtbfmoiaedopeiaaDoor
open Go.RowKit
set_option linter.unusedVariables false

theorem own_is {g n c k : Nat} (h : (Value.slice (some ⟨g, 0, none⟩) n c).ownBlock = some k) : g = k := by simpa [Value.ownBlock] using h
section
variable {w w' : World} {B n c : Nat} {e : TypeId} {v : Value} {xs : List Value}
theorem ownS_blk (h : w.ownsRow B e c v n xs) (hn : 0 < n) :
    ∃ g cap ys, v = .slice (some ⟨g, 0, none⟩) n cap ∧ B ≤ g ∧ n ≤ cap ∧ cap ≤ maxLen ∧ ys.length = cap * c ∧ ys.take (n * c) = xs ∧ Blk w g e ys := by
  rcases h.2 with ⟨_, h0⟩ | ⟨g, cap, cur, rfl, hb, hg, hnc, hcm, hs, ht⟩
  · omega
  · exact ⟨g, cap, cur.toList, rfl, hb, hnc, hcm, by simpa using hs, by simpa using ht, by unfold Blk; rw [Array.toArray_toList]; exact hg⟩
theorem ownS_of_blk {g cap : Nat} {ys : List Value} (h : Blk w g e ys) (hb : B ≤ g) (hl : ys.length = cap * c) (hn : n ≤ cap) (hm : cap ≤ maxLen) : w.ownsRow B e c (.slice (some ⟨g, 0, none⟩) n cap) n (ys.take (n * c)) :=
  ⟨by rw [List.length_take, hl]; exact Nat.min_eq_left (Nat.mul_le_mul_right c hn), .inr ⟨g, cap, ys.toArray, rfl, hb, h, hn, hm, by simp [hl], by simp⟩⟩
theorem ownS_upd {S : Nat → Prop} (h : w.ownsRow B e c v n xs) (hu : Upd S w w') (hs : ∀ k, v.ownBlock = some k → ¬ S k) : w'.ownsRow B e c v n xs := by
  refine ⟨h.1, ?_⟩
  rcases h.2 with hn | ⟨g, cap, cur, rfl, hb, hg, rest⟩
  · exact .inl hn
  · exact .inr ⟨g, cap, cur, rfl, hb, (hu.block g (Array.getElem?_eq_some_iff.1 hg).1 (hs g rfl)).trans hg, rest⟩
theorem ownS_type (h : w.ownsRow B e c v n xs) {k : Nat} (hk : v.ownBlock = some k) : ∃ ys, Blk w k e ys := by
  rcases h.2 with ⟨rfl, _⟩ | ⟨g, cap, cur, rfl, hb, hg, _⟩
  · simp [Value.ownBlock] at hk
  · obtain rfl : g = k := own_is hk
    exact ⟨cur.toList, by unfold Blk; rw [Array.toArray_toList]; exact hg⟩
theorem blk_type {g : Nat} {t t' : TypeId} {xs ys : List Value} (h : Blk w g t xs) (k : Blk w g t' ys) : t = t' := by
  unfold Blk at h k
  rw [h] at k
  injection k with k
  injection k with _ k
/-- append(v, x), x a struct written out. -/
theorem run_pushS {P : Program} {t : TypeId} {z : Value} {bytes : Nat} (ht : P.underlying t = some (.slice e)) (hinfo : (P.info? e).map (fun i => (i.zero, i.size, i.bytes)) = some (some z, c, bytes)) (hzs : z.cells.size = c) (hc : 0 < c)
    (w : World) (ty : Nat) (hown : w.ownsRow B e c v n xs) (news : List Value) (hl : news.length = c) (hx : ∀ u ∈ news, u.oneCell' = true) (h63 : n + 1 ≤ maxLen) (hb : (n + 1) * bytes ≤ 140737488355328) (hbase : B ≤ w.heap.size) :
    ∃ g cap w', (Builtin.append_ #[t, t] ty #[v, .slice (some ⟨w.heap.size, 0, none⟩) 1 1]).run P (w.alloc (.cells news.toArray e)) = .ok (.slice (some ⟨g, 0, none⟩) (n + 1) cap) w' ∧
      w'.ownsRow B e c (.slice (some ⟨g, 0, none⟩) (n + 1) cap) (n + 1) (xs ++ news) ∧ Upd (fun k => v.ownBlock = some k) w w' ∧ (v.ownBlock = some g ∨ w.heap.size ≤ g) := by
  obtain ⟨i0, hi, hz0, hz1, hz2⟩ := info_parts hinfo
  have hsz : (w.alloc (.cells news.toArray e)).heap.size = w.heap.size + 1 := by simp
  obtain ⟨g, cap, w', h1, h2, h3, h4, h5⟩ := run_append_lies (P := P) (w.alloc (.cells news.toArray e)) t ty B e i0 z c bytes ht hi hz0 hz1 hz2 hzs hc v n xs (hown.alloc _) ⟨w.heap.size, 0, none⟩ 1 1 news (by omega)
    (fun j u hj => by rw [add_none, Nat.zero_add, (Blk.new w news e).cell]; exact hj)
    hx (by decide) h63 hb (by omega) _ rfl
  refine ⟨g, cap, w', h1, h2, ((Upd.refl _ w).alloc _).grown h3 (fun k hk => .inl hk), ?_⟩
  rcases h4 with h4 | h4
  · exact .inl h4
  · exact .inr (by omega)
end


theorem results_cell_tmp_row {P : Program} {fn : Func} {p u : Tmp} {ty : TypeId} (h : fn.results = #[.cell p ty, .tmp u]) (tmps : Array Value) (w : World) (g : Nat) (t : TypeId) (cs : Array Value) (fr : Nat × Nat) (d : TypeDesc)
    (hp : tmps.getD p undef = .pointer (some ⟨g, 0, none⟩)) (hg : w.heap[g]? = some (.cells cs t fr))
    (hu : P.underlying ty = some d) (hd : (match d with | .struct _ | .array _ _ => true | _ => false) = true) (hi : (P.info? ty).map (·.size) = some cs.size) :
    (results fn tmps).run P w = .ok (.tuple #[.agg cs, tmps.getD u undef]) w := by
  have hp' : tmps[p]?.getD undef = .pointer (some ⟨g, 0, none⟩) := by simpa using hp
  rw [results_cell_tmp h]
  simp [hp', asAddr, Result.andThen, run_loadVar_row w g t ty cs fr d hg hu hd hi]
theorem results_tmp_cell_row {P : Program} {fn : Func} {p u : Tmp} {ty : TypeId} (h : fn.results = #[.tmp u, .cell p ty]) (tmps : Array Value) (w : World) (g : Nat) (t : TypeId) (cs : Array Value) (fr : Nat × Nat) (d : TypeDesc)
    (hp : tmps.getD p undef = .pointer (some ⟨g, 0, none⟩)) (hg : w.heap[g]? = some (.cells cs t fr))
    (hu : P.underlying ty = some d) (hd : (match d with | .struct _ | .array _ _ => true | _ => false) = true) (hi : (P.info? ty).map (·.size) = some cs.size) :
    (results fn tmps).run P w = .ok (.tuple #[tmps.getD u undef, .agg cs]) w := by
  have hp' : tmps[p]?.getD undef = .pointer (some ⟨g, 0, none⟩) := by simpa using hp
  simp only [results, h]
  simp [hp', asAddr, Result.andThen, run_loadVar_row w g t ty cs fr d hg hu hd hi]
theorem new_cells (w : World) (cs : Array Value) (t : TypeId) : (w.alloc (.cells cs t)).heap[w.heap.size]? = some (.cells cs t (0, 0)) := by
  have h := Blk.newA w cs t
  unfold Blk at h
  rwa [Array.toArray_toList] at h


end Go.Proofs.YtbfmoiaedopeiaaDoor

/- Texts cut into tokens, plain: nothing of the program is named. -/
namespace Go.Proofs.YtbfmoiaedopeiaaDoor
set_option linter.unusedVariables false

def letter (c : UInt8) : Bool := decide (97 ≤ c.toNat ∧ c.toNat ≤ 122)
def digit (c : UInt8) : Bool := decide (48 ≤ c.toNat ∧ c.toNat ≤ 57)
def blank (c : UInt8) : Bool := decide (c.toNat = 32 ∨ c.toNat = 9 ∨ c.toNat = 10)
def mark (c : UInt8) : Bool := decide (c.toNat = 61 ∨ c.toNat = 59 ∨ c.toNat = 60 ∨ c.toNat = 62 ∨ c.toNat = 44 ∨ c.toNat = 58 ∨ c.toNat = 123 ∨ c.toNat = 125)
def goes (c : UInt8) : Bool := letter c || digit c || decide (c.toNat = 95)
def sharp (c : UInt8) : Bool := decide (c.toNat = 35)
/-- It does not end a line. -/
def inl (c : UInt8) : Bool := decide (c.toNat ≠ 10)

/-- A token: kind, text, number, the first place, the place behind. -/
structure Tk where
  k : Int
  t : ByteArray
  n : Int
  a : Nat
  e : Nat

def num (w : List UInt8) : Nat := w.foldl (fun n d => n * 10 + (d.toNat - 48)) 0
def numOk (w : List UInt8) : Bool := decide (¬ (1 < w.length ∧ ∃ c, w.head? = some c ∧ c.toNat = 48) ∧ num w ≤ 2147483647)
/-- May this byte go on in the token that begins with that one? -/
def follows (c x : UInt8) : Bool := if letter c then goes x else if digit c then digit x else false
/-- How long the token is that begins here; 0: none does. -/
def wl : List UInt8 → Nat
  | [] => 0
  | c :: r => if letter c || digit c || mark c then 1 + (r.takeWhile (follows c)).length else 0
/-- What is wrong with a token that is written so. -/
def erW : List UInt8 → Nat
  | [] => 50
  | c :: r => if letter c then (if r.length < 32 then 0 else 52) else if digit c then (if numOk (c :: r) then 0 else 51) else 0
def tkW (w : List UInt8) (p : Nat) : Tk :=
  match w with
  | [] => ⟨0, ⟨#[]⟩, 0, 0, 0⟩
  | c :: r => if letter c then ⟨1, ⟨w.toArray⟩, 0, p, p + w.length⟩ else if digit c then ⟨2, ⟨#[]⟩, num w, p, p + w.length⟩ else ⟨3, ⟨w.toArray⟩, 0, p, p + w.length⟩
abbrev Cu := List Tk × Nat × Nat
def app (t : Tk) (R : Cu) : Cu := if R.2.1 = 0 then (t :: R.1, 0, 0) else R
def apps (ts : List Tk) (R : Cu) : Cu := if R.2.1 = 0 then (ts ++ R.1, 0, 0) else R
def cutF : Nat → List UInt8 → Nat → Cu
  | 0, _, _ => ([], 0, 0)
  | _ + 1, [], _ => ([], 0, 0)
  | f + 1, c :: r, p =>
    if blank c then cutF f r (p + 1)
    else if sharp c then cutF f (r.dropWhile inl) (p + 1 + (r.takeWhile inl).length)
    else if erW ((c :: r).take (wl (c :: r))) = 0 then app (tkW ((c :: r).take (wl (c :: r))) p) (cutF f ((c :: r).drop (wl (c :: r))) (p + wl (c :: r)))
    else ([], erW ((c :: r).take (wl (c :: r))), p)
def cut (l : List UInt8) (p : Nat) : Cu := cutF l.length l p

theorem drop_le (l : List UInt8) (q : UInt8 → Bool) : (l.dropWhile q).length ≤ l.length := (List.dropWhile_sublist q).length_le
theorem er_wl {c : UInt8} {r : List UInt8} (h : erW ((c :: r).take (wl (c :: r))) = 0) : 0 < wl (c :: r) := by
  rcases Nat.eq_zero_or_pos (wl (c :: r)) with h0 | h0
  · rw [h0] at h; simp [erW] at h
  · exact h0
theorem cutF_fuel : ∀ (f g : Nat) (l : List UInt8) (p : Nat), l.length ≤ f → l.length ≤ g → cutF f l p = cutF g l p := by
  intro f
  induction f with
  | zero =>
    intro g l p h1 h2
    have : l = [] := List.eq_nil_of_length_eq_zero (by omega)
    subst this
    cases g <;> rfl
  | succ f ih =>
    intro g l p h1 h2
    cases l with
    | nil => cases g <;> rfl
    | cons c r =>
      cases g with
      | zero => simp at h2
      | succ g =>
        simp only [List.length_cons] at h1 h2
        unfold cutF
        have hd := drop_le r inl
        rw [ih g r (p + 1) (by omega) (by omega), ih g (r.dropWhile inl) (p + 1 + (r.takeWhile inl).length) (by omega) (by omega)]
        by_cases he : erW ((c :: r).take (wl (c :: r))) = 0
        · have h3 := er_wl he
          rw [ih g ((c :: r).drop (wl (c :: r))) (p + wl (c :: r)) (by simp; omega) (by simp; omega)]
        · simp only [if_neg he]
theorem cut_nil (p : Nat) : cut [] p = ([], 0, 0) := rfl
theorem cut_blank {c : UInt8} (r : List UInt8) (p : Nat) (h : blank c = true) : cut (c :: r) p = cut r (p + 1) := by
  unfold cut
  rw [List.length_cons, cutF, if_pos h]
theorem blank_35 {c : UInt8} (h : sharp c = true) : blank c = false := by
  simp [sharp, blank] at *
  omega
theorem cut_sharp {c : UInt8} (r : List UInt8) (p : Nat) (h : sharp c = true) : cut (c :: r) p = cut (r.dropWhile inl) (p + 1 + (r.takeWhile inl).length) := by
  unfold cut
  rw [List.length_cons, cutF, if_neg (by rw [blank_35 h]; simp), if_pos h]
  exact cutF_fuel _ _ _ _ (drop_le r inl) (Nat.le_refl _)
theorem cut_bad {c : UInt8} (r : List UInt8) (p : Nat) (h1 : blank c = false) (h2 : sharp c = false) (h3 : erW ((c :: r).take (wl (c :: r))) ≠ 0) : cut (c :: r) p = ([], erW ((c :: r).take (wl (c :: r))), p) := by
  unfold cut
  rw [List.length_cons, cutF, if_neg (by rw [h1]; simp), if_neg (by rw [h2]; simp), if_neg h3]
theorem cut_tok {c : UInt8} (r : List UInt8) (p : Nat) (h1 : blank c = false) (h2 : sharp c = false) (h3 : erW ((c :: r).take (wl (c :: r))) = 0) :
    cut (c :: r) p = app (tkW ((c :: r).take (wl (c :: r))) p) (cut ((c :: r).drop (wl (c :: r))) (p + wl (c :: r))) := by
  have h0 := er_wl h3
  unfold cut
  rw [List.length_cons, cutF, if_neg (by rw [h1]; simp), if_neg (by rw [h2]; simp), if_pos h3]
  rw [cutF_fuel r.length ((c :: r).drop (wl (c :: r))).length _ _ (by simp; omega) (Nat.le_refl _)]

/-! ### Words and what stands behind them -/
/-- A whole token is written so. -/
def Tw (w : List UInt8) : Prop := ∃ c r, w = c :: r ∧ (letter c || digit c || mark c) = true ∧ (∀ x ∈ r, follows c x = true) ∧ erW w = 0
/-- What stands behind it does not belong to it. -/
def Off (w s : List UInt8) : Prop := ∀ c r x y, w = c :: r → s = x :: y → follows c x = false
theorem takeWhile_app {q : UInt8 → Bool} : ∀ {r s : List UInt8}, (∀ x ∈ r, q x = true) → (∀ x y, s = x :: y → q x = false) → (r ++ s).takeWhile q = r
  | [], s, _, h => by
    cases s with
    | nil => rfl
    | cons x y => simp [h x y rfl]
  | a :: r, s, h1, h => by
    have ha := h1 a (by simp)
    have := takeWhile_app (r := r) (s := s) (fun x hx => h1 x (by simp [hx])) h
    simp [ha, this]
theorem dropWhile_app {q : UInt8 → Bool} : ∀ {r s : List UInt8}, (∀ x ∈ r, q x = true) → (∀ x y, s = x :: y → q x = false) → (r ++ s).dropWhile q = s
  | [], s, _, h => by
    cases s with
    | nil => rfl
    | cons x y => simp [h x y rfl]
  | a :: r, s, h1, h => by
    have ha := h1 a (by simp)
    have := dropWhile_app (r := r) (s := s) (fun x hx => h1 x (by simp [hx])) h
    simp [ha, this]
theorem split_while (q : UInt8 → Bool) : ∀ l : List UInt8, ∃ r s, l = r ++ s ∧ (∀ x ∈ r, q x = true) ∧ (∀ x y, s = x :: y → q x = false)
  | [] => ⟨[], [], rfl, by simp, by simp⟩
  | a :: l => by
    obtain ⟨r, s, h1, h2, h3⟩ := split_while q l
    cases ha : q a with
    | true => exact ⟨a :: r, s, by rw [h1]; rfl, fun x hx => by simp at hx; rcases hx with rfl | hx; exact ha; exact h2 x hx, h3⟩
    | false => exact ⟨[], a :: l, rfl, by simp, fun x y h => by injection h with h _; subst h; exact ha⟩
theorem Tw.wl {w s : List UInt8} (h : Tw w) (k : Off w s) : wl (w ++ s) = w.length := by
  obtain ⟨c, r, rfl, h1, h2, _⟩ := h
  rw [List.cons_append, YtbfmoiaedopeiaaDoor.wl, if_pos h1, takeWhile_app h2 (fun x y hs => k c r x y rfl hs)]
  simp; omega
theorem first_not {c : UInt8} (h : (letter c || digit c || mark c) = true) : blank c = false ∧ sharp c = false := by
  simp [letter, digit, mark, blank, sharp] at *
  omega
theorem cut_word {w s : List UInt8} (h : Tw w) (k : Off w s) (p : Nat) : cut (w ++ s) p = app (tkW w p) (cut s (p + w.length)) := by
  have hw := h.wl k
  obtain ⟨c, r, rfl, h1, h2, h3⟩ := h
  obtain ⟨hb, hs⟩ := first_not h1
  have ht : (c :: r ++ s).take (wl (c :: r ++ s)) = c :: r := by rw [hw]; simp
  have hd : (c :: r ++ s).drop (wl (c :: r ++ s)) = s := by rw [hw]; simp
  rw [List.cons_append] at ht hd hw ⊢
  rw [cut_tok (r ++ s) p hb hs (by rw [ht]; exact h3), ht, hd, hw]
/-- Any text is nothing, a blank, a remark, a fault, or a token, and what stands behind it. -/
theorem cut_ind (P : List UInt8 → Nat → Prop) (hnil : ∀ p, P [] p) (hblank : ∀ c r p, blank c = true → P r (p + 1) → P (c :: r) p)
    (hend : ∀ c r p, sharp c = true → (∀ x ∈ r, inl x = true) → P (c :: r) p)
    (hrem : ∀ c r d s p, sharp c = true → (∀ x ∈ r, inl x = true) → d.toNat = 10 → P s (p + 1 + r.length + 1) → P (c :: (r ++ d :: s)) p)
    (hbad : ∀ c r p, blank c = false → sharp c = false → erW ((c :: r).take (wl (c :: r))) ≠ 0 → P (c :: r) p)
    (htok : ∀ w s p, Tw w → Off w s → P s (p + w.length) → P (w ++ s) p) : ∀ (l : List UInt8) (p : Nat), P l p := by
  have key : ∀ (n : Nat) (l : List UInt8) (p : Nat), l.length ≤ n → P l p := by
    intro n
    induction n with
    | zero =>
      intro l p h
      have : l = [] := List.eq_nil_of_length_eq_zero (by omega)
      subst this
      exact hnil p
    | succ n ih =>
      intro l p h
      cases l with
      | nil => exact hnil p
      | cons c r =>
        simp only [List.length_cons] at h
        cases hb : blank c with
        | true => exact hblank c r p hb (ih r _ (by omega))
        | false =>
          cases hs : sharp c with
          | true =>
            obtain ⟨r1, s1, rfl, h2, h3⟩ := split_while inl r
            cases s1 with
            | nil => rw [List.append_nil]; exact hend c r1 p hs h2
            | cons d s =>
              have h4 := h3 d s rfl
              simp only [List.length_append, List.length_cons] at h
              exact hrem c r1 d s p hs h2 (by simpa [inl] using h4) (ih s _ (by omega))
          | false =>
            by_cases he : erW ((c :: r).take (wl (c :: r))) = 0
            · have h0 := er_wl he
              have hf : (letter c || digit c || mark c) = true := by
                cases hf : (letter c || digit c || mark c) with
                | true => rfl
                | false => rw [wl, hf] at h0; simp at h0
              obtain ⟨r1, s1, rfl, h2, h3⟩ := split_while (follows c) r
              have hw : wl (c :: (r1 ++ s1)) = 1 + r1.length := by rw [wl, if_pos hf, takeWhile_app h2 h3]
              have ht : (c :: (r1 ++ s1)).take (wl (c :: (r1 ++ s1))) = c :: r1 := by
                rw [hw, Nat.add_comm]; simp
              have hT : Tw (c :: r1) := ⟨c, r1, rfl, hf, h2, by rw [← ht]; exact he⟩
              have hO : Off (c :: r1) s1 := fun c' r' x y e1 e2 => by injection e1 with e1 _; subst e1; exact h3 x y e2
              simp only [List.length_append] at h
              exact htok (c :: r1) s1 p hT hO (ih s1 _ (by omega))
            · exact hbad c r p hb hs he
  exact fun l p => key l.length l p (Nat.le_refl _)
theorem cut_end {c : UInt8} {r : List UInt8} (p : Nat) (h : sharp c = true) (h2 : ∀ x ∈ r, inl x = true) : cut (c :: r) p = ([], 0, 0) := by
  rw [cut_sharp r p h]
  have := dropWhile_app (r := r) (s := []) h2 (by simp)
  rw [List.append_nil] at this
  rw [this]
  rfl
theorem inl_10 {d : UInt8} (h : d.toNat = 10) : inl d = false := by simp [inl, h]
theorem blank_10 {d : UInt8} (h : d.toNat = 10) : blank d = true := by simp [blank, h]
theorem cut_rem {c d : UInt8} {r s : List UInt8} (p : Nat) (h : sharp c = true) (h2 : ∀ x ∈ r, inl x = true) (h3 : d.toNat = 10) : cut (c :: (r ++ d :: s)) p = cut s (p + 1 + r.length + 1) := by
  have hx : ∀ x y, d :: s = x :: y → inl x = false := fun x y e => by injection e with e _; subst e; exact inl_10 h3
  rw [cut_sharp _ p h, dropWhile_app h2 hx, takeWhile_app h2 hx, cut_blank s _ (blank_10 h3)]
/-- With a fault no tokens; without one no place; a fault's place is no place ahead. -/
theorem cut_form (l : List UInt8) (p : Nat) : ((cut l p).2.1 ≠ 0 → (cut l p).1 = [] ∧ p ≤ (cut l p).2.2 ∧ (cut l p).2.2 < p + l.length ∧ (cut l p).2.1 ≤ 52 ∧ 50 ≤ (cut l p).2.1) ∧ ((cut l p).2.1 = 0 → (cut l p).2.2 = 0) := by
  revert p
  refine fun p => cut_ind (fun l p => ((cut l p).2.1 ≠ 0 → (cut l p).1 = [] ∧ p ≤ (cut l p).2.2 ∧ (cut l p).2.2 < p + l.length ∧ (cut l p).2.1 ≤ 52 ∧ 50 ≤ (cut l p).2.1) ∧ ((cut l p).2.1 = 0 → (cut l p).2.2 = 0)) ?_ ?_ ?_ ?_ ?_ ?_ l p
  · intro p; simp [cut_nil]
  · intro c r p hb ih
    rw [cut_blank r p hb]
    exact ⟨fun h => ⟨(ih.1 h).1, by have := (ih.1 h).2.1; omega, by have := (ih.1 h).2.2.1; simp; omega, (ih.1 h).2.2.2⟩, ih.2⟩
  · intro c r p hs h2; rw [cut_end p hs h2]; simp
  · intro c r d s p hs h2 h3 ih
    rw [cut_rem p hs h2 h3]
    exact ⟨fun h => ⟨(ih.1 h).1, by have := (ih.1 h).2.1; omega, by have := (ih.1 h).2.2.1; simp; omega, (ih.1 h).2.2.2⟩, ih.2⟩
  · intro c r p hb hs he
    rw [cut_bad r p hb hs he]
    refine ⟨fun _ => ⟨rfl, Nat.le_refl _, by simp, ?_⟩, fun h => absurd h he⟩
    have : ∀ w : List UInt8, erW w ≠ 0 → erW w ≤ 52 ∧ 50 ≤ erW w := by
      intro w hw
      cases w with
      | nil => simp [erW]
      | cons a b =>
        have h52 : erW (a :: b) = 0 ∨ erW (a :: b) = 52 ∨ erW (a :: b) = 51 := by
          have e : erW (a :: b) = if letter a then (if b.length < 32 then 0 else 52) else if digit a then (if numOk (a :: b) then 0 else 51) else 0 := rfl
          rw [e]
          cases letter a <;> cases digit a <;> cases numOk (a :: b) <;> by_cases hl : b.length < 32 <;> simp [hl]
        omega
    exact this _ he
  · intro w s p hw ho ih
    rw [cut_word hw ho p]
    unfold app
    by_cases h : (cut s (p + w.length)).2.1 = 0
    · rw [if_pos h]; simp
    · rw [if_neg h]
      exact ⟨fun h => ⟨(ih.1 h).1, by have := (ih.1 h).2.1; omega, by have := (ih.1 h).2.2.1; simp; omega, (ih.1 h).2.2.2⟩, ih.2⟩
end Go.Proofs.YtbfmoiaedopeiaaDoor

/- Bytes and words: the small functions. -/
namespace Go.Proofs.YtbfmoiaedopeiaaDoor
open Go.RowKit
set_option linter.unusedVariables false

set_option maxRecDepth 100000 in
set_option maxHeartbeats 4000000 in
theorem letter_any (c : UInt8) (w : World) : Calls Tryd.prog 40 #[.int .u8 (c.toNat : Int)] w fun e w' => e = .returned (.bool (letter c)) ∧ w = w' := by
  obtain ⟨x, hx⟩ : ∃ x : Int, (c.toNat : Int) = x := ⟨_, rfl⟩
  have hl : letter c = (decide (97 ≤ x) && decide (x ≤ 122)) := by rw [← hx]; unfold letter; rw [← Bool.decide_and]; exact decide_eq_decide.2 (by omega)
  rw [hx, hl]
  go_enter Tryd.func40, Tryd.ntmps40
  by_cases h1 : 97 ≤ x
  · by_cases h2 : x ≤ 122
    · go_wp2
      go_ret
      exact ⟨by simp [h1, h2], rfl⟩
    · go_wp2
      go_ret
      exact ⟨by simp [h2], rfl⟩
  · go_wp2
    go_ret
    exact ⟨by simp; omega, rfl⟩

set_option maxRecDepth 100000 in
set_option maxHeartbeats 4000000 in
theorem digit_any (c : UInt8) (w : World) : Calls Tryd.prog 53 #[.int .u8 (c.toNat : Int)] w fun e w' => e = .returned (.bool (digit c)) ∧ w = w' := by
  obtain ⟨x, hx⟩ : ∃ x : Int, (c.toNat : Int) = x := ⟨_, rfl⟩
  have hl : digit c = (decide (48 ≤ x) && decide (x ≤ 57)) := by rw [← hx]; unfold digit; rw [← Bool.decide_and]; exact decide_eq_decide.2 (by omega)
  rw [hx, hl]
  go_enter Tryd.func53, Tryd.ntmps53
  by_cases h1 : 48 ≤ x
  · by_cases h2 : x ≤ 57
    · go_wp2
      go_ret
      exact ⟨by simp [h1, h2], rfl⟩
    · go_wp2
      go_ret
      exact ⟨by simp [h2], rfl⟩
  · go_wp2
    go_ret
    exact ⟨by simp; omega, rfl⟩

set_option maxRecDepth 100000 in
set_option maxHeartbeats 4000000 in
theorem mark_any (c : UInt8) (w : World) : Calls Tryd.prog 55 #[.int .u8 (c.toNat : Int)] w fun e w' => e = .returned (.bool (mark c)) ∧ w = w' := by
  obtain ⟨x, hx⟩ : ∃ x : Int, (c.toNat : Int) = x := ⟨_, rfl⟩
  have hl : mark c = decide (x = 61 ∨ x = 59 ∨ x = 60 ∨ x = 62 ∨ x = 44 ∨ x = 58 ∨ x = 123 ∨ x = 125) := by rw [← hx]; unfold mark; exact decide_eq_decide.2 (by omega)
  rw [hx, hl]
  clear hl hx
  go_enter Tryd.func55, Tryd.ntmps55
  by_cases h0 : x = 61
  · subst h0; go_wp2; go_ret; exact ⟨by simp, rfl⟩
  by_cases h1 : x = 59
  · subst h1; go_wp2; go_ret; exact ⟨by simp, rfl⟩
  by_cases h2 : x = 60
  · subst h2; go_wp2; go_ret; exact ⟨by simp, rfl⟩
  by_cases h3 : x = 62
  · subst h3; go_wp2; go_ret; exact ⟨by simp, rfl⟩
  by_cases h4 : x = 44
  · subst h4; go_wp2; go_ret; exact ⟨by simp, rfl⟩
  by_cases h5 : x = 58
  · subst h5; go_wp2; go_ret; exact ⟨by simp, rfl⟩
  by_cases h6 : x = 123
  · subst h6; go_wp2; go_ret; exact ⟨by simp, rfl⟩
  by_cases h7 : x = 125
  · subst h7; go_wp2; go_ret; exact ⟨by simp, rfl⟩
  go_wp2
  go_ret
  exact ⟨by simp [h0, h1, h2, h3, h4, h5, h6, h7], rfl⟩

theorem str_ne (s : ByteArray) (l : List UInt8) (h : ¬ s = ⟨l.toArray⟩) : (s.toList == l) = false := by
  have : s.toList ≠ l := fun e => h (by rw [Lib.toList_data] at e; apply ByteArray.ext; rw [← e])
  simpa using this

set_option maxRecDepth 100000 in
set_option maxHeartbeats 4000000 in
theorem goes_any (c : UInt8) (w : World) : Calls Tryd.prog 41 #[.int .u8 (c.toNat : Int)] w fun e w' => e = .returned (.bool (goes c)) ∧ w = w' := by
  have hg : goes c = (letter c || digit c || decide ((c.toNat : Int) = 95)) := by unfold goes; congr 1; exact decide_eq_decide.2 (by omega)
  rw [hg]
  go_enter Tryd.func41, Tryd.ntmps41
  go_wp2_with fail
  refine (letter_any c _).mono ?_; rintro e w' ⟨rfl, rfl⟩
  cases hl : letter c
  · go_wp2_with fail
    refine (digit_any c _).mono ?_; rintro e w' ⟨rfl, rfl⟩
    cases hd : digit c
    · by_cases h5 : (c.toNat : Int) = 95
      · have h5b : ((c.toNat : Int) == 95) = true := by simp [h5]
        go_wp2
        go_ret
        exact ⟨by simp [h5], rfl⟩
      · have h5b : ((c.toNat : Int) == 95) = false := by simpa using h5
        go_wp2
        go_ret
        exact ⟨by simp [hl, hd, h5], rfl⟩
    · go_wp2
      go_ret
      exact ⟨by simp [hd], rfl⟩
  · go_wp2
    go_ret
    exact ⟨by simp [hl], rfl⟩

def isWord (s : ByteArray) : Bool := decide (s = ⟨#[116, 121, 112, 101]⟩ ∨ s = ⟨#[117, 56]⟩ ∨ s = ⟨#[117, 49, 54]⟩ ∨ s = ⟨#[117, 51, 50]⟩ ∨ s = ⟨#[117, 54, 52]⟩ ∨ s = ⟨#[98, 111, 111, 108]⟩ ∨ s = ⟨#[118, 97, 114, 105, 110, 116]⟩ ∨ s = ⟨#[118, 101, 99, 116, 111, 114]⟩ ∨ s = ⟨#[108, 105, 115, 116]⟩ ∨ s = ⟨#[111, 112, 116, 105, 111, 110]⟩ ∨ s = ⟨#[117, 110, 105, 111, 110]⟩ ∨ s = ⟨#[115, 116, 114, 117, 99, 116]⟩)

set_option maxRecDepth 100000 in
set_option maxHeartbeats 4000000 in
theorem word_any (s : ByteArray) (w : World) : Calls Tryd.prog 42 #[.string s] w fun e w' => e = .returned (.bool (isWord s)) ∧ w = w' := by
  unfold isWord
  go_enter Tryd.func42, Tryd.ntmps42
  by_cases h0 : s = ⟨#[116, 121, 112, 101]⟩
  · subst h0; go_wp2; go_ret; exact ⟨by simp, rfl⟩
  have k0 := str_ne s _ h0
  by_cases h1 : s = ⟨#[117, 56]⟩
  · subst h1; go_wp2; go_ret; exact ⟨by simp, rfl⟩
  have k1 := str_ne s _ h1
  by_cases h2 : s = ⟨#[117, 49, 54]⟩
  · subst h2; go_wp2; go_ret; exact ⟨by simp, rfl⟩
  have k2 := str_ne s _ h2
  by_cases h3 : s = ⟨#[117, 51, 50]⟩
  · subst h3; go_wp2; go_ret; exact ⟨by simp, rfl⟩
  have k3 := str_ne s _ h3
  by_cases h4 : s = ⟨#[117, 54, 52]⟩
  · subst h4; go_wp2; go_ret; exact ⟨by simp, rfl⟩
  have k4 := str_ne s _ h4
  by_cases h5 : s = ⟨#[98, 111, 111, 108]⟩
  · subst h5; go_wp2; go_ret; exact ⟨by simp, rfl⟩
  have k5 := str_ne s _ h5
  by_cases h6 : s = ⟨#[118, 97, 114, 105, 110, 116]⟩
  · subst h6; go_wp2; go_ret; exact ⟨by simp, rfl⟩
  have k6 := str_ne s _ h6
  by_cases h7 : s = ⟨#[118, 101, 99, 116, 111, 114]⟩
  · subst h7; go_wp2; go_ret; exact ⟨by simp, rfl⟩
  have k7 := str_ne s _ h7
  by_cases h8 : s = ⟨#[108, 105, 115, 116]⟩
  · subst h8; go_wp2; go_ret; exact ⟨by simp, rfl⟩
  have k8 := str_ne s _ h8
  by_cases h9 : s = ⟨#[111, 112, 116, 105, 111, 110]⟩
  · subst h9; go_wp2; go_ret; exact ⟨by simp, rfl⟩
  have k9 := str_ne s _ h9
  by_cases h10 : s = ⟨#[117, 110, 105, 111, 110]⟩
  · subst h10; go_wp2; go_ret; exact ⟨by simp, rfl⟩
  have k10 := str_ne s _ h10
  by_cases h11 : s = ⟨#[115, 116, 114, 117, 99, 116]⟩
  · subst h11; go_wp2; go_ret; exact ⟨by simp, rfl⟩
  have k11 := str_ne s _ h11
  go_wp2
  go_ret
  exact ⟨by simp [h0, h1, h2, h3, h4, h5, h6, h7, h8, h9, h10, h11], rfl⟩

end Go.Proofs.YtbfmoiaedopeiaaDoor

/- What follows, plain: gaps, places, written again, fronts. -/
namespace Go.Proofs.YtbfmoiaedopeiaaDoor
set_option linter.unusedVariables false

/-- Blanks and remarks alone; rm: inside a remark; last: it may end there. -/
def gp : Bool → List UInt8 → Bool → Bool
  | rm, [], last => !rm || last
  | true, c :: r, last => gp (inl c) r last
  | false, c :: r, last => if sharp c then gp true r last else if blank c then gp false r last else false
def cutR (s : List UInt8) (p : Nat) : Cu := cut (s.dropWhile inl) (p + (s.takeWhile inl).length)
theorem cutR_inl {c : UInt8} (h : inl c = true) (s : List UInt8) (p : Nat) : cutR (c :: s) p = cutR s (p + 1) := by
  unfold cutR
  simp [h]
  congr 1
  omega
theorem cutR_end {c : UInt8} (h : inl c = false) (s : List UInt8) (p : Nat) : cutR (c :: s) p = cut s (p + 1) := by
  have hb : blank c = true := by simp [inl] at h; simp [blank, h]
  unfold cutR
  simp [h]
  exact cut_blank s p hb
theorem cutR_nil (p : Nat) : cutR [] p = ([], 0, 0) := rfl
theorem cut_sharpR {c : UInt8} (h : sharp c = true) (s : List UInt8) (p : Nat) : cut (c :: s) p = cutR s (p + 1) := cut_sharp s p h
theorem gap_skip : ∀ (G : List UInt8) (rm : Bool) (s : List UInt8) (p : Nat), gp rm G false = true → (if rm then cutR (G ++ s) p else cut (G ++ s) p) = cut s (p + G.length)
  | [], rm, s, p, h => by cases rm <;> simp_all [gp]
  | c :: G, true, s, p, h => by
    rw [gp] at h
    have ih := gap_skip G (inl c) s (p + 1) h
    rw [if_pos rfl, List.cons_append]
    cases hc : inl c with
    | true =>
      rw [hc, if_pos rfl] at ih
      rw [cutR_inl hc, ih, List.length_cons]; congr 1; omega
    | false =>
      rw [hc] at ih
      rw [cutR_end hc]
      have ih : cut (G ++ s) (p + 1) = cut s (p + 1 + G.length) := by simpa using ih
      rw [ih, List.length_cons]; congr 1; omega
  | c :: G, false, s, p, h => by
    rw [gp] at h
    rw [if_neg (by simp), List.cons_append]
    cases hs : sharp c with
    | true =>
      rw [hs, if_pos rfl] at h
      have ih := gap_skip G true s (p + 1) h
      rw [if_pos rfl] at ih
      rw [cut_sharpR hs, ih, List.length_cons]; congr 1; omega
    | false =>
      rw [hs] at h
      cases hb : blank c with
      | true =>
        rw [hb] at h
        have h : gp false G false = true := by simpa using h
        have ih := gap_skip G false s (p + 1) h
        rw [if_neg (by simp)] at ih
        rw [cut_blank _ p hb, ih, List.length_cons]; congr 1; omega
      | false => rw [hb] at h; simp at h
theorem cut_gap {G : List UInt8} (s : List UInt8) (p : Nat) (h : gp false G false = true) : cut (G ++ s) p = cut s (p + G.length) := by
  have := gap_skip G false s p h
  simpa using this

/-! ### Places -/
def PlOk : List Tk → List UInt8 → Nat → Prop
  | [], l, p => gp false l true = true
  | t :: ts, l, p => ∃ G w s, l = G ++ (w ++ s) ∧ gp false G false = true ∧ Tw w ∧ t = tkW w (p + G.length) ∧ PlOk ts s (p + G.length + w.length)
theorem gp_all : ∀ {r : List UInt8}, (∀ x ∈ r, inl x = true) → gp true r true = true
  | [], _ => rfl
  | a :: r, h => by rw [gp, h a (by simp)]; exact gp_all (fun x hx => h x (by simp [hx]))
theorem gp_rem : ∀ {r : List UInt8} {d : UInt8} {s : List UInt8} {b : Bool}, (∀ x ∈ r, inl x = true) → d.toNat = 10 → gp true (r ++ d :: s) b = gp false s b
  | [], d, s, b, _, h => by rw [List.nil_append, gp, inl_10 h]
  | a :: r, d, s, b, h, h2 => by rw [List.cons_append, gp, h a (by simp)]; exact gp_rem (fun x hx => h x (by simp [hx])) h2
theorem sharp_not {c : UInt8} (h : blank c = true) : sharp c = false := by
  simp [sharp, blank] at *
  omega
theorem gp_blank {c : UInt8} (h : blank c = true) (s : List UInt8) (b : Bool) : gp false (c :: s) b = gp false s b := by
  rw [gp, sharp_not h, h]; simp
theorem gp_sharp {c : UInt8} (h : sharp c = true) (s : List UInt8) (b : Bool) : gp false (c :: s) b = gp true s b := by
  rw [gp, h]; simp
theorem app_ok {t : Tk} {R : Cu} (h : (app t R).2.1 = 0) : R.2.1 = 0 ∧ (app t R).1 = t :: R.1 := by
  unfold app at *
  by_cases hr : R.2.1 = 0
  · exact ⟨hr, by rw [if_pos hr]⟩
  · rw [if_neg hr] at h; exact absurd h hr
theorem places (l : List UInt8) (p : Nat) : (cut l p).2.1 = 0 → PlOk (cut l p).1 l p := by
  refine cut_ind (fun l p => (cut l p).2.1 = 0 → PlOk (cut l p).1 l p) ?_ ?_ ?_ ?_ ?_ ?_ l p
  · intro p _; rw [cut_nil]; rfl
  · intro c r p hb ih h
    rw [cut_blank r p hb] at h ⊢
    have ih := ih h
    revert ih
    cases (cut r (p + 1)).1 with
    | nil => intro ih; show gp false (c :: r) true = true; rw [gp_blank hb]; exact ih
    | cons t ts =>
      rintro ⟨G, w, s, rfl, h1, h2, h3, h4⟩
      refine ⟨c :: G, w, s, rfl, by rw [gp_blank hb]; exact h1, h2, ?_, ?_⟩
      · rw [h3]; congr 1; simp; omega
      · have e : p + (c :: G).length = p + 1 + G.length := by simp; omega
        rw [e]; exact h4
  · intro c r p hs h2 _
    rw [cut_end p hs h2]
    show gp false (c :: r) true = true
    rw [gp_sharp hs]; exact gp_all h2
  · intro c r d s p hs h2 h3 ih h
    rw [cut_rem p hs h2 h3] at h ⊢
    have ih := ih h
    revert ih
    cases (cut s (p + 1 + r.length + 1)).1 with
    | nil => intro ih; show gp false (c :: (r ++ d :: s)) true = true; rw [gp_sharp hs, gp_rem h2 h3]; exact ih
    | cons t ts =>
      rintro ⟨G, w, s, rfl, h1, k2, k3, h4⟩
      refine ⟨c :: (r ++ d :: G), w, s, by simp, by rw [gp_sharp hs, gp_rem h2 h3]; exact h1, k2, ?_, ?_⟩
      · rw [k3]; congr 1; simp; omega
      · have e : p + (c :: (r ++ d :: G)).length = p + 1 + r.length + 1 + G.length := by simp; omega
        rw [e]; exact h4
  · intro c r p hb hs he h
    rw [cut_bad r p hb hs he] at h
    exact absurd h he
  · intro w s p hw ho ih h
    rw [cut_word hw ho p] at h ⊢
    obtain ⟨h1, h2⟩ := app_ok h
    rw [h2]
    exact ⟨[], w, s, rfl, rfl, hw, rfl, ih h1⟩
theorem Off.nil (w : List UInt8) : Off w [] := fun _ _ _ _ _ h => by simp at h
theorem cut_alone {w : List UInt8} (h : Tw w) (p : Nat) : cut w p = ([tkW w p], 0, 0) := by
  have := cut_word h (Off.nil w) p
  rw [List.append_nil] at this
  rw [this]; rfl
theorem Tw.pos {w : List UInt8} (h : Tw w) : 0 < w.length := by obtain ⟨c, r, rfl, _⟩ := h; simp
/-- A token but for its places hangs on its bytes alone. -/
theorem tkW_is {w : List UInt8} (h : Tw w) (p : Nat) : (tkW w p).k = (tkW w 0).k ∧ (tkW w p).t = (tkW w 0).t ∧ (tkW w p).n = (tkW w 0).n ∧ (tkW w p).a = p ∧ (tkW w p).e = p + w.length := by
  obtain ⟨c, r, rfl, _⟩ := h
  unfold tkW
  simp only
  cases letter c <;> cases digit c <;> simp

/-! ### Written again -/
def IsFill (F : List UInt8) : Prop := gp false F false = true ∧ ∃ x y, F = x :: y ∧ goes x = false
theorem follows_goes {c x : UInt8} (h : goes x = false) : follows c x = false := by
  have hd : digit x = false := by cases hd : digit x <;> simp_all [goes]
  unfold follows
  rw [h, hd]
  simp
theorem IsFill.off {F : List UInt8} (h : IsFill F) (w X : List UInt8) : Off w (F ++ X) := by
  obtain ⟨_, x, y, rfl, hx⟩ := h
  intro c r x' y' _ e
  injection e with e _
  subst e
  exact follows_goes hx
theorem apps_nil (l : List UInt8) (p : Nat) : apps [] (cut l p) = cut l p := by
  unfold apps
  by_cases h : (cut l p).2.1 = 0
  · rw [if_pos h, List.nil_append]
    have := (cut_form l p).2 h
    rw [← h]
    conv => lhs; rw [h]; rw [show (0 : Nat) = (cut l p).2.2 from this.symm]
    rw [show (cut l p).2.2 = (cut l p).2.1 from this.trans h.symm]
    rw [show ((cut l p).1, (cut l p).2.1, (cut l p).2.1) = ((cut l p).1, (cut l p).2.1, (cut l p).2.2) by rw [this, h]]
  · rw [if_neg h]
theorem apps_app (ts : List Tk) (t : Tk) (R : Cu) : apps ts (app t R) = apps (ts ++ [t]) R := by
  unfold apps app
  by_cases h : R.2.1 = 0
  · simp [h]
  · simp [h]
theorem apps_apps (ts us : List Tk) (R : Cu) : apps ts (apps us R) = apps (ts ++ us) R := by
  unfold apps
  by_cases h : R.2.1 = 0
  · simp [h]
  · simp [h]
/-- These bytes are these tokens, whatever stands behind. -/
def Bd (b : List UInt8) (ts : List Tk) : Prop := ∀ X, cut (b ++ X) 0 = apps ts (cut X b.length)
theorem Bd.nil : Bd [] [] := fun X => by rw [List.nil_append, apps_nil]; rfl
theorem Bd.step {b F1 w F2 : List UInt8} {ts : List Tk} (h : Bd b ts) (h1 : IsFill F1) (hw : Tw w) (h2 : IsFill F2) : Bd (b ++ F1 ++ w ++ F2) (ts ++ [tkW w (b ++ F1).length]) := by
  intro X
  have e : b ++ F1 ++ w ++ F2 ++ X = b ++ (F1 ++ (w ++ (F2 ++ X))) := by simp
  rw [e, h, cut_gap _ _ h1.1, cut_word hw (h2.off w X), apps_app, cut_gap _ _ h2.1]
  simp [Nat.add_assoc]
theorem Bd.whole {b : List UInt8} {ts : List Tk} (h : Bd b ts) : cut b 0 = (ts, 0, 0) := by
  have := h []
  rw [List.append_nil, cut_nil] at this
  rw [this]; simp [apps]

/-! ### Fronts -/
theorem Off.take {w s : List UInt8} (h : Off w s) (n : Nat) : Off w (s.take n) := by
  intro c r x y hw hs
  cases s with
  | nil => simp at hs
  | cons a s =>
    cases n with
    | zero => simp at hs
    | succ n =>
      rw [List.take_succ_cons] at hs
      injection hs with hs _
      subst hs
      exact h c r a s hw rfl
theorem Off.app {w s : List UInt8} (h : Off w s) {d : UInt8} (hd : goes d = false) (m : List UInt8) : Off w (s ++ d :: m) := by
  intro c r x y hw hs
  cases s with
  | nil => rw [List.nil_append] at hs; injection hs with hs _; subst hs; exact follows_goes hd
  | cons a s => rw [List.cons_append] at hs; injection hs with hs _; subst hs; exact h c r a s hw rfl
/-- What stands ahead of place q is cut into ts, whatever stands behind a blank there. -/
def FrOk (l : List UInt8) (p q : Nat) : Prop := ∃ ts, cut (l.take (q - p)) p = (ts, 0, 0) ∧ ∀ (d : UInt8) (m : List UInt8), d.toNat = 32 →
  ((cut (l.take (q - p) ++ d :: m) p).2.1 ≠ 0 → q < (cut (l.take (q - p) ++ d :: m) p).2.2) ∧ ((cut (l.take (q - p) ++ d :: m) p).2.1 = 0 → ∃ us, (cut (l.take (q - p) ++ d :: m) p).1 = ts ++ us)
theorem fronts (l : List UInt8) (p : Nat) : (cut l p).2.1 ≠ 0 → FrOk l p (cut l p).2.2 := by
  refine cut_ind (fun l p => (cut l p).2.1 ≠ 0 → FrOk l p (cut l p).2.2) ?_ ?_ ?_ ?_ ?_ ?_ l p
  · intro p h; simp [cut_nil] at h
  · intro c r p hb ih h
    rw [cut_blank r p hb] at h ⊢
    have hf := ((cut_form r (p + 1)).1 h).2.1
    obtain ⟨ts, h1, h2⟩ := ih h
    generalize (cut r (p + 1)).2.2 = q at *
    have e : (c :: r).take (q - p) = c :: r.take (q - (p + 1)) := by
      rw [show q - p = (q - (p + 1)) + 1 by omega, List.take_succ_cons]
    refine ⟨ts, by rw [e, cut_blank _ _ hb]; exact h1, fun d m hd => ?_⟩
    rw [e, List.cons_append, cut_blank _ _ hb]
    exact h2 d m hd
  · intro c r p hs h2 h; rw [cut_end p hs h2] at h; simp at h
  · intro c r d s p hs h2 h3 ih h
    rw [cut_rem p hs h2 h3] at h ⊢
    have hf := ((cut_form s (p + 1 + r.length + 1)).1 h).2.1
    obtain ⟨ts, k1, k2⟩ := ih h
    generalize (cut s (p + 1 + r.length + 1)).2.2 = q at *
    have e : (c :: (r ++ d :: s)).take (q - p) = c :: (r ++ d :: s.take (q - (p + 1 + r.length + 1))) := by
      rw [show q - p = (r.length + (q - (p + 1 + r.length + 1) + 1)) + 1 by omega, List.take_succ_cons, List.take_length_add_append, List.take_succ_cons]
    refine ⟨ts, by rw [e, cut_rem _ hs h2 h3]; exact k1, fun d' m hd => ?_⟩
    have e2 : c :: (r ++ d :: s.take (q - (p + 1 + r.length + 1))) ++ d' :: m = c :: (r ++ d :: (s.take (q - (p + 1 + r.length + 1)) ++ d' :: m)) := by simp
    rw [e, e2, cut_rem _ hs h2 h3]
    exact k2 d' m hd
  · intro c r p hb hs he h
    rw [cut_bad r p hb hs he]
    refine ⟨[], by simp [cut_nil], fun d m hd => ?_⟩
    have hbd : blank d = true := by simp [blank, hd]
    simp only [Nat.sub_self, List.take_zero, List.nil_append]
    rw [cut_blank m p hbd]
    exact ⟨fun h => by have := ((cut_form m (p + 1)).1 h).2.1; omega, fun _ => ⟨_, rfl⟩⟩
  · intro w s p hw ho ih h
    rw [cut_word hw ho p] at h ⊢
    have h0 : (cut s (p + w.length)).2.1 ≠ 0 := by
      intro e
      apply h
      unfold app
      rw [if_pos e]
    have ea : app (tkW w p) (cut s (p + w.length)) = cut s (p + w.length) := by unfold app; rw [if_neg h0]
    rw [ea]
    have hf := ((cut_form s (p + w.length)).1 h0).2.1
    obtain ⟨ts, k1, k2⟩ := ih h0
    generalize (cut s (p + w.length)).2.2 = q at *
    have e : (w ++ s).take (q - p) = w ++ s.take (q - (p + w.length)) := by
      rw [show q - p = w.length + (q - (p + w.length)) by omega, List.take_length_add_append]
    refine ⟨tkW w p :: ts, by rw [e, cut_word hw (ho.take _) p, k1]; rfl, fun d m hd => ?_⟩
    have hg : goes d = false := by simp [goes, letter, digit, hd]
    have k := k2 d m hd
    rw [e, List.append_assoc, cut_word hw ((ho.take _).app hg m) p]
    generalize cut (s.take (q - (p + w.length)) ++ d :: m) (p + w.length) = R at *
    unfold app
    by_cases hR : R.2.1 = 0
    · rw [if_pos hR]
      obtain ⟨us, hu⟩ := k.2 hR
      exact ⟨fun h => absurd rfl h, fun _ => ⟨us, by rw [hu]; rfl⟩⟩
    · rw [if_neg hR]
      exact ⟨fun _ => k.1 hR, fun h => absurd h hR⟩
end Go.Proofs.YtbfmoiaedopeiaaDoor

/- The first place of a byte; a remark's end; a number, read twice. -/
namespace Go.Proofs.YtbfmoiaedopeiaaDoor
open Go.RowKit
set_option linter.unusedVariables false

theorem idx_10 : ∀ l : List UInt8, Lib.indexByte l 10 = if (l.takeWhile inl).length = l.length then -1 else ((l.takeWhile inl).length : Int)
  | [] => rfl
  | b :: l => by
    have ih := idx_10 l
    have hl : (l.takeWhile inl).length ≤ l.length := (List.takeWhile_sublist inl).length_le
    unfold Lib.indexByte
    cases hb : inl b with
    | true =>
      have h1 : (b == 10) = false := by
        have : b.toNat ≠ 10 := by simpa [inl] using hb
        rw [beq_eq_false_iff_ne]
        intro e; subst e; exact this rfl
      rw [h1, ih]
      by_cases h2 : (l.takeWhile inl).length = l.length
      · simp [hb, h2]
      · have h3 : ¬ (((l.takeWhile inl).length : Int) = -1) := by omega
        simp [hb, h2, h3]
    | false =>
      have h1 : (b == 10) = true := by
        have h0 : b.toNat = 10 := by simpa [inl] using hb
        rw [beq_iff_eq]
        exact UInt8.toNat_inj.1 h0
      simp [h1, hb]
set_option maxRecDepth 100000 in
set_option maxHeartbeats 4000000 in
theorem index34_any (s : ByteArray) (c : Int) (w : World) : Calls Tryd.prog 65 #[.string s, .int .u8 c] w fun e w' => e = .returned (.int .i64 (Lib.indexByte s.data.toList c.toNat.toUInt8)) ∧ w = w' := by
  go_enter Tryd.func65, Tryd.ntmps65
  go_wp2
  rw [run_callFunc_extern Tryd.func73 (by kernel_rfl) (by kernel_rfl) (by kernel_rfl) (e := Extern.BytealgIndexByte.indexByte) (by kernel_rfl), Lib.run_indexByteString]
  simp only [Result.andThen]
  rw [Oper.upon_value]
  go_wp2
  go_ret
  exact ⟨rfl, rfl⟩
set_option maxRecDepth 100000 in
set_option maxHeartbeats 4000000 in
theorem index_any (s : ByteArray) (w : World) : Calls Tryd.prog 52 #[.string s, .int .u8 10] w fun e w' => e = .returned (.int .i64 (Lib.indexByte s.data.toList 10)) ∧ w = w' := by
  go_enter Tryd.func52, Tryd.ntmps52
  go_wp2_with fail
  refine (index34_any s 10 _).mono ?_; rintro e w' ⟨rfl, rfl⟩
  go_wp2
  go_ret
  exact ⟨rfl, rfl⟩
set_option maxRecDepth 100000 in
set_option maxHeartbeats 4000000 in
theorem remark_any (s : ByteArray) (p : Nat) (w : World) (hp : p ≤ s.size) (hs : s.size ≤ 65536) : Calls Tryd.prog 35 #[.string s, .int .i64 p] w fun e w' => e = .returned (.int .i64 ((p + ((s.data.toList.drop p).takeWhile inl).length : Nat) : Int)) ∧ w = w' := by
  have hp' : (p : Int) ≤ s.size := by omega
  obtain ⟨k, hk⟩ : ∃ k, ((s.data.toList.drop p).takeWhile inl).length = k := ⟨_, rfl⟩
  have HI : Hid (Lib.indexByte (s.extract p s.size).data.toList 10 = if k = s.size - p then -1 else (k : Int)) := by
    show _ = _
    rw [Lib.extract_to_end, idx_10, hk, List.length_drop, ← Lib.size_eq]
  have hkl : k ≤ s.size - p := by
    have := (List.takeWhile_sublist inl (l := s.data.toList.drop p)).length_le
    rw [hk, List.length_drop, ← Lib.size_eq] at this
    exact this
  rw [hk]
  clear hk
  go_enter Tryd.func35, Tryd.ntmps35
  go_wp2_with fail
  refine (index_any _ _).mono ?_; rintro e w' ⟨rfl, rfl⟩
  rw [HI.out]
  clear HI
  by_cases h : k = s.size - p
  · rw [if_pos h]
    go_wp2
    go_ret
    exact ⟨by simp; omega, rfl⟩
  · rw [if_neg h]
    go_wp2
    go_ret
    exact ⟨by simp, rfl⟩

/-! ### Numbers -/
theorem num_snoc (w : List UInt8) (d : UInt8) : num (w ++ [d]) = num w * 10 + (d.toNat - 48) := by simp [num]
theorem foldl_ge : ∀ (r : List UInt8) (n : Nat), n * 10 ^ r.length ≤ r.foldl (fun n d => n * 10 + (d.toNat - 48)) n
  | [], n => by simp
  | d :: r, n => by
    have := foldl_ge r (n * 10 + (d.toNat - 48))
    rw [List.foldl_cons, List.length_cons, Nat.pow_succ]
    refine Nat.le_trans ?_ this
    rw [Nat.mul_comm (10 ^ r.length) 10, ← Nat.mul_assoc]
    exact Nat.mul_le_mul_right _ (by omega)
theorem num_app_ge (u v : List UInt8) : num u ≤ num (u ++ v) := by
  unfold num
  rw [List.foldl_append]
  refine Nat.le_trans ?_ (foldl_ge v _)
  exact Nat.le_mul_of_pos_right _ (Nat.pow_pos (by decide))
theorem num_big (c : UInt8) (r : List UInt8) (h : 49 ≤ c.toNat) (hr : 10 ≤ r.length) : 2147483647 < num (c :: r) := by
  have h1 := foldl_ge r (0 * 10 + (c.toNat - 48))
  have h2 : 10 ^ 10 ≤ 10 ^ r.length := Nat.pow_le_pow_right (by decide) hr
  have h3 : 1 * 10 ^ r.length ≤ (0 * 10 + (c.toNat - 48)) * 10 ^ r.length := Nat.mul_le_mul_right _ (by omega)
  have h4 : num (c :: r) = r.foldl (fun n d => n * 10 + (d.toNat - 48)) (0 * 10 + (c.toNat - 48)) := by simp [num]
  rw [h4]
  have : (2147483647 : Nat) < 10 ^ 10 := by decide
  omega
theorem at_list (s : ByteArray) (k : Nat) (h : k < s.size) : s.data.toList[k]? = some (s[k]'h) := by
  have h2 : k < s.data.size := h
  rw [Array.getElem?_toList, Array.getElem?_eq_getElem h2]
  rfl
theorem take_snoc (s : ByteArray) (k : Nat) (h : k < s.size) : s.data.toList.take (k + 1) = s.data.toList.take k ++ [s[k]'h] := by
  rw [List.take_add_one, at_list s k h]; rfl
def allD (s : ByteArray) : Prop := ∀ k (h : k < s.size), digit (s[k]'h) = true
theorem num_le_take (s : ByteArray) (k : Nat) : num (s.data.toList.take k) ≤ num s.data.toList := by
  have := num_app_ge (s.data.toList.take k) (s.data.toList.drop k)
  rwa [List.take_append_drop] at this
theorem numOk_zero (s : ByteArray) (h : 1 < s.size) (h0 : (s[0]'(by omega)).toNat = 48) : numOk s.data.toList = false := by
  unfold numOk
  refine decide_eq_false fun hh => hh.1 ⟨by rw [← Lib.size_eq]; exact h, s[0], ?_, h0⟩
  rw [List.head?_eq_getElem?, at_list s 0 (by omega)]
theorem numOk_big (s : ByteArray) (k : Nat) (h : 2147483647 < num (s.data.toList.take k)) : numOk s.data.toList = false := by
  unfold numOk
  refine decide_eq_false fun hh => ?_
  have := num_le_take s k
  omega
theorem numOk_is (s : ByteArray) (h : ¬ (1 < s.size ∧ ∀ (h : 0 < s.size), (s[0]'h).toNat = 48)) (h2 : num s.data.toList ≤ 2147483647) : numOk s.data.toList = true := by
  unfold numOk
  refine decide_eq_true ⟨fun ⟨h3, c, h4, h5⟩ => h ?_, h2⟩
  rw [← Lib.size_eq] at h3
  refine ⟨h3, fun h6 => ?_⟩
  rw [List.head?_eq_getElem?, at_list s 0 h6] at h4
  injection h4 with h4
  rw [h4]; exact h5
end Go.Proofs.YtbfmoiaedopeiaaDoor

/- A number, by the program and by the document. -/
namespace Go.Proofs.YtbfmoiaedopeiaaDoor
open Go.RowKit
set_option linter.unusedVariables false

def numV (l : List UInt8) : Int := if numOk l then (num l : Int) else 0
theorem numV_f {l : List UInt8} (h : numOk l = false) : numV l = 0 := by unfold numV; rw [h]; rfl
theorem numV_t {l : List UInt8} (h : numOk l = true) : numV l = num l := by unfold numV; rw [h]; rfl
theorem allD_at {s : ByteArray} (h : allD s) (k : Nat) (hk : k < s.size) : 48 ≤ ((s[k]'hk).toNat : Int) ∧ ((s[k]'hk).toNat : Int) ≤ 57 := by
  have := h k hk
  simp [digit] at this
  omega
set_option maxRecDepth 100000 in
set_option maxHeartbeats 4000000 in
theorem number_any (s : ByteArray) (w : World) (hd : Hid (allD s)) (hs : s.size ≤ 65536) : Calls Tryd.prog 66 #[.string s] w fun e w' => e = .returned (.tuple #[.int .i64 (numV s.data.toList), .bool (numOk s.data.toList)]) ∧ w = w' := by
  go_enter Tryd.func66, Tryd.ntmps66
  by_cases hz : 1 < s.size ∧ ∀ (h : 0 < s.size), (s[0]'h).toNat = 48
  · have h1 : (1 : Int) < s.size := by omega
    have h0 : ((s[0]'(by omega)).toNat : Int) = 48 := by have := hz.2 (by omega); omega
    have HN : Hid (numOk s.data.toList = false) := numOk_zero s hz.1 (hz.2 (by omega))
    have hb : (((s[0]'(by omega)).toNat : Int) == 48) = true := by simp [h0]
    go_wp2
    go_ret2
    exact ⟨by rw [numV_f HN.out, HN.out]; rfl, rfl⟩
  have HZ : Hid _ := hide_ hz
  have key : ∀ K : Prop, ((s.size : Int) ≤ 1 → True → K) → (∀ (h1 : (1 : Int) < s.size), (((s[0]'(by omega)).toNat : Int) == 48) = false → K) → K := by
    intro K k1 k2
    by_cases h1 : (1 : Int) < s.size
    · refine k2 h1 ?_
      rw [beq_eq_false_iff_ne]
      intro e
      exact hz ⟨by omega, fun _ => by omega⟩
    · exact k1 (by omega) trivial
  refine key _ ?_ ?_ <;> clear key hz
  all_goals
    intro h1 h2
    go_wp2_with fail
    go_loopw [4, 17] (fun n i wr => ∃ k : Nat, k ≤ s.size ∧ i = .int .i64 k ∧ ∃ m : Nat, n = .int .i64 m ∧ Hid (num (s.data.toList.take k) = m) ∧ (m : Int) ≤ 2147483647 ∧ w = wr) (fun _ i _ => s.size - (intOf i).toNat)
    case atStart => exact ⟨0, Nat.zero_le _, rfl, 0, rfl, by simp [num, Hid], by decide, rfl⟩
    case round =>
      obtain ⟨k, hk, rfl, m, rfl, HM, hm, rfl⟩ := hrel
      by_cases hlt : k < s.size
      · have hlt' : (k : Int) < s.size := by omega
        have HS : Hid (num (s.data.toList.take (k + 1)) = m * 10 + ((s[k]'hlt).toNat - 48)) := by show _ = _; rw [take_snoc s k hlt, num_snoc, HM.out]
        obtain ⟨hx1, hx2⟩ := allD_at hd.out k hlt
        obtain ⟨x, hx⟩ : ∃ x : Int, ((s[k]'hlt).toNat : Int) = x := ⟨_, rfl⟩
        have HS2 : Hid (((num (s.data.toList.take (k + 1)) : Nat) : Int) = m * 10 + (x - 48)) := by show _ = _; rw [HS.out]; omega
        rw [hx] at hx1 hx2
        clear HS
        have hq : Int.tdiv (2147483647 - (x - 48)) 10 = (2147483647 - (x - 48)) / 10 := Int.tdiv_eq_ediv_of_nonneg (by omega)
        by_cases hgt : (2147483647 - (x - 48)) / 10 < (m : Int)
        · have HN : Hid (numOk s.data.toList = false) := numOk_big s (k + 1) (by have := HS2.out; omega)
          go_wp2
          go_ret2
          exact ⟨by rw [numV_f HN.out, HN.out]; rfl, rfl⟩
        · obtain ⟨y, hy⟩ : ∃ y : Nat, num (s.data.toList.take (k + 1)) = y := ⟨_, rfl⟩
          have hy2 : (y : Int) = m * 10 + (x - 48) := by rw [← hy]; exact HS2.out
          have hy3 : (y : Int) ≤ 2147483647 := by omega
          go_wp2
          go_roundw
          case rel => exact ⟨k + 1, by omega, by go_num, y, by first | go_num | (rw [hy2]; go_num), hide_ hy, hy3, by trivial⟩
          case measure => simp [intOf]; omega
      · obtain rfl : k = s.size := by omega
        have ht : s.data.toList.take s.size = s.data.toList := List.take_of_length_le (by rw [← Lib.size_eq]; exact Nat.le_refl _)
        have HM2 : Hid (num s.data.toList = m) := by have := HM.out; rw [ht] at this; exact this
        have HN : Hid (numOk s.data.toList = true) := numOk_is s HZ.out (by rw [HM2.out]; omega)
        go_wp2
        go_ret2
        exact ⟨by rw [numV_t HN.out, HN.out, HM2.out]; rfl, rfl⟩
theorem num_lt {l : List UInt8} (h : ∀ x ∈ l, x.toNat ≤ 57) : num l < 10 ^ l.length := by
  have : ∀ (r : List UInt8) (n : Nat), (∀ x ∈ r, x.toNat ≤ 57) → r.foldl (fun n d => n * 10 + (d.toNat - 48)) n < (n + 1) * 10 ^ r.length := by
    intro r
    induction r with
    | nil => intro n _; simp
    | cons d r ih =>
      intro n h
      have h1 := ih (n * 10 + (d.toNat - 48)) (fun x hx => h x (by simp [hx]))
      have h2 := h d (by simp)
      rw [List.foldl_cons, List.length_cons, Nat.pow_succ]
      refine Nat.lt_of_lt_of_le h1 ?_
      rw [Nat.mul_comm (10 ^ r.length) 10, ← Nat.mul_assoc]
      exact Nat.mul_le_mul_right _ (by omega)
  have := this l 0 h
  simpa [num] using this
end Go.Proofs.YtbfmoiaedopeiaaDoor

/- strings.Clone, out of the library's shelf. -/
namespace Go.Proofs.YtbfmoiaedopeiaaDoor
open Go.RowKit
set_option linter.unusedVariables false

def renC : Go.Shelf.Ren := ⟨fun | 25 => 74 | n => n, fun | 37 => 46 | 47 => 120 | n => n, fun | n => n⟩
theorem laysC : LaysPu.n25 Tryd.prog renC := {
  mixed := by kernel_rfl
  f25 := Tryd.func74.trans (congrArg some (by kernel_rfl))
  t0 := Tryd.underlying0
  a0 := Tryd.isAgg0
  z0 := Tryd.sizeOf0
  v0 := Tryd.zeroValue0
  i0 := by kernel_rfl
  t3 := Tryd.underlying3
  a3 := Tryd.isAgg3
  z3 := Tryd.sizeOf3
  v3 := Tryd.zeroValue3
  i3 := by kernel_rfl
  t4 := Tryd.underlying4
  a4 := Tryd.isAgg4
  z4 := Tryd.sizeOf4
  v4 := Tryd.zeroValue4
  i4 := by kernel_rfl
  t5 := Tryd.underlying5
  a5 := Tryd.isAgg5
  z5 := Tryd.sizeOf5
  v5 := Tryd.zeroValue5
  i5 := by kernel_rfl
  t9 := Tryd.underlying9
  a9 := Tryd.isAgg9
  z9 := Tryd.sizeOf9
  v9 := Tryd.zeroValue9
  i9 := by kernel_rfl
  t37 := Tryd.underlying46
  a37 := Tryd.isAgg46
  z37 := Tryd.sizeOf46
  v37 := Tryd.zeroValue46
  i37 := by kernel_rfl
  t47 := Tryd.underlying120
  a47 := Tryd.isAgg120
  z47 := Tryd.sizeOf120
  v47 := Tryd.zeroValue120
  i47 := by kernel_rfl }
set_option maxRecDepth 100000 in
set_option maxHeartbeats 4000000 in
theorem clone_any (s : ByteArray) (w : World) (hs : s.size ≤ 65536) : Calls Tryd.prog 67 #[.string s] w fun e w' => e = .returned (.string s) ∧ Below w.heap.size w w' := by
  have key : Calls Tryd.prog 74 #[.string s] w fun e w' => e = .returned (.string s) ∧ Below w.heap.size w w' := AnyPu.stringslite_Clone laysC s w (by omega)
  go_enter Tryd.func67, Tryd.ntmps67
  go_wp2_with fail
  refine key.mono ?_; rintro e w1 ⟨rfl, h1⟩
  go_wp2
  go_ret
  exact ⟨rfl, h1⟩
end Go.Proofs.YtbfmoiaedopeiaaDoor
