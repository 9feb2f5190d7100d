/- strings.Split, as the library's texts lay it. -/
import Derived.Test.YtbnoghkijgmcgaaDoorProg
import Derived.Shelf.Strings.Split
set_option linter.unusedVariables false
namespace Go.Proofs.YtbnoghkijgmcgaaDoor
open Go.RowKit

def Tryd.ren146 : Go.Shelf.Ren := ⟨fun | 138 => 84 | 143 => 85 | 146 => 72 | 195 => 86 | 197 => 87 | 217 => 91 | 218 => 88 | 219 => 89 | 221 => 78 | 224 => 93 | 225 => 92 | 260 => 90 | 266 => 95 | 267 => 94 | 268 => 83 | 314 => 96 | n => n, fun | 0 => 0 | 3 => 3 | 4 => 4 | 5 => 5 | 9 => 9 | 21 => 21 | 31 => 23 | 46 => 112 | 51 => 138 | 105 => 135 | 119 => 125 | 138 => 127 | 139 => 128 | 146 => 139 | n => n, fun | 1 => 4 | 3 => 2 | 4 => 3 | n => n⟩
set_option maxRecDepth 100000 in
theorem Tryd.lays146 : Go.Proofs.Lays.n146 Tryd.prog Tryd.ren146 :=
  { mixed := by kernel_rfl,
    f138 := Tryd.func84.trans (congrArg some (by kernel_rfl)),
    f143 := Tryd.func85.trans (congrArg some (by kernel_rfl)),
    f146 := Tryd.func72.trans (congrArg some (by kernel_rfl)),
    f195 := Tryd.func86.trans (congrArg some (by kernel_rfl)),
    f197 := Tryd.func87.trans (congrArg some (by kernel_rfl)),
    f217 := Tryd.func91.trans (congrArg some (by kernel_rfl)),
    f218 := Tryd.func88.trans (congrArg some (by kernel_rfl)),
    f219 := Tryd.func89.trans (congrArg some (by kernel_rfl)),
    f221 := Tryd.func78.trans (congrArg some (by kernel_rfl)),
    f224 := Tryd.func93.trans (congrArg some (by kernel_rfl)),
    f225 := Tryd.func92.trans (congrArg some (by kernel_rfl)),
    f260 := Tryd.func90.trans (congrArg some (by kernel_rfl)),
    f266 := Tryd.func95.trans (congrArg some (by kernel_rfl)),
    f267 := Tryd.func94.trans (congrArg some (by kernel_rfl)),
    f268 := Tryd.func83.trans (congrArg some (by kernel_rfl)),
    f314 := Tryd.func96.trans (congrArg some (by kernel_rfl)),
    t0 := Tryd.underlying0,
    a0 := Tryd.isAgg0,
    z0 := Tryd.sizeOf0,
    v0 := Tryd.zeroValue0,
    t3 := Tryd.underlying3,
    a3 := Tryd.isAgg3,
    z3 := Tryd.sizeOf3,
    v3 := Tryd.zeroValue3,
    t4 := Tryd.underlying4,
    a4 := Tryd.isAgg4,
    z4 := Tryd.sizeOf4,
    v4 := Tryd.zeroValue4,
    t5 := Tryd.underlying5,
    a5 := Tryd.isAgg5,
    z5 := Tryd.sizeOf5,
    v5 := Tryd.zeroValue5,
    t9 := Tryd.underlying9,
    a9 := Tryd.isAgg9,
    z9 := Tryd.sizeOf9,
    v9 := Tryd.zeroValue9,
    t21 := Tryd.underlying21,
    a21 := Tryd.isAgg21,
    z21 := Tryd.sizeOf21,
    v21 := Tryd.zeroValue21,
    t31 := Tryd.underlying23,
    a31 := Tryd.isAgg23,
    z31 := Tryd.sizeOf23,
    v31 := Tryd.zeroValue23,
    t46 := Tryd.underlying112,
    a46 := Tryd.isAgg112,
    z46 := Tryd.sizeOf112,
    v46 := Tryd.zeroValue112,
    t51 := Tryd.underlying138,
    a51 := Tryd.isAgg138,
    z51 := Tryd.sizeOf138,
    v51 := Tryd.zeroValue138,
    t105 := Tryd.underlying135,
    a105 := Tryd.isAgg135,
    z105 := Tryd.sizeOf135,
    v105 := Tryd.zeroValue135,
    t119 := Tryd.underlying125,
    a119 := Tryd.isAgg125,
    z119 := Tryd.sizeOf125,
    t138 := Tryd.underlying127,
    a138 := Tryd.isAgg127,
    z138 := Tryd.sizeOf127,
    v138 := Tryd.zeroValue127,
    t139 := Tryd.underlying128,
    a139 := Tryd.isAgg128,
    z139 := Tryd.sizeOf128,
    v139 := Tryd.zeroValue128,
    t146 := Tryd.underlying139,
    a146 := Tryd.isAgg139,
    z146 := Tryd.sizeOf139,
    v146 := Tryd.zeroValue139,
    g1 := by kernel_rfl,
    g3 := by kernel_rfl,
    g4 := by kernel_rfl }

theorem Tryd.info9' : (Tryd.prog.info? 9).map (fun i => (i.zero, i.size, i.bytes)) = some (some (.string ByteArray.empty), 1, 16) := by kernel_rfl

/-- strings.Split at a separator of one byte or more: the parts, in new memory. -/
theorem split_any (s sep : ByteArray) (m : Int) (w : World) (hs : s.size < 4294967281) (hm : w.cell? ⟨4, 0, none⟩ = some (.int .i64 m)) (h1 : 1 ≤ sep.size) :
    Calls Tryd.prog 72 #[.string s, .string sep] w fun e w' => e = .returned (.slice (some ⟨w.heap.size, 0, none⟩) (Lib.countB s sep + 1) (Lib.countB s sep + 1)) ∧ w' = w.alloc (.cells ((Lib.splitB sep 0 (Lib.countB s sep) s).map Value.string).toArray 9) :=
  Any.strings_Split Tryd.lays146 Tryd.info9' s sep m w hs hm h1
end Go.Proofs.YtbnoghkijgmcgaaDoor
