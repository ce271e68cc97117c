/- Shelf. -/
import Derived.Shelf.Sort.Plain
import Derived.Shelf.Slices.In.SortNone
import Derived.Test.YtgjomknpjigkhaaGreatDoorProg
namespace Go.Proofs.YtgjomknpjigkhaaGreatDoor
open Go.Shelf
def lays189_ren : Go.Shelf.Ren := ⟨fun | 189 => 284 | 125 => 296 | 257 => 295 | 128 => 310 | 129 => 224 | 294 => 301 | 295 => 302 | 296 => 303 | 297 => 304 | 298 => 305 | 299 => 306 | 216 => 307 | 300 => 308 | 301 => 309 | 328 => 311 | 329 => 312 | 330 => 313 | 331 => 314 | 332 => 315 | 215 => 316 | 343 => 317 | n => n, fun | 28 => 40 | 3 => 3 | 46 => 226 | 0 => 0 | 51 => 300 | 53 => 230 | 4 => 4 | 183 => 374 | 182 => 373 | 131 => 93 | 5 => 5 | 9 => 9 | 218 => 379 | 222 => 383 | 228 => 385 | 229 => 176 | n => n, fun | n => n⟩
theorem lays189 : Go.Proofs.Lays.n189 Tryz.prog lays189_ren := {
  mixed := by kernel_rfl
  f125 := Tryz.func296.trans (congrArg some (by kernel_rfl))
  f128 := Tryz.func310.trans (congrArg some (by kernel_rfl))
  f129 := Tryz.func224.trans (congrArg some (by kernel_rfl))
  f189 := Tryz.func284.trans (congrArg some (by kernel_rfl))
  f215 := Tryz.func316.trans (congrArg some (by kernel_rfl))
  f216 := Tryz.func307.trans (congrArg some (by kernel_rfl))
  f257 := Tryz.func295.trans (congrArg some (by kernel_rfl))
  f294 := Tryz.func301.trans (congrArg some (by kernel_rfl))
  f295 := Tryz.func302.trans (congrArg some (by kernel_rfl))
  f296 := Tryz.func303.trans (congrArg some (by kernel_rfl))
  f297 := Tryz.func304.trans (congrArg some (by kernel_rfl))
  f298 := Tryz.func305.trans (congrArg some (by kernel_rfl))
  f299 := Tryz.func306.trans (congrArg some (by kernel_rfl))
  f300 := Tryz.func308.trans (congrArg some (by kernel_rfl))
  f301 := Tryz.func309.trans (congrArg some (by kernel_rfl))
  f328 := Tryz.func311.trans (congrArg some (by kernel_rfl))
  f329 := Tryz.func312.trans (congrArg some (by kernel_rfl))
  f330 := Tryz.func313.trans (congrArg some (by kernel_rfl))
  f331 := Tryz.func314.trans (congrArg some (by kernel_rfl))
  f332 := Tryz.func315.trans (congrArg some (by kernel_rfl))
  f343 := Tryz.func317.trans (congrArg some (by kernel_rfl))
  t0 := Tryz.underlying0
  a0 := Tryz.isAgg0
  z0 := Tryz.sizeOf0
  v0 := Tryz.zeroValue0
  t3 := Tryz.underlying3
  a3 := Tryz.isAgg3
  z3 := Tryz.sizeOf3
  v3 := Tryz.zeroValue3
  t4 := Tryz.underlying4
  a4 := Tryz.isAgg4
  z4 := Tryz.sizeOf4
  v4 := Tryz.zeroValue4
  t5 := Tryz.underlying5
  a5 := Tryz.isAgg5
  z5 := Tryz.sizeOf5
  v5 := Tryz.zeroValue5
  t9 := Tryz.underlying9
  a9 := Tryz.isAgg9
  z9 := Tryz.sizeOf9
  v9 := Tryz.zeroValue9
  t28 := Tryz.underlying40
  a28 := Tryz.isAgg40
  z28 := Tryz.sizeOf40
  v28 := Tryz.zeroValue40
  t46 := Tryz.underlying226
  a46 := Tryz.isAgg226
  z46 := Tryz.sizeOf226
  v46 := Tryz.zeroValue226
  t51 := Tryz.underlying300
  a51 := Tryz.isAgg300
  z51 := Tryz.sizeOf300
  v51 := Tryz.zeroValue300
  t53 := Tryz.underlying230
  a53 := Tryz.isAgg230
  z53 := Tryz.sizeOf230
  v53 := Tryz.zeroValue230
  t131 := Tryz.underlying93
  a131 := Tryz.isAgg93
  z131 := Tryz.sizeOf93
  v131 := Tryz.zeroValue93
  t182 := Tryz.underlying373
  a182 := Tryz.isAgg373
  z182 := Tryz.sizeOf373
  v182 := Tryz.zeroValue373
  t183 := Tryz.underlying374
  a183 := Tryz.isAgg374
  z183 := Tryz.sizeOf374
  v183 := Tryz.zeroValue374
  t218 := Tryz.underlying379
  a218 := Tryz.isAgg379
  z218 := Tryz.sizeOf379
  v218 := Tryz.zeroValue379
  t222 := Tryz.underlying383
  a222 := Tryz.isAgg383
  z222 := Tryz.sizeOf383
  v222 := Tryz.zeroValue383
  t228 := Tryz.underlying385
  a228 := Tryz.isAgg385
  z228 := Tryz.sizeOf385
  v228 := Tryz.zeroValue385
  t229 := Tryz.underlying176
  a229 := Tryz.isAgg176
  z229 := Tryz.sizeOf176
  v229 := Tryz.zeroValue176 }
open Go.Sort Go.RowKit in
theorem slices_Sort_int (blk off cap : Nat) (zs : List Int) (w : World) (hH : Holds (Value.int .i64) w blk off zs.toArray) (hblk : blk < w.heap.size) (hsz : zs.length < 4611686018427387904) :
    Calls Tryz.prog 284 #[.slice (some ⟨blk, off, none⟩) zs.length cap] w fun e w' =>
      e = .returned (.tuple #[]) ∧ ∃ n os, w' = grow (putRow (Value.int .i64) (Sort.ahead w n) blk off (zs.mergeSort fun x y => decide (x ≤ y)).toArray) os := Any.slices_Sort_int lays189 blk off cap zs w hH hblk hsz
open Go.RowKit Go.Sort in
/-- .. and plain. (LAID: no walk: one application.) -/
theorem slices_Sort_int_none (p : Option Addr) (cap : Nat) (w : World) :
    Calls Tryz.prog 284 #[.slice p 0 cap] w fun e w' => e = .returned (.tuple #[]) ∧ w' = w := Any.slices_Sort_int_none lays189 p cap w
end Go.Proofs.YtgjomknpjigkhaaGreatDoor
