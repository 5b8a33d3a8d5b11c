import Derived.Test.YtopihgmemnokkaaGreatAppC
import Derived.Shelf.SlSortCmp.NoneTotal
namespace Go.Proofs.YtopihgmemnokkaaGreat
open Go.RowKit Go.Shelf Go.Lib Go.Sort

theorem keptSrt {α : Type} [Inhabited α] (enc : α → Value) (w : World) (blk off n : Nat) (dk : Array α) (os : Array Obj) : Kept (fun k => k = blk) w (sortWorld enc w blk off n dk os) := by
  refine ⟨rfl, rfl, rfl, ?_, ?_⟩
  · unfold sortWorld; simp
  · intro k hk hn
    unfold sortWorld
    rw [heap_grow_old _ os (by simpa using hk)]
    unfold putRow mapBlock
    rw [Array.getElem?_modify, if_neg (fun e => hn e.symm)]
    rfl

theorem cellK {P : Nat → Prop} {w w' : World} (h : Kept P w w') {a : Addr} {v : Value} (hc : w.cell? a = some v) (hn : ¬ P a.block) : w'.cell? a = some v := by
  have hb := World.block_lt_of_cell? _ _ hc
  unfold World.cell? at *
  rw [h.block a.block hb hn]; exact hc

end Go.Proofs.YtopihgmemnokkaaGreat

