import Derived.Test.YtopihgmemnokkaaGreatBuild
namespace Go.Proofs.YtopihgmemnokkaaGreat

def sort0 : Array Value := #[.string ByteArray.empty, .slice none 0 0] ++ rowC 771 (fun _ => 0) ++ #[.slice none 0 0]
theorem zero774 : (Tryz.prog.info? 205).map (·.zero) = some (some (.agg sort0)) := by kernel_rfl
theorem size774 : (Tryz.prog.info? 205).map (·.size) = some 774 := by kernel_rfl
theorem places774 : placesOf Tryz.prog 205 = some [(0, 1), (1, 1), (2, 771), (773, 1)] := by kernel_rfl

end Go.Proofs.YtopihgmemnokkaaGreat
