namespace Go.Proofs.YtopihgmemnokkaaGreat

/-- a text's bytes, as numbers -/
def BY (s : ByteArray) (k : Nat) : Nat := if h : k < s.size then s[k].toNat else 0

theorem BY_lt (s : ByteArray) {k : Nat} (h : k < s.size) : BY s k = s[k].toNat := by unfold BY; simp [h]
theorem BY_le (s : ByteArray) (k : Nat) : BY s k ≤ 255 := by
  unfold BY; split
  · have := UInt8.toNat_lt s[k]; omega
  · omega

end Go.Proofs.YtopihgmemnokkaaGreat
