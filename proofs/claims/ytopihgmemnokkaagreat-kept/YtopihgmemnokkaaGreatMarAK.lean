import Derived.Test.YtopihgmemnokkaaGreatAppK
import Derived.Test.YtopihgmemnokkaaGreatWalk7K
import Derived.Test.YtopihgmemnokkaaGreatCodeW11K
namespace Go.Proofs.YtopihgmemnokkaaGreat
open Go.RowKit
def bys (l : List Nat) : ByteArray := strOfNums (l.map fun n => ((n : Nat) : Int))
theorem bys_size (l : List Nat) : (bys l).size = l.length := by unfold bys; rw [strOfNums_size, List.length_map]
theorem bys_app (a b : List Nat) : bys a ++ bys b = bys (a ++ b) := by
  apply ByteArray.ext
  rw [ByteArray.data_append]
  apply Array.toList_inj.1
  rw [Array.toList_append]
  unfold bys
  rw [strOfNums_data, strOfNums_data, strOfNums_data, List.map_append, List.map_append]
theorem bys_BY (l : List Nat) {k x : Nat} (h : l[k]? = some x) (hx : x ≤ 255) : BY (bys l) k = x := by
  obtain ⟨hk, hxe⟩ := List.getElem?_eq_some_iff.1 h
  have hsz : k < (bys l).size := by rw [bys_size]; exact hk
  rw [BY_lt _ hsz]
  have hl : k < (bys l).data.toList.length := by unfold bys; rw [strOfNums_data]; simp [hk]
  have h1 : (bys l).data.toList[k] = UInt8.ofNat x := by
    unfold bys at hl ⊢
    rw [List.getElem_of_eq (strOfNums_data _) hl]
    simp [hxe]
  have h2 : (bys l)[k] = UInt8.ofNat x := h1
  rw [h2, UInt8.toNat_ofNat']
  omega
def twoL (n : Nat) : List Nat := [n / 256, n % 256]
def crc1 (c : Nat) : Nat := if c % 2 = 1 then (c / 2) ^^^ 3988292384 else c / 2
def crcJ : Nat → Nat → Nat
  | 0, c => c
  | j + 1, c => crc1 (crcJ j c)
def crcB (c x : Nat) : Nat := crcJ 8 (c ^^^ x)
def crcTo (s : ByteArray) : Nat → Nat
  | 0 => 4294967295
  | i + 1 => crcB (crcTo s i) (BY s i)
theorem crc1_lt {c : Nat} (h : c < 4294967296) : crc1 c < 4294967296 := by
  unfold crc1
  split
  · exact Nat.xor_lt_two_pow (n := 32) (by omega) (by omega)
  · omega
theorem crcJ_lt {c : Nat} (h : c < 4294967296) : ∀ j, crcJ j c < 4294967296
  | 0 => h
  | j + 1 => crc1_lt (crcJ_lt h j)
theorem crcTo_lt (s : ByteArray) : ∀ i, crcTo s i < 4294967296
  | 0 => by show 4294967295 < 4294967296; decide
  | i + 1 => by
    have h1 := crcTo_lt s i
    have h2 := BY_le s i
    exact crcJ_lt (Nat.xor_lt_two_pow (n := 32) (by omega) (by omega)) 8
def sumL (s : ByteArray) : List Nat := twoL ((4294967295 - crcTo s s.size) / 65536) ++ twoL ((4294967295 - crcTo s s.size) % 65536)
def bitV (l : List Bool) (j : Nat) : Nat := (l[j]?.getD false).toNat
theorem bitV_le (l : List Bool) (j : Nat) : bitV l j ≤ 1 := by unfold bitV; cases l[j]?.getD false <;> decide
def bv (l : List Bool) (i : Nat) : Nat → Nat
  | 0 => 0
  | k + 1 => 2 * bv l i k + bitV l (8 * i + k)
theorem bv_lt (l : List Bool) (i : Nat) : ∀ k, bv l i k < 2 ^ k
  | 0 => by show 0 < 1; decide
  | k + 1 => by
    have h1 := bv_lt l i k
    have h2 := bitV_le l (8 * i + k)
    show 2 * bv l i k + bitV l (8 * i + k) < 2 ^ (k + 1)
    rw [Nat.pow_succ]; omega
def packL (l : List Bool) : List Nat := (List.range ((l.length + 7) / 8)).map fun i => bv l i 8
def th (f : Nat → Nat) (i : Nat) : Nat → Nat
  | 0 => 0
  | m + 1 => 2 * th f i m + (if 0 < f (8 * i + (7 - m)) then 1 else 0)
theorem th_lt (f : Nat → Nat) (i : Nat) : ∀ m, th f i m < 2 ^ m
  | 0 => by show 0 < 1; decide
  | m + 1 => by
    have h := th_lt f i m
    have h2 : (if 0 < f (8 * i + (7 - m)) then 1 else 0) ≤ 1 := by split <;> omega
    show 2 * th f i m + _ < 2 ^ (m + 1)
    rw [Nat.pow_succ]; omega
def thL (f : Nat → Nat) (i : Nat) : List Nat := (List.range i).map fun j => th f j 8
theorem thL_len (f : Nat → Nat) (i : Nat) : (thL f i).length = i := by simp [thL]
def cnL (f : Nat → Nat) : Nat → List Nat
  | 0 => []
  | c + 1 => if 0 < f c then cnL f c ++ twoL (f c) else cnL f c
def marL (t : ByteArray) (rate : Nat) : List Nat :=
  [67] ++ twoL rate ++ twoL t.size ++ twoL (fw t) ++ thL (cntB t t.size) 32 ++ cnL (cntB t t.size) 256 ++ packL (cat (fun c => bl (codesG (cntB t t.size) c)) (trn t) t.size)
def mar (t : ByteArray) (rate : Nat) : ByteArray := bys (marL t rate ++ sumL (bys (marL t rate)))
def numA (d : ByteArray) (a : Nat) : Nat := BY d a * 256 + BY d (a + 1)
theorem numA_lt (d : ByteArray) (a : Nat) : numA d a < 65536 := by
  have := BY_le d a
  have := BY_le d (a + 1)
  unfold numA; omega
def setB (d : ByteArray) (c : Nat) : Nat := BY d (7 + c / 8) / 2 ^ (c % 8) % 2
def atC (d : ByteArray) : Nat → Nat
  | 0 => 39
  | c + 1 => if setB d c = 1 then atC d c + 2 else atC d c
theorem atC_le (d : ByteArray) : ∀ c, atC d c ≤ 39 + 2 * c
  | 0 => by simp [atC]
  | c + 1 => by
    have := atC_le d c
    simp only [atC]
    split <;> omega
def fD (d : ByteArray) (c : Nat) : Nat := if setB d c = 1 then numA d (atC d c) else 0
def fTo (d : ByteArray) (n c : Nat) : Nat := if c < n then fD d c else 0
def okD (d : ByteArray) (n : Nat) : Prop := ∀ c, c < n → setB d c = 1 → atC d c + 2 ≤ d.size
theorem fTo_put (d : ByteArray) (n : Nat) (c : Nat) : Cc.put (fTo d n) n (fD d n) c = fTo d (n + 1) c := by
  unfold Cc.put fTo
  by_cases e : c = n
  · subst e; simp
  · rw [if_neg e]
    by_cases h : c < n
    · rw [if_pos h, if_pos (by omega)]
    · rw [if_neg h, if_neg (by omega)]
def bitS (s : ByteArray) (i : Nat) : Bool := decide (BY s (i / 8) / 2 ^ (7 - i % 8) % 2 = 1)
def hitTo (k : Nat → List Bool) (x : List Bool) : Nat → Option Nat
  | 0 => none
  | n + 1 => match hitTo k x n with
    | some c => some c
    | none => if k n = x then some n else none
def uT (N : Nat) (k : Nat → List Bool) (s : ByteArray) : Nat → List Nat × List Bool
  | 0 => ([], [])
  | i + 1 => match hitTo k ((uT N k s i).2 ++ [bitS s i]) N with
    | some c => ((uT N k s i).1 ++ [c], [])
    | none => ((uT N k s i).1, (uT N k s i).2 ++ [bitS s i])
theorem uT_hit {N : Nat} {k : Nat → List Bool} {s : ByteArray} {i c : Nat} (h : hitTo k ((uT N k s i).2 ++ [bitS s i]) N = some c) : uT N k s (i + 1) = ((uT N k s i).1 ++ [c], []) := by
  rw [uT, h]
theorem uT_miss {N : Nat} {k : Nat → List Bool} {s : ByteArray} {i : Nat} (h : hitTo k ((uT N k s i).2 ++ [bitS s i]) N = none) : uT N k s (i + 1) = ((uT N k s i).1, (uT N k s i).2 ++ [bitS s i]) := by
  rw [uT, h]
def uS (k : Nat → List Bool) (s : ByteArray) (i : Nat) : List Nat × List Bool := uT 256 k s i
def stopU (k : Nat → List Bool) (s : ByteArray) (n i : Nat) : Prop := 8 * s.size ≤ i ∨ n ≤ (uS k s i).1.length ∨ 255 < (uS k s i).2.length
def StopAt (k : Nat → List Bool) (s : ByteArray) (n i : Nat) : Prop := stopU k s n i ∧ ∀ j, j < i → ¬ stopU k s n j
theorem StopAt.uniq {k : Nat → List Bool} {s : ByteArray} {n i j : Nat} (h : StopAt k s n i) (h' : StopAt k s n j) : i = j := by
  rcases Nat.lt_trichotomy i j with e | e | e
  · exact absurd h.1 (h'.2 i e)
  · exact e
  · exact absurd h'.1 (h.2 j e)
theorem hitTo_lt (k : Nat → List Bool) (x : List Bool) : ∀ (n c : Nat), hitTo k x n = some c → c < n
  | 0, c, h => by simp [hitTo] at h
  | n + 1, c, h => by
    simp only [hitTo] at h
    rcases hh : hitTo k x n with _ | c'
    · rw [hh] at h
      by_cases e : k n = x
      · simp [e] at h; omega
      · simp [e] at h
    · rw [hh] at h
      have : c' = c := by simpa using h
      have := hitTo_lt k x n c' hh
      omega
theorem uS_hit {k : Nat → List Bool} {s : ByteArray} {i c : Nat} (h : hitTo k ((uS k s i).2 ++ [bitS s i]) 256 = some c) : uS k s (i + 1) = ((uS k s i).1 ++ [c], []) := uT_hit h
theorem uS_miss {k : Nat → List Bool} {s : ByteArray} {i : Nat} (h : hitTo k ((uS k s i).2 ++ [bitS s i]) 256 = none) : uS k s (i + 1) = ((uS k s i).1, (uS k s i).2 ++ [bitS s i]) := uT_miss h
def u8L (l : List Nat) : List Value := l.map fun c => Value.int .u8 (c : Nat)
end Go.Proofs.YtopihgmemnokkaaGreat
namespace Go.Proofs.YtopihgmemnokkaaGreat
open Go.RowKit
def hn (g : Nat → Nat) : Nat → Nat
  | 0 => 0
  | m + 1 => 2 * hn g m + g m
theorem hn_bit (g : Nat → Nat) (hg : ∀ q, g q ≤ 1) : ∀ m q, q < m → hn g m / 2 ^ (m - 1 - q) % 2 = g q
  | 0, q, h => by omega
  | m + 1, q, h => by
    have hb := hg m
    by_cases e : q = m
    · subst e
      rw [show q + 1 - 1 - q = 0 by omega, Nat.pow_zero, Nat.div_one]
      show (2 * hn g q + g q) % 2 = g q
      omega
    · have IH := hn_bit g hg m q (by omega)
      rw [show m + 1 - 1 - q = (m - 1 - q) + 1 by omega, Nat.pow_succ, Nat.mul_comm, ← Nat.div_div_eq_div_mul]
      show (2 * hn g m + g m) / 2 / 2 ^ (m - 1 - q) % 2 = g q
      rw [show (2 * hn g m + g m) / 2 = hn g m by omega]
      exact IH
theorem th_hn (f : Nat → Nat) (i : Nat) : ∀ m, th f i m = hn (fun q => if 0 < f (8 * i + (7 - q)) then 1 else 0) m
  | 0 => rfl
  | m + 1 => by
    show 2 * th f i m + _ = 2 * hn _ m + _
    rw [th_hn f i m]
theorem bv_hn (l : List Bool) (i : Nat) : ∀ m, bv l i m = hn (fun q => bitV l (8 * i + q)) m
  | 0 => rfl
  | m + 1 => by
    show 2 * bv l i m + _ = 2 * hn _ m + _
    rw [bv_hn l i m]
theorem th_bit (f : Nat → Nat) (i : Nat) {j : Nat} (hj : j < 8) : th f i 8 / 2 ^ j % 2 = if 0 < f (8 * i + j) then 1 else 0 := by
  have h := hn_bit (fun q => if 0 < f (8 * i + (7 - q)) then 1 else 0) (fun q => by split <;> omega) 8 (7 - j) (by omega)
  rw [← th_hn, show 8 - 1 - (7 - j) = j by omega] at h
  exact h
theorem bv_bit (l : List Bool) (i : Nat) {j : Nat} (hj : j < 8) : bv l i 8 / 2 ^ (7 - j) % 2 = bitV l (8 * i + j) := by
  have h := hn_bit (fun q => bitV l (8 * i + q)) (fun q => bitV_le _ _) 8 j hj
  rw [← bv_hn] at h
  exact h
theorem cnL_split (f : Nat → Nat) {c : Nat} : ∀ m, c ≤ m → ∃ r, cnL f m = cnL f c ++ r
  | 0, h => ⟨[], by have : c = 0 := by omega
                    subst this; simp⟩
  | m + 1, h => by
    rcases Nat.lt_or_ge m c with h1 | h1
    · have : c = m + 1 := by omega
      subst this
      exact ⟨[], by simp⟩
    · obtain ⟨r, hr⟩ := cnL_split f m h1
      simp only [cnL]
      split
      · exact ⟨r ++ twoL (f m), by rw [hr, List.append_assoc]⟩
      · exact ⟨r, hr⟩
theorem cnL_here (f : Nat → Nat) {c m : Nat} (hc : c < m) (hp : 0 < f c) : ∃ r, cnL f m = cnL f c ++ (twoL (f c) ++ r) := by
  obtain ⟨r, hr⟩ := cnL_split f (c := c + 1) m (by omega)
  refine ⟨r, ?_⟩
  rw [hr]
  simp only [cnL]
  rw [if_pos hp, List.append_assoc]
section
variable (t : ByteArray) (r : Nat)
def bitsOf : List Bool := cat (fun c => bl (codesG (cntB t t.size) c)) (trn t) t.size
def restM : List Nat := packL (bitsOf t) ++ sumL (bys (marL t r))
def allM : List Nat := [67, r / 256, r % 256, t.size / 256, t.size % 256, fw t / 256, fw t % 256] ++ (thL (cntB t t.size) 32 ++ (cnL (cntB t t.size) 256 ++ restM t r))
theorem mar_all : mar t r = bys (allM t r) := by
  unfold mar allM restM bitsOf
  congr 1
  rw [show marL t r ++ sumL (bys (marL t r)) = ([67] ++ twoL r ++ twoL t.size ++ twoL (fw t) ++ thL (cntB t t.size) 32 ++ cnL (cntB t t.size) 256 ++ packL (cat (fun c => bl (codesG (cntB t t.size) c)) (trn t) t.size)) ++ sumL (bys (marL t r)) from rfl]
  simp only [twoL, List.append_assoc, List.cons_append, List.nil_append]
theorem allM_th {j : Nat} (hj : j < 32) : (allM t r)[7 + j]? = some (th (cntB t t.size) j 8) := by
  unfold allM
  rw [List.getElem?_append_right (by simp), show 7 + j - [67, r / 256, r % 256, t.size / 256, t.size % 256, fw t / 256, fw t % 256].length = j by simp, List.getElem?_append_left (by rw [thL_len]; exact hj)]
  unfold thL
  rw [List.getElem?_map, List.getElem?_range hj]; rfl
theorem allM_behind (j : Nat) : (allM t r)[39 + j]? = (cnL (cntB t t.size) 256 ++ restM t r)[j]? := by
  unfold allM
  rw [List.getElem?_append_right (by simp; omega), show 39 + j - [67, r / 256, r % 256, t.size / 256, t.size % 256, fw t / 256, fw t % 256].length = 32 + j by simp; omega, List.getElem?_append_right (by rw [thL_len]; omega), thL_len, show 32 + j - 32 = j by omega]
end
theorem mar_heads (t : ByteArray) (r : Nat) (ht : t.size ≤ 1000) (hr : r ≤ 64) : numA (mar t r) 1 = r ∧ numA (mar t r) 3 = t.size ∧ numA (mar t r) 5 = fw t := by
  have hw : fw t ≤ 1000 := by have := (ord t).rank_le (i := 0) (by omega); show Cc.rank t.size (before t) 0 ≤ 1000; omega
  rw [mar_all]
  have g : ∀ {j x : Nat}, (allM t r)[j]? = some x → x ≤ 255 → BY (bys (allM t r)) j = x := fun h1 h2 => bys_BY _ h1 h2
  have e1 : BY (bys (allM t r)) 1 = r / 256 := g (by simp [allM]) (by omega)
  have e2 : BY (bys (allM t r)) 2 = r % 256 := g (by simp [allM]) (by omega)
  have e3 : BY (bys (allM t r)) 3 = t.size / 256 := g (by simp [allM]) (by omega)
  have e4 : BY (bys (allM t r)) 4 = t.size % 256 := g (by simp [allM]) (by omega)
  have e5 : BY (bys (allM t r)) 5 = fw t / 256 := g (by simp [allM]) (by omega)
  have e6 : BY (bys (allM t r)) 6 = fw t % 256 := g (by simp [allM]) (by omega)
  unfold numA
  rw [e1, e2, e3, e4, e5, e6]
  refine ⟨by omega, by omega, by omega⟩
theorem mar_set (t : ByteArray) (r : Nat) {c : Nat} (hc : c < 256) : setB (mar t r) c = if 0 < cntB t t.size c then 1 else 0 := by
  unfold setB
  have h1 := allM_th t r (j := c / 8) (by omega)
  have h2 : th (cntB t t.size) (c / 8) 8 ≤ 255 := by have := th_lt (cntB t t.size) (c / 8) 8; omega
  rw [mar_all, bys_BY _ h1 h2, th_bit _ _ (by omega), show 8 * (c / 8) + c % 8 = c by omega]
theorem mar_at (t : ByteArray) (r : Nat) : ∀ c, c ≤ 256 → atC (mar t r) c = 39 + (cnL (cntB t t.size) c).length
  | 0, _ => rfl
  | c + 1, h => by
    have IH := mar_at t r c (by omega)
    simp only [atC, cnL]
    rw [mar_set t r (by omega), IH]
    by_cases hp : 0 < cntB t t.size c
    · rw [if_pos hp, if_pos rfl, if_pos hp, List.length_append]; simp [twoL]; omega
    · rw [if_neg hp, if_neg (by omega), if_neg hp]
theorem mar_num (t : ByteArray) (r : Nat) {c : Nat} (hc : c < 256) (hp : 0 < cntB t t.size c) (hf : cntB t t.size c ≤ 1000) : numA (mar t r) (atC (mar t r) c) = cntB t t.size c ∧ atC (mar t r) c + 2 ≤ (mar t r).size := by
  rw [mar_at t r c (by omega)]
  obtain ⟨q, hq⟩ := cnL_here (cntB t t.size) (m := 256) hc hp
  have h1 := allM_behind t r (cnL (cntB t t.size) c).length
  have h2 := allM_behind t r ((cnL (cntB t t.size) c).length + 1)
  rw [hq, List.append_assoc, List.getElem?_append_right (by omega), Nat.sub_self] at h1
  rw [hq, List.append_assoc, List.getElem?_append_right (by omega), show (cnL (cntB t t.size) c).length + 1 - (cnL (cntB t t.size) c).length = 1 by omega] at h2
  have h1' : (allM t r)[39 + (cnL (cntB t t.size) c).length]? = some (cntB t t.size c / 256) := by rw [h1]; rfl
  have h2' : (allM t r)[39 + (cnL (cntB t t.size) c).length + 1]? = some (cntB t t.size c % 256) := by rw [show 39 + (cnL (cntB t t.size) c).length + 1 = 39 + ((cnL (cntB t t.size) c).length + 1) by omega, h2]; rfl
  have hl := (List.getElem?_eq_some_iff.1 h2').1
  rw [mar_all]
  refine ⟨?_, by rw [bys_size]; omega⟩
  unfold numA
  rw [bys_BY _ h1' (by omega), bys_BY _ h2' (by omega)]
  omega
theorem mar_counts (t : ByteArray) (r : Nat) (ht : t.size ≤ 1000) : okD (mar t r) 256 ∧ ∀ c, fTo (mar t r) 256 c = if c < 256 then cntB t t.size c else 0 := by
  have hf : ∀ c, cntB t t.size c ≤ 1000 := fun c => Nat.le_trans (Cc.cn_le _ _) ht
  refine ⟨fun c hc hs => ?_, fun c => ?_⟩
  · rw [mar_set t r hc] at hs
    by_cases hp : 0 < cntB t t.size c
    · exact (mar_num t r hc hp (hf c)).2
    · rw [if_neg hp] at hs; omega
  · unfold fTo fD
    by_cases hc : c < 256
    · rw [if_pos hc, if_pos hc, mar_set t r hc]
      by_cases hp : 0 < cntB t t.size c
      · rw [if_pos hp, if_pos rfl]; exact (mar_num t r hc hp (hf c)).1
      · rw [if_neg hp, if_neg (by omega)]; omega
    · rw [if_neg hc, if_neg hc]
theorem mar_size (t : ByteArray) (r : Nat) : 43 ≤ (mar t r).size := by
  rw [mar_all, bys_size]
  unfold allM restM
  rw [List.length_append, List.length_append, thL_len, List.length_append, List.length_append]
  have : (sumL (bys (marL t r))).length = 4 := rfl
  simp; omega
end Go.Proofs.YtopihgmemnokkaaGreat
namespace Go.Proofs.YtopihgmemnokkaaGreat
open Go.RowKit
theorem bys_list (l : List Nat) : (bys l).data.toList = l.map UInt8.ofNat := by
  unfold bys
  rw [strOfNums_data, List.map_map]; rfl
theorem bys_extract (a b : List Nat) : (bys (a ++ b)).extract a.length (a ++ b).length = bys b := by
  apply ByteArray.ext
  apply Array.toList_inj.1
  rw [ByteArray.data_extract, Array.toList_extract, List.extract_eq_take_drop, bys_list, bys_list, List.map_append, List.drop_append, List.length_append]
  have h0 : List.drop a.length (List.map UInt8.ofNat a) = [] := List.drop_eq_nil_of_le (by rw [List.length_map]; exact Nat.le_refl _)
  rw [h0]
  simp only [List.nil_append, List.length_map, Nat.sub_self, List.drop_zero, Nat.add_sub_cancel_left]
  exact List.take_of_length_le (by rw [List.length_map]; exact Nat.le_refl _)
theorem trn_cnt (t : ByteArray) : cntB (trn t) (trn t).size = cntB t t.size := by
  funext c
  rw [trn_size]
  exact trn_count t c
section
variable (t : ByteArray) (r : Nat)
abbrev kT : Nat → List Bool := fun c => bl (codesG (cntB t t.size) c)
theorem bits_len : (bitsOf t).length = cl (kT t) (trn t) t.size := rfl
theorem rest_extract : (mar t r).extract (atC (mar t r) 256) (mar t r).size = bys (restM t r) := by
  rw [mar_at t r 256 (Nat.le_refl _), mar_all, bys_size]
  have h : allM t r = ([67, r / 256, r % 256, t.size / 256, t.size % 256, fw t / 256, fw t % 256] ++ (thL (cntB t t.size) 32 ++ cnL (cntB t t.size) 256)) ++ restM t r := by
    unfold allM
    simp only [List.append_assoc]
  have hl : 39 + (cnL (cntB t t.size) 256).length = ([67, r / 256, r % 256, t.size / 256, t.size % 256, fw t / 256, fw t % 256] ++ (thL (cntB t t.size) 32 ++ cnL (cntB t t.size) 256)).length := by
    rw [List.length_append, List.length_append, thL_len]; simp; omega
  rw [h, hl]
  exact bys_extract _ _
theorem rest_size : (bys (restM t r)).size = ((bitsOf t).length + 7) / 8 + 4 := by
  rw [bys_size]
  unfold restM packL
  rw [List.length_append, List.length_map, List.length_range]; rfl
theorem rest_bit {i : Nat} (hi : i < (bitsOf t).length) : bitS (bys (restM t r)) i = (bitsOf t)[i] := by
  have h1 : (restM t r)[i / 8]? = some (bv (bitsOf t) (i / 8) 8) := by
    unfold restM packL
    rw [List.getElem?_append_left (by rw [List.length_map, List.length_range]; omega), List.getElem?_map, List.getElem?_range (by omega)]; rfl
  have h2 : bv (bitsOf t) (i / 8) 8 ≤ 255 := by have := bv_lt (bitsOf t) (i / 8) 8; omega
  unfold bitS
  rw [bys_BY _ h1 h2, bv_bit _ _ (by omega), show 8 * (i / 8) + i % 8 = i by omega]
  unfold bitV
  rw [List.getElem?_eq_getElem hi]
  cases (bitsOf t)[i] <;> rfl
end
theorem hitTo_none {k : Nat → List Bool} {x : List Bool} : ∀ {n : Nat}, (∀ c, c < n → k c ≠ x) → hitTo k x n = none
  | 0, _ => rfl
  | n + 1, h => by
    simp only [hitTo]
    rw [hitTo_none (fun c hc => h c (by omega))]
    simp [h n (by omega)]
theorem hitTo_only {k : Nat → List Bool} {x : List Bool} {c0 : Nat} (h0 : k c0 = x) : ∀ {n : Nat}, c0 < n → (∀ c, c < n → k c = x → c = c0) → hitTo k x n = some c0
  | 0, h, _ => by omega
  | n + 1, h, hu => by
    simp only [hitTo]
    rcases Nat.lt_or_ge c0 n with h1 | h1
    · rw [hitTo_only h0 h1 (fun c hc => hu c (by omega))]
    · have : c0 = n := by omega
      subst this
      rw [hitTo_none (fun c hc e => by have := hu c (by omega) e; omega)]
      simp [h0]
theorem decode {t : ByteArray} (s : ByteArray) (CD : Codes (cntB t t.size) (kT t)) (hb : ∀ i (h : i < (bitsOf t).length), bitS s i = (bitsOf t)[i]) :
    ∀ i, i ≤ (bitsOf t).length → ∃ p, p ≤ t.size ∧ cl (kT t) (trn t) p ≤ i ∧ (p < t.size → i < cl (kT t) (trn t) (p + 1)) ∧ (p = t.size → i = (bitsOf t).length) ∧
      uS (kT t) s i = ((List.range p).map (BY (trn t)), ((bitsOf t).drop (cl (kT t) (trn t) p)).take (i - cl (kT t) (trn t) p)) := by
  have hsz := trn_size t
  have CD' : Codes (cntB (trn t) (trn t).size) (kT t) := by rw [trn_cnt]; exact CD
  have hne : ∀ p, p < t.size → (kT t (BY (trn t) p)) ≠ [] := fun p hp => by
    have h1 := BY_le (trn t) p
    exact CD'.some _ (by omega) (cnt_there (trn t) (by omega))
  have hup : ∀ p, p < t.size → cl (kT t) (trn t) p < cl (kT t) (trn t) (p + 1) := fun p hp => by
    rw [cl_succ]
    have := List.length_pos_iff.2 (hne p hp)
    omega
  have hL : (bitsOf t).length = cl (kT t) (trn t) t.size := rfl
  intro i
  induction i with
  | zero =>
    intro _
    refine ⟨0, by omega, Nat.le_refl _, fun h => by have := hup 0 h; rw [cl_zero] at this; exact this, fun h => ?_, ?_⟩
    · rw [hL, ← h, cl_zero]
    · rw [cl_zero]; simp; rfl
  | succ i ih =>
    intro hi
    obtain ⟨p, hp, h1, h2, h3, h4⟩ := ih (by omega)
    have hpn : p < t.size := by
      rcases Nat.lt_or_ge p t.size with h | h
      · exact h
      · have := h3 (by omega); omega
    have h2' := h2 hpn
    have hby := BY_le (trn t) p
    have hnow : (uS (kT t) s i).2 ++ [bitS s i] = ((bitsOf t).drop (cl (kT t) (trn t) p)).take (i + 1 - cl (kT t) (trn t) p) := by
      rw [h4, hb i (by omega), show i + 1 - cl (kT t) (trn t) p = (i - cl (kT t) (trn t) p) + 1 by omega]
      have hlt : i - cl (kT t) (trn t) p < ((bitsOf t).drop (cl (kT t) (trn t) p)).length := by rw [List.length_drop]; omega
      rw [List.take_succ_eq_append_getElem hlt]
      congr 1
      rw [List.getElem_drop]
      congr 2
      omega
    have hnn : ((bitsOf t).drop (cl (kT t) (trn t) p)).take (i + 1 - cl (kT t) (trn t) p) ≠ [] := by
      rw [← hnow]; simp
    have hm : ∀ c, c < 256 → (kT t c = ((bitsOf t).drop (cl (kT t) (trn t) p)).take (i + 1 - cl (kT t) (trn t) p) ↔ (c = BY (trn t) p ∧ i + 1 = cl (kT t) (trn t) (p + 1))) := fun c hc => by
      by_cases hk : kT t c = []
      · constructor
        · intro h; rw [hk] at h; exact absurd h.symm hnn
        · rintro ⟨rfl, _⟩; exact absurd hk (hne p hpn)
      · have h5 := code_match CD' (p := p) (i := i + 1) (c := c) (by omega) (by omega) (by omega) hc hk
        rw [tx_extract] at h5
        rw [← h5]
        have hcat : cat (kT t) (trn t) (trn t).size = bitsOf t := by rw [hsz]; rfl
        rw [hcat]
        constructor
        · intro h; rw [h]
        · intro h; exact (tx_inj (toList_inj' h)).symm
    rcases Nat.lt_or_ge (i + 1) (cl (kT t) (trn t) (p + 1)) with hlt | hge
    · refine ⟨p, hp, by omega, fun _ => hlt, fun h => by omega, ?_⟩
      rw [uS_miss (by rw [hnow]; exact hitTo_none (fun c hc e => by have := ((hm c hc).1 e).2; omega)), hnow, h4]
    · have he : i + 1 = cl (kT t) (trn t) (p + 1) := by omega
      refine ⟨p + 1, by omega, by omega, fun h => by have := hup (p + 1) h; omega, fun h => by rw [hL, ← h]; exact he, ?_⟩
      rw [uS_hit (c := BY (trn t) p) (by rw [hnow]; exact hitTo_only ((hm _ (by omega)).2 ⟨rfl, he⟩) (by omega) (fun c hc e => ((hm c hc).1 e).1)), h4, List.range_succ, List.map_append, he, Nat.sub_self, List.take_zero]
      rfl
theorem bys_trn (t : ByteArray) : bys ((List.range t.size).map (BY (trn t))) = trn t := by
  refine BY_ext ?_ ?_
  · rw [bys_size, List.length_map, List.length_range, trn_size]
  · intro k hk
    rw [bys_size, List.length_map, List.length_range] at hk
    exact bys_BY _ (by rw [List.getElem?_map, List.getElem?_range hk]; rfl) (BY_le _ _)
theorem read_mar (t : ByteArray) (r : Nat) (ht : t.size ≤ 1000) : StopAt (kT t) (bys (restM t r)) t.size (bitsOf t).length ∧ bys (uS (kT t) (bys (restM t r)) (bitsOf t).length).1 = trn t := by
  have hw : ∀ u, (Hf.bytes u).Nodup → (∀ c ∈ Hf.bytes u, c < 256) → Hf.wt (cntB t t.size) u ≤ 1000 := fun u hn _ => by
    rw [wt_list]; exact Nat.le_trans (cnt_list t t.size _ hn) ht
  have CD : Codes (cntB t t.size) (kT t) := codes_of (codesG_of _) hw
  have D := decode (bys (restM t r)) CD (fun i h => rest_bit t r h)
  obtain ⟨p, hp, h1, h2, h3, h4⟩ := D (bitsOf t).length (Nat.le_refl _)
  have hL : (bitsOf t).length = cl (kT t) (trn t) t.size := rfl
  have hpe : p = t.size := by
    rcases Nat.lt_or_ge p t.size with h | h
    · have h5 := h2 h
      have h6 := cl_mono (kT t) (trn t) (p := p + 1) (q := t.size) (by omega)
      omega
    · omega
  subst hpe
  refine ⟨⟨.inr (.inl ?_), fun j hj hst => ?_⟩, ?_⟩
  · rw [h4]; simp
  · obtain ⟨p', g1, g2, g3, g4, g5⟩ := D j (by omega)
    have hp' : p' < t.size := by
      rcases Nat.lt_or_ge p' t.size with h | h
      · exact h
      · have := g4 (by omega); omega
    rcases hst with h | h | h
    · rw [rest_size] at h; omega
    · rw [g5] at h; simp at h; omega
    · rw [g5] at h
      have h7 := g3 hp'
      rw [cl_succ] at h7
      have h8 := CD.len (BY (trn t) p') (by have := BY_le (trn t) p'; omega)
      have h9 : (((bitsOf t).drop (cl (kT t) (trn t) p')).take (j - cl (kT t) (trn t) p')).length ≤ j - cl (kT t) (trn t) p' := List.length_take_le _ _
      have h10 : 255 < (((bitsOf t).drop (cl (kT t) (trn t) p')).take (j - cl (kT t) (trn t) p')).length := h
      omega
  · rw [h4]; exact bys_trn t
end Go.Proofs.YtopihgmemnokkaaGreat
namespace Go.Proofs.YtopihgmemnokkaaGreat
open Go.RowKit
theorem sum_mem (f : Nat → Nat) (k : Nat) : ∀ l : List Nat, l.Nodup → (∀ c ∈ l, c < k) → (l.map f).sum = sm k fun c => if c ∈ l then f c else 0
  | [], _, _ => by
    have hz : ∀ m, (sm m fun _ => 0) = 0 := fun m => by induction m with
      | zero => rfl
      | succ m ih => simp [sm, ih]
    rw [sm_congr (h := fun _ => 0) (fun c _ => by simp), hz]; rfl
  | a :: l, hn, hk => by
    have h1 := List.nodup_cons.1 hn
    have IH := sum_mem f k l h1.2 (fun c hc => hk c (by simp [hc]))
    have e : (sm k fun c => if c ∈ a :: l then f c else 0) = sm k fun c => (if a = c then f c else 0) + (if c ∈ l then f c else 0) := sm_congr fun c _ => by
      by_cases h : a = c
      · subst h
        rw [if_pos (by simp), if_pos rfl, if_neg h1.1]; omega
      · rw [if_neg h]
        by_cases h2 : c ∈ l
        · rw [if_pos (by simp [h2]), if_pos h2]; omega
        · rw [if_neg (by simp; exact ⟨fun e => h e.symm, h2⟩), if_neg h2]
    rw [e, sm_add, sm_one k a f (hk a (by simp)), ← IH]
    simp
theorem wt_sm (f : Nat → Nat) (t : Hf.T) (hn : (Hf.bytes t).Nodup) (hb : ∀ c ∈ Hf.bytes t, c < 256) : Hf.wt f t ≤ sm 256 f := by
  rw [wt_list, sum_mem f 256 _ hn hb]
  exact sm_le fun c _ => by split <;> omega
theorem sm_cnt (t : ByteArray) : sm 256 (cntB t t.size) = t.size := by
  have h := sm_ac (fun _ => 1) t t.size
  have h2 : ∀ p, ac (fun _ => 1) t p = p := fun p => by
    induction p with
    | zero => rfl
    | succ p ih => simp only [ac, ih]
  have h3 : sm 256 (cntB t t.size) = sm 256 fun c => cntB t t.size c * 1 := sm_congr fun c _ => by simp
  rw [h3, h, h2]
theorem cntB_high (t : ByteArray) (p : Nat) {c : Nat} (hc : 256 ≤ c) : cntB t p c = 0 := Cc.cn_zero fun j _ => by
  have := BY_le t j
  simp; omega
theorem atC_ok {d : ByteArray} (hd : 43 ≤ d.size) {n : Nat} (h : okD d n) : atC d n ≤ d.size := by
  induction n with
  | zero => show 39 ≤ _; omega
  | succ n ih =>
    have h2 := ih (fun c hc => h c (by omega))
    simp only [atC]
    split
    · next hs => exact h n (by omega) hs
    · exact h2
structure IsMar (d t : ByteArray) (r : Nat) : Prop where
  sz : 43 ≤ d.size
  n1 : numA d 1 = r
  n3 : numA d 3 = t.size
  n5 : numA d 5 = fw t
  ok : okD d 256
  f : fTo d 256 = cntB t t.size
  rest : d.extract (atC d 256) d.size = bys (restM t r)
theorem isMar {t : ByteArray} {r : Nat} (h : BuildOk t (r : Nat)) : IsMar (mar t r) t r := by
  have ht := h.1
  have hr : r ≤ 64 := by have := h.2.2; omega
  obtain ⟨h1, h2, h3⟩ := mar_heads t r ht hr
  obtain ⟨h4, h5⟩ := mar_counts t r ht
  refine ⟨mar_size t r, h1, h2, h3, h4, ?_, rest_extract t r⟩
  funext c
  rw [h5 c]
  split
  · rfl
  · rw [cntB_high t _ (by omega)]
def Mar (d : ByteArray) (t : ByteArray) (r : Nat) : Prop := BuildOk t (r : Nat) ∧ d = mar t r
theorem Mar.uniq {d t t' : ByteArray} {r r' : Nat} (h : Mar d t r) (h' : Mar d t' r') : t = t' ∧ r = r' := by
  have m : IsMar d t r := by rw [h.2]; exact isMar h.1
  have m' : IsMar d t' r' := by rw [h'.2]; exact isMar h'.1
  have hr : r = r' := by rw [← m.n1, ← m'.n1]
  have hf : cntB t t.size = cntB t' t'.size := by rw [← m.f, ← m'.f]
  have hn : t.size = t'.size := by rw [← m.n3, ← m'.n3]
  have hw : fw t = fw t' := by rw [← m.n5, ← m'.n5]
  have hk : kT t = kT t' := by unfold kT; rw [hf]
  have hs : bys (restM t r) = bys (restM t' r') := by rw [← m.rest, ← m'.rest]
  obtain ⟨q1, q2⟩ := read_mar t r h.1.1
  obtain ⟨q3, q4⟩ := read_mar t' r' h'.1.1
  rw [hk, hs, hn] at q1
  have hi := q1.uniq q3
  have ht : trn t = trn t' := by
    rw [← q2, ← q4, hk, hs, hi]
  refine ⟨?_, hr⟩
  rw [← (trn_back t).2, ← (trn_back t').2, ht, hw]
theorem by_left (s t : ByteArray) {j : Nat} (h : j < s.size) : BY (s ++ t) j = BY s j := by
  have h2 : j < (s ++ t).size := by simp; omega
  rw [BY_lt _ h2, BY_lt _ h, ByteArray.getElem_append_left h]
theorem by_right (s t : ByteArray) {j : Nat} (h2 : j < t.size) : BY (s ++ t) (s.size + j) = BY t j := by
  have h3 : s.size + j < (s ++ t).size := by simp; omega
  have e : s.size + j - s.size = j := by omega
  rw [BY_lt _ h3, BY_lt _ h2, ByteArray.getElem_append_right (by omega)]
  simp only [e]
theorem by_ext {s t : ByteArray} (h : s.size = t.size) (hb : ∀ j, j < s.size → BY s j = BY t j) : s = t := by
  apply ByteArray.ext_getElem h
  intro i h1 h2
  have := hb i h1
  rw [BY_lt _ h1, BY_lt _ h2] at this
  exact UInt8.toNat_inj.1 this
/-! the sum tells one byte that is turned -/
theorem crc1_inj {a b : Nat} (ha : a < 4294967296) (hb : b < 4294967296) (h : crc1 a = crc1 b) : a = b := by
  have top : ∀ x : Nat, x < 4294967296 → ((x / 2) ^^^ 3988292384).testBit 31 = true := fun x hx => by
    rw [Nat.testBit_xor, Nat.testBit_lt_two_pow (show x / 2 < 2 ^ 31 by omega)]
    decide
  have low : ∀ x : Nat, x < 4294967296 → (x / 2).testBit 31 = false := fun x hx => Nat.testBit_lt_two_pow (show x / 2 < 2 ^ 31 by omega)
  unfold crc1 at h
  split at h
  · split at h
    · have h2 := congrArg (· ^^^ 3988292384) h
      simp only [Nat.xor_assoc, Nat.xor_self, Nat.xor_zero] at h2
      omega
    · have := congrArg (·.testBit 31) h
      simp only [top a ha, low b hb] at this
      cases this
  · split at h
    · have := congrArg (·.testBit 31) h
      simp only [top b hb, low a ha] at this
      cases this
    · omega
theorem crcJ_inj {a b : Nat} (ha : a < 4294967296) (hb : b < 4294967296) : ∀ j, crcJ j a = crcJ j b → a = b
  | 0, h => h
  | j + 1, h => crcJ_inj ha hb j (crc1_inj (crcJ_lt ha j) (crcJ_lt hb j) h)
theorem crcB_inj {c x c' x' : Nat} (hc : c < 4294967296) (hx : x ≤ 255) (hc' : c' < 4294967296) (hx' : x' ≤ 255) (h : crcB c x = crcB c' x') : c ^^^ x = c' ^^^ x' :=
  crcJ_inj (Nat.xor_lt_two_pow (n := 32) (by omega) (by omega)) (Nat.xor_lt_two_pow (n := 32) (by omega) (by omega)) 8 h
theorem xor_l {a b c : Nat} (h : a ^^^ b = a ^^^ c) : b = c := by
  have h2 := congrArg (a ^^^ ·) h
  simp only [← Nat.xor_assoc, Nat.xor_self, Nat.zero_xor] at h2
  exact h2
theorem xor_r {a b c : Nat} (h : b ^^^ a = c ^^^ a) : b = c := by
  rw [Nat.xor_comm b, Nat.xor_comm c] at h; exact xor_l h
theorem crcTo_one {s t : ByteArray} {k : Nat} (hk : BY s k ≠ BY t k) (hs : ∀ j, j ≠ k → BY s j = BY t j) : ∀ i, (i ≤ k → crcTo s i = crcTo t i) ∧ (k < i → crcTo s i ≠ crcTo t i)
  | 0 => ⟨fun _ => rfl, fun h => absurd h (by omega)⟩
  | i + 1 => by
    obtain ⟨h1, h2⟩ := crcTo_one hk hs i
    refine ⟨fun h => ?_, fun h e => ?_⟩
    · show crcB _ _ = crcB _ _
      rw [h1 (by omega), hs i (by omega)]
    · have hx := crcB_inj (crcTo_lt s i) (BY_le s i) (crcTo_lt t i) (BY_le t i) e
      by_cases hik : i = k
      · subst hik
        rw [h1 (Nat.le_refl _)] at hx
        exact hk (xor_l hx)
      · rw [hs i hik] at hx
        exact h2 (by omega) (xor_r hx)
theorem sum_num {s t : ByteArray} (h : ∀ j, j < 4 → BY (bys (sumL s)) j = BY (bys (sumL t)) j) : crcTo s s.size = crcTo t t.size := by
  have a := crcTo_lt s s.size
  have b := crcTo_lt t t.size
  have q : ∀ u : ByteArray, ∀ m : Nat, m < 4294967296 → ∀ l, l = twoL (m / 65536) ++ twoL (m % 65536) → BY (bys l) 0 = m / 65536 / 256 ∧ BY (bys l) 1 = m / 65536 % 256 ∧ BY (bys l) 2 = m % 65536 / 256 ∧ BY (bys l) 3 = m % 65536 % 256 := by
    intro u m hm l hl
    subst hl
    exact ⟨bys_BY _ rfl (by omega), bys_BY _ rfl (by omega), bys_BY _ rfl (by omega), bys_BY _ rfl (by omega)⟩
  obtain ⟨a0, a1, a2, a3⟩ := q s (4294967295 - crcTo s s.size) (by omega) (sumL s) rfl
  obtain ⟨b0, b1, b2, b3⟩ := q t (4294967295 - crcTo t t.size) (by omega) (sumL t) rfl
  have h0 := h 0 (by omega)
  have h1 := h 1 (by omega)
  have h2 := h 2 (by omega)
  have h3 := h 3 (by omega)
  rw [a0, b0] at h0
  rw [a1, b1] at h1
  rw [a2, b2] at h2
  rw [a3, b3] at h3
  omega
theorem mar_turned (t t' : ByteArray) (r r' : Nat) {i : Nat} (hz : (mar t r).size = (mar t' r').size) (hne : BY (mar t r) i ≠ BY (mar t' r') i) (hsame : ∀ j, j ≠ i → BY (mar t r) j = BY (mar t' r') j) : False := by
  unfold mar at *
  rw [← bys_app, ← bys_app] at *
  have z4 : ∀ s, (bys (sumL s)).size = 4 := fun s => by rw [bys_size]; rfl
  generalize hu : bys (marL t r) = u at *
  generalize hv : bys (marL t' r') = v at *
  have hs : u.size = v.size := by
    rw [ByteArray.size_append, ByteArray.size_append, z4, z4] at hz; omega
  by_cases hi : i < u.size
  · have hk : BY u i ≠ BY v i := by
      rw [by_left _ _ hi, by_left _ _ (hs ▸ hi)] at hne; exact hne
    have hsm : ∀ j, j ≠ i → BY u j = BY v j := fun j hj => by
      by_cases hju : j < u.size
      · have := hsame j hj
        rw [by_left _ _ hju, by_left _ _ (hs ▸ hju)] at this; exact this
      · unfold BY
        rw [dif_neg hju, dif_neg (hs ▸ hju)]
    have h1 := (crcTo_one hk hsm u.size).2 hi
    refine h1 ?_
    have h2 := sum_num (s := u) (t := v) (fun j hj => by
      have := hsame (u.size + j) (by omega)
      rw [by_right _ _ (by rw [z4]; exact hj)] at this
      rw [this, hs, by_right _ _ (by rw [z4]; exact hj)])
    rw [h2, hs]
  · have e : u = v := by_ext hs (fun j hj => by
      have := hsame j (by omega)
      rw [by_left _ _ hj, by_left _ _ (hs ▸ hj)] at this; exact this)
    subst e
    exact hne rfl
/-! and one byte more or less is none -/
theorem mar_len {t : ByteArray} {r : Nat} (h : BuildOk t (r : Nat)) : (mar t r).size = atC (mar t r) 256 + (((bitsOf t).length + 7) / 8 + 4) := by
  have m := isMar h
  have h1 := atC_ok m.sz m.ok
  have h2 := rest_size t r
  rw [← rest_extract, ByteArray.size_extract] at h2
  omega
theorem bits_same {t t' : ByteArray} (hf : cntB t t.size = cntB t' t'.size) : (bitsOf t).length = (bitsOf t').length := by
  have q : ∀ u : ByteArray, (bitsOf u).length = sm 256 fun c => cntB u u.size c * (kT u c).length := fun u => by
    rw [bits_len, ← sm_cat]
    have := trn_cnt u
    rw [trn_size] at this
    rw [this]
  rw [q, q]
  unfold kT
  rw [hf]
theorem mar_more {t t' : ByteArray} {r r' : Nat} (h : BuildOk t (r : Nat)) (h' : BuildOk t' (r' : Nat)) {x : ByteArray} (he : mar t r ++ x = mar t' r') : x.size = 0 := by
  have m := isMar h
  have m' := isMar h'
  have l := mar_len h
  have l' := mar_len h'
  rw [← he] at m' l'
  generalize mar t r = d at *
  have hsz := m.sz
  have hset : ∀ c, c < 256 → setB (d ++ x) c = setB d c := fun c hc => by
    unfold setB
    rw [by_left _ _ (by omega)]
  have hat : ∀ c, c ≤ 256 → atC (d ++ x) c = atC d c := by
    intro c
    induction c with
    | zero => intro _; rfl
    | succ c ih =>
      intro hc
      simp only [atC]
      rw [ih (by omega), hset c (by omega)]
  have hf : fTo (d ++ x) 256 = fTo d 256 := by
    funext c
    unfold fTo
    by_cases hc : c < 256
    · rw [if_pos hc, if_pos hc]
      unfold fD
      rw [hset c hc, hat c (by omega)]
      by_cases h1 : setB d c = 1
      · have := m.ok c hc h1
        rw [if_pos h1, if_pos h1]
        unfold numA
        rw [by_left _ _ (by omega), by_left _ _ (by omega)]
      · rw [if_neg h1, if_neg h1]
    · rw [if_neg hc, if_neg hc]
  have hb := bits_same (t := t) (t' := t') (by rw [← m.f, ← m'.f, hf])
  rw [hat 256 (Nat.le_refl _), ← hb, ByteArray.size_append] at l'
  omega
structure Lay.Says4 (PI : Lay) : Prop where
  marshal : ∀ (a z b : Nat) (t : ByteArray) (rate : Int) (w : World), PI a z b t rate w → BuildOk t rate → Calls Tryz.prog 19 #[.pointer (some ⟨b, 0, none⟩)] w fun e w' => e = .returned (.string (mar t rate.toNat)) ∧ Below w.heap.size w w'
  unmarshal : ∀ (d : ByteArray) (w : World), d.size ≤ 1099511627776 → Calls Tryz.prog 20 #[.string d] w fun e w' =>
    ((∃ t r b, Mar d t r ∧ e = .returned (.tuple #[.pointer (some ⟨b, 0, none⟩), .int .i64 0]) ∧ PI w.heap.size w'.heap.size b t (r : Nat) w') ∨ ((∀ t r, ¬ Mar d t r) ∧ e = .returned (.tuple #[.pointer none, .int .i64 4]))) ∧ Below w.heap.size w w'
end Go.Proofs.YtopihgmemnokkaaGreat
namespace Go.Proofs.YtopihgmemnokkaaGreat
open Go.RowKit
/-! how the landed code reads an index's bytes -/
def kdA (i tl : Nat) : Nat := if i = 0 then 0 else if 7 ≤ i ∧ i < 39 then 3 else if 39 + 2 * tl ≤ i then 4 else if i % 2 = 1 then 1 else 2
structure RSt where
  N : List Nat
  T : List Nat
  K : Nat
def flA (x least : Nat) : Nat → List Nat
  | 0 => []
  | i + 1 => if x / 2 ^ i % 2 = 1 then flA x least i ++ [least + i] else flA x least i
theorem flA_len (x least : Nat) : ∀ i, (flA x least i).length ≤ i
  | 0 => by simp [flA]
  | i + 1 => by
    have := flA_len x least i
    simp only [flA]
    split
    · simp; omega
    · omega
def lastA (N : List Nat) (x : Nat) : List Nat := N.set (N.length - 1) (N.getD (N.length - 1) 0 * 256 + x)
def tkA (s : RSt) (i x : Nat) : RSt :=
  if kdA i s.T.length = 1 then ⟨s.N ++ [x], s.T, s.K⟩
  else if kdA i s.T.length = 2 then ⟨lastA s.N x, s.T, s.K⟩
  else if kdA i s.T.length = 3 then ⟨s.N, s.T ++ flA x (8 * (i - 7)) 8, s.K⟩
  else if kdA i s.T.length = 4 then ⟨s.N, s.T, s.K + 1⟩ else s
def rdA (d : ByteArray) : Nat → RSt
  | 0 => ⟨[], [], 0⟩
  | i + 1 => tkA (rdA d i) i (BY d i)
def tT (d : ByteArray) : Nat → List Nat
  | 0 => []
  | c + 1 => if setB d c = 1 then tT d c ++ [c] else tT d c
theorem tT_at (d : ByteArray) : ∀ c, atC d c = 39 + 2 * (tT d c).length
  | 0 => rfl
  | c + 1 => by
    have := tT_at d c
    simp only [atC, tT]
    split
    · simp; omega
    · exact this
theorem tT_len (d : ByteArray) : ∀ c, (tT d c).length ≤ c
  | 0 => by simp [tT]
  | c + 1 => by
    have := tT_len d c
    simp only [tT]
    split
    · simp; omega
    · omega
theorem tT_lt (d : ByteArray) : ∀ c x, x ∈ tT d c → x < c
  | 0, x, h => by simp [tT] at h
  | c + 1, x, h => by
    simp only [tT] at h
    split at h
    · rcases List.mem_append.1 h with h1 | h1
      · have := tT_lt d c x h1; omega
      · have : x = c := by simpa using h1
        omega
    · have := tT_lt d c x h; omega
theorem tT_pre (d : ByteArray) {c : Nat} : ∀ m, c ≤ m → ∃ r, tT d m = tT d c ++ r
  | 0, h => ⟨[], by have : c = 0 := by omega
                    subst this; simp⟩
  | m + 1, h => by
    by_cases e : c = m + 1
    · subst e; exact ⟨[], by simp⟩
    · obtain ⟨r, hr⟩ := tT_pre d (c := c) m (by omega)
      simp only [tT]
      split
      · exact ⟨r ++ [m], by rw [hr, List.append_assoc]⟩
      · exact ⟨r, hr⟩
theorem tT_here (d : ByteArray) {c : Nat} (hc : c < 256) (h : setB d c = 1) : (tT d 256).getD (tT d c).length 0 = c := by
  obtain ⟨r, hr⟩ := tT_pre d (c := c + 1) 256 (by omega)
  rw [hr]
  simp only [tT]
  rw [if_pos h]
  simp
theorem tT_fl (d : ByteArray) (j : Nat) : ∀ i, i ≤ 8 → tT d (8 * j + i) = tT d (8 * j) ++ flA (BY d (7 + j)) (8 * j) i
  | 0, _ => by simp [flA]
  | i + 1, hi => by
    have ih := tT_fl d j i (by omega)
    have hs : setB d (8 * j + i) = BY d (7 + j) / 2 ^ i % 2 := by
      unfold setB
      rw [show (8 * j + i) / 8 = j by omega, show (8 * j + i) % 8 = i by omega]
    show (if setB d (8 * j + i) = 1 then tT d (8 * j + i) ++ [8 * j + i] else tT d (8 * j + i)) = _
    rw [hs, ih]
    simp only [flA]
    split
    · rw [List.append_assoc]
    · rfl
theorem rdA_7 (d : ByteArray) : rdA d 7 = ⟨[numA d 1, numA d 3, numA d 5], [], 0⟩ := by
  simp [rdA, tkA, kdA, lastA, numA]
theorem rdA_flags (d : ByteArray) : ∀ j, j ≤ 32 → rdA d (7 + j) = ⟨[numA d 1, numA d 3, numA d 5], tT d (8 * j), 0⟩
  | 0, _ => rdA_7 d
  | j + 1, hj => by
    have ih := rdA_flags d j (by omega)
    show tkA (rdA d (7 + j)) (7 + j) (BY d (7 + j)) = _
    rw [ih]
    unfold tkA
    have hk : kdA (7 + j) (tT d (8 * j)).length = 3 := by
      unfold kdA
      rw [if_neg (by omega), if_pos (by omega)]
    simp only [hk]
    rw [show 7 + j - 7 = j by omega, ← tT_fl d j 8 (Nat.le_refl _)]
    simp [Nat.mul_add]
def nvA (d : ByteArray) (m j : Nat) : Nat := if 39 + 2 * j + 1 < m then numA d (39 + 2 * j) else BY d (39 + 2 * j)
def numsA (d : ByteArray) (m q : Nat) : List Nat := (List.range q).map (nvA d m)
theorem numsA_len (d : ByteArray) (m q : Nat) : (numsA d m q).length = q := by simp [numsA]
theorem numsA_congr (d : ByteArray) {m m' q : Nat} (h : ∀ j, j < q → nvA d m j = nvA d m' j) : numsA d m q = numsA d m' q := by
  unfold numsA
  exact List.map_congr_left fun j hj => h j (by simpa using hj)
theorem nvA_lt (d : ByteArray) (m j : Nat) : nvA d m j < 65536 := by
  unfold nvA
  split
  · exact numA_lt _ _
  · have := BY_le d (39 + 2 * j); omega
theorem rdA_tail (d : ByteArray) : ∀ k, rdA d (39 + k) = ⟨[numA d 1, numA d 3, numA d 5] ++ numsA d (39 + k) (min ((k + 1) / 2) (tT d 256).length), tT d 256, k - 2 * (tT d 256).length⟩
  | 0 => by
    have h := rdA_flags d 32 (Nat.le_refl _)
    rw [show 39 + 0 = 7 + 32 from rfl, h]
    simp [numsA]
  | k + 1 => by
    have ih := rdA_tail d k
    generalize hl : (tT d 256).length = tl at *
    show tkA (rdA d (39 + k)) (39 + k) (BY d (39 + k)) = _
    rw [ih]
    unfold tkA
    simp only [hl]
    by_cases h4 : 2 * tl ≤ k
    · have hk : kdA (39 + k) tl = 4 := by
        unfold kdA
        rw [if_neg (by omega), if_neg (by omega), if_pos (by omega)]
      simp only [hk]
      rw [show min ((k + 1) / 2) tl = tl by omega, show min ((k + 1 + 1) / 2) tl = tl by omega, show k + 1 - 2 * tl = k - 2 * tl + 1 by omega]
      rw [numsA_congr d (m := 39 + k) (m' := 39 + (k + 1)) (q := tl) (fun j hj => by
        unfold nvA
        rw [if_pos (by omega), if_pos (by omega)])]
      simp
    · rcases Nat.mod_two_eq_zero_or_one k with h0 | h1
      · have hk : kdA (39 + k) tl = 1 := by
          unfold kdA
          rw [if_neg (by omega), if_neg (by omega), if_neg (by omega), if_pos (by omega)]
        simp only [hk]
        rw [show min ((k + 1) / 2) tl = k / 2 by omega, show min ((k + 1 + 1) / 2) tl = k / 2 + 1 by omega, show k + 1 - 2 * tl = k - 2 * tl by omega]
        have e : numsA d (39 + (k + 1)) (k / 2 + 1) = numsA d (39 + k) (k / 2) ++ [BY d (39 + k)] := by
          rw [numsA_congr d (m := 39 + k) (m' := 39 + (k + 1)) (q := k / 2) (fun j hj => by
            unfold nvA
            rw [if_pos (by omega), if_pos (by omega)])]
          unfold numsA
          rw [List.range_succ, List.map_append]
          congr 1
          simp only [List.map_cons, List.map_nil]
          unfold nvA
          rw [if_neg (by omega), show 39 + 2 * (k / 2) = 39 + k by omega]
        rw [e]
        simp
      · have hk : kdA (39 + k) tl = 2 := by
          unfold kdA
          rw [if_neg (by omega), if_neg (by omega), if_neg (by omega), if_neg (by omega)]
        simp only [hk]
        rw [show min ((k + 1) / 2) tl = k / 2 + 1 by omega, show min ((k + 1 + 1) / 2) tl = k / 2 + 1 by omega, show k + 1 - 2 * tl = k - 2 * tl by omega]
        have e0 : numsA d (39 + k) (k / 2 + 1) = numsA d (39 + k) (k / 2) ++ [BY d (39 + 2 * (k / 2))] := by
          unfold numsA
          rw [List.range_succ, List.map_append]
          congr 1
          simp only [List.map_cons, List.map_nil]
          unfold nvA
          rw [if_neg (by omega)]
        have e1 : numsA d (39 + (k + 1)) (k / 2 + 1) = numsA d (39 + k) (k / 2) ++ [numA d (39 + 2 * (k / 2))] := by
          rw [numsA_congr d (m := 39 + k) (m' := 39 + (k + 1)) (q := k / 2) (fun j hj => by
            unfold nvA
            rw [if_pos (by omega), if_pos (by omega)])]
          unfold numsA
          rw [List.range_succ, List.map_append]
          congr 1
          simp only [List.map_cons, List.map_nil]
          unfold nvA
          rw [if_pos (by omega)]
        have el : lastA ([numA d 1, numA d 3, numA d 5] ++ numsA d (39 + k) (k / 2 + 1)) (BY d (39 + k)) = [numA d 1, numA d 3, numA d 5] ++ numsA d (39 + (k + 1)) (k / 2 + 1) := by
          rw [e0, e1, ← List.append_assoc, ← List.append_assoc]
          generalize [numA d 1, numA d 3, numA d 5] ++ numsA d (39 + k) (k / 2) = l
          unfold lastA numA
          have hll : (l ++ [BY d (39 + 2 * (k / 2))]).length - 1 = l.length := by simp
          rw [hll, List.set_append_right _ _ (Nat.le_refl _)]
          simp only [Nat.sub_self, List.set_cons_zero]
          rw [show 39 + k = 39 + 2 * (k / 2) + 1 by omega]
          simp
        rw [el]
        simp
structure RSt.Ok (s : RSt) (i : Nat) : Prop where
  low : ∀ x ∈ s.N, x < 65536
  last : kdA i s.T.length = 2 → 0 < s.N.length
  nl : s.N.length ≤ 259
  tl : s.T.length ≤ 256
  tb : ∀ x ∈ s.T, x < 256
  kl : s.K ≤ i
theorem rdA_ok (d : ByteArray) (i : Nat) : (rdA d i).Ok i := by
  have b1 := BY_le d 1
  have b3 := BY_le d 3
  have b5 := BY_le d 5
  have n1 := numA_lt d 1
  have n3 := numA_lt d 3
  have n5 := numA_lt d 5
  rcases Nat.lt_or_ge i 39 with h | h
  · rcases Nat.lt_or_ge i 7 with h7 | h7
    · have h1 : rdA d 1 = ⟨[], [], 0⟩ := by simp [rdA, tkA, kdA]
      have h2 : rdA d 2 = ⟨[BY d 1], [], 0⟩ := by rw [rdA, h1]; simp [tkA, kdA]
      have h3 : rdA d 3 = ⟨[numA d 1], [], 0⟩ := by rw [rdA, h2]; simp [tkA, kdA, lastA, numA]
      have h4 : rdA d 4 = ⟨[numA d 1, BY d 3], [], 0⟩ := by rw [rdA, h3]; simp [tkA, kdA]
      have h5 : rdA d 5 = ⟨[numA d 1, numA d 3], [], 0⟩ := by rw [rdA, h4]; simp [tkA, kdA, lastA, numA]
      have h6 : rdA d 6 = ⟨[numA d 1, numA d 3, BY d 5], [], 0⟩ := by rw [rdA, h5]; simp [tkA, kdA]
      have q : i = 0 ∨ i = 1 ∨ i = 2 ∨ i = 3 ∨ i = 4 ∨ i = 5 ∨ i = 6 := by omega
      rcases q with rfl | rfl | rfl | rfl | rfl | rfl | rfl
      · exact ⟨by simp [rdA], by simp [kdA], by simp [rdA], by simp [rdA], by simp [rdA], by simp [rdA]⟩
      · rw [h1]; exact ⟨by simp, by simp [kdA], by simp, by simp, by simp, by simp⟩
      · rw [h2]; exact ⟨by simp; omega, by simp, by simp, by simp, by simp, by simp⟩
      · rw [h3]; exact ⟨by simp; omega, by simp, by simp, by simp, by simp, by simp⟩
      · rw [h4]; exact ⟨by simp; omega, by simp, by simp, by simp, by simp, by simp⟩
      · rw [h5]; exact ⟨by simp; omega, by simp, by simp, by simp, by simp, by simp⟩
      · rw [h6]; exact ⟨by simp; omega, by simp, by simp, by simp, by simp, by simp⟩
    · obtain ⟨j, rfl⟩ : ∃ j, i = 7 + j := ⟨i - 7, by omega⟩
      rw [rdA_flags d j (by omega)]
      refine ⟨by simp; omega, by simp, by simp, ?_, fun x hx => ?_, by simp⟩
      · have := tT_len d (8 * j); show (tT d (8 * j)).length ≤ 256; omega
      · have := tT_lt d (8 * j) x hx; omega
  · obtain ⟨k, rfl⟩ : ∃ k, i = 39 + k := ⟨i - 39, by omega⟩
    rw [rdA_tail d k]
    have hl := tT_len d 256
    refine ⟨fun x hx => ?_, by simp, ?_, hl, fun x hx => tT_lt d 256 x hx, by show k - _ ≤ _; omega⟩
    · rcases List.mem_append.1 hx with h1 | h1
      · simp at h1; omega
      · unfold numsA at h1
        obtain ⟨j, _, rfl⟩ := List.mem_map.1 h1
        exact nvA_lt _ _ _
    · show ([numA d 1, numA d 3, numA d 5] ++ numsA d (39 + k) (min ((k + 1) / 2) (tT d 256).length)).length ≤ 259
      rw [List.length_append, numsA_len]
      simp only [List.length_cons, List.length_nil]
      omega
def cfR (T O : List Nat) : Nat → Nat → Nat
  | 0 => fun _ => 0
  | j + 1 => Cc.put (cfR T O j) (T.getD j 0) (O.getD j 0)
theorem cfR_le {T O : List Nat} {B : Nat} (h : ∀ x ∈ O, x ≤ B) : ∀ j c, cfR T O j c ≤ B
  | 0, c => Nat.zero_le _
  | j + 1, c => by
    have := cfR_le (T := T) h j c
    show Cc.put _ _ _ c ≤ B
    unfold Cc.put
    split
    · rw [List.getD_eq_getElem?_getD]
      rcases ho : O[j]? with _ | x
      · simp
      · exact h x (List.mem_of_getElem? ho)
    · exact this
theorem cfR_read {d : ByteArray} {O : List Nat} (hO : ∀ j, j < (tT d 256).length → O.getD j 0 = numA d (39 + 2 * j)) : ∀ c, c ≤ 256 → cfR (tT d 256) O (tT d c).length = fTo d c
  | 0, _ => by
    funext c
    show 0 = fTo d 0 c
    unfold fTo
    rw [if_neg (by omega)]
  | c + 1, hc => by
    have ih := cfR_read hO c (by omega)
    obtain ⟨r, hr⟩ := tT_pre d (c := c + 1) 256 (by omega)
    have hlen := congrArg List.length hr
    rw [List.length_append] at hlen
    have hh := fun h => tT_here d (c := c) (by omega) h
    have e1 : tT d (c + 1) = if setB d c = 1 then tT d c ++ [c] else tT d c := rfl
    clear hr
    generalize tT d 256 = T at *
    funext e
    rw [← fTo_put d c e]
    rw [e1] at hlen ⊢
    by_cases h : setB d c = 1
    · rw [if_pos h] at hlen ⊢
      rw [List.length_append] at hlen ⊢
      simp only [List.length_cons, List.length_nil] at hlen ⊢
      show Cc.put (cfR T O (tT d c).length) (T.getD (tT d c).length 0) (O.getD (tT d c).length 0) e = _
      rw [ih, hh h, hO _ (by omega), ← tT_at]
      unfold fD
      rw [if_pos h]
    · rw [if_neg h, ih]
      unfold Cc.put fD
      rw [if_neg h]
      split
      · next h1 => subst h1; unfold fTo; rw [if_neg (by omega)]
      · rfl
def goA (k : Nat → List Bool) (s : ByteArray) (K n i : Nat) : Prop := i < 8 * K ∧ (uS k s i).1.length < n
def StopA (k : Nat → List Bool) (s : ByteArray) (K n i : Nat) : Prop := ¬ goA k s K n i ∧ ∀ j, j < i → goA k s K n j
theorem mar_read {d t : ByteArray} {r : Nat} (h : Mar d t r) : (rdA d (d.size - 4)).N = [r, t.size, fw t] ++ numsA d (d.size - 4) (tT d 256).length ∧ (rdA d (d.size - 4)).T = tT d 256 ∧ (rdA d (d.size - 4)).K = d.size - 4 - atC d 256 ∧
    cfR (tT d 256) (numsA d (d.size - 4) (tT d 256).length) (tT d 256).length = cntB t t.size ∧
    ∀ i, StopA (kT t) (d.extract (atC d 256) d.size) (d.size - 4 - atC d 256) t.size i → bys (uS (kT t) (d.extract (atC d 256) d.size) i).1 = trn t := by
  obtain ⟨hb, rfl⟩ := h
  have m := isMar hb
  have hl := mar_len hb
  have hat := tT_at (mar t r) 256
  have hr := rdA_tail (mar t r) ((mar t r).size - 43)
  have hsz := m.sz
  rw [show 39 + ((mar t r).size - 43) = (mar t r).size - 4 by omega] at hr
  rw [show min (((mar t r).size - 43 + 1) / 2) (tT (mar t r) 256).length = (tT (mar t r) 256).length by omega] at hr
  refine ⟨?_, ?_, ?_, ?_, fun i hi => ?_⟩
  · rw [hr, m.n1, m.n3, m.n5]
  · rw [hr]
  · rw [hr]
    show _ - _ = _
    omega
  · rw [cfR_read (fun j hj => ?_) 256 (Nat.le_refl _), m.f]
    unfold numsA
    rw [List.getD_eq_getElem?_getD, List.getElem?_map, List.getElem?_range hj]
    show nvA _ _ _ = _
    unfold nvA
    rw [if_pos (by omega)]
  · obtain ⟨q1, q2⟩ := read_mar t r hb.1
    rw [m.rest] at hi ⊢
    have hK : (mar t r).size - 4 - atC (mar t r) 256 = ((bitsOf t).length + 7) / 8 := by omega
    rw [hK] at hi
    have h1 : ∀ j, j < (bitsOf t).length → goA (kT t) (bys (restM t r)) (((bitsOf t).length + 7) / 8) t.size j := fun j hj => by
      have h2 := q1.2 j hj
      unfold stopU at h2
      exact ⟨by omega, by omega⟩
    have h3 : ¬ goA (kT t) (bys (restM t r)) (((bitsOf t).length + 7) / 8) t.size (bitsOf t).length := fun h => by
      have h4 := congrArg ByteArray.size q2
      rw [bys_size, trn_size] at h4
      have := h.2
      omega
    have hi2 : i = (bitsOf t).length := by
      rcases Nat.lt_trichotomy i (bitsOf t).length with e | e | e
      · exact absurd (h1 i e) hi.1
      · exact e
      · exact absurd (hi.2 _ e) h3
    rw [hi2]
    exact q2
theorem bits_eight (t : ByteArray) (ht : t.size ≤ 1000) : (bitsOf t).length ≤ 8 * t.size := by
  have hw : ∀ u, (Hf.bytes u).Nodup → (∀ c ∈ Hf.bytes u, c < 256) → Hf.wt (cntB t t.size) u ≤ 1000 := fun u hn _ => by
    rw [wt_list]; exact Nat.le_trans (cnt_list t t.size _ hn) ht
  have CD : Codes (cntB t t.size) (kT t) := codes_of (codesG_of _) hw
  have h1 : (bitsOf t).length = sm 256 fun c => cntB t t.size c * (kT t c).length := by
    rw [bits_len, ← sm_cat]
    have := trn_cnt t
    rw [trn_size] at this
    rw [this]
  have h2 := CD.opt 8 (fun _ => 8) (fun c _ _ => ⟨by omega, by omega⟩) (by
    have : (sm 256 fun c => if 0 < cntB t t.size c then 2 ^ (8 - 8) else 0) ≤ sm 256 fun _ => 1 := sm_le fun c _ => by
      show (if _ then 2 ^ (8 - 8) else 0) ≤ 1
      split <;> simp
    have h3 : (sm 256 fun _ => 1) ≤ 256 * 1 := sm_bound (fun _ _ => Nat.le_refl 1)
    have h4 : (2 : Nat) ^ 8 = 256 := by decide
    omega)
  have h5 : (sm 256 fun c => if 0 < cntB t t.size c then cntB t t.size c * 8 else 0) ≤ 8 * sm 256 (cntB t t.size) := by
    have q : ∀ n, (sm n fun c => if 0 < cntB t t.size c then cntB t t.size c * 8 else 0) ≤ 8 * sm n (cntB t t.size) := fun n => by
      induction n with
      | zero => exact Nat.le_refl _
      | succ n ih =>
        show sm n _ + _ ≤ 8 * (sm n _ + _)
        show sm n (fun c => if 0 < cntB t t.size c then cntB t t.size c * 8 else 0) + (if 0 < cntB t t.size n then cntB t t.size n * 8 else 0) ≤ _
        have : (if 0 < cntB t t.size n then cntB t t.size n * 8 else 0) ≤ 8 * cntB t t.size n := by split <;> omega
        omega
    exact q 256
  have h6 := sm_cnt t
  omega
theorem mar_least {t : ByteArray} {r : Nat} (h : BuildOk t (r : Nat)) : 43 ≤ (mar t r).size ∧ (mar t r).size ≤ 1555 := by
  have h1 := mar_len h
  have h2 := atC_le (mar t r) 256
  have h3 := bits_eight t h.1
  have h4 := h.1
  exact ⟨mar_size t r, by omega⟩
end Go.Proofs.YtopihgmemnokkaaGreat
