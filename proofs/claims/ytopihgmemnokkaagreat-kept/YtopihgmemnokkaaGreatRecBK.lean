import Derived.Test.YtopihgmemnokkaaGreatMarAK
import Derived.Test.YtopihgmemnokkaaGreatBitW6K
namespace Go.Proofs.YtopihgmemnokkaaGreat
open Go.RowKit
/-! how the landed code writes an index's bytes -/
def dgA (size n j : Nat) : List Nat := (List.range j).map fun i => n / 2 ^ (8 * (size - 1 - i)) % 256
theorem dgA_succ (size n j : Nat) : dgA size n (j + 1) = dgA size n j ++ [n / 2 ^ (8 * (size - 1 - j)) % 256] := by simp [dgA, List.range_succ]
theorem dgA_len (size n j : Nat) : (dgA size n j).length = j := by simp [dgA]
theorem dgA_two {n : Nat} (h : n < 65536) : dgA 2 n 2 = twoL n := by
  have e : n / 256 % 256 = n / 256 := by omega
  simp [dgA, List.range_succ, twoL, e]
theorem dgA_four {n : Nat} (h : n < 4294967296) : dgA 4 n 4 = twoL (n / 65536) ++ twoL (n % 65536) := by
  have e1 : n / 16777216 % 256 = n / 65536 / 256 := by omega
  have e2 : n / 65536 % 256 = n / 65536 % 256 := rfl
  have e3 : n / 256 % 256 = n % 65536 / 256 := by omega
  have e4 : n % 256 = n % 65536 % 256 := by omega
  simp [dgA, List.range_succ, twoL]
  omega
def dgsA (size : Nat) (ns : List Nat) : List Nat := ns.flatMap fun n => dgA size n size
theorem dgsA_take (size : Nat) (ns : List Nat) {i x : Nat} (h : ns[i]? = some x) : dgsA size (ns.take (i + 1)) = dgsA size (ns.take i) ++ dgA size x size := by
  have e : ns.take (i + 1) = ns.take i ++ [x] := by
    rw [List.take_add_one, h]; rfl
  rw [e]
  unfold dgsA
  rw [List.flatMap_append]
  simp
theorem dgsA_len (size : Nat) (ns : List Nat) : (dgsA size ns).length = size * ns.length := by
  induction ns with
  | nil => simp [dgsA]
  | cons a l ih =>
    unfold dgsA at *
    rw [List.flatMap_cons, List.length_append, ih, dgA_len, List.length_cons, Nat.mul_add]
    omega
def ofA (f : Nat → Nat) : Nat → List Nat
  | 0 => []
  | c + 1 => if 0 < f c then ofA f c ++ [f c] else ofA f c
theorem ofA_len (f : Nat → Nat) : ∀ c, (ofA f c).length ≤ c
  | 0 => by simp [ofA]
  | c + 1 => by
    have := ofA_len f c
    simp only [ofA]
    split
    · simp; omega
    · omega
theorem ofA_low {f : Nat → Nat} {B : Nat} (h : ∀ c, f c ≤ B) : ∀ c x, x ∈ ofA f c → x ≤ B
  | 0, x, hx => by simp [ofA] at hx
  | c + 1, x, hx => by
    simp only [ofA] at hx
    split at hx
    · rcases List.mem_append.1 hx with h1 | h1
      · exact ofA_low h c x h1
      · have : x = f c := by simpa using h1
        rw [this]; exact h c
    · exact ofA_low h c x hx
theorem cnL_ofA {f : Nat → Nat} (h : ∀ c, f c < 65536) : ∀ c, dgsA 2 (ofA f c) = cnL f c
  | 0 => rfl
  | c + 1 => by
    have ih := cnL_ofA h c
    simp only [ofA, cnL]
    split
    · rw [← ih]
      unfold dgsA
      rw [List.flatMap_append]
      simp [dgA_two (h c)]
    · exact ih
def loA (f : Nat → Nat) (j : Nat) : Nat → Nat
  | 0 => 0
  | m + 1 => loA f j m + (if 0 < f (8 * j + m) then 1 else 0) * 2 ^ m
theorem loA_lt (f : Nat → Nat) (j : Nat) : ∀ m, loA f j m < 2 ^ m
  | 0 => by simp [loA]
  | m + 1 => by
    have := loA_lt f j m
    simp only [loA]
    rw [Nat.pow_succ]
    split <;> omega
theorem loA_th (f : Nat → Nat) (j : Nat) : loA f j 8 = th f j 8 := by
  simp only [loA, th]
  simp only [Nat.reduceSub, Nat.reducePow, Nat.add_zero]
  generalize (if 0 < f (8 * j) then 1 else 0) = x0
  generalize (if 0 < f (8 * j + 1) then 1 else 0) = x1
  generalize (if 0 < f (8 * j + 2) then 1 else 0) = x2
  generalize (if 0 < f (8 * j + 3) then 1 else 0) = x3
  generalize (if 0 < f (8 * j + 4) then 1 else 0) = x4
  generalize (if 0 < f (8 * j + 5) then 1 else 0) = x5
  generalize (if 0 < f (8 * j + 6) then 1 else 0) = x6
  generalize (if 0 < f (8 * j + 7) then 1 else 0) = x7
  omega
def flgA (f : Nat → Nat) (c j : Nat) : Nat := loA f j (min 8 (c - 8 * j))
theorem flgA_zero (f : Nat → Nat) (j : Nat) : flgA f 0 j = 0 := by simp [flgA, loA]
theorem flgA_all (f : Nat → Nat) {j : Nat} (h : j < 32) : flgA f 256 j = th f j 8 := by
  unfold flgA
  rw [show min 8 (256 - 8 * j) = 8 by omega, loA_th]
theorem flgA_other (f : Nat → Nat) {c j : Nat} (h : j ≠ c / 8) : flgA f (c + 1) j = flgA f c j := by
  unfold flgA
  rcases Nat.lt_or_ge j (c / 8) with h1 | h1
  · rw [show min 8 (c + 1 - 8 * j) = 8 by omega, show min 8 (c - 8 * j) = 8 by omega]
  · rw [show c + 1 - 8 * j = 0 by omega, show c - 8 * j = 0 by omega]
theorem flgA_low (f : Nat → Nat) (c : Nat) : flgA f c (c / 8) < 2 ^ (c % 8) := by
  unfold flgA
  rw [show min 8 (c - 8 * (c / 8)) = c % 8 by omega]
  exact loA_lt _ _ _
theorem flgA_here (f : Nat → Nat) (c : Nat) : flgA f (c + 1) (c / 8) = flgA f c (c / 8) + (if 0 < f c then 1 else 0) * 2 ^ (c % 8) := by
  unfold flgA
  rw [show min 8 (c + 1 - 8 * (c / 8)) = c % 8 + 1 by omega, show min 8 (c - 8 * (c / 8)) = c % 8 by omega]
  show loA f (c / 8) (c % 8) + (if 0 < f (8 * (c / 8) + c % 8) then 1 else 0) * 2 ^ (c % 8) = _
  rw [show 8 * (c / 8) + c % 8 = c by omega]
theorem thL_flgA (f : Nat → Nat) : (List.range 32).map (flgA f 256) = thL f 32 := by
  unfold thL
  exact List.map_congr_left fun j hj => flgA_all f (by simpa using hj)
def bitF (l : List Bool) (q : Nat) : Bool := l[q]?.getD false
theorem pre_pad (P : Nat → Bool) (m : Nat) : ∀ d, Bm.pre (fun q => decide (q < m) && P q) (m + d) = Bm.pre P m * 2 ^ d
  | 0 => by
    rw [Nat.add_zero, Nat.pow_zero, Nat.mul_one]
    exact Bm.pre_congr fun i hi => by simp [hi]
  | d + 1 => by
    have ih := pre_pad P m d
    show 2 * Bm.pre _ (m + d) + (decide (m + d < m) && P (m + d)).toNat = _
    rw [ih, Nat.pow_succ]
    have h0 : decide (m + d < m) = false := decide_eq_false (by omega)
    rw [h0, Bool.false_and]
    show 2 * (Bm.pre P m * 2 ^ d) + 0 = _
    rw [Nat.add_zero, Nat.mul_comm (2 ^ d) 2, ← Nat.mul_assoc, ← Nat.mul_assoc, Nat.mul_comm 2]
theorem word_byte (l : List Bool) {i : Nat} (hi : 8 * i < l.length) : Bm.wordAt (fun q => bitF l (64 * (i / 8) + q)) (min 64 (l.length - 64 * (i / 8))) / 2 ^ (56 - 8 * (i % 8)) % 256 = bv l i 8 := by
  generalize hm : min 64 (l.length - 64 * (i / 8)) = m
  have hm64 : m ≤ 64 := by omega
  have h1 := pre_pad (fun q => bitF l (64 * (i / 8) + q)) m (64 - m)
  have h2 : Bm.wordAt (fun q => bitF l (64 * (i / 8) + q)) m = Bm.pre (fun q => decide (q < m) && bitF l (64 * (i / 8) + q)) 64 := by
    unfold Bm.wordAt
    rw [← h1, show m + (64 - m) = 64 by omega]
  rw [h2]
  generalize hP : (fun q => decide (q < m) && bitF l (64 * (i / 8) + q)) = P
  have h3 := Bm.pre_div P (8 * (i % 8) + 8) (56 - 8 * (i % 8))
  rw [show 8 * (i % 8) + 8 + (56 - 8 * (i % 8)) = 64 by omega] at h3
  rw [h3]
  have hb : ∀ k, k < 8 → (P (8 * (i % 8) + k)).toNat = bitV l (8 * i + k) := fun k hk => by
    rw [← hP]
    show (decide (8 * (i % 8) + k < m) && bitF l (64 * (i / 8) + (8 * (i % 8) + k))).toNat = _
    rw [show 64 * (i / 8) + (8 * (i % 8) + k) = 8 * i + k by omega]
    unfold bitV bitF
    by_cases h : 8 * (i % 8) + k < m
    · simp [h]
    · rw [List.getElem?_eq_none (by omega)]; simp
  have e0 := hb 0 (by omega)
  have e1 := hb 1 (by omega)
  have e2 := hb 2 (by omega)
  have e3 := hb 3 (by omega)
  have e4 := hb 4 (by omega)
  have e5 := hb 5 (by omega)
  have e6 := hb 6 (by omega)
  have e7 := hb 7 (by omega)
  have c0 := bitV_le l (8 * i + 0)
  have c1 := bitV_le l (8 * i + 1)
  have c2 := bitV_le l (8 * i + 2)
  have c3 := bitV_le l (8 * i + 3)
  have c4 := bitV_le l (8 * i + 4)
  have c5 := bitV_le l (8 * i + 5)
  have c6 := bitV_le l (8 * i + 6)
  have c7 := bitV_le l (8 * i + 7)
  simp only [Bm.pre, bv]
  rw [show 8 * (i % 8) = 8 * (i % 8) + 0 from rfl, e0, show 8 * (i % 8) + 0 + 1 = 8 * (i % 8) + 1 from rfl, e1, show 8 * (i % 8) + 0 + 2 = 8 * (i % 8) + 2 from rfl, e2, show 8 * (i % 8) + 0 + 3 = 8 * (i % 8) + 3 from rfl, e3, show 8 * (i % 8) + 0 + 4 = 8 * (i % 8) + 4 from rfl, e4,
    show 8 * (i % 8) + 0 + 5 = 8 * (i % 8) + 5 from rfl, e5, show 8 * (i % 8) + 0 + 6 = 8 * (i % 8) + 6 from rfl, e6, show 8 * (i % 8) + 0 + 7 = 8 * (i % 8) + 7 from rfl, e7]
  omega
def runsA (G : Nat → Nat × Nat) (s : ByteArray) (n : Nat) : List (Nat × Nat) := (List.range n).map fun i => G (BY s i)
theorem runsA_get (G : Nat → Nat × Nat) (s : ByteArray) {n i : Nat} (h : i < n) : (runsA G s n)[i]? = some (G (BY s i)) := by simp [runsA, h]
theorem runsA_len (G : Nat → Nat × Nat) (s : ByteArray) (n : Nat) : (runsA G s n).length = n := by simp [runsA]
theorem rsum_runsA (G : Nat → Nat × Nat) (s : ByteArray) (n : Nat) : ∀ q, q ≤ n → rsum ((runsA G s n).take q) = cl (fun c => bl (G c)) s q
  | 0, _ => by simp [rsum, cl_zero]
  | q + 1, h => by
    rw [rsum_take _ (runsA_get G s (n := n) (i := q) (by omega)), rsum_runsA G s n q (by omega), cl_succ, bl_len]
theorem bl_get? (x : Nat × Nat) {i : Nat} (h : i < x.1) : (bl x)[i]? = some (decide (x.2 / 2 ^ (x.1 - 1 - i) % 2 = 1)) := by
  simp [bl, h]
theorem bitN (m : Nat) : (decide (m % 2 = 1)).toNat = m % 2 := by
  rcases Nat.mod_two_eq_zero_or_one m with h | h <;> simp [h]
theorem runsA_spells (G : Nat → Nat × Nat) (hG : ∀ c, c < 256 → (G c).1 ≤ 64 ∧ (G c).2 < 18446744073709551616) (s : ByteArray) (n : Nat) : Spells (bitF (cat (fun c => bl (G c)) s n)) 0 (runsA G s n) := by
  intro q x hx
  have hq : q < n := by
    have := (List.getElem?_eq_some_iff.1 hx).1
    rwa [runsA_len] at this
  rw [runsA_get G s hq] at hx
  have hx : G (BY s q) = x := by simpa using hx
  subst hx
  have hby := BY_le s q
  obtain ⟨g1, g2⟩ := hG (BY s q) (by omega)
  refine ⟨g1, g2, fun i hi => ?_⟩
  rw [rsum_runsA G s n q (by omega), Nat.zero_add]
  obtain ⟨r, hr⟩ := cat_to (fun c => bl (G c)) s (p := q + 1) (q := n) (by omega)
  have h1 : cat (fun c => bl (G c)) s (q + 1) = cat (fun c => bl (G c)) s q ++ bl (G (BY s q)) := rfl
  unfold bitF
  rw [hr, h1, List.append_assoc]
  have h2 : cl (fun c => bl (G c)) s q = (cat (fun c => bl (G c)) s q).length := rfl
  rw [h2, List.getElem?_append_right (by omega), Nat.add_sub_cancel_left, List.getElem?_append_left (by rw [bl_len]; exact hi), bl_get? _ hi]
  simp only [Option.getD_some]
  rw [bitN]
end Go.Proofs.YtopihgmemnokkaaGreat
namespace Go.Proofs.YtopihgmemnokkaaGreat
open Go.RowKit
theorem own_u8 {w : World} {base : Nat} {v : Value} {l : List Nat} (h : w.ownsRow base 5 1 v l.length (u8L l)) {j x : Nat} (hj : l[j]? = some x) : ∃ g cap, v = .slice (some ⟨g, 0, none⟩) l.length cap ∧ w.cell? ⟨g, j, none⟩ = some (.int .u8 (x : Nat)) := by
  have hjl := (List.getElem?_eq_some_iff.1 hj).1
  rcases h.2 with ⟨_, h0⟩ | ⟨g, cap, cur, rfl, _⟩
  · omega
  · refine ⟨g, cap, rfl, own_cell h ?_⟩
    unfold u8L
    rw [List.getElem?_map, hj]; rfl
theorem and_u32_one (a : Nat) (ha : a < 4294967296) : bits .and .u32 (a : Int) 1 = ((a % 2 : Nat) : Int) := by
  have h1 : (BitVec.ofInt 32 (a : Int)).toNat = a := by
    rw [BitVec.ofInt_natCast, BitVec.toNat_ofNat]; exact Nat.mod_eq_of_lt (by omega)
  show IntKind.u32.wrap ((BitVec.ofInt 32 (a : Int) &&& BitVec.ofInt 32 1).toNat : Int) = _
  rw [BitVec.toNat_and, h1]
  have h2 : (BitVec.ofInt 32 1).toNat = 1 := by decide
  rw [h2, Nat.and_one_is_mod]
  simp [IntKind.wrap, IntKind.bits, IntKind.signed]
  omega
theorem xor_u32 (a b : Nat) (ha : a < 4294967296) (hb : b < 4294967296) : bits .xor .u32 (a : Int) (b : Int) = ((a ^^^ b : Nat) : Int) := by
  have hx : a ^^^ b < 2 ^ 32 := Nat.xor_lt_two_pow (by omega) (by omega)
  have h1 : (BitVec.ofInt 32 (a : Int)).toNat = a := by
    rw [BitVec.ofInt_natCast, BitVec.toNat_ofNat]; exact Nat.mod_eq_of_lt (by omega)
  have h2 : (BitVec.ofInt 32 (b : Int)).toNat = b := by
    rw [BitVec.ofInt_natCast, BitVec.toNat_ofNat]; exact Nat.mod_eq_of_lt (by omega)
  show IntKind.u32.wrap ((BitVec.ofInt 32 (a : Int) ^^^ BitVec.ofInt 32 (b : Int)).toNat : Int) = _
  rw [BitVec.toNat_xor, h1, h2]
  simp [IntKind.wrap, IntKind.bits, IntKind.signed]
  omega
theorem xor_all {c : Nat} (hc : c < 4294967296) : bits .xor .u32 IntKind.u32.max (c : Int) = ((4294967295 - c : Nat) : Int) := by
  have h := xor_u32 4294967295 c (by decide) hc
  have e : IntKind.u32.max = ((4294967295 : Nat) : Int) := rfl
  have h2 : (BitVec.allOnes 32 ^^^ BitVec.ofNat 32 c).toNat = 4294967295 ^^^ c := by
    rw [BitVec.toNat_xor, BitVec.toNat_allOnes, BitVec.toNat_ofNat, Nat.mod_eq_of_lt hc]
  rw [BitVec.allOnes_xor, BitVec.toNat_not, BitVec.toNat_ofNat, Nat.mod_eq_of_lt hc] at h2
  rw [e, h, ← h2]
set_option maxRecDepth 100000 in
set_option maxHeartbeats 2000000 in
theorem recSum_any (l : List Nat) (hl : ∀ x ∈ l, x ≤ 255) (v : Value) (w : World) (base : Nat) (hown : w.ownsRow base 5 1 v l.length (u8L l)) (hs : l.length ≤ 1000000) :
    Calls Tryz.prog 80 #[v] w fun e w' => e = .returned (.int .u32 ((4294967295 - crcTo (bys l) l.length : Nat) : Int)) ∧ w' = w := by
  obtain ⟨a, cp, rfl⟩ := own_slice hown
  have HO : Hid (w.ownsRow base 5 1 (.slice a l.length cp) l.length (u8L l)) := hown
  have HL : Hid (∀ x ∈ l, x ≤ 255) := hl
  clear hown hl
  go_enter Tryz.func80, Tryz.ntmps80
  go_wp2
  go_loopw [3, 9] (fun sv iv wr => ∃ i : Nat, i ≤ l.length ∧ iv = .int .i64 i ∧ sv = .int .u32 ((crcTo (bys l) i : Nat) : Int) ∧ wr = w) (fun _ iv _ => l.length - (intOf iv).toNat)
  case atStart => exact ⟨0, by omega, rfl, rfl, rfl⟩
  case round =>
    obtain ⟨i, hi, rfl, rfl, rfl⟩ := hrel
    by_cases hlt : i < l.length
    · obtain ⟨x, hx⟩ : ∃ x, l[i]? = some x := ⟨_, List.getElem?_eq_getElem hlt⟩
      obtain ⟨g, cap, he, hc⟩ := own_u8 HO.out hx
      injection he with e1 e2 e3
      subst e1
      subst e3
      have hxl := HL.out x (List.mem_of_getElem? hx)
      have hby := bys_BY l hx hxl
      have hcl := crcTo_lt (bys l) i
      have hxr := xor_u32 (crcTo (bys l) i) x hcl (by omega)
      have hx2 : crcTo (bys l) i ^^^ x < 4294967296 := Nat.xor_lt_two_pow (n := 32) (by omega) (by omega)
      have HN : Hid (crcTo (bys l) (i + 1) = crcJ 8 (crcTo (bys l) i ^^^ x)) := by
        show crcB _ _ = _
        rw [hby]; rfl
      clear hby hx
      generalize crcTo (bys l) i ^^^ x = c0 at *
      generalize crcTo (bys l) i = c at *
      have hli : (i : Int) < (l.length : Int) := by omega
      go_wp2
      clear hxr
      go_loopw [3, 17] (fun cv kv wq => ∃ k : Nat, k ≤ 8 ∧ kv = .int .i64 k ∧ cv = .int .u32 ((crcJ k c0 : Nat) : Int) ∧ wq = wr) (fun _ kv _ => 8 - (intOf kv).toNat)
      case atStart => exact ⟨0, by omega, rfl, rfl, rfl⟩
      case round =>
        obtain ⟨k, hk, rfl, rfl, rfl⟩ := hrel
        have hc2 := crcJ_lt hx2 k
        by_cases hk8 : k < 8
        · have hki : (k : Int) < 8 := by omega
          have HS : Hid (crcJ (k + 1) c0 = crc1 (crcJ k c0)) := rfl
          generalize crcJ k c0 = d at *
          have hand := and_u32_one d hc2
          by_cases hodd : d % 2 = 1
          · have HS2 : Hid (crcJ (k + 1) c0 = (d / 2) ^^^ 3988292384) := by show _ = _; rw [HS.out]; unfold crc1; rw [if_pos hodd]
            rw [hodd] at hand
            have hxr := xor_u32 (d / 2) 3988292384 (by omega) (by decide)
            rw [show ((d / 2 : Nat) : Int) = (d : Int) / 2 by omega, show ((3988292384 : Nat) : Int) = 3988292384 from rfl] at hxr
            rw [show ((1 : Nat) : Int) = 1 from rfl] at hand
            clear HS hodd
            generalize (d / 2) ^^^ 3988292384 = z at *
            go_wp2
            exact ⟨⟨k + 1, by omega, by go_num, by rw [HS2.out], trivial⟩, by simp [intOf]; omega⟩
          · have h0 : d % 2 = 0 := by omega
            have HS2 : Hid (crcJ (k + 1) c0 = d / 2) := by show _ = _; rw [HS.out]; unfold crc1; rw [if_neg hodd]
            rw [h0] at hand
            rw [show ((0 : Nat) : Int) = 0 from rfl] at hand
            clear HS hodd h0
            go_wp2
            exact ⟨⟨k + 1, by omega, by go_num, by rw [HS2.out]; go_num, trivial⟩, by simp [intOf]; omega⟩
        · have hk' : k = 8 := by omega
          subst hk'
          go_wp2
          exact ⟨⟨i + 1, by omega, by go_num, by rw [HN.out], trivial⟩, by simp [intOf]; omega⟩
    · have hi' : i = l.length := by omega
      subst hi'
      have hc := crcTo_lt (bys l) l.length
      have HX : Hid (bits .xor .u32 IntKind.u32.max ((crcTo (bys l) l.length : Nat) : Int) = ((4294967295 - crcTo (bys l) l.length : Nat) : Int)) := xor_all hc
      go_wp2
      go_ret
      exact ⟨ret_int HX.out, rfl⟩
end Go.Proofs.YtopihgmemnokkaaGreat
namespace Go.Proofs.YtopihgmemnokkaaGreat
open Go.RowKit
def NumsAt (w : World) (v : Value) (ns : List Nat) : Prop := (v = .slice none 0 0 ∧ ns = []) ∨ ∃ g cap, v = .slice (some ⟨g, 0, none⟩) ns.length cap ∧ ∀ j x, ns[j]? = some x → w.cell? ⟨g, j, none⟩ = some (.int .i64 (x : Nat))
theorem NumsAt.len {w : World} {v : Value} {ns : List Nat} (h : NumsAt w v ns) : ∃ a c, v = .slice a ns.length c := by
  rcases h with ⟨h1, h2⟩ | ⟨g, cap, h1, _⟩
  · subst h2; exact ⟨none, 0, h1⟩
  · exact ⟨_, _, h1⟩
theorem NumsAt.at {w : World} {a : Option Addr} {c : Nat} {ns : List Nat} (h : NumsAt w (.slice a ns.length c) ns) {j x : Nat} (hx : ns[j]? = some x) : ∃ g, a = some ⟨g, 0, none⟩ ∧ w.cell? ⟨g, j, none⟩ = some (.int .i64 (x : Nat)) := by
  rcases h with ⟨_, h2⟩ | ⟨g, cap, h1, h2⟩
  · subst h2; simp at hx
  · injection h1 with e1 _ _
    exact ⟨g, e1, h2 j x hx⟩
theorem NumsAt.below {w w' : World} {v : Value} {ns : List Nat} {B : Nat} (h : NumsAt w v ns) (hb : Below B w w') (hB : w.heap.size ≤ B) : NumsAt w' v ns := by
  rcases h with h | ⟨g, cap, h1, h2⟩
  · exact .inl h
  · exact .inr ⟨g, cap, h1, fun j x hx => cell_keep (Kept.of_below hb hB (fun _ => False)) (h2 j x hx) (fun h => h)⟩
theorem NumsAt.own {w : World} {base : Nat} {v : Value} {ns : List Nat} (h : w.ownsRow base 3 1 v ns.length (intsL ns)) : NumsAt w v ns := by
  rcases h.2 with ⟨h1, h0⟩ | ⟨g, cap, cur, rfl, _⟩
  · exact .inl ⟨h1, List.length_eq_zero_iff.1 h0⟩
  · refine .inr ⟨g, cap, rfl, fun j x hx => own_cell h ?_⟩
    unfold intsL
    rw [List.getElem?_map, hx]; rfl
theorem u8L_app (a b : List Nat) : u8L (a ++ b) = u8L a ++ u8L b := by simp [u8L]
set_option maxRecDepth 100000 in
set_option maxHeartbeats 2000000 in
theorem digits_any (size : Nat) (hsz : 1 ≤ size ∧ size ≤ 4) (ns : List Nat) (v : Value) (w : World) (hv : NumsAt w v ns) (hn : ∀ x ∈ ns, x < 1099511627776) (hl : ns.length ≤ 1000) :
    Calls Tryz.prog 77 #[.int .i64 (size : Nat), v] w fun e w' => ∃ v', e = .returned v' ∧ w'.ownsRow w.heap.size 5 1 v' (dgsA size ns).length (u8L (dgsA size ns)) ∧ Below w.heap.size w w' := by
  obtain ⟨j0, hj, hy0, hy1, hy2⟩ := info_parts Tryz.info5
  obtain ⟨a, cp, rfl⟩ := hv.len
  have HV : Hid (NumsAt w (.slice a ns.length cp) ns) := hv
  have HN : Hid (∀ x ∈ ns, x < 1099511627776) := hn
  obtain ⟨hs1, hs4⟩ := hsz
  clear hv hn
  go_enter Tryz.func77, Tryz.ntmps77
  go_wp2
  go_loopw [5, 11] (fun bv iv wr => ∃ k : Nat, k ≤ ns.length ∧ iv = .int .i64 k ∧ Hid (wr.ownsRow w.heap.size 5 1 bv (dgsA size (ns.take k)).length (u8L (dgsA size (ns.take k)))) ∧ Hid (Below w.heap.size w wr)) (fun _ iv _ => ns.length - (intOf iv).toNat)
  case atStart => exact ⟨0, by omega, rfl, World.ownsRow_nil _ _ _ _, Below.refl _ _⟩
  case round =>
    obtain ⟨k, hk, rfl, HO, HB⟩ := hrel
    obtain ⟨a5, p5, rfl⟩ := own_slice HO.out
    by_cases hlt : k < ns.length
    · obtain ⟨x, hx⟩ : ∃ x, ns[k]? = some x := ⟨_, List.getElem?_eq_getElem hlt⟩
      obtain ⟨g, rfl, hc⟩ := (HV.out.below HB.out (Nat.le_refl _)).at hx
      have hxl := HN.out x (List.mem_of_getElem? hx)
      have HST : Hid (dgsA size (ns.take (k + 1)) = dgsA size (ns.take k) ++ dgA size x size) := dgsA_take size ns hx
      have hln := dgsA_len size (ns.take k)
      rw [List.length_take, Nat.min_eq_left (by omega)] at hln
      have hmul : size * k ≤ 4 * 1000 := Nat.mul_le_mul hs4 (by omega)
      have hacc : (dgsA size (ns.take k)).length ≤ 4000 := by omega
      have hki : (k : Int) < (ns.length : Int) := by omega
      generalize dgsA size (ns.take k) = acc at *
      clear hx hln hmul
      go_wp2
      obtain ⟨wo, rfl⟩ : ∃ wo : World, wo = wr := ⟨_, rfl⟩
      go_loopw [5, 8] (fun bv iv wq => ∃ j : Nat, j ≤ size ∧ iv = .int .i64 ((size : Int) - 1 - (j : Int)) ∧ Hid (wq.ownsRow w.heap.size 5 1 bv (acc.length + j) (u8L (acc ++ dgA size x j))) ∧ Hid (Below w.heap.size w wq)) (fun _ iv _ => (intOf iv + 1).toNat)
      case atStart => exact ⟨0, by omega, by congr 1; omega, by simpa [dgA] using HO, HB⟩
      case round =>
        clear HO HB
        obtain ⟨j, hjs, rfl, HO, HB⟩ := hrel
        obtain ⟨a6, p6, rfl⟩ := own_slice HO.out
        by_cases hj2 : j < size
        · obtain ⟨q, hq⟩ : ∃ q, size = j + 1 + q := ⟨size - 1 - j, by omega⟩
          have e : (size : Int) - 1 - (j : Int) = (q : Int) := by omega
          have HG : Hid (acc ++ dgA size x (j + 1) = (acc ++ dgA size x j) ++ [x / 2 ^ (8 * q) % 256]) := by
            show _ = _
            rw [dgA_succ, show size - 1 - j = q by omega, List.append_assoc]
          rw [e]
          have hz : w.heap.size ≤ wr.heap.size := HB.out.size
          have e2 : Hid ((x : Int) / 2 ^ (8 * q) % 256 = ((x / 2 ^ (8 * q) % 256 : Nat) : Int)) := by show _ = _; rw [Int.natCast_emod, Int.natCast_ediv, Int.natCast_pow]; rfl
          have hq4 : q ≤ 3 := by omega
          clear hq hj2
          generalize hA : acc ++ dgA size x j = A at *
          have HA : Hid (acc ++ dgA size x j = A) := hA
          clear hA
          go_wp2_with (at_builtin; refine wpList_append_two _ rfl _ _ 55 rfl w.heap.size 5 j0 (.int .u8 0) 1 Tryz.underlying55 hj hy0 hy1 hy2 rfl _ (acc.length + j) (u8L A) rfl (HO.out.alloc _) ⟨wr.heap.size, 0, none⟩ 1 (.int .u8 ((x : Int) / 2 ^ (8 * q) % 256)) rfl ?d1 ?d2 ?d3 ?d4 ?d5 ?_)
          case d1 => exact World.news_of_block (heap_alloc_new _ _)
          case d2 => rfl
          case d3 => unfold maxLen; omega
          case d4 => omega
          case d5 => simp; omega
          intro g2 cap2 w2 hown hlt2 hd
          have hkk : Kept (fun k => some k = (Value.slice a6 (acc.length + j) p6).ownBlock) wr w2 := ((Kept.refl _ wr).alloc _).grown (two_grown hd) (fun k h _ => h.symm)
          have HB2 : Hid (Below w.heap.size w w2) := hkk.bel HB.out (Nat.le_refl _) (fun k hk => (HO.out.lt k hk.symm).1)
          have HO2 : Hid (w2.ownsRow w.heap.size 5 1 (.slice (some ⟨g2, 0, none⟩) (acc.length + j + 1) cap2) (acc.length + (j + 1)) (u8L (acc ++ dgA size x (j + 1)))) := by
            show World.ownsRow _ _ _ _ _ _ _
            rw [HG.out, u8L_app, show u8L [x / 2 ^ (8 * q) % 256] = [.int .u8 ((x / 2 ^ (8 * q) % 256 : Nat) : Int)] from rfl, ← e2.out]; exact hown
          clear hown hd hkk hlt2
          go_wp2
          exact ⟨⟨j + 1, by omega, by congr 1; omega, HO2, HB2⟩, by simp [intOf]⟩
        · have hj' : j = size := by omega
          subst hj'
          have e : (j : Int) - 1 - (j : Int) = -1 := by omega
          rw [e]
          have HO2 : Hid (wr.ownsRow w.heap.size 5 1 (.slice a6 (acc.length + j) p6) (dgsA j (ns.take (k + 1))).length (u8L (dgsA j (ns.take (k + 1))))) := by
            show World.ownsRow _ _ _ _ _ _ _
            rw [HST.out, List.length_append, dgA_len]; exact HO.out
          clear HO
          go_wp2
          exact ⟨⟨k + 1, by omega, by go_num, HO2, HB⟩, by simp [intOf]; omega⟩
    · have hk' : k = ns.length := by omega
      subst hk'
      rw [List.take_length] at HO ⊢
      go_wp2
      go_ret
      exact ⟨_, rfl, HO.out, HB.out⟩
end Go.Proofs.YtopihgmemnokkaaGreat
