import PyProof.Rows.All
import Wide.All
import OpenK.AllK
import Wide.FinOn
import Open.SpecLaws
import KE.OsGo
import HandS.ForSpec
import HandS.Text
import PySem.Challenge.RW_damagesums_s13_found
set_option Elab.async false
set_option linter.all false
set_option maxRecDepth 100000
set_option maxHeartbeats 2000000
namespace Ms
open Sf81
/-! ### bits -/
def bit1 (f x : Nat) : Nat := if x % 2 = 1 then x / 2 ^^^ f else x / 2
theorem on_succ (p : Poly) (n x : Nat) : p.on (n + 1) x = p.on n (bit1 p.fall x) := rfl
theorem on_last (p : Poly) : ∀ n x : Nat, p.on (n + 1) x = bit1 p.fall (p.on n x)
  | 0, _ => rfl
  | n + 1, x => by
    rw [on_succ p (n + 1) x, on_last p n (bit1 p.fall x)]
    rfl
/-! ### lists: one item more -/
theorem take_more {α : Type} {l : List α} {i : Nat} {x : α} (h : l[i]? = some x) : l.take (i + 1) = l.take i ++ [x] := by
  rw [List.take_add_one, h]
  rfl
theorem fold_more {α β : Type} {f : β → α → β} {z : β} {l : List α} {i : Nat} {x : α} (h : l[i]? = some x) : (l.take (i + 1)).foldl f z = f ((l.take i).foldl f z) x := by
  rw [take_more h, List.foldl_append]
  rfl
theorem get_map {α β : Type} {f : α → β} {l : List α} {i : Nat} {y : β} (h : (l.map f)[i]? = some y) : ∃ x, l[i]? = some x ∧ y = f x := by
  rw [List.getElem?_map] at h
  cases e : l[i]? with
  | none =>
    rw [e] at h
    cases h
  | some x =>
    rw [e] at h
    exact ⟨x, rfl, (Option.some.inj h).symm⟩
/-! ### bytes as ints -/
abbrev bi (c : UInt8) : Int := (c.toNat : Int)
theorem bs_back : ∀ {l : List Int}, (∀ z ∈ l, 0 ≤ z ∧ z ≤ 255) → l = (Sf81Neutral.bs l).map bi
  | [], _ => rfl
  | z :: r, h => by
    have h1 := h z (List.mem_cons_self ..)
    have h2 := bs_back (l := r) fun y hy => h y (List.mem_cons_of_mem _ hy)
    have e : z = bi (UInt8.ofNat z.toNat) := by
      show z = (((UInt8.ofNat z.toNat).toNat : Nat) : Int)
      rw [UInt8.toNat_ofNat']
      omega
    show z :: r = bi (UInt8.ofNat z.toNat) :: (Sf81Neutral.bs r).map bi
    rw [← e, ← h2]
theorem bs_length (l : List Int) : (Sf81Neutral.bs l).length = l.length := by
  unfold Sf81Neutral.bs
  exact List.length_map _
/-! ### kinds -/
theorem kind_some {k : Int} {x : Kind} (h : kindOf k = some x) : (k = 0 ∧ x = .crc CRC32) ∨ (k = 1 ∧ x = .crc CRC64) ∨ (k = 2 ∧ x = .ones) ∨ (k = 3 ∧ x = .adler) := by
  unfold kindOf at h
  split at h
  · exact .inl ⟨by assumption, (Option.some.inj h).symm⟩
  · split at h
    · exact .inr (.inl ⟨by assumption, (Option.some.inj h).symm⟩)
    · split at h
      · exact .inr (.inr (.inl ⟨by assumption, (Option.some.inj h).symm⟩))
      · split at h
        · exact .inr (.inr (.inr ⟨by assumption, (Option.some.inj h).symm⟩))
        · cases h
theorem kind_is {k : Int} (h0 : 0 ≤ k) (h3 : k ≤ 3) : ∃ x, kindOf k = some x := by
  have h : k = 0 ∨ k = 1 ∨ k = 2 ∨ k = 3 := by omega
  rcases h with rfl | rfl | rfl | rfl
  · exact ⟨_, rfl⟩
  · exact ⟨_, rfl⟩
  · exact ⟨_, rfl⟩
  · exact ⟨_, rfl⟩
theorem kind_none {k : Int} (h : ¬ (0 ≤ k ∧ k ≤ 3)) : kindOf k = none := by
  unfold kindOf
  rw [if_neg (by omega), if_neg (by omega), if_neg (by omega), if_neg (by omega)]
theorem kind_bool (k : Int) : (kindOf k).isSome = decide (0 ≤ k ∧ k ≤ 3) := by
  by_cases h : 0 ≤ k ∧ k ≤ 3
  · obtain ⟨x, e⟩ := kind_is h.1 h.2
    rw [e, decide_eq_true h]
    rfl
  · rw [kind_none h, decide_eq_false h]
    rfl
theorem ofKind_none {k : Int} {f : Kind → Ans} (h : kindOf k = none) : ofKind k f = says (-1) := by
  unfold ofKind
  rw [h]
theorem ofKind_some {k : Int} {x : Kind} {f : Kind → Ans} (h : kindOf k = some x) : ofKind k f = f x := by
  unfold ofKind
  rw [h]
/-! ### the ones' complement sum, byte by byte -/
def wstep (x : Nat × Bool) (c : UInt8) : Nat × Bool := (x.1 + (if x.2 = true then c.toNat else 256 * c.toNat), !x.2)
def wst (odd : Bool) (b : Bytes) : Nat × Bool := b.foldl wstep (0, odd)
theorem wst_sum (odd : Bool) (b : Bytes) : wordsSum odd b = (wst odd b).1 := rfl
theorem wst_more {odd : Bool} {b : Bytes} {i : Nat} {c : UInt8} (h : b[i]? = some c) : wst odd (b.take (i + 1)) = wstep (wst odd (b.take i)) c := fold_more h
theorem wfold_odd : ∀ (b : Bytes) (z : Nat × Bool), (b.foldl wstep z).2 = (if b.length % 2 = 0 then z.2 else !z.2)
  | [], _ => rfl
  | c :: r, z => by
    show (r.foldl wstep (wstep z c)).2 = _
    rw [wfold_odd r, List.length_cons]
    show (if r.length % 2 = 0 then !z.2 else !!z.2) = _
    by_cases h : r.length % 2 = 0
    · rw [if_pos h, if_neg (by omega)]
    · rw [if_neg h, if_pos (by omega), Bool.not_not]
def b2n (b : Bool) : Nat := if b = true then 1 else 0
theorem wst_odd {m : Nat} (hm : m ≤ 1) (b : Bytes) : b2n (wst (m == 1) b).2 = (m + b.length) % 2 := by
  have e := wfold_odd b (0, (m == 1))
  unfold wst
  rw [e]
  have h : m = 0 ∨ m = 1 := by omega
  rcases h with rfl | rfl
  · by_cases q : b.length % 2 = 0
    · rw [if_pos q]
      show 0 = _
      omega
    · rw [if_neg q]
      show 1 = _
      omega
  · by_cases q : b.length % 2 = 0
    · rw [if_pos q]
      show 1 = _
      omega
    · rw [if_neg q]
      show 0 = _
      omega
/-! ### Adler-32, byte by byte -/
def astep (x : Nat × Nat) (c : UInt8) : Nat × Nat := ((x.1 + c.toNat) % MOD, (x.2 + x.1 + c.toNat) % MOD)
def ast (z : Nat × Nat) (b : Bytes) : Nat × Nat := b.foldl astep z
theorem ast_more {z : Nat × Nat} {b : Bytes} {i : Nat} {c : UInt8} (h : b[i]? = some c) : ast z (b.take (i + 1)) = astep (ast z (b.take i)) c := fold_more h
/-! ### one bit after another over bytes -/
def rstep (p : Poly) (x : Nat) (c : UInt8) : Nat := p.on 8 (x ^^^ c.toNat)
theorem raw_more {p : Poly} {x : Nat} {b : Bytes} {i : Nat} {c : UInt8} (h : b[i]? = some c) : p.raw x (b.take (i + 1)) = rstep p (p.raw x (b.take i)) c := fold_more h
theorem begin_ok {k : Int} {x : Kind} (h : kindOf k = some x) : x.ok x.begin_ = true := by
  rcases kind_some h with ⟨_, rfl⟩ | ⟨_, rfl⟩ | ⟨_, rfl⟩ | ⟨_, rfl⟩
  · decide
  · decide
  · decide
  · decide
theorem ones_lt (p : Poly) : p.ones < 2 ^ p.bits := Nat.sub_lt (Nat.two_pow_pos _) (by decide)
theorem b2n_one {m : Nat} (h : m ≤ 1) : b2n (m == 1) = m := by
  have e : m = 0 ∨ m = 1 := by omega
  rcases e with rfl | rfl
  · rfl
  · rfl
end Ms
namespace Ms
open Sf81
/-! ### bits: a sum by bits is linear, and each step can be taken back -/
structure Good (p : Poly) : Prop where
  pos : 0 < p.bits
  lt : p.fall < 2 ^ p.bits
  top : p.fall.testBit (p.bits - 1) = true
  most : p.bits ≤ 64
  byt : p.bits % 8 = 0
theorem good32 : Good CRC32 := ⟨by decide, by decide, by decide, by decide, by decide⟩
theorem good64 : Good CRC64 := ⟨by decide, by decide, by decide, by decide, by decide⟩
theorem good_of {k : Int} {p : Poly} (h : kindOf k = some (.crc p)) : Good p := by
  rcases kind_some h with ⟨_, e⟩ | ⟨_, e⟩ | ⟨_, e⟩ | ⟨_, e⟩
  · cases e
    exact good32
  · cases e
    exact good64
  · cases e
  · cases e
theorem bit1_xor (f x y : Nat) : bit1 f (x ^^^ y) = bit1 f x ^^^ bit1 f y := by
  have h := @Nat.xor_mod_two_eq_one x y
  have d : (x ^^^ y) / 2 = x / 2 ^^^ y / 2 := Nat.xor_div_two
  unfold bit1
  rw [d]
  by_cases hx : x % 2 = 1
  · by_cases hy : y % 2 = 1
    · rw [if_pos hx, if_pos hy, if_neg (by rw [h]; exact fun z => z ⟨fun _ => hy, fun _ => hx⟩)]
      rw [Nat.xor_assoc, Nat.xor_comm f, Nat.xor_assoc, Nat.xor_self, Nat.xor_zero]
    · rw [if_pos hx, if_neg hy, if_pos (by rw [h]; exact fun z => hy (z.mp hx))]
      rw [Nat.xor_assoc, Nat.xor_assoc, Nat.xor_comm f]
  · by_cases hy : y % 2 = 1
    · rw [if_neg hx, if_pos hy, if_pos (by rw [h]; exact fun z => hx (z.mpr hy))]
      rw [Nat.xor_assoc]
    · rw [if_neg hx, if_neg hy, if_neg (by rw [h]; exact fun z => z ⟨fun q => absurd q hx, fun q => absurd q hy⟩)]
theorem on_xor (p : Poly) : ∀ n x y : Nat, p.on n (x ^^^ y) = p.on n x ^^^ p.on n y
  | 0, _, _ => rfl
  | n + 1, x, y => by rw [on_succ, on_succ, on_succ, bit1_xor, on_xor p n]
theorem on_add (p : Poly) : ∀ m n x : Nat, p.on (m + n) x = p.on n (p.on m x)
  | 0, n, x => by rw [Nat.zero_add]; rfl
  | m + 1, n, x => by
    rw [Nat.add_right_comm, on_succ, on_succ]
    exact on_add p m n _
theorem bit1_lt {f w x : Nat} (hf : f < 2 ^ w) (hx : x < 2 ^ w) : bit1 f x < 2 ^ w := by
  have h : x / 2 < 2 ^ w := Nat.lt_of_le_of_lt (Nat.div_le_self _ _) hx
  unfold bit1
  split
  · exact Nat.xor_lt_two_pow h hf
  · exact h
theorem on_lt {p : Poly} (hf : p.fall < 2 ^ p.bits) : ∀ {n x : Nat}, x < 2 ^ p.bits → p.on n x < 2 ^ p.bits
  | 0, _, h => h
  | n + 1, x, h => by
    rw [on_succ]
    exact on_lt hf (bit1_lt hf h)
theorem xor_cancel (a b : Nat) : a ^^^ b ^^^ b = a := by rw [Nat.xor_assoc, Nat.xor_self, Nat.xor_zero]
theorem on_zero (p : Poly) (n : Nat) : p.on n 0 = 0 := by
  have h := on_xor p n 0 0
  rw [Nat.xor_self, Nat.xor_self] at h
  exact h
/-! ### images of single bits -/
structure Lin (L : Nat → Nat) : Prop where
  xor : ∀ x y, L (x ^^^ y) = L x ^^^ L y
theorem Lin.zero {L : Nat → Nat} (h : Lin L) : L 0 = 0 := by
  have e := h.xor 0 0
  rw [Nat.xor_self, Nat.xor_self] at e
  exact e
theorem low_succ (x k : Nat) : x % 2 ^ (k + 1) = (x % 2 ^ k) ^^^ (if x.testBit k = true then 2 ^ k else 0) := by
  apply Nat.eq_of_testBit_eq
  intro i
  rw [Nat.testBit_xor, Nat.testBit_mod_two_pow, Nat.testBit_mod_two_pow]
  by_cases h : x.testBit k = true
  · rw [if_pos h, Nat.testBit_two_pow]
    by_cases e : k = i
    · subst e
      rw [h, decide_eq_true (show k < k + 1 by omega), decide_eq_false (show ¬ k < k by omega), decide_eq_true (rfl : k = k)]
      rfl
    · rw [decide_eq_false e, Bool.xor_false, show decide (i < k + 1) = decide (i < k) from decide_eq_decide.mpr (by omega)]
  · rw [if_neg h, Nat.zero_testBit, Bool.xor_false]
    by_cases e : k = i
    · subst e
      rw [Bool.not_eq_true] at h
      rw [h, Bool.and_false, Bool.and_false]
    · rw [show decide (i < k + 1) = decide (i < k) from decide_eq_decide.mpr (by omega)]
def imgs (L : Nat → Nat) (w : Nat) : List Nat := (List.range w).map fun i => L (2 ^ i)
theorem imgs_get {L : Nat → Nat} {w i : Nat} (h : i < w) : (imgs L w).getD i 0 = L (2 ^ i) := by
  unfold imgs
  rw [List.getD_eq_getElem?_getD, List.getElem?_map, List.getElem?_range h]
  rfl
theorem imgs_len {L : Nat → Nat} {w : Nat} : (imgs L w).length = w := by
  unfold imgs
  rw [List.length_map, List.length_range]
theorem image_low {L : Nat → Nat} (hL : Lin L) (w x : Nat) : ∀ k, k ≤ w →
    (List.range k).foldl (fun (y i : Nat) => if x.testBit i = true then y ^^^ (imgs L w).getD i 0 else y) 0 = L (x % 2 ^ k)
  | 0, _ => by
    rw [Nat.pow_zero, Nat.mod_one, hL.zero]
    rfl
  | k + 1, h => by
    rw [List.range_succ, List.foldl_append, image_low hL w x k (by omega), low_succ, hL.xor]
    show (if x.testBit k = true then L (x % 2 ^ k) ^^^ (imgs L w).getD k 0 else L (x % 2 ^ k)) = _
    rw [imgs_get (show k < w by omega)]
    by_cases e : x.testBit k = true
    · rw [if_pos e, if_pos e]
    · rw [if_neg e, if_neg e, hL.zero, Nat.xor_zero]
theorem image_is {L : Nat → Nat} (hL : Lin L) {w x : Nat} (hx : x < 2 ^ w) : image (imgs L w) x = L x := by
  unfold image
  rw [imgs_len, image_low hL w x w (Nat.le_refl _), Nat.mod_eq_of_lt hx]
/-! ### many times -/
def it (L : Nat → Nat) : Nat → Nat → Nat
  | 0, x => x
  | n + 1, x => it L n (L x)
theorem it_add (L : Nat → Nat) : ∀ m n x, it L (m + n) x = it L n (it L m x)
  | 0, n, x => by rw [Nat.zero_add]; rfl
  | m + 1, n, x => by
    rw [Nat.add_right_comm]
    exact it_add L m n _
theorem it_two (L : Nat → Nat) : ∀ n x, it (fun x => L (L x)) n x = it L (2 * n) x
  | 0, _ => rfl
  | n + 1, x => by
    show it (fun x => L (L x)) n (L (L x)) = it L (2 * n + 1 + 1) x
    rw [it_two L n]
    rfl
theorem imgs_two {L : Nat → Nat} (hL : Lin L) {w : Nat} (hw : ∀ x, x < 2 ^ w → L x < 2 ^ w) : (imgs L w).map (image (imgs L w)) = imgs (fun x => L (L x)) w := by
  show ((List.range w).map fun i => L (2 ^ i)).map (image (imgs L w)) = (List.range w).map fun i => L (L (2 ^ i))
  rw [List.map_map]
  refine List.map_congr_left fun i hi => ?_
  have h : i < w := List.mem_range.mp hi
  exact image_is hL (hw _ (Nat.pow_lt_pow_right (by decide) h))
theorem shifted_is : ∀ (f : Nat) {L : Nat → Nat} (_ : Lin L) {w : Nat} (_ : ∀ x, x < 2 ^ w → L x < 2 ^ w) {n x : Nat}, n < 2 ^ f → x < 2 ^ w → shifted f (imgs L w) n x = it L n x
  | 0, L, hL, w, hw, n, x, hn, hx => by
    have e : n = 0 := by
      rw [Nat.pow_zero] at hn
      omega
    subst e
    rfl
  | f + 1, L, hL, w, hw, n, x, hn, hx => by
    show (if n = 0 then x else shifted f ((imgs L w).map (image (imgs L w))) (n / 2) (if n % 2 = 1 then image (imgs L w) x else x)) = it L n x
    by_cases h0 : n = 0
    · rw [if_pos h0, h0]
      rfl
    · rw [if_neg h0, imgs_two hL hw, image_is hL hx]
      have hL2 : Lin fun x => L (L x) := ⟨fun a b => by
        show L (L (a ^^^ b)) = L (L a) ^^^ L (L b)
        rw [hL.xor, hL.xor]⟩
      have hn2 : n / 2 < 2 ^ f := by
        rw [Nat.pow_succ] at hn
        omega
      by_cases h1 : n % 2 = 1
      · rw [if_pos h1, shifted_is f hL2 (fun y hy => hw _ (hw _ hy)) hn2 (hw _ hx), it_two]
        have e : n = 1 + 2 * (n / 2) := by omega
        rw (occs := .pos [2]) [e]
        rw [it_add]
        rfl
      · rw [if_neg h1, shifted_is f hL2 (fun y hy => hw _ (hw _ hy)) hn2 hx, it_two]
        have e : n = 2 * (n / 2) := by omega
        rw (occs := .pos [2]) [e]
theorem it_on (p : Poly) (k : Nat) : ∀ n x, it (p.on k) n x = p.on (k * n) x
  | 0, x => by
    rw [Nat.mul_zero]
    rfl
  | n + 1, x => by
    show it (p.on k) n (p.on k x) = _
    rw [it_on p k n, Nat.mul_succ, Nat.add_comm, on_add]
theorem zeros_is {p : Poly} (g : Good p) {n x : Nat} (hn : n < 2 ^ 64) (hx : x < 2 ^ p.bits) : p.zeros n x = p.on (8 * n) x := by
  have h := shifted_is 64 (L := p.on 8) ⟨on_xor p 8⟩ (w := p.bits) (fun y hy => on_lt g.lt hy) hn hx
  rw [it_on] at h
  exact h
/-! ### bytes of 0, and bytes by their differences -/
theorem raw_nil (p : Poly) (x : Nat) : p.raw x [] = x := rfl
theorem raw_cons (p : Poly) (x : Nat) (c : UInt8) (b : Bytes) : p.raw x (c :: b) = p.raw (p.on 8 (x ^^^ c.toNat)) b := rfl
theorem raw_append (p : Poly) (x : Nat) (b c : Bytes) : p.raw x (b ++ c) = p.raw (p.raw x b) c := by
  unfold Poly.raw
  rw [List.foldl_append]
theorem raw_zeros (p : Poly) : ∀ n x : Nat, p.raw x (List.replicate n 0) = p.on (8 * n) x
  | 0, x => by
    rw [Nat.mul_zero]
    rfl
  | n + 1, x => by
    rw [List.replicate_succ, raw_cons, raw_zeros p n]
    show p.on (8 * n) (p.on 8 (x ^^^ 0)) = _
    rw [Nat.xor_zero, Nat.mul_succ, Nat.add_comm, on_add]
theorem raw_lt {p : Poly} (g : Good p) (h8 : 8 ≤ p.bits) : ∀ (b : Bytes) {x : Nat}, x < 2 ^ p.bits → p.raw x b < 2 ^ p.bits
  | [], _, h => h
  | c :: r, x, h => by
    rw [raw_cons]
    refine raw_lt g h8 r (on_lt g.lt (Nat.xor_lt_two_pow h ?_))
    exact Nat.lt_of_lt_of_le c.toNat_lt (Nat.pow_le_pow_right (by decide) h8)
theorem good8 {p : Poly} (g : Good p) : 8 ≤ p.bits := by
  have h1 := g.pos
  have h2 := g.byt
  omega
theorem raw_xor (p : Poly) : ∀ (b c : Bytes) (x y : Nat), b.length = c.length → p.raw (x ^^^ y) ((b.zip c).map fun (z : UInt8 × UInt8) => z.1 ^^^ z.2) = p.raw x b ^^^ p.raw y c
  | [], [], _, _, _ => rfl
  | [], _ :: _, _, _, h => by cases h
  | _ :: _, [], _, _, h => by cases h
  | u :: b, v :: c, x, y, h => by
    show p.raw (p.on 8 (x ^^^ y ^^^ (u ^^^ v).toNat)) ((b.zip c).map fun (z : UInt8 × UInt8) => z.1 ^^^ z.2) = p.raw (p.on 8 (x ^^^ u.toNat)) b ^^^ p.raw (p.on 8 (y ^^^ v.toNat)) c
    rw [← raw_xor p b c _ _ (Nat.succ.inj h), ← on_xor, UInt8.toNat_xor]
    congr 2
    rw [Nat.xor_assoc, Nat.xor_assoc, ← Nat.xor_assoc y, Nat.xor_comm y, Nat.xor_assoc]
/-! ### a bit back -/
def back1 (p : Poly) (x : Nat) : Nat := if x.testBit (p.bits - 1) = true then (2 * (x ^^^ p.fall) + 1) % 2 ^ p.bits else 2 * x % 2 ^ p.bits
theorem back_succ (p : Poly) (n x : Nat) : p.back (n + 1) x = p.back n (back1 p x) := rfl
theorem top_false {w x : Nat} (hw : 0 < w) (hx : x < 2 ^ w) (h : x.testBit (w - 1) = false) : 2 * x < 2 ^ w := by
  have e : x < 2 ^ (w - 1) := by
    refine Nat.lt_pow_two_of_testBit x fun i hi => ?_
    by_cases q : i = w - 1
    · rw [q, h]
    · exact Nat.testBit_lt_two_pow (Nat.lt_of_lt_of_le hx (Nat.pow_le_pow_right (by decide) (by omega)))
  have e2 : 2 ^ w = 2 ^ (w - 1) * 2 := by
    rw [← Nat.pow_succ]
    congr 1
    omega
  omega
theorem half_top {w x : Nat} (hw : 0 < w) (hx : x < 2 ^ w) : (x / 2).testBit (w - 1) = false := by
  refine Nat.testBit_lt_two_pow ?_
  have e2 : 2 ^ w = 2 ^ (w - 1) * 2 := by
    rw [← Nat.pow_succ]
    congr 1
    omega
  omega
theorem back1_lt (p : Poly) (x : Nat) : back1 p x < 2 ^ p.bits := by
  unfold back1
  split
  · exact Nat.mod_lt _ (Nat.two_pow_pos _)
  · exact Nat.mod_lt _ (Nat.two_pow_pos _)
theorem bit1_back1 {p : Poly} (g : Good p) {x : Nat} (hx : x < 2 ^ p.bits) : bit1 p.fall (back1 p x) = x := by
  unfold back1
  cases h : x.testBit (p.bits - 1) with
  | true =>
    rw [if_pos rfl]
    have t : (x ^^^ p.fall).testBit (p.bits - 1) = false := by
      rw [Nat.testBit_xor, h, g.top]
      rfl
    have l := top_false g.pos (Nat.xor_lt_two_pow hx g.lt) t
    have e : 2 ^ p.bits = 2 ^ (p.bits - 1) * 2 := by
      rw [← Nat.pow_succ]
      congr 1
      have := g.pos
      omega
    rw [Nat.mod_eq_of_lt (by omega)]
    unfold bit1
    rw [if_pos (by omega), show (2 * (x ^^^ p.fall) + 1) / 2 = x ^^^ p.fall by omega, xor_cancel]
  | false =>
    rw [if_neg Bool.false_ne_true]
    have l := top_false g.pos hx h
    rw [Nat.mod_eq_of_lt l]
    unfold bit1
    rw [if_neg (by omega)]
    omega
theorem back1_bit1 {p : Poly} (g : Good p) {x : Nat} (hx : x < 2 ^ p.bits) : back1 p (bit1 p.fall x) = x := by
  have t := half_top g.pos hx
  unfold bit1
  by_cases h : x % 2 = 1
  · rw [if_pos h]
    unfold back1
    rw [if_pos (by rw [Nat.testBit_xor, t, g.top]; rfl), xor_cancel, Nat.mod_eq_of_lt (by omega)]
    omega
  · rw [if_neg h]
    unfold back1
    rw [if_neg (by rw [t]; exact Bool.false_ne_true), Nat.mod_eq_of_lt (by omega)]
    omega
theorem on_back {p : Poly} (g : Good p) : ∀ (n : Nat) {x : Nat}, x < 2 ^ p.bits → p.on n (p.back n x) = x
  | 0, _, _ => rfl
  | n + 1, x, h => by
    rw [back_succ, on_last, on_back g n (back1_lt p x), bit1_back1 g h]
theorem back_lt {p : Poly} : ∀ (n : Nat) {x : Nat}, x < 2 ^ p.bits → p.back n x < 2 ^ p.bits
  | 0, _, h => h
  | n + 1, x, _ => by
    rw [back_succ]
    exact back_lt n (back1_lt p x)
theorem back_last (p : Poly) : ∀ n x : Nat, p.back (n + 1) x = back1 p (p.back n x)
  | 0, _ => rfl
  | n + 1, x => by
    rw [back_succ p (n + 1) x, back_last p n (back1 p x)]
    rfl
theorem back_on {p : Poly} (g : Good p) : ∀ (n : Nat) {x : Nat}, x < 2 ^ p.bits → p.back n (p.on n x) = x
  | 0, _, _ => rfl
  | n + 1, x, h => by
    rw [on_succ, back_last, back_on g n (bit1_lt g.lt h), back1_bit1 g h]
theorem on_inj {p : Poly} (g : Good p) {n x y : Nat} (hx : x < 2 ^ p.bits) (hy : y < 2 ^ p.bits) (h : p.on n x = p.on n y) : x = y := by
  rw [← back_on g n hx, h, back_on g n hy]
end Ms
namespace Ms
open Sf81
/-! ### a number's bytes -/
def lows (x n : Nat) : Bytes := (List.range n).map fun i => UInt8.ofNat (x / 256 ^ i % 256)
theorem lows_more (x n : Nat) : lows x (n + 1) = lows x n ++ [UInt8.ofNat (x / 256 ^ n % 256)] := by
  unfold lows
  rw [List.range_succ, List.map_append]
  rfl
theorem lows_len (x n : Nat) : (lows x n).length = n := by
  unfold lows
  rw [List.length_map, List.length_range]
theorem be_lows : ∀ n x, be n x = (lows x n).reverse
  | 0, _ => rfl
  | n + 1, x => by
    show UInt8.ofNat (x / 256 ^ n % 256) :: be n x = _
    rw [lows_more, List.reverse_append, be_lows n x]
    rfl
theorem be_len (n x : Nat) : (be n x).length = n := by rw [be_lows, List.length_reverse, lows_len]
theorem be_zero : ∀ n, be n 0 = List.replicate n 0
  | 0 => rfl
  | n + 1 => by
    show UInt8.ofNat (0 / 256 ^ n % 256) :: be n 0 = _
    rw [be_zero n, Nat.zero_div]
    rfl
theorem byte_low (y : Nat) : bi (UInt8.ofNat (y % 256)) = ((y % 256 : Nat) : Int) := by
  show (((UInt8.ofNat (y % 256)).toNat : Nat) : Int) = _
  rw [UInt8.toNat_ofNat']
  omega
theorem div_more (x n : Nat) : x / 256 ^ n / 256 = x / 256 ^ (n + 1) := by rw [Nat.div_div_eq_div_mul, Nat.pow_succ]
/-! ### bytes put over others -/
theorem over_len {b y : Bytes} {n : Nat} (h : n + y.length ≤ b.length) : (over b n y).length = b.length := by
  unfold over
  rw [List.length_append, List.length_append, List.length_take, List.length_drop]
  omega
theorem over_same {b y : Bytes} {n : Nat} (h : n + y.length ≤ b.length) : over b n y = b ↔ (b.drop n).take y.length = y := by
  have e : b = b.take n ++ ((b.drop n).take y.length ++ b.drop (n + y.length)) := by
    rw [← List.drop_drop, List.take_append_drop, List.take_append_drop]
  have l : ((b.drop n).take y.length).length = y.length := by
    rw [List.length_take, List.length_drop]
    omega
  unfold over
  constructor
  · intro q
    have q2 := q.trans e
    have q3 := List.append_cancel_left q2
    exact (List.append_inj q3 l.symm).1.symm
  · intro q
    rw [q] at e
    exact e.symm
/-! ### a place for a sum -/
theorem size_le {k : Int} {x : Kind} (h : kindOf k = some x) : x.size ≤ 8 := by
  rcases kind_some h with ⟨_, rfl⟩ | ⟨_, rfl⟩ | ⟨_, rfl⟩ | ⟨_, rfl⟩
  · decide
  · decide
  · decide
  · decide
def room (k z : Int) (b : Bytes) : Bool := match kindOf k with
  | none => false
  | some x => decide (b.length ≤ 65536) && placeOk x z b
theorem room_some {k z : Int} {b : Bytes} {x : Kind} (e : kindOf k = some x) : room k z b = (decide (b.length ≤ 65536) && placeOk x z b) := by
  unfold room
  rw [e]
theorem room_none {k z : Int} {b : Bytes} (e : kindOf k = none) : room k z b = false := by
  unfold room
  rw [e]
theorem room_true {k z : Int} {b : Bytes} (h : room k z b = true) : ∃ (x : Kind) (n : Nat), kindOf k = some x ∧ z = (n : Int) ∧ b.length ≤ 65536 ∧ n + x.size ≤ b.length ∧ placeOk x z b = true := by
  cases e : kindOf k with
  | none =>
    rw [room_none e] at h
    cases h
  | some x =>
    rw [room_some e, Bool.and_eq_true] at h
    have h2 : (decide (0 ≤ z) && decide (z + (x.size : Int) ≤ (b.length : Int))) = true := h.2
    rw [Bool.and_eq_true] at h2
    have h3 := of_decide_eq_true h2.1
    have h4 := of_decide_eq_true h2.2
    exact ⟨x, z.toNat, rfl, by omega, of_decide_eq_true h.1, by omega, h.2⟩
theorem room_not {k z : Int} {b : Bytes} {f : Kind → Ans} (h : room k z b = false) : ofKind k (fun x => if b.length ≤ MOST ∧ placeOk x z b = true then f x else says (-1)) = says (-1) := by
  cases e : kindOf k with
  | none => exact ofKind_none e
  | some x =>
    rw [ofKind_some e, if_neg]
    rintro ⟨h1, h2⟩
    rw [room_some e, h2, decide_eq_true (show b.length ≤ 65536 from h1)] at h
    cases h
end Ms
namespace Ms
open Sf81
/-! ### one turned bit: what the walk back finds -/
theorem back_add (p : Poly) : ∀ m n x : Nat, p.back (m + n) x = p.back n (p.back m x)
  | 0, n, x => by rw [Nat.zero_add]; rfl
  | m + 1, n, x => by
    rw [Nat.add_right_comm, back_succ, back_succ]
    exact back_add p m n _
theorem bit_lt {p : Poly} (g : Good p) {j : Nat} (h : j < 8) : 2 ^ j < 2 ^ p.bits := Nat.pow_lt_pow_right (by decide) (Nat.lt_of_lt_of_le h (good8 g))
theorem hit_iff {p : Poly} (g : Good p) {x d j : Nat} (hx : x < 2 ^ p.bits) (hj : j < 8) : p.on 8 (2 ^ j) = p.back (8 * d) x ↔ p.on (8 * (d + 1)) (2 ^ j) = x := by
  have e : p.on (8 * (d + 1)) (2 ^ j) = p.on (8 * d) (p.on 8 (2 ^ j)) := by
    rw [← on_add]
    congr 1
    omega
  rw [e]
  constructor
  · intro h
    rw [h, on_back g _ hx]
  · intro h
    rw [← h, back_on g _ (on_lt g.lt (bit_lt g hj))]
theorem found_is {p : Poly} (g : Good p) {x d' j : Nat} (hx : x < 2 ^ p.bits) (hj : j < 8) (h : p.on (8 * (d' + 1)) (2 ^ j) = x) (no : ∀ d, d < d' → ∀ i, i < 8 → ¬ p.on (8 * (d + 1)) (2 ^ i) = x) :
    ∀ f d, d ≤ d' → d' < d + f → p.found f d (p.back (8 * d) x) = some (d', j)
  | 0, d, h1, h2 => by omega
  | f + 1, d, h1, h2 => by
    show (match (List.range 8).find? fun (i : Nat) => p.on 8 (2 ^ i) == p.back (8 * d) x with
      | some i => some (d, i)
      | none => p.found f (d + 1) (p.back 8 (p.back (8 * d) x))) = _
    by_cases e : d = d'
    · subst e
      cases q : (List.range 8).find? fun (i : Nat) => p.on 8 (2 ^ i) == p.back (8 * d) x with
      | none =>
        have z := List.find?_eq_none.mp q j (List.mem_range.mpr hj)
        exact absurd (beq_iff_eq.mpr ((hit_iff g hx hj).mpr h)) z
      | some i =>
        have hi : i < 8 := List.mem_range.mp (List.mem_of_find?_eq_some q)
        have z0 : (p.on 8 (2 ^ i) == p.back (8 * d) x) = true := List.find?_some (p := fun (i : Nat) => p.on 8 (2 ^ i) == p.back (8 * d) x) q
        have z : p.on 8 (2 ^ i) = p.back (8 * d) x := beq_iff_eq.mp z0
        have w : p.on 8 (2 ^ i) = p.on 8 (2 ^ j) := z.trans ((hit_iff g hx hj).mpr h).symm
        have v := on_inj g (bit_lt g hi) (bit_lt g hj) w
        have u : i = j := Nat.pow_right_inj (by decide : 1 < 2) |>.mp v
        rw [u]
    · have q : ((List.range 8).find? fun (i : Nat) => p.on 8 (2 ^ i) == p.back (8 * d) x) = none := by
        refine List.find?_eq_none.mpr fun i hi z => ?_
        have hi' : i < 8 := List.mem_range.mp hi
        exact no d (by omega) i hi' ((hit_iff g hx hi').mp (beq_iff_eq.mp z))
      rw [q]
      show p.found f (d + 1) (p.back 8 (p.back (8 * d) x)) = _
      rw [← back_add]
      exact found_is g hx hj h no f (d + 1) (by omega) (by omega)
theorem found_no {p : Poly} (g : Good p) {x n : Nat} (hx : x < 2 ^ p.bits) (no : ∀ d, d < n → ∀ i, i < 8 → ¬ p.on (8 * (d + 1)) (2 ^ i) = x) :
    ∀ f d, d + f ≤ n → p.found f d (p.back (8 * d) x) = none
  | 0, d, _ => rfl
  | f + 1, d, h => by
    show (match (List.range 8).find? fun (i : Nat) => p.on 8 (2 ^ i) == p.back (8 * d) x with
      | some i => some (d, i)
      | none => p.found f (d + 1) (p.back 8 (p.back (8 * d) x))) = _
    have q : ((List.range 8).find? fun (i : Nat) => p.on 8 (2 ^ i) == p.back (8 * d) x) = none := by
      refine List.find?_eq_none.mpr fun i hi z => ?_
      have hi' : i < 8 := List.mem_range.mp hi
      exact no d (by omega) i hi' ((hit_iff g hx hi').mp (beq_iff_eq.mp z))
    rw [q]
    show p.found f (d + 1) (p.back 8 (p.back (8 * d) x)) = _
    rw [← back_add]
    exact found_no g hx no f (d + 1) (by omega)
/-- bit j as so many steps from bit 7 -/
theorem low_on (p : Poly) : ∀ i, i < 8 → p.on i (2 ^ 7) = 2 ^ (7 - i)
  | 0, _ => rfl
  | i + 1, h => by
    have e : bit1 p.fall (2 ^ ((7 - (i + 1)) + 1)) = 2 ^ (7 - (i + 1)) := by
      unfold bit1
      rw [Nat.pow_succ, if_neg (by omega)]
      omega
    rw [on_last, low_on p i (by omega), show 7 - i = (7 - (i + 1)) + 1 by omega, e]
theorem hit_bit (p : Poly) (d : Nat) {j : Nat} (h : j < 8) : p.on (8 * (d + 1)) (2 ^ j) = p.on (8 * d + 15 - j) (2 ^ 7) := by
  have e := low_on p (7 - j) (by omega)
  rw [show 7 - (7 - j) = j by omega] at e
  rw [← e, ← on_add]
  congr 1
  omega
/-! ### a text in two parts -/
theorem fold_le {n : Nat} : folded n ≤ 65535 := by
  unfold folded
  split
  · omega
  · omega
theorem fold_in2 (a m : Nat) : folded (folded m + a) = folded (m + a) := by
  unfold folded
  by_cases h : m = 0
  · rw [if_pos h, h]
  · rw [if_neg h, if_neg (by omega), if_neg (by omega)]
    omega
theorem wfold_base : ∀ (c : Bytes) (z : Nat) (o : Bool), (c.foldl wstep (z, o)).1 = z + (c.foldl wstep (0, o)).1
  | [], _, _ => rfl
  | d :: r, z, o => by
    show (r.foldl wstep (z + (if o = true then d.toNat else 256 * d.toNat), !o)).1 = z + (r.foldl wstep (0 + (if o = true then d.toNat else 256 * d.toNat), !o)).1
    rw [wfold_base r (z + _), wfold_base r (0 + _)]
    omega
theorem words_append (o : Bool) (b c : Bytes) : wordsSum o (b ++ c) = wordsSum o b + wordsSum (wst o b).2 c := by
  show ((b ++ c).foldl wstep (0, o)).1 = (b.foldl wstep (0, o)).1 + (c.foldl wstep (0, (b.foldl wstep (0, o)).2)).1
  rw [List.foldl_append]
  exact wfold_base c _ _
theorem b2n_back {o : Bool} {m : Nat} (h : b2n o = m) : o = (m == 1) := by
  subst h
  cases o with
  | true => rfl
  | false => rfl
theorem afold_lt : ∀ (b : Bytes) (z : Nat × Nat), z.1 < 65536 → (b.foldl astep z).1 < 65536
  | [], _, h => h
  | c :: r, z, _ => afold_lt r _ (by
    show (z.1 + c.toNat) % 65521 < 65536
    omega)
theorem add_append {k : Int} {x : Kind} (hk : kindOf k = some x) {s : Nat} (hs : x.ok s = true) (b c : Bytes) : x.add s (b ++ c) = x.add (x.add s b) c := by
  have crc : ∀ p : Poly, (Kind.crc p).add s (b ++ c) = (Kind.crc p).add ((Kind.crc p).add s b) c := fun p => by
    show p.raw (s ^^^ p.ones) (b ++ c) ^^^ p.ones = p.raw (p.raw (s ^^^ p.ones) b ^^^ p.ones ^^^ p.ones) c ^^^ p.ones
    rw [xor_cancel, raw_append]
  rcases kind_some hk with ⟨_, rfl⟩ | ⟨_, rfl⟩ | ⟨_, rfl⟩ | ⟨_, rfl⟩
  · exact crc _
  · exact crc _
  · have hs2 : s < 131072 := of_decide_eq_true hs
    have hm : s / 65536 ≤ 1 := by omega
    have e1 := wst_odd hm b
    have e2 := b2n_back e1
    have l : (Kind.ones.add s b) = folded (s % 65536 + wordsSum (s / 65536 == 1) b) + 65536 * ((s / 65536 + b.length) % 2) := rfl
    have f := @fold_le (s % 65536 + wordsSum (s / 65536 == 1) b)
    have d1 : Kind.ones.add s b % 65536 = folded (s % 65536 + wordsSum (s / 65536 == 1) b) := by
      rw [l]
      omega
    have d2 : Kind.ones.add s b / 65536 = (s / 65536 + b.length) % 2 := by
      rw [l]
      omega
    show folded (s % 65536 + wordsSum (s / 65536 == 1) (b ++ c)) + 65536 * ((s / 65536 + (b ++ c).length) % 2) = folded (Kind.ones.add s b % 65536 + wordsSum (Kind.ones.add s b / 65536 == 1) c) + 65536 * ((Kind.ones.add s b / 65536 + c.length) % 2)
    rw [d1, d2, fold_in2, words_append, ← e2, List.length_append, Nat.add_assoc]
    congr 2
    omega
  · have h1 : (b.foldl astep (s % 65536, s / 65536)).1 < 65536 := afold_lt b _ (by
      show s % 65536 < 65536
      omega)
    have l : Kind.adler.add s b = (b.foldl astep (s % 65536, s / 65536)).2 * 65536 + (b.foldl astep (s % 65536, s / 65536)).1 := rfl
    have d1 : Kind.adler.add s b % 65536 = (b.foldl astep (s % 65536, s / 65536)).1 := by
      rw [l]
      omega
    have d2 : Kind.adler.add s b / 65536 = (b.foldl astep (s % 65536, s / 65536)).2 := by
      rw [l]
      omega
    show ((b ++ c).foldl astep (s % 65536, s / 65536)).2 * 65536 + ((b ++ c).foldl astep (s % 65536, s / 65536)).1 = (c.foldl astep (Kind.adler.add s b % 65536, Kind.adler.add s b / 65536)).2 * 65536 + (c.foldl astep (Kind.adler.add s b % 65536, Kind.adler.add s b / 65536)).1
    rw [d1, d2, List.foldl_append]
theorem afold_ok : ∀ (b : Bytes) (z : Nat × Nat), z.1 < 65521 → z.2 < 65521 → (b.foldl astep z).1 < 65521 ∧ (b.foldl astep z).2 < 65521
  | [], _, h, h' => ⟨h, h'⟩
  | c :: r, z, _, _ => afold_ok r _ (by
    show (z.1 + c.toNat) % 65521 < 65521
    omega) (by
    show (z.2 + z.1 + c.toNat) % 65521 < 65521
    omega)
theorem add_ok {k : Int} {x : Kind} (hk : kindOf k = some x) {s : Nat} (hs : x.ok s = true) (b : Bytes) : x.ok (x.add s b) = true := by
  have crc : ∀ p : Poly, Good p → (Kind.crc p).ok s = true → (Kind.crc p).ok ((Kind.crc p).add s b) = true := fun p g h => by
    have h2 : s < 2 ^ p.bits := of_decide_eq_true h
    exact decide_eq_true (Nat.xor_lt_two_pow (raw_lt g (good8 g) b (Nat.xor_lt_two_pow h2 (ones_lt p))) (ones_lt p))
  rcases kind_some hk with ⟨_, rfl⟩ | ⟨_, rfl⟩ | ⟨_, rfl⟩ | ⟨_, rfl⟩
  · exact crc _ good32 hs
  · exact crc _ good64 hs
  · have f := @fold_le (s % 65536 + wordsSum (s / 65536 == 1) b)
    refine decide_eq_true (p := Kind.ones.add s b < 131072) ?_
    show folded (s % 65536 + wordsSum (s / 65536 == 1) b) + 65536 * ((s / 65536 + b.length) % 2) < 131072
    omega
  · have ho : (decide (s % 65536 < 65521) && decide (s / 65536 < 65521)) = true := hs
    rw [Bool.and_eq_true] at ho
    obtain ⟨h1, h2⟩ := afold_ok b (s % 65536, s / 65536) (of_decide_eq_true ho.1) (of_decide_eq_true ho.2)
    show (decide (Kind.adler.add s b % 65536 < 65521) && decide (Kind.adler.add s b / 65536 < 65521)) = true
    have l : Kind.adler.add s b = (b.foldl astep (s % 65536, s / 65536)).2 * 65536 + (b.foldl astep (s % 65536, s / 65536)).1 := rfl
    rw [Bool.and_eq_true, l]
    exact ⟨decide_eq_true (by omega), decide_eq_true (by omega)⟩
end Ms
namespace Ms
open Sf81
/-! ### kinds by bits -/
theorem crc_of {k : Int} (h : 0 ≤ k ∧ k < 2) : ∃ p, kindOf k = some (.crc p) := by
  have e : k = 0 ∨ k = 1 := by omega
  rcases e with rfl | rfl
  · exact ⟨_, rfl⟩
  · exact ⟨_, rfl⟩
theorem ofCrc_some {k : Int} {p : Poly} {f : Poly → Ans} (h : kindOf k = some (.crc p)) : ofCrc k f = f p := by
  unfold ofCrc
  rw [h]
theorem ofCrc_not {k : Int} {f : Poly → Ans} (h : ¬ (0 ≤ k ∧ k < 2)) : ofCrc k f = says (-1) := by
  unfold ofCrc
  cases e : kindOf k with
  | none => rfl
  | some x =>
    rcases kind_some e with ⟨rfl, _⟩ | ⟨rfl, _⟩ | ⟨_, rfl⟩ | ⟨_, rfl⟩
    · exact absurd ⟨by decide, by decide⟩ h
    · exact absurd ⟨by decide, by decide⟩ h
    · rfl
    · rfl
/-! ### a bit back, told by the highest bit's number -/
theorem top2 {p : Poly} (g : Good p) : 2 ^ p.bits = 2 * 2 ^ (p.bits - 1) := by
  rw [Nat.mul_comm, ← Nat.pow_succ]
  congr 1
  have := g.pos
  omega
theorem back1_hi {p : Poly} (g : Good p) {x : Nat} (hx : x < 2 ^ p.bits) (h : 2 ^ (p.bits - 1) ≤ x) : back1 p x = 2 * (x ^^^ p.fall) + 1 := by
  have t2 := top2 g
  have t : x.testBit (p.bits - 1) = true := by
    cases e : x.testBit (p.bits - 1) with
    | true => rfl
    | false =>
      have l := top_false g.pos hx e
      omega
  have u : (x ^^^ p.fall).testBit (p.bits - 1) = false := by
    rw [Nat.testBit_xor, t, g.top]
    rfl
  have l := top_false g.pos (Nat.xor_lt_two_pow hx g.lt) u
  unfold back1
  rw [if_pos t, Nat.mod_eq_of_lt (by omega)]
theorem back1_lo {p : Poly} (g : Good p) {x : Nat} (h : ¬ 2 ^ (p.bits - 1) ≤ x) : back1 p x = 2 * x := by
  have t2 := top2 g
  have t : x.testBit (p.bits - 1) = false := Nat.testBit_lt_two_pow (by omega)
  unfold back1
  rw [if_neg (by rw [t]; exact Bool.false_ne_true), Nat.mod_eq_of_lt (by omega)]
theorem bits_size {p : Poly} (g : Good p) : 8 * (Kind.crc p).size = p.bits := by
  have h := g.byt
  show 8 * (p.bits / 8) = p.bits
  omega
theorem filled_is (p : Poly) (s want : Nat) : p.filled s want = lows (p.back p.bits (want ^^^ p.ones) ^^^ s ^^^ p.ones) (Kind.crc p).size := by
  rw [Nat.xor_assoc]
  rfl
/-! ### one turned bit: step by step from the last -/
theorem fall_on (p : Poly) : p.on 8 (2 ^ 7) = p.fall := by
  rw [on_last, low_on p 7 (by decide)]
  show bit1 p.fall 1 = p.fall
  unfold bit1
  rw [if_pos rfl]
  exact Nat.zero_xor _
theorem from_fall (p : Poly) (i : Nat) : p.on i p.fall = p.on (8 + i) (2 ^ 7) := by rw [on_add, fall_on]
theorem at_bit (p : Poly) {d j : Nat} (h : j < 8) : p.on (8 * (d + 1)) (2 ^ j) = p.on (8 * d + (7 - j)) p.fall := by
  rw [hit_bit p d h, from_fall]
  congr 1
  omega
theorem found_hit {p : Poly} (g : Good p) {x n i : Nat} (hx : x < 2 ^ p.bits) (hi : i < 8 * n) (h : p.on i p.fall = x) (no : ∀ m, m < i → ¬ p.on m p.fall = x) : p.found n 0 x = some (i / 8, 7 - i % 8) := by
  refine found_is g (d' := i / 8) (j := 7 - i % 8) hx (by omega) ?_ ?_ n 0 (Nat.zero_le _) (by omega)
  · rw [at_bit p (by omega), show 8 * (i / 8) + (7 - (7 - i % 8)) = i by omega]
    exact h
  · intro d hd j hj q
    rw [at_bit p hj] at q
    exact no _ (by omega) q
theorem found_not {p : Poly} (g : Good p) {x n : Nat} (hx : x < 2 ^ p.bits) (no : ∀ m, m < 8 * n → ¬ p.on m p.fall = x) : p.found n 0 x = none := by
  refine found_no g (n := n) hx ?_ n 0 (by omega)
  intro d hd j hj q
  rw [at_bit p hj] at q
  exact no _ (by omega) q
end Ms
namespace My
open PySem PySem.Spec PyProof.Rows L2
open PySem.W (Codec WData)
/-! ### a def that is called by its name -/
structure Cal (P : Program) (w : World) (K : PySem.W.Frag) (mg : Str → Option Value) (base : Heap) (k : Nat) (x : Str) (ps : List Str) (sp : Sp) : Prop where
  ex : ∃ f fd, FnOk P w K mg base CX0 k f fd ps sp ∧ mg x = some (.ref f) ∧ PySem.W.keepIn K (.ref f) = true ∧ Binds K fd ps []
theorem pe_cal {X : Cx} {k : Nat} {x : Str} {ps : List Str} {sp : Sp} {p pos : Pos} {e : Expr} {es : List Expr} {t : TA} (C : Cal X.prog X.w X.K X.mg X.base k x ps sp) (hr : Room k X.A) (hg : Gl X x) (ha : PA X (e :: es) t)
    (hdb : (x == ("__debug__" : Str)) = false := by decide) (he : starEach (e :: es) X.env = (false, eval e X.env) :: starEach es X.env := by rfl) (hpl : (backTo pos (starEach es X.env)).any (·.1) = false := by rfl) :
    PE X (.Call (.Name x p) (e :: es) [] pos) (tCall sp [] E0 t) := by
  obtain ⟨f, fd, F, hm, hk, hb⟩ := C.ex
  exact pe_call F hr hg hm hk hb .nil pass0 ha hdb he hpl
/-! ### constants of the top -/
theorem pe_ci {X : Cx} {x : Str} {i : Int} {pos : Pos} (hg : Gl X x) (h : ∃ t, X.mg x = some (.int i t)) (hd : (x == ("__debug__" : Str)) = false := by decide) : PE X (.Name x pos) (tC (.int i)) := by
  obtain ⟨t, h⟩ := h
  exact pe_glob hg h ⟨_, rfl⟩ hd
theorem pe_weak {X : Cx} {e : Expr} {t t' : TE} (h : PE X e t) (w : ∀ σ H Q, t' σ H Q → t σ H Q) : PE X e t' := ⟨fun pins s σ H Q I q => h.run pins s σ H Q I (w σ H Q q)⟩
def tIxC (xs : List V) (ti : TE) : TE := fun σ H Q => ti σ H fun y H1 => ∃ i v, y = .int i ∧ atI xs i = some v ∧ Q v H1
theorem pe_tc {X : Cx} {x : Str} {xs : List V} {p pos : Pos} {b : Expr} {tb : TE} (hg : Gl X x) (h : ∃ a, X.mg x = some (.ref a) ∧ ∀ H, SqT X.K H a xs) (hb : PE X b tb) (hs : PlainIx b) (hd : (x == ("__debug__" : Str)) = false := by decide) :
    PE X (.Subscript (.Name x p) b pos) (tIxC xs tb) := by
  obtain ⟨a, h, q⟩ := h
  refine ⟨fun pins s σ H Q I hq => ?_⟩
  refine Subscript_ (thn ((pe_glob (pos := p) hg h (v := .ref a) rfl hd).run pins s σ H (fun x H1 => x = .ref a ∧ H1 = H) I ⟨rfl, rfl⟩) fun v s1 ⟨x, H1, I1, rx, ex, eH⟩ => ?_)
  subst ex eH
  refine thn (hb.run pins s1 σ _ _ I1 hq) fun u s2 ⟨y, H2, I2, ry, i, v', ey, ha, qq⟩ => ?_
  exact ix_tup _ b pins s2 σ H2 _ y v u Q I2 rx ry ⟨a, xs, i, v', rfl, ey, q H2, ha, qq⟩ (hs _ _)
/-! ### requests -/
theorem int_dw {K : PySem.W.Frag} {H : Hp} {v : V} {lo hi i : Int} (h : Dw K H v ((Codec.int lo hi).enc i)) : v = .int i := by
  cases h
  rfl
theorem list_dw {K : PySem.W.Frag} {H : Hp} {v : V} {lo hi : Int} {m n : Nat} {l : List Int} (h : Dw K H v ((Codec.list m n (.int lo hi)).enc l)) : ∃ a, v = .ref a ∧ SqL K H a (l.map V.int) := by
  cases h with
  | lst hs ha =>
    have e := L2.ints_dw l _ ha
    subst e
    exact ⟨_, rfl, hs⟩
theorem inInt_iff {lo hi i : Int} (h : Codec.inInt lo hi i = true) : lo ≤ i ∧ i ≤ hi := by
  unfold Codec.inInt at h
  simpa using h
/-- bytes as values -/
abbrev bV (c : UInt8) : V := .int (Ms.bi c)
theorem bytes_of {l : List Int} {m n : Nat} (h : (Codec.inLen m n l && l.all (Codec.inInt 0 255)) = true) : l.length ≤ n ∧ l.map V.int = (Sf81Neutral.bs l).map bV := by
  rw [Bool.and_eq_true] at h
  refine ⟨(Codec.inNat_iff.mp h.1).2, ?_⟩
  have q : ∀ z ∈ l, 0 ≤ z ∧ z ≤ 255 := fun z hz => inInt_iff (List.all_eq_true.mp h.2 z hz)
  have e := Ms.bs_back q
  have e2 : l.map V.int = ((Sf81Neutral.bs l).map Ms.bi).map V.int := congrArg (List.map V.int) e
  rw [e2, List.map_map]
  rfl
theorem xor_nn (a b : Nat) : Builtin.bitXor (a : Int) (b : Int) = ((a ^^^ b : Nat) : Int) := by
  have e := Bits.bitXor_pp (x := (a : Int)) (y := (b : Int)) (by omega) (by omega)
  exact e
theorem q_int {Q : VK} {H : Hp} {i j : Int} (h : Q (.int i) H) (e : j = i) : Q (.int j) H := e ▸ h
theorem q_bl {Q : VK} {H : Hp} {b c : Bool} (h : Q (.bl b) H) (e : c = b) : Q (.bl c) H := e ▸ h
theorem st_int3 {a b c d : Option V} {i j : Int} (e : i = j) : ([a, b, c, some (V.int i), d] : List (Option V)) = [a, b, c, some (V.int j), d] := e ▸ rfl
theorem st_int23 {a b d : Option V} {i j i' j' : Int} (e : i = i') (e' : j = j') : ([a, b, some (V.int i), some (V.int j), d] : List (Option V)) = [a, b, some (V.int i'), some (V.int j'), d] := e ▸ e' ▸ rfl
theorem args_int {i j : Int} {r : List V} (e : i = j) : (V.int i :: r) = (V.int j :: r) := e ▸ rfl
theorem args_int2 {a : V} {i j : Int} {r : List V} (e : i = j) : (a :: V.int i :: r) = (a :: V.int j :: r) := e ▸ rfl
theorem fall_at {k : Int} {p : Sf81.Poly} (h : Sf81.kindOf k = some (.crc p)) : atI [V.int 2197175160, V.int 14514072000185962306] k = some (V.int (p.fall : Nat)) := by
  rcases Ms.kind_some h with ⟨rfl, e⟩ | ⟨rfl, e⟩ | ⟨rfl, e⟩ | ⟨rfl, e⟩
  · cases e
    rfl
  · cases e
    rfl
  · cases e
  · cases e
theorem ones_at {k : Int} {p : Sf81.Poly} (h : Sf81.kindOf k = some (.crc p)) : atI [V.int 4294967295, V.int 18446744073709551615] k = some (V.int (p.ones : Nat)) := by
  rcases Ms.kind_some h with ⟨rfl, e⟩ | ⟨rfl, e⟩ | ⟨rfl, e⟩ | ⟨rfl, e⟩
  · cases e
    rfl
  · cases e
    rfl
  · cases e
  · cases e
theorem neg1 {H : Hp} {p : Addr} : (upd H p (.lst [V.int (-1)])) p = some (.lst ((Sf81Neutral.listOf (Sf81.says (-1))).map V.int)) := upd_same
theorem pos_lit {j : Int} (h : 0 < j) : 0 < j := h
theorem ite2b {c : Bool} {A B : Prop} (h1 : c = true → A) (h2 : c = false → B) : if c = true then A else B := by
  cases c with
  | true => exact iteT (h1 rfl)
  | false => exact iteF (h2 rfl)
theorem one_ok {a : V} : ([a] : List V).length ≤ sizeLine := by
  show 1 ≤ sizeLine
  decide
theorem two_ok {a b : V} : ([a, b] : List V).length ≤ sizeLine := by
  show 2 ≤ sizeLine
  decide
/-- a test by a letter: numbers in it are never unfolded -/
theorem dec_ex (p : Prop) [Decidable p] : ∃ c : Bool, decide p = c ∧ (c = true → p) ∧ (c = false → ¬ p) := ⟨_, rfl, of_decide_eq_true, of_decide_eq_false⟩
theorem half_odd {s : Nat} (h : s / 65536 ≤ 1) : (s : Int) / 65536 = ((Ms.b2n (s / 65536 == 1) : Nat) : Int) := by
  have e := Ms.wst_odd h []
  show _ = ((Ms.b2n (Ms.wst (s / 65536 == 1) []).2 : Nat) : Int)
  rw [e]
  show _ = (((s / 65536 + 0) % 2 : Nat) : Int)
  omega
theorem bytes_sq {K : PySem.W.Frag} {H : Hp} {a : Addr} {b : Sf81.Bytes} (h : SqL K H a (b.map bV)) : SqL K H a ((b.map Ms.bi).map V.int) := by
  rw [List.map_map]
  exact h
theorem and_nn (a b : Nat) : Builtin.bitAnd (a : Int) (b : Int) = ((a &&& b : Nat) : Int) := by
  have e := PyProof.Rows.bitAnd_pp (x := (a : Int)) (y := (b : Int)) (by omega) (by omega)
  exact e
theorem is_crc {k : Int} {x : Sf81.Kind} (hk : Sf81.kindOf k = some x) (n2 : ¬ k = 2) (n3 : ¬ k = 3) : ∃ p, x = .crc p := by
  rcases Ms.kind_some hk with ⟨e, z⟩ | ⟨e, z⟩ | ⟨e, z⟩ | ⟨e, z⟩
  · exact ⟨_, z⟩
  · exact ⟨_, z⟩
  · exact absurd e n2
  · exact absurd e n3
theorem mul_ok {i : Int} (h0 : 0 ≤ i) (h1 : i < 18446744073709551616) : -(2 ^ 64) < i ∧ i < 2 ^ 64 := ⟨by omega, by omega⟩
theorem both {a b : Bool} (h : (a && b) = true) : a = true ∧ b = true := by
  rw [Bool.and_eq_true] at h
  exact h
end My
namespace My
open PySem PySem.Spec PyProof.Rows L2
open PySem.W (Codec)
def top (i : Nat) : Stmt := PySem.Challenge.pw_damagesums_s13_found.main.body.getD i (.Pass ⟨0, 0, 0, 0⟩)
abbrev s_one_bit_on : Stmt := top 11
theorem sc_one_bit_on : FnScope ["x", "feedback"] ["x", "feedback"] (defScope s_one_bit_on) := ⟨rfl, rfl, rfl, by decide +kernel, rfl, by decide +kernel, by decide +kernel⟩
abbrev s_turned_bit : Stmt := top 10
theorem sc_turned_bit : FnScope ["k", "difference", "n", "x", "ahead"] ["k", "difference", "n"] (defScope s_turned_bit) := ⟨rfl, rfl, rfl, by decide +kernel, rfl, by decide +kernel, by decide +kernel⟩
abbrev s_is_by_bits : Stmt := top 8
theorem sc_is_by_bits : FnScope ["k"] ["k"] (defScope s_is_by_bits) := ⟨rfl, rfl, rfl, by decide +kernel, rfl, by decide +kernel, by decide +kernel⟩
abbrev s_is_state : Stmt := top 9
theorem sc_is_state : FnScope ["k", "s"] ["k", "s"] (defScope s_is_state) := ⟨rfl, rfl, rfl, by decide +kernel, rfl, by decide +kernel, by decide +kernel⟩
abbrev s_found : Stmt := top 14
theorem sc_found : FnScope ["k", "given", "should", "n", "place"] ["k", "given", "should", "n"] (defScope s_found) := ⟨rfl, rfl, rfl, by decide +kernel, rfl, by decide +kernel, by decide +kernel⟩
structure Txt (K : PySem.W.Frag) (mg : Str → Option Value) : Prop where
  dummy : True
  c_ONES : ∃ t, mg "ONES" = some (.int (2) t)
  c_ADLER : ∃ t, mg "ADLER" = some (.int (3) t)
  c_HALF : ∃ t, mg "HALF" = some (.int (65536) t)
  c_ONES_HIGHEST_STATE : ∃ t, mg "ONES_HIGHEST_STATE" = some (.int (131071) t)
  c_ADLER_MODULUS : ∃ t, mg "ADLER_MODULUS" = some (.int (65521) t)
  c_LONGEST_TEXT : ∃ t, mg "LONGEST_TEXT" = some (.int (65536) t)
  t_FEEDBACK : ∃ a, mg "FEEDBACK" = some (.ref a) ∧ ∀ H, SqT K H a [.int 2197175160, .int 14514072000185962306]
  t_ALL_BITS : ∃ a, mg "ALL_BITS" = some (.ref a) ∧ ∀ H, SqT K H a [.int 4294967295, .int 18446744073709551615]
  b_range : mg "range" = none
section
variable {P : Program} {w : World} {K : PySem.W.Frag} {mg : Str → Option Value} {base : Heap}
def sp_one_bit_on (K : PySem.W.Frag) : Sp := fun vs H Q _ => ∃ (x g : Nat), vs = [.int x, .int g] ∧ Q (.int (Ms.bit1 g x : Nat)) H
theorem ok_one_bit_on {f : Addr} {fd : FuncData} (F : Fun K "one_bit_on" "one_bit_on" s_one_bit_on f fd) (T : Txt K mg) : FnOk P w K mg base CX0 1 f fd ["x", "feedback"] (sp_one_bit_on K) := by
  refine F.ok sc_one_bit_on (fun vs H Q E h => ?_) (fun cdv A outer s H vs Q E hr h => ?_)
  · obtain ⟨x, g, rfl, k⟩ := h
    rfl
  · obtain ⟨x, g, rfl, k⟩ := h
    refine ⟨_, (pss_cons (ps_if (pt_cmpR op_eq (pe_op op_mod (pv 0) pe_int) pe_int (nomark _)) (pss_one (ps_ret (pe_op op_xor (pe_op op_fdiv (pv 0) pe_int) (pv 1)))) pss_nil)
      (pss_one (ps_ret (pe_op op_fdiv (pv 0) pe_int)))), ?_⟩
    refine ⟨_, rfl, _, _, rfl, rfl, My.pos_lit (by decide), rfl, _, rfl, My.ite2b (fun e => ?_) (fun e => ?_)⟩
    · have e1 : (x : Int) % 2 = 1 := V.int.inj (of_decide_eq_true e)
      refine ⟨_, rfl, _, _, rfl, rfl, ⟨by decide, by decide⟩, _, rfl, _, _, rfl, rfl, My.q_int k ?_⟩
      have e2 : (x : Int) / 2 = ((x / 2 : Nat) : Int) := by omega
      rw [e2, My.xor_nn]
      unfold Ms.bit1
      rw [if_pos (by omega)]
    · have e1 : ¬ (x : Int) % 2 = 1 := fun z => of_decide_eq_false e (congrArg V.int z)
      refine ⟨_, rfl, _, _, rfl, rfl, ⟨by decide, by decide⟩, My.q_int k ?_⟩
      unfold Ms.bit1
      rw [if_neg (by omega)]
      omega
def sp_turned_bit (K : PySem.W.Frag) : Sp := fun vs H Q _ => ∃ (k : Int) (p : Sf81.Poly) (d n : Nat), vs = [.int k, .int d, .int n] ∧ Sf81.kindOf k = some (.crc p) ∧ d < 2 ^ p.bits ∧ n ≤ 65536 ∧ (∀ z, p.found n 0 d = some z → Q (.int ((8 * (n - 1 - z.1) + z.2 : Nat) : Int)) H) ∧ (p.found n 0 d = none → Q .non H)
theorem ok_turned_bit {f : Addr} {fd : FuncData} (F : Fun K "turned_bit" "turned_bit" s_turned_bit f fd) (T : Txt K mg) (C_one_bit_on : My.Cal P w K mg base 1 "one_bit_on" ["x", "feedback"] (sp_one_bit_on K)) : FnOk P w K mg base CX0 2 f fd ["k", "difference", "n"] (sp_turned_bit K) := by
  refine F.ok sc_turned_bit (fun vs H Q E h => ?_) (fun cdv A outer s H vs Q E hr h => ?_)
  · obtain ⟨k, p, d, n, rfl, hk, hd, hn, qs, qn⟩ := h
    rfl
  · obtain ⟨k, p, d, n, rfl, hk, hd, hn, qs, qn⟩ := h
    refine ⟨_, (pss_cons (ps_set (i := 3) sc_turned_bit.nd rfl (Or.inl rfl) (My.pe_tc (by rfl) T.t_FEEDBACK (pv 0) (fun _ _ => rfl)))
      (pss_cons (ps_for PassesOwn.never rfl (pi_range1 (by rfl) T.b_range (pa_cons (pe_op op_mul pe_int (pv 2)) pa_nil)) (pg_name (i := 4) sc_turned_bit.nd rfl (Or.inl rfl))
        (pss_cons (ps_if (pt_cmpR op_eq (pv 3) (pv 1) (nomark _)) (pss_one (ps_ret (pe_op op_sub (pe_op op_sub (pe_op op_mul pe_int (pv 2)) pe_int) (pv 4)))) pss_nil)
      (pss_one (ps_set (i := 3) sc_turned_bit.nd rfl (Or.inl rfl) (My.pe_cal C_one_bit_on (hr.mono (by decide)) (by rfl) (pa_cons (pv 3) (pa_cons (My.pe_tc (by rfl) T.t_FEEDBACK (pv 0) (fun _ _ => rfl)) pa_nil)))))))
      (pss_one (ps_ret pe_non)))), ?_⟩
    have g := Ms.good_of hk
    have b1 : -(2 ^ 62) ≤ (8 : Int) * (n : Int) := by omega
    have b2 : (8 : Int) * (n : Int) < 2 ^ 62 := by omega
    refine ⟨_, rfl, k, _, rfl, fall_at hk, ?_⟩
    refine ⟨_, rfl, _, _, rfl, rfl, .inl ⟨by decide, by decide⟩, _, rfl, b1, b2, for_range (lo := 0) (n := 8 * n) (fun i σ H' => ∃ v, σ = [some (.int k), some (.int d), some (.int n), some (.int (p.on i p.fall : Nat)), v] ∧ (∀ m, m < i → ¬ p.on m p.fall = d) ∧ H' = H) ⟨none, rfl, fun m hm => absurd hm (Nat.not_lt_zero m), rfl⟩ ?_ ?_⟩
    · rintro i σ H' hi ⟨v, rfl, no, rfl⟩
      obtain ⟨cc, hc, ht, hf⟩ := My.dec_ex (V.int ((p.on i p.fall : Nat) : Int) = V.int (d : Int))
      refine ⟨_, rfl, _, rfl, rfl, cc, congrArg V.bl hc, ?_⟩
      cases cc with
      | true =>
        have e : p.on i p.fall = d := Int.ofNat.inj (V.int.inj (ht rfl))
        have z := Ms.found_hit g hd hi e no
        refine iteT ⟨_, rfl, _, _, rfl, rfl, .inl ⟨by decide, by decide⟩, _, _, rfl, rfl, _, rfl, _, _, rfl, rfl, My.q_int (qs _ z) ?_⟩
        show (8 : Int) * (n : Int) - 1 - (0 + (i : Int)) = ((8 * (n - 1 - i / 8) + (7 - i % 8) : Nat) : Int)
        omega
      | false =>
        have e : ¬ p.on i p.fall = d := fun z => hf rfl (congrArg (fun (j : Nat) => V.int (j : Int)) z)
        refine iteF ⟨_, rfl, _, rfl, k, _, rfl, fall_at hk, p.on i p.fall, p.fall, rfl, ?_⟩
        refine ⟨some (.int (0 + (i : Int))), ?_, ?_, rfl⟩
        · rw [Ms.on_last]
          rfl
        · intro m hm z
          by_cases em : m = i
          · subst em
            exact e z
          · exact no m (by omega) z
    · rintro σ H' ⟨v, rfl, no, rfl⟩
      exact qn (Ms.found_not g hd no)
def sp_is_by_bits (K : PySem.W.Frag) : Sp := fun vs H Q _ => ∃ (k : Int), vs = [.int k] ∧ Q (.bl (decide (0 ≤ k ∧ k < 2))) H
theorem ok_is_by_bits {f : Addr} {fd : FuncData} (F : Fun K "is_by_bits" "is_by_bits" s_is_by_bits f fd) (T : Txt K mg) : FnOk P w K mg base CX0 1 f fd ["k"] (sp_is_by_bits K) := by
  refine F.ok sc_is_by_bits (fun vs H Q E h => ?_) (fun cdv A outer s H vs Q E hr h => ?_)
  · obtain ⟨k, rfl, q⟩ := h
    rfl
  · obtain ⟨k, rfl, q⟩ := h
    refine ⟨_, (pss_one (ps_ret (pe_chain op_le op_lt pe_int (pv 0) (My.pe_ci (by rfl) T.c_ONES)))), ?_⟩
    refine ⟨_, rfl, _, _, rfl, rfl, _, rfl, ?_⟩
    refine My.ite2b (fun e => ?_) (fun e => ?_)
    · have e1 : (0 : Int) ≤ k := of_decide_eq_true e
      refine ⟨_, _, rfl, rfl, My.q_bl q ?_⟩
      exact decide_eq_decide.mpr ⟨fun z => ⟨e1, z⟩, fun z => z.2⟩
    · have e1 : ¬ (0 : Int) ≤ k := of_decide_eq_false e
      refine My.q_bl q ?_
      exact (decide_eq_false fun z => e1 z.1).symm
def sp_is_state (K : PySem.W.Frag) : Sp := fun vs H Q _ => ∃ (k : Int) (x : Sf81.Kind) (s : Nat), vs = [.int k, .int s] ∧ Sf81.kindOf k = some x ∧ Q (.bl (x.ok s)) H
theorem ok_is_state {f : Addr} {fd : FuncData} (F : Fun K "is_state" "is_state" s_is_state f fd) (T : Txt K mg) : FnOk P w K mg base CX0 1 f fd ["k", "s"] (sp_is_state K) := by
  refine F.ok sc_is_state (fun vs H Q E h => ?_) (fun cdv A outer s H vs Q E hr h => ?_)
  · obtain ⟨k, x, s, rfl, hk, q⟩ := h
    rfl
  · obtain ⟨k, x, s, rfl, hk, q⟩ := h
    refine ⟨_, (pss_cons (ps_if (pt_cmpR op_eq (pv 0) (My.pe_ci (by rfl) T.c_ONES) (nomark _)) (pss_one (ps_ret (pe_chain op_le op_le pe_int (pv 1) (My.pe_ci (by rfl) T.c_ONES_HIGHEST_STATE)))) pss_nil)
      (pss_cons (ps_if (pt_cmpR op_eq (pv 0) (My.pe_ci (by rfl) T.c_ADLER) (nomark _)) (pss_one (ps_ret (pe_and (pe_cmpR op_le pe_int (pv 1) (nomark _)) (pe_and (pe_cmpR op_lt (pe_op op_mod (pv 1) (My.pe_ci (by rfl) T.c_HALF)) (My.pe_ci (by rfl) T.c_ADLER_MODULUS) (nomark _)) (pe_one (pe_cmpR op_lt (pe_op op_fdiv (pv 1) (My.pe_ci (by rfl) T.c_HALF)) (My.pe_ci (by rfl) T.c_ADLER_MODULUS) (nomark _))))))) pss_nil)
      (pss_one (ps_ret (pe_chain op_le op_le pe_int (pv 1) (My.pe_tc (by rfl) T.t_ALL_BITS (pv 0) (fun _ _ => rfl))))))), ?_⟩
    have h0 : (decide ((0 : Int) ≤ (s : Int))) = true := decide_eq_true (by omega)
    refine ⟨_, rfl, rfl, _, rfl, My.ite2b (fun e => ?_) (fun e => ?_)⟩
    · have e1 : k = 2 := V.int.inj (of_decide_eq_true e)
      subst e1
      cases hk
      refine ⟨_, rfl, _, _, rfl, rfl, _, rfl, ?_⟩
      rw [if_pos h0]
      refine ⟨_, _, rfl, rfl, My.q_bl q ?_⟩
      show _ = decide (s < 131072)
      exact decide_eq_decide.mpr (by omega)
    · have n2 : ¬ k = 2 := fun z => of_decide_eq_false e (congrArg V.int z)
      refine ⟨_, rfl, rfl, _, rfl, My.ite2b (fun e => ?_) (fun e => ?_)⟩
      · have e1 : k = 3 := V.int.inj (of_decide_eq_true e)
        subst e1
        cases hk
        refine ⟨_, rfl, _, _, rfl, rfl, _, rfl, ?_⟩
        rw [if_pos h0]
        obtain ⟨cc, hc, ht, hf⟩ := My.dec_ex ((s : Int) % 65536 < 65521)
        refine ⟨_, rfl, _, _, rfl, rfl, My.pos_lit (by decide), _, _, rfl, rfl, cc, congrArg V.bl hc, ?_⟩
        cases cc with
        | true =>
          have e1 := ht rfl
          refine iteT ?_
          refine ⟨_, rfl, _, _, rfl, rfl, ⟨by decide, by decide⟩, _, _, rfl, rfl, My.q_bl q ?_⟩
          show _ = (decide (s % 65536 < 65521) && decide (s / 65536 < 65521))
          rw [decide_eq_true (show s % 65536 < 65521 by omega), Bool.true_and]
          exact decide_eq_decide.mpr (by omega)
        | false =>
          have e1 := hf rfl
          refine iteF ?_
          refine My.q_bl q ?_
          show _ = (decide (s % 65536 < 65521) && decide (s / 65536 < 65521))
          rw [decide_eq_false (show ¬ s % 65536 < 65521 by omega), Bool.false_and]
      · have n3 : ¬ k = 3 := fun z => of_decide_eq_false e (congrArg V.int z)
        have hp : ∃ p, x = .crc p := by
          rcases Ms.kind_some hk with ⟨e, z⟩ | ⟨e, z⟩ | ⟨e, z⟩ | ⟨e, z⟩
          · exact ⟨_, z⟩
          · exact ⟨_, z⟩
          · exact absurd e n2
          · exact absurd e n3
        obtain ⟨p, rfl⟩ := hp
        refine ⟨_, rfl, _, _, rfl, rfl, _, rfl, ?_⟩
        rw [if_pos h0]
        refine ⟨_, rfl, k, _, rfl, ones_at hk, _, _, rfl, rfl, My.q_bl q ?_⟩
        show _ = decide (s < 2 ^ p.bits)
        refine decide_eq_decide.mpr ?_
        have h1 : p.ones + 1 = 2 ^ p.bits := Nat.sub_add_cancel (Nat.one_le_two_pow)
        omega
def sp_found (K : PySem.W.Frag) : Sp := fun vs H Q _ => ∃ (k : Int) (i w n : Nat), vs = [.int k, .int i, .int w, .int n] ∧ ∀ (H' : Hp) (p : Addr), H' p = some (.lst ((Sf81Neutral.listOf (Sf81.does (.found k i w n))).map V.int)) → Q (.ref p) H'
theorem ok_found {f : Addr} {fd : FuncData} (F : Fun K "found" "found" s_found f fd) (T : Txt K mg) (C_turned_bit : My.Cal P w K mg base 2 "turned_bit" ["k", "difference", "n"] (sp_turned_bit K)) (C_is_by_bits : My.Cal P w K mg base 1 "is_by_bits" ["k"] (sp_is_by_bits K)) (C_is_state : My.Cal P w K mg base 1 "is_state" ["k", "s"] (sp_is_state K)) : FnOk P w K mg base CX0 3 f fd ["k", "given", "should", "n"] (sp_found K) := by
  refine F.ok sc_found (fun vs H Q E h => ?_) (fun cdv A outer s H vs Q E hr h => ?_)
  · obtain ⟨k, i, w, n, rfl, q⟩ := h
    rfl
  · obtain ⟨k, i, w, n, rfl, q⟩ := h
    refine ⟨_, (pss_cons (ps_if (PW.pt (pw_or (pt_not (pt_val (My.pe_cal C_is_by_bits (hr.mono (by decide)) (by rfl) (pa_cons (pv 0) pa_nil)))) (pw_or (pt_not (pt_val (My.pe_cal C_is_state (hr.mono (by decide)) (by rfl) (pa_cons (pv 0) (pa_cons (pv 1) pa_nil))))) (pw_or (pt_not (pt_val (My.pe_cal C_is_state (hr.mono (by decide)) (by rfl) (pa_cons (pv 0) (pa_cons (pv 2) pa_nil))))) (pw_or1 (pt_cmpR op_gt (pv 3) (My.pe_ci (by rfl) T.c_LONGEST_TEXT) (nomark _))))))) (pss_one (ps_ret (pe_lst (pa_cons (pe_un un_neg pe_int) pa_nil)))) pss_nil)
      (pss_cons (ps_set (i := 4) sc_found.nd rfl (Or.inl rfl) (My.pe_cal C_turned_bit (hr.mono (by decide)) (by rfl) (pa_cons (pv 0) (pa_cons (pe_op op_xor (pv 1) (pv 2)) (pa_cons (pv 3) pa_nil)))))
      (pss_cons (ps_if (pt_cmpR op_isN (pv 4) pe_non (nomark _)) (pss_one (ps_ret (pe_lst (pa_cons (pe_un un_neg pe_int) pa_nil)))) pss_nil)
      (pss_one (ps_ret (pe_lst (pa_cons pe_int (pa_cons (pv 4) pa_nil)))))))), ?_⟩
    obtain ⟨cc, hc, ht, hf⟩ := My.dec_ex (0 ≤ k ∧ k < 2)
    refine ⟨_, rfl, k, rfl, cc, congrArg V.bl hc, ?_⟩
    cases cc with
    | false =>
      refine iteT (iteT ⟨1, rfl, My.one_ok, fun r0 hr0 => q _ r0 ?_⟩)
      have z : Sf81.does (.found k i w n) = Sf81.says (-1) := Ms.ofCrc_not (hf rfl)
      rw [z]
      exact neg1
    | true =>
      obtain ⟨p, e⟩ := Ms.crc_of (ht rfl)
      have hd : Sf81.does (.found k i w n) = (if i < 2 ^ p.bits ∧ w < 2 ^ p.bits ∧ n ≤ 65536 then (match p.found n 0 (i ^^^ w) with
        | some x => ⟨0, [8 * (n - 1 - x.1) + x.2]⟩
        | none => Sf81.says (-2)) else Sf81.says (-1)) := Ms.ofCrc_some e
      refine iteF ⟨_, rfl, _, rfl, k, .crc p, i, rfl, e, _, rfl, ?_⟩
      cases e2 : (Sf81.Kind.crc p).ok i with
      | false =>
        refine iteT (iteT ⟨1, rfl, My.one_ok, fun r0 hr0 => q _ r0 ?_⟩)
        have e3 : ¬ i < 2 ^ p.bits := of_decide_eq_false e2
        rw [hd, if_neg (fun z => e3 z.1)]
        exact neg1
      | true =>
        have e3 : i < 2 ^ p.bits := of_decide_eq_true e2
        refine iteF ⟨_, rfl, _, rfl, k, .crc p, w, rfl, e, _, rfl, ?_⟩
        cases e4 : (Sf81.Kind.crc p).ok w with
        | false =>
          refine iteT (iteT ⟨1, rfl, My.one_ok, fun r0 hr0 => q _ r0 ?_⟩)
          have e5 : ¬ w < 2 ^ p.bits := of_decide_eq_false e4
          rw [hd, if_neg (fun z => e5 z.2.1)]
          exact neg1
        | true =>
          have e5 : w < 2 ^ p.bits := of_decide_eq_true e4
          refine iteF ⟨_, rfl, _, _, rfl, rfl, _, rfl, My.ite2b (fun e6 => ?_) (fun e6 => ?_)⟩
          · have e7 := of_decide_eq_true e6
            refine ⟨1, rfl, My.one_ok, fun r0 hr0 => q _ r0 ?_⟩
            rw [hd, if_neg (fun z => absurd z.2.2 (by omega))]
            exact neg1
          · have e7 := of_decide_eq_false e6
            have hn : n ≤ 65536 := by omega
            refine ⟨_, rfl, _, rfl, _, rfl, _, _, rfl, rfl, _, rfl, k, p, i ^^^ w, n, My.args_int2 (My.xor_nn _ _), e, Nat.xor_lt_two_pow e3 e5, hn, fun z hz => ?_, fun hz => ?_⟩
            · refine ⟨_, rfl, rfl, false, congrArg V.bl (decide_eq_false fun y => by cases y), ?_⟩
              refine iteF ⟨_, rfl, My.two_ok, fun r0 hr0 => q _ r0 ?_⟩
              rw [hd, if_pos ⟨e3, e5, hn⟩, hz]
              exact upd_same
            · refine ⟨_, rfl, rfl, true, congrArg V.bl (decide_eq_true rfl), ?_⟩
              refine iteT ⟨2, rfl, My.one_ok, fun r0 hr0 => q _ r0 ?_⟩
              rw [hd, if_pos ⟨e3, e5, hn⟩, hz]
              exact upd_same
end
theorem all_mk {P : Program} {w : World} {K : PySem.W.Frag} {h : Heap} {mg : Str → Option Value} {fa f0 f1 f2 f3 f4 a_FEEDBACK a_ALL_BITS : Addr} {od0 an0 od1 an1 od2 an2 od3 an3 od4 an4 d_FEEDBACK d_ALL_BITS : Option Addr} {sl0 sl1 sl2 sl3 sl4 x_FEEDBACK x_ALL_BITS : Array (Option Value)} {oc0 kV0 dc0 pm0 cd0 ct0 oc1 kV1 dc1 pm1 cd1 ct1 oc2 kV2 dc2 pm2 cd2 ct2 oc3 kV3 dc3 pm3 cd3 ct3 oc4 kV4 dc4 pm4 cd4 ct4 : Value} {t_ONES t_ADLER t_HALF t_ONES_HIGHEST_STATE t_ADLER_MODULUS t_LONGEST_TEXT : Nat} {s_FEEDBACK s_ALL_BITS : Array Value} {n_FEEDBACK n_ALL_BITS : Nat} (X : K.In h) (G : h.Ns mainGlobals mg) (hfa : mg "found" = some (.ref fa))
    (a0 : PySem.W.nsIn K mainGlobals "one_bit_on" = some (some (.ref f0))) (l0 : K.lookup f0 = some ⟨oc0, od0, .func (PySem.W.fnOf "one_bit_on" "one_bit_on" (defArgs s_one_bit_on) (defBody s_one_bit_on) (defScope s_one_bit_on) .none kV0 dc0 pm0 an0 cd0 ct0), sl0⟩) (c0 : PySem.W.codeIn K cd0 "one_bit_on" = true) (k0 : PySem.W.keepIn K (.ref f0) = true)
    (a1 : PySem.W.nsIn K mainGlobals "turned_bit" = some (some (.ref f1))) (l1 : K.lookup f1 = some ⟨oc1, od1, .func (PySem.W.fnOf "turned_bit" "turned_bit" (defArgs s_turned_bit) (defBody s_turned_bit) (defScope s_turned_bit) .none kV1 dc1 pm1 an1 cd1 ct1), sl1⟩) (c1 : PySem.W.codeIn K cd1 "turned_bit" = true) (k1 : PySem.W.keepIn K (.ref f1) = true)
    (a2 : PySem.W.nsIn K mainGlobals "is_by_bits" = some (some (.ref f2))) (l2 : K.lookup f2 = some ⟨oc2, od2, .func (PySem.W.fnOf "is_by_bits" "is_by_bits" (defArgs s_is_by_bits) (defBody s_is_by_bits) (defScope s_is_by_bits) .none kV2 dc2 pm2 an2 cd2 ct2), sl2⟩) (c2 : PySem.W.codeIn K cd2 "is_by_bits" = true) (k2 : PySem.W.keepIn K (.ref f2) = true)
    (a3 : PySem.W.nsIn K mainGlobals "is_state" = some (some (.ref f3))) (l3 : K.lookup f3 = some ⟨oc3, od3, .func (PySem.W.fnOf "is_state" "is_state" (defArgs s_is_state) (defBody s_is_state) (defScope s_is_state) .none kV3 dc3 pm3 an3 cd3 ct3), sl3⟩) (c3 : PySem.W.codeIn K cd3 "is_state" = true) (k3 : PySem.W.keepIn K (.ref f3) = true)
    (a4 : PySem.W.nsIn K mainGlobals "found" = some (some (.ref f4))) (l4 : K.lookup f4 = some ⟨oc4, od4, .func (PySem.W.fnOf "found" "found" (defArgs s_found) (defBody s_found) (defScope s_found) .none kV4 dc4 pm4 an4 cd4 ct4), sl4⟩) (c4 : PySem.W.codeIn K cd4 "found" = true) (k4 : PySem.W.keepIn K (.ref f4) = true)
    (i_ONES : PySem.W.nsIn K mainGlobals "ONES" = some (some (.int (2) t_ONES)))
    (i_ADLER : PySem.W.nsIn K mainGlobals "ADLER" = some (some (.int (3) t_ADLER)))
    (i_HALF : PySem.W.nsIn K mainGlobals "HALF" = some (some (.int (65536) t_HALF)))
    (i_ONES_HIGHEST_STATE : PySem.W.nsIn K mainGlobals "ONES_HIGHEST_STATE" = some (some (.int (131071) t_ONES_HIGHEST_STATE)))
    (i_ADLER_MODULUS : PySem.W.nsIn K mainGlobals "ADLER_MODULUS" = some (some (.int (65521) t_ADLER_MODULUS)))
    (i_LONGEST_TEXT : PySem.W.nsIn K mainGlobals "LONGEST_TEXT" = some (some (.int (65536) t_LONGEST_TEXT)))
    (g_FEEDBACK : PySem.W.nsIn K mainGlobals "FEEDBACK" = some (some (.ref a_FEEDBACK))) (u_FEEDBACK : K.lookup a_FEEDBACK = some ⟨.type "tuple", d_FEEDBACK, .seq s_FEEDBACK n_FEEDBACK, x_FEEDBACK⟩) (v_FEEDBACK : s_FEEDBACK.size ≤ sizeLine ∧ Vals [.int 2197175160, .int 14514072000185962306] s_FEEDBACK.toList)
    (g_ALL_BITS : PySem.W.nsIn K mainGlobals "ALL_BITS" = some (some (.ref a_ALL_BITS))) (u_ALL_BITS : K.lookup a_ALL_BITS = some ⟨.type "tuple", d_ALL_BITS, .seq s_ALL_BITS n_ALL_BITS, x_ALL_BITS⟩) (v_ALL_BITS : s_ALL_BITS.size ≤ sizeLine ∧ Vals [.int 4294967295, .int 18446744073709551615] s_ALL_BITS.toList)
    (z_range : PySem.W.nsIn K mainGlobals "range" = some none) :
    ∃ fd : FuncData, (∀ (s : Shared) (us : List Value), us.length = (["k", "given", "should", "n"] : List Str).length → BindsTo s fd ⟨us, []⟩ ((["k", "given", "should", "n"] : List Str).zip us)) ∧ ∀ base : Heap, K.In base → base.Ns mainGlobals mg → FnOk P w K mg base CX0 3 fa fd ["k", "given", "should", "n"] (sp_found K) := by
  have e := hfa.symm.trans (PySem.W.mg_of X G a4)
  cases e
  have T : Txt K mg := ⟨trivial, ⟨_, PySem.W.mg_of X G i_ONES⟩, ⟨_, PySem.W.mg_of X G i_ADLER⟩, ⟨_, PySem.W.mg_of X G i_HALF⟩, ⟨_, PySem.W.mg_of X G i_ONES_HIGHEST_STATE⟩, ⟨_, PySem.W.mg_of X G i_ADLER_MODULUS⟩, ⟨_, PySem.W.mg_of X G i_LONGEST_TEXT⟩, ⟨_, PySem.W.mg_of X G g_FEEDBACK, fun H => .inr ⟨_, _, _, u_FEEDBACK, rfl, rfl, v_FEEDBACK.1, v_FEEDBACK.2⟩⟩, ⟨_, PySem.W.mg_of X G g_ALL_BITS, fun H => .inr ⟨_, _, _, u_ALL_BITS, rfl, rfl, v_ALL_BITS.1, v_ALL_BITS.2⟩⟩, PySem.W.mg_none_of X G z_range⟩
  have F0 := fun_mk (st := s_one_bit_on) l0 c0 k0
  have b0 := F0.binds (ps := ["x", "feedback"]) fun _ _ _ _ _ _ us hl => match us, hl with | [_, _], _ => rfl
  have F1 := fun_mk (st := s_turned_bit) l1 c1 k1
  have b1 := F1.binds (ps := ["k", "difference", "n"]) fun _ _ _ _ _ _ us hl => match us, hl with | [_, _, _], _ => rfl
  have F2 := fun_mk (st := s_is_by_bits) l2 c2 k2
  have b2 := F2.binds (ps := ["k"]) fun _ _ _ _ _ _ us hl => match us, hl with | [_], _ => rfl
  have F3 := fun_mk (st := s_is_state) l3 c3 k3
  have b3 := F3.binds (ps := ["k", "s"]) fun _ _ _ _ _ _ us hl => match us, hl with | [_, _], _ => rfl
  have F4 := fun_mk (st := s_found) l4 c4 k4
  have b4 := F4.binds (ps := ["k", "given", "should", "n"]) fun _ _ _ _ _ _ us hl => match us, hl with | [_, _, _, _], _ => rfl
  refine ⟨PySem.W.fnOf "found" "found" (defArgs s_found) (defBody s_found) (defScope s_found) .none kV4 dc4 pm4 an4 cd4 ct4, fun s us hu => match us, hu with | [_, _, _, _], _ => .of_eq rfl, fun base _ _ => ?_⟩
  have C0 : My.Cal P w K mg base 1 "one_bit_on" ["x", "feedback"] (sp_one_bit_on K) := ⟨_, _, ok_one_bit_on F0 T, PySem.W.mg_of X G a0, k0, b0⟩
  have C1 : My.Cal P w K mg base 2 "turned_bit" ["k", "difference", "n"] (sp_turned_bit K) := ⟨_, _, ok_turned_bit F1 T C0, PySem.W.mg_of X G a1, k1, b1⟩
  have C2 : My.Cal P w K mg base 1 "is_by_bits" ["k"] (sp_is_by_bits K) := ⟨_, _, ok_is_by_bits F2 T, PySem.W.mg_of X G a2, k2, b2⟩
  have C3 : My.Cal P w K mg base 1 "is_state" ["k", "s"] (sp_is_state K) := ⟨_, _, ok_is_state F3 T, PySem.W.mg_of X G a3, k3, b3⟩
  exact ok_found F4 T C1 C2 C3
end My
open PySem PySem.W PyProof.Rows
set_option maxRecDepth 100000 in
set_option maxHeartbeats 8000000 in
theorem PySem.Challenge.cw_damagesums_s13_found_holds : PySem.Challenge.rw_damagesums_s13_found.Holds := by
  w_on; k_headS; (case hw => exact ⟨[.int 0, .int 0, .int 0, .int 0], by decide +kernel, by decide +kernel⟩)
  k_fillS
  refine L2.walk_specK (r := PySem.Challenge.rw_damagesums_s13_found) (k := 3) (CX := L2.CX0) (ps := ["k", "given", "should", "n"]) (sp := My.sp_found) (by decide +kernel) rfl rfl ⟨rfl, by decide, by decide⟩ (fun w h Y => PySem.W.kIn_of Y) ?F ?S (fun _ _ _ _ z => z)
  case F =>
    intro w mg fa h Y KX G hmg
    refine' My.all_mk KX G hmg ?a0 ?l0 ?c0 ?k0 ?a1 ?l1 ?c1 ?k1 ?a2 ?l2 ?c2 ?k2 ?a3 ?l3 ?c3 ?k3 ?a4 ?l4 ?c4 ?k4 ?i_ONES ?i_ADLER ?i_HALF ?i_ONES_HIGHEST_STATE ?i_ADLER_MODULUS ?i_LONGEST_TEXT ?g_FEEDBACK ?u_FEEDBACK ?v_FEEDBACK ?g_ALL_BITS ?u_ALL_BITS ?v_ALL_BITS ?z_range
    (case a0 => k_is)
    (case l0 => k_is)
    (case c0 => k_is)
    (case k0 => k_is)
    (case a1 => k_is)
    (case l1 => k_is)
    (case c1 => k_is)
    (case k1 => k_is)
    (case a2 => k_is)
    (case l2 => k_is)
    (case c2 => k_is)
    (case k2 => k_is)
    (case a3 => k_is)
    (case l3 => k_is)
    (case c3 => k_is)
    (case k3 => k_is)
    (case a4 => k_is)
    (case l4 => k_is)
    (case c4 => k_is)
    (case k4 => k_is)
    (case i_ONES => k_is)
    (case i_ADLER => k_is)
    (case i_HALF => k_is)
    (case i_ONES_HIGHEST_STATE => k_is)
    (case i_ADLER_MODULUS => k_is)
    (case i_LONGEST_TEXT => k_is)
    (case g_FEEDBACK => k_is)
    (case u_FEEDBACK => k_is)
    (case v_FEEDBACK => exact ⟨by decide, (.cons ⟨_, rfl⟩ (.cons ⟨_, rfl⟩ .nil))⟩)
    (case g_ALL_BITS => k_is)
    (case u_ALL_BITS => k_is)
    (case v_ALL_BITS => exact ⟨by decide, (.cons ⟨_, rfl⟩ (.cons ⟨_, rfl⟩ .nil))⟩)
    (case z_range => k_is)
  case S =>
    intro K H xs a hO hwi hask hx
    obtain ⟨k, s, t, n, u⟩ := a
    cases hx with
    | cons h1 hx =>
      cases hx with
      | cons h2 hx =>
        cases hx with
        | cons h3 hx =>
          cases hx with
          | cons h4 hx =>
            cases hx
            have e1 := My.int_dw h1
            have e2 := My.int_dw h2
            have e3 := My.int_dw h3
            have e4 := My.int_dw h4
            subst e1 e2 e3 e4
            have q : (Codec.inInt (-2147483648) 2147483647 k && (Codec.inInt 0 18446744073709551615 s && (Codec.inInt 0 18446744073709551615 t && (Codec.inInt 0 18446744073709551615 n && true)))) = true := hwi
            have q2 := (My.both q).2
            have q3 := (My.both q2).2
            have q4 := (My.both q3).2
            have hs := My.inInt_iff (My.both q2).1
            have ht := My.inInt_iff (My.both q3).1
            have hn := My.inInt_iff (My.both q4).1
            have es : s = ((s.toNat : Nat) : Int) := (Int.toNat_of_nonneg hs.1).symm
            have et : t = ((t.toNat : Nat) : Int) := (Int.toNat_of_nonneg ht.1).symm
            have en : n = ((n.toNat : Nat) : Int) := (Int.toNat_of_nonneg hn.1).symm
            refine ⟨k, s.toNat, t.toNat, n.toNat, ?_, fun H' p hp => .lst (L2.SqL.of hp) (L2.dw_ints _)⟩
            rw [← es, ← et, ← en]
#print axioms PySem.Challenge.cw_damagesums_s13_found_holds
