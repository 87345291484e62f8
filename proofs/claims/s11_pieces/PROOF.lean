import PyProof.Rows.All
import Wide.All
import OpenK.AllK
import Wide.FinOn
import Open.SpecLaws
import KE.OsGo
import HandS.ForSpec
import HandS.Text
import HandS.Comp
import HandS.Iter
import HandS.Walk
import PySem.Challenge.RW_damagesums_s11_pieces
set_option Elab.async false
set_option linter.all false
set_option maxRecDepth 100000
set_option maxHeartbeats 2000000
namespace Ms
open Sf81
/-! ### bits -/
def bit1 (f x : Nat) : Nat := if x % 2 = 1 then x / 2 ^^^ f else x / 2
theorem on_succ (p : Poly) (n x : Nat) : p.on (n + 1) x = p.on n (bit1 p.fall x) := rfl
theorem on_last (p : Poly) : ∀ n x : Nat, p.on (n + 1) x = bit1 p.fall (p.on n x)
  | 0, _ => rfl
  | n + 1, x => by
    rw [on_succ p (n + 1) x, on_last p n (bit1 p.fall x)]
    rfl
/-! ### lists: one item more -/
theorem take_more {α : Type} {l : List α} {i : Nat} {x : α} (h : l[i]? = some x) : l.take (i + 1) = l.take i ++ [x] := by
  rw [List.take_add_one, h]
  rfl
theorem fold_more {α β : Type} {f : β → α → β} {z : β} {l : List α} {i : Nat} {x : α} (h : l[i]? = some x) : (l.take (i + 1)).foldl f z = f ((l.take i).foldl f z) x := by
  rw [take_more h, List.foldl_append]
  rfl
theorem get_map {α β : Type} {f : α → β} {l : List α} {i : Nat} {y : β} (h : (l.map f)[i]? = some y) : ∃ x, l[i]? = some x ∧ y = f x := by
  rw [List.getElem?_map] at h
  cases e : l[i]? with
  | none =>
    rw [e] at h
    cases h
  | some x =>
    rw [e] at h
    exact ⟨x, rfl, (Option.some.inj h).symm⟩
/-! ### bytes as ints -/
abbrev bi (c : UInt8) : Int := (c.toNat : Int)
theorem bs_back : ∀ {l : List Int}, (∀ z ∈ l, 0 ≤ z ∧ z ≤ 255) → l = (Sf81Neutral.bs l).map bi
  | [], _ => rfl
  | z :: r, h => by
    have h1 := h z (List.mem_cons_self ..)
    have h2 := bs_back (l := r) fun y hy => h y (List.mem_cons_of_mem _ hy)
    have e : z = bi (UInt8.ofNat z.toNat) := by
      show z = (((UInt8.ofNat z.toNat).toNat : Nat) : Int)
      rw [UInt8.toNat_ofNat']
      omega
    show z :: r = bi (UInt8.ofNat z.toNat) :: (Sf81Neutral.bs r).map bi
    rw [← e, ← h2]
theorem bs_length (l : List Int) : (Sf81Neutral.bs l).length = l.length := by
  unfold Sf81Neutral.bs
  exact List.length_map _
/-! ### kinds -/
theorem kind_some {k : Int} {x : Kind} (h : kindOf k = some x) : (k = 0 ∧ x = .crc CRC32) ∨ (k = 1 ∧ x = .crc CRC64) ∨ (k = 2 ∧ x = .ones) ∨ (k = 3 ∧ x = .adler) := by
  unfold kindOf at h
  split at h
  · exact .inl ⟨by assumption, (Option.some.inj h).symm⟩
  · split at h
    · exact .inr (.inl ⟨by assumption, (Option.some.inj h).symm⟩)
    · split at h
      · exact .inr (.inr (.inl ⟨by assumption, (Option.some.inj h).symm⟩))
      · split at h
        · exact .inr (.inr (.inr ⟨by assumption, (Option.some.inj h).symm⟩))
        · cases h
theorem kind_is {k : Int} (h0 : 0 ≤ k) (h3 : k ≤ 3) : ∃ x, kindOf k = some x := by
  have h : k = 0 ∨ k = 1 ∨ k = 2 ∨ k = 3 := by omega
  rcases h with rfl | rfl | rfl | rfl
  · exact ⟨_, rfl⟩
  · exact ⟨_, rfl⟩
  · exact ⟨_, rfl⟩
  · exact ⟨_, rfl⟩
theorem kind_none {k : Int} (h : ¬ (0 ≤ k ∧ k ≤ 3)) : kindOf k = none := by
  unfold kindOf
  rw [if_neg (by omega), if_neg (by omega), if_neg (by omega), if_neg (by omega)]
theorem kind_bool (k : Int) : (kindOf k).isSome = decide (0 ≤ k ∧ k ≤ 3) := by
  by_cases h : 0 ≤ k ∧ k ≤ 3
  · obtain ⟨x, e⟩ := kind_is h.1 h.2
    rw [e, decide_eq_true h]
    rfl
  · rw [kind_none h, decide_eq_false h]
    rfl
theorem ofKind_none {k : Int} {f : Kind → Ans} (h : kindOf k = none) : ofKind k f = says (-1) := by
  unfold ofKind
  rw [h]
theorem ofKind_some {k : Int} {x : Kind} {f : Kind → Ans} (h : kindOf k = some x) : ofKind k f = f x := by
  unfold ofKind
  rw [h]
/-! ### the ones' complement sum, byte by byte -/
def wstep (x : Nat × Bool) (c : UInt8) : Nat × Bool := (x.1 + (if x.2 = true then c.toNat else 256 * c.toNat), !x.2)
def wst (odd : Bool) (b : Bytes) : Nat × Bool := b.foldl wstep (0, odd)
theorem wst_sum (odd : Bool) (b : Bytes) : wordsSum odd b = (wst odd b).1 := rfl
theorem wst_more {odd : Bool} {b : Bytes} {i : Nat} {c : UInt8} (h : b[i]? = some c) : wst odd (b.take (i + 1)) = wstep (wst odd (b.take i)) c := fold_more h
theorem wfold_odd : ∀ (b : Bytes) (z : Nat × Bool), (b.foldl wstep z).2 = (if b.length % 2 = 0 then z.2 else !z.2)
  | [], _ => rfl
  | c :: r, z => by
    show (r.foldl wstep (wstep z c)).2 = _
    rw [wfold_odd r, List.length_cons]
    show (if r.length % 2 = 0 then !z.2 else !!z.2) = _
    by_cases h : r.length % 2 = 0
    · rw [if_pos h, if_neg (by omega)]
    · rw [if_neg h, if_pos (by omega), Bool.not_not]
def b2n (b : Bool) : Nat := if b = true then 1 else 0
theorem wst_odd {m : Nat} (hm : m ≤ 1) (b : Bytes) : b2n (wst (m == 1) b).2 = (m + b.length) % 2 := by
  have e := wfold_odd b (0, (m == 1))
  unfold wst
  rw [e]
  have h : m = 0 ∨ m = 1 := by omega
  rcases h with rfl | rfl
  · by_cases q : b.length % 2 = 0
    · rw [if_pos q]
      show 0 = _
      omega
    · rw [if_neg q]
      show 1 = _
      omega
  · by_cases q : b.length % 2 = 0
    · rw [if_pos q]
      show 1 = _
      omega
    · rw [if_neg q]
      show 0 = _
      omega
/-! ### Adler-32, byte by byte -/
def astep (x : Nat × Nat) (c : UInt8) : Nat × Nat := ((x.1 + c.toNat) % MOD, (x.2 + x.1 + c.toNat) % MOD)
def ast (z : Nat × Nat) (b : Bytes) : Nat × Nat := b.foldl astep z
theorem ast_more {z : Nat × Nat} {b : Bytes} {i : Nat} {c : UInt8} (h : b[i]? = some c) : ast z (b.take (i + 1)) = astep (ast z (b.take i)) c := fold_more h
/-! ### one bit after another over bytes -/
def rstep (p : Poly) (x : Nat) (c : UInt8) : Nat := p.on 8 (x ^^^ c.toNat)
theorem raw_more {p : Poly} {x : Nat} {b : Bytes} {i : Nat} {c : UInt8} (h : b[i]? = some c) : p.raw x (b.take (i + 1)) = rstep p (p.raw x (b.take i)) c := fold_more h
theorem begin_ok {k : Int} {x : Kind} (h : kindOf k = some x) : x.ok x.begin_ = true := by
  rcases kind_some h with ⟨_, rfl⟩ | ⟨_, rfl⟩ | ⟨_, rfl⟩ | ⟨_, rfl⟩
  · decide
  · decide
  · decide
  · decide
theorem ones_lt (p : Poly) : p.ones < 2 ^ p.bits := Nat.sub_lt (Nat.two_pow_pos _) (by decide)
theorem b2n_one {m : Nat} (h : m ≤ 1) : b2n (m == 1) = m := by
  have e : m = 0 ∨ m = 1 := by omega
  rcases e with rfl | rfl
  · rfl
  · rfl
end Ms
namespace Ms
open Sf81
/-! ### bits: a sum by bits is linear, and each step can be taken back -/
structure Good (p : Poly) : Prop where
  pos : 0 < p.bits
  lt : p.fall < 2 ^ p.bits
  top : p.fall.testBit (p.bits - 1) = true
  most : p.bits ≤ 64
  byt : p.bits % 8 = 0
theorem good32 : Good CRC32 := ⟨by decide, by decide, by decide, by decide, by decide⟩
theorem good64 : Good CRC64 := ⟨by decide, by decide, by decide, by decide, by decide⟩
theorem good_of {k : Int} {p : Poly} (h : kindOf k = some (.crc p)) : Good p := by
  rcases kind_some h with ⟨_, e⟩ | ⟨_, e⟩ | ⟨_, e⟩ | ⟨_, e⟩
  · cases e
    exact good32
  · cases e
    exact good64
  · cases e
  · cases e
theorem bit1_xor (f x y : Nat) : bit1 f (x ^^^ y) = bit1 f x ^^^ bit1 f y := by
  have h := @Nat.xor_mod_two_eq_one x y
  have d : (x ^^^ y) / 2 = x / 2 ^^^ y / 2 := Nat.xor_div_two
  unfold bit1
  rw [d]
  by_cases hx : x % 2 = 1
  · by_cases hy : y % 2 = 1
    · rw [if_pos hx, if_pos hy, if_neg (by rw [h]; exact fun z => z ⟨fun _ => hy, fun _ => hx⟩)]
      rw [Nat.xor_assoc, Nat.xor_comm f, Nat.xor_assoc, Nat.xor_self, Nat.xor_zero]
    · rw [if_pos hx, if_neg hy, if_pos (by rw [h]; exact fun z => hy (z.mp hx))]
      rw [Nat.xor_assoc, Nat.xor_assoc, Nat.xor_comm f]
  · by_cases hy : y % 2 = 1
    · rw [if_neg hx, if_pos hy, if_pos (by rw [h]; exact fun z => hx (z.mpr hy))]
      rw [Nat.xor_assoc]
    · rw [if_neg hx, if_neg hy, if_neg (by rw [h]; exact fun z => z ⟨fun q => absurd q hx, fun q => absurd q hy⟩)]
theorem on_xor (p : Poly) : ∀ n x y : Nat, p.on n (x ^^^ y) = p.on n x ^^^ p.on n y
  | 0, _, _ => rfl
  | n + 1, x, y => by rw [on_succ, on_succ, on_succ, bit1_xor, on_xor p n]
theorem on_add (p : Poly) : ∀ m n x : Nat, p.on (m + n) x = p.on n (p.on m x)
  | 0, n, x => by rw [Nat.zero_add]; rfl
  | m + 1, n, x => by
    rw [Nat.add_right_comm, on_succ, on_succ]
    exact on_add p m n _
theorem bit1_lt {f w x : Nat} (hf : f < 2 ^ w) (hx : x < 2 ^ w) : bit1 f x < 2 ^ w := by
  have h : x / 2 < 2 ^ w := Nat.lt_of_le_of_lt (Nat.div_le_self _ _) hx
  unfold bit1
  split
  · exact Nat.xor_lt_two_pow h hf
  · exact h
theorem on_lt {p : Poly} (hf : p.fall < 2 ^ p.bits) : ∀ {n x : Nat}, x < 2 ^ p.bits → p.on n x < 2 ^ p.bits
  | 0, _, h => h
  | n + 1, x, h => by
    rw [on_succ]
    exact on_lt hf (bit1_lt hf h)
theorem xor_cancel (a b : Nat) : a ^^^ b ^^^ b = a := by rw [Nat.xor_assoc, Nat.xor_self, Nat.xor_zero]
theorem on_zero (p : Poly) (n : Nat) : p.on n 0 = 0 := by
  have h := on_xor p n 0 0
  rw [Nat.xor_self, Nat.xor_self] at h
  exact h
/-! ### images of single bits -/
structure Lin (L : Nat → Nat) : Prop where
  xor : ∀ x y, L (x ^^^ y) = L x ^^^ L y
theorem Lin.zero {L : Nat → Nat} (h : Lin L) : L 0 = 0 := by
  have e := h.xor 0 0
  rw [Nat.xor_self, Nat.xor_self] at e
  exact e
theorem low_succ (x k : Nat) : x % 2 ^ (k + 1) = (x % 2 ^ k) ^^^ (if x.testBit k = true then 2 ^ k else 0) := by
  apply Nat.eq_of_testBit_eq
  intro i
  rw [Nat.testBit_xor, Nat.testBit_mod_two_pow, Nat.testBit_mod_two_pow]
  by_cases h : x.testBit k = true
  · rw [if_pos h, Nat.testBit_two_pow]
    by_cases e : k = i
    · subst e
      rw [h, decide_eq_true (show k < k + 1 by omega), decide_eq_false (show ¬ k < k by omega), decide_eq_true (rfl : k = k)]
      rfl
    · rw [decide_eq_false e, Bool.xor_false, show decide (i < k + 1) = decide (i < k) from decide_eq_decide.mpr (by omega)]
  · rw [if_neg h, Nat.zero_testBit, Bool.xor_false]
    by_cases e : k = i
    · subst e
      rw [Bool.not_eq_true] at h
      rw [h, Bool.and_false, Bool.and_false]
    · rw [show decide (i < k + 1) = decide (i < k) from decide_eq_decide.mpr (by omega)]
def imgs (L : Nat → Nat) (w : Nat) : List Nat := (List.range w).map fun i => L (2 ^ i)
theorem imgs_get {L : Nat → Nat} {w i : Nat} (h : i < w) : (imgs L w).getD i 0 = L (2 ^ i) := by
  unfold imgs
  rw [List.getD_eq_getElem?_getD, List.getElem?_map, List.getElem?_range h]
  rfl
theorem imgs_len {L : Nat → Nat} {w : Nat} : (imgs L w).length = w := by
  unfold imgs
  rw [List.length_map, List.length_range]
theorem image_low {L : Nat → Nat} (hL : Lin L) (w x : Nat) : ∀ k, k ≤ w →
    (List.range k).foldl (fun (y i : Nat) => if x.testBit i = true then y ^^^ (imgs L w).getD i 0 else y) 0 = L (x % 2 ^ k)
  | 0, _ => by
    rw [Nat.pow_zero, Nat.mod_one, hL.zero]
    rfl
  | k + 1, h => by
    rw [List.range_succ, List.foldl_append, image_low hL w x k (by omega), low_succ, hL.xor]
    show (if x.testBit k = true then L (x % 2 ^ k) ^^^ (imgs L w).getD k 0 else L (x % 2 ^ k)) = _
    rw [imgs_get (show k < w by omega)]
    by_cases e : x.testBit k = true
    · rw [if_pos e, if_pos e]
    · rw [if_neg e, if_neg e, hL.zero, Nat.xor_zero]
theorem image_is {L : Nat → Nat} (hL : Lin L) {w x : Nat} (hx : x < 2 ^ w) : image (imgs L w) x = L x := by
  unfold image
  rw [imgs_len, image_low hL w x w (Nat.le_refl _), Nat.mod_eq_of_lt hx]
/-! ### many times -/
def it (L : Nat → Nat) : Nat → Nat → Nat
  | 0, x => x
  | n + 1, x => it L n (L x)
theorem it_add (L : Nat → Nat) : ∀ m n x, it L (m + n) x = it L n (it L m x)
  | 0, n, x => by rw [Nat.zero_add]; rfl
  | m + 1, n, x => by
    rw [Nat.add_right_comm]
    exact it_add L m n _
theorem it_two (L : Nat → Nat) : ∀ n x, it (fun x => L (L x)) n x = it L (2 * n) x
  | 0, _ => rfl
  | n + 1, x => by
    show it (fun x => L (L x)) n (L (L x)) = it L (2 * n + 1 + 1) x
    rw [it_two L n]
    rfl
theorem imgs_two {L : Nat → Nat} (hL : Lin L) {w : Nat} (hw : ∀ x, x < 2 ^ w → L x < 2 ^ w) : (imgs L w).map (image (imgs L w)) = imgs (fun x => L (L x)) w := by
  show ((List.range w).map fun i => L (2 ^ i)).map (image (imgs L w)) = (List.range w).map fun i => L (L (2 ^ i))
  rw [List.map_map]
  refine List.map_congr_left fun i hi => ?_
  have h : i < w := List.mem_range.mp hi
  exact image_is hL (hw _ (Nat.pow_lt_pow_right (by decide) h))
theorem shifted_is : ∀ (f : Nat) {L : Nat → Nat} (_ : Lin L) {w : Nat} (_ : ∀ x, x < 2 ^ w → L x < 2 ^ w) {n x : Nat}, n < 2 ^ f → x < 2 ^ w → shifted f (imgs L w) n x = it L n x
  | 0, L, hL, w, hw, n, x, hn, hx => by
    have e : n = 0 := by
      rw [Nat.pow_zero] at hn
      omega
    subst e
    rfl
  | f + 1, L, hL, w, hw, n, x, hn, hx => by
    show (if n = 0 then x else shifted f ((imgs L w).map (image (imgs L w))) (n / 2) (if n % 2 = 1 then image (imgs L w) x else x)) = it L n x
    by_cases h0 : n = 0
    · rw [if_pos h0, h0]
      rfl
    · rw [if_neg h0, imgs_two hL hw, image_is hL hx]
      have hL2 : Lin fun x => L (L x) := ⟨fun a b => by
        show L (L (a ^^^ b)) = L (L a) ^^^ L (L b)
        rw [hL.xor, hL.xor]⟩
      have hn2 : n / 2 < 2 ^ f := by
        rw [Nat.pow_succ] at hn
        omega
      by_cases h1 : n % 2 = 1
      · rw [if_pos h1, shifted_is f hL2 (fun y hy => hw _ (hw _ hy)) hn2 (hw _ hx), it_two]
        have e : n = 1 + 2 * (n / 2) := by omega
        rw (occs := .pos [2]) [e]
        rw [it_add]
        rfl
      · rw [if_neg h1, shifted_is f hL2 (fun y hy => hw _ (hw _ hy)) hn2 hx, it_two]
        have e : n = 2 * (n / 2) := by omega
        rw (occs := .pos [2]) [e]
theorem it_on (p : Poly) (k : Nat) : ∀ n x, it (p.on k) n x = p.on (k * n) x
  | 0, x => by
    rw [Nat.mul_zero]
    rfl
  | n + 1, x => by
    show it (p.on k) n (p.on k x) = _
    rw [it_on p k n, Nat.mul_succ, Nat.add_comm, on_add]
theorem zeros_is {p : Poly} (g : Good p) {n x : Nat} (hn : n < 2 ^ 64) (hx : x < 2 ^ p.bits) : p.zeros n x = p.on (8 * n) x := by
  have h := shifted_is 64 (L := p.on 8) ⟨on_xor p 8⟩ (w := p.bits) (fun y hy => on_lt g.lt hy) hn hx
  rw [it_on] at h
  exact h
/-! ### bytes of 0, and bytes by their differences -/
theorem raw_nil (p : Poly) (x : Nat) : p.raw x [] = x := rfl
theorem raw_cons (p : Poly) (x : Nat) (c : UInt8) (b : Bytes) : p.raw x (c :: b) = p.raw (p.on 8 (x ^^^ c.toNat)) b := rfl
theorem raw_append (p : Poly) (x : Nat) (b c : Bytes) : p.raw x (b ++ c) = p.raw (p.raw x b) c := by
  unfold Poly.raw
  rw [List.foldl_append]
theorem raw_zeros (p : Poly) : ∀ n x : Nat, p.raw x (List.replicate n 0) = p.on (8 * n) x
  | 0, x => by
    rw [Nat.mul_zero]
    rfl
  | n + 1, x => by
    rw [List.replicate_succ, raw_cons, raw_zeros p n]
    show p.on (8 * n) (p.on 8 (x ^^^ 0)) = _
    rw [Nat.xor_zero, Nat.mul_succ, Nat.add_comm, on_add]
theorem raw_lt {p : Poly} (g : Good p) (h8 : 8 ≤ p.bits) : ∀ (b : Bytes) {x : Nat}, x < 2 ^ p.bits → p.raw x b < 2 ^ p.bits
  | [], _, h => h
  | c :: r, x, h => by
    rw [raw_cons]
    refine raw_lt g h8 r (on_lt g.lt (Nat.xor_lt_two_pow h ?_))
    exact Nat.lt_of_lt_of_le c.toNat_lt (Nat.pow_le_pow_right (by decide) h8)
theorem good8 {p : Poly} (g : Good p) : 8 ≤ p.bits := by
  have h1 := g.pos
  have h2 := g.byt
  omega
theorem raw_xor (p : Poly) : ∀ (b c : Bytes) (x y : Nat), b.length = c.length → p.raw (x ^^^ y) ((b.zip c).map fun (z : UInt8 × UInt8) => z.1 ^^^ z.2) = p.raw x b ^^^ p.raw y c
  | [], [], _, _, _ => rfl
  | [], _ :: _, _, _, h => by cases h
  | _ :: _, [], _, _, h => by cases h
  | u :: b, v :: c, x, y, h => by
    show p.raw (p.on 8 (x ^^^ y ^^^ (u ^^^ v).toNat)) ((b.zip c).map fun (z : UInt8 × UInt8) => z.1 ^^^ z.2) = p.raw (p.on 8 (x ^^^ u.toNat)) b ^^^ p.raw (p.on 8 (y ^^^ v.toNat)) c
    rw [← raw_xor p b c _ _ (Nat.succ.inj h), ← on_xor, UInt8.toNat_xor]
    congr 2
    rw [Nat.xor_assoc, Nat.xor_assoc, ← Nat.xor_assoc y, Nat.xor_comm y, Nat.xor_assoc]
/-! ### a bit back -/
def back1 (p : Poly) (x : Nat) : Nat := if x.testBit (p.bits - 1) = true then (2 * (x ^^^ p.fall) + 1) % 2 ^ p.bits else 2 * x % 2 ^ p.bits
theorem back_succ (p : Poly) (n x : Nat) : p.back (n + 1) x = p.back n (back1 p x) := rfl
theorem top_false {w x : Nat} (hw : 0 < w) (hx : x < 2 ^ w) (h : x.testBit (w - 1) = false) : 2 * x < 2 ^ w := by
  have e : x < 2 ^ (w - 1) := by
    refine Nat.lt_pow_two_of_testBit x fun i hi => ?_
    by_cases q : i = w - 1
    · rw [q, h]
    · exact Nat.testBit_lt_two_pow (Nat.lt_of_lt_of_le hx (Nat.pow_le_pow_right (by decide) (by omega)))
  have e2 : 2 ^ w = 2 ^ (w - 1) * 2 := by
    rw [← Nat.pow_succ]
    congr 1
    omega
  omega
theorem half_top {w x : Nat} (hw : 0 < w) (hx : x < 2 ^ w) : (x / 2).testBit (w - 1) = false := by
  refine Nat.testBit_lt_two_pow ?_
  have e2 : 2 ^ w = 2 ^ (w - 1) * 2 := by
    rw [← Nat.pow_succ]
    congr 1
    omega
  omega
theorem back1_lt (p : Poly) (x : Nat) : back1 p x < 2 ^ p.bits := by
  unfold back1
  split
  · exact Nat.mod_lt _ (Nat.two_pow_pos _)
  · exact Nat.mod_lt _ (Nat.two_pow_pos _)
theorem bit1_back1 {p : Poly} (g : Good p) {x : Nat} (hx : x < 2 ^ p.bits) : bit1 p.fall (back1 p x) = x := by
  unfold back1
  cases h : x.testBit (p.bits - 1) with
  | true =>
    rw [if_pos rfl]
    have t : (x ^^^ p.fall).testBit (p.bits - 1) = false := by
      rw [Nat.testBit_xor, h, g.top]
      rfl
    have l := top_false g.pos (Nat.xor_lt_two_pow hx g.lt) t
    have e : 2 ^ p.bits = 2 ^ (p.bits - 1) * 2 := by
      rw [← Nat.pow_succ]
      congr 1
      have := g.pos
      omega
    rw [Nat.mod_eq_of_lt (by omega)]
    unfold bit1
    rw [if_pos (by omega), show (2 * (x ^^^ p.fall) + 1) / 2 = x ^^^ p.fall by omega, xor_cancel]
  | false =>
    rw [if_neg Bool.false_ne_true]
    have l := top_false g.pos hx h
    rw [Nat.mod_eq_of_lt l]
    unfold bit1
    rw [if_neg (by omega)]
    omega
theorem back1_bit1 {p : Poly} (g : Good p) {x : Nat} (hx : x < 2 ^ p.bits) : back1 p (bit1 p.fall x) = x := by
  have t := half_top g.pos hx
  unfold bit1
  by_cases h : x % 2 = 1
  · rw [if_pos h]
    unfold back1
    rw [if_pos (by rw [Nat.testBit_xor, t, g.top]; rfl), xor_cancel, Nat.mod_eq_of_lt (by omega)]
    omega
  · rw [if_neg h]
    unfold back1
    rw [if_neg (by rw [t]; exact Bool.false_ne_true), Nat.mod_eq_of_lt (by omega)]
    omega
theorem on_back {p : Poly} (g : Good p) : ∀ (n : Nat) {x : Nat}, x < 2 ^ p.bits → p.on n (p.back n x) = x
  | 0, _, _ => rfl
  | n + 1, x, h => by
    rw [back_succ, on_last, on_back g n (back1_lt p x), bit1_back1 g h]
theorem back_lt {p : Poly} : ∀ (n : Nat) {x : Nat}, x < 2 ^ p.bits → p.back n x < 2 ^ p.bits
  | 0, _, h => h
  | n + 1, x, _ => by
    rw [back_succ]
    exact back_lt n (back1_lt p x)
theorem back_last (p : Poly) : ∀ n x : Nat, p.back (n + 1) x = back1 p (p.back n x)
  | 0, _ => rfl
  | n + 1, x => by
    rw [back_succ p (n + 1) x, back_last p n (back1 p x)]
    rfl
theorem back_on {p : Poly} (g : Good p) : ∀ (n : Nat) {x : Nat}, x < 2 ^ p.bits → p.back n (p.on n x) = x
  | 0, _, _ => rfl
  | n + 1, x, h => by
    rw [on_succ, back_last, back_on g n (bit1_lt g.lt h), back1_bit1 g h]
theorem on_inj {p : Poly} (g : Good p) {n x y : Nat} (hx : x < 2 ^ p.bits) (hy : y < 2 ^ p.bits) (h : p.on n x = p.on n y) : x = y := by
  rw [← back_on g n hx, h, back_on g n hy]
end Ms
namespace Ms
open Sf81
/-! ### products: the highest bit stands for 1, one bit on for the next power -/
def top (p : Poly) : Nat := 2 ^ (p.bits - 1)
theorem top_lt {p : Poly} (g : Good p) : top p < 2 ^ p.bits := Nat.pow_lt_pow_right (by decide) (by have := g.pos; omega)
/-- what is gathered of y by the i highest bits of x -/
def gat (p : Poly) (x y : Nat) : Nat → Nat
  | 0 => 0
  | i + 1 => if x.testBit (p.bits - 1 - i) = true then gat p x y i ^^^ p.on i y else gat p x y i
theorem gat_on (p : Poly) (x m z : Nat) : ∀ i, gat p x (p.on m z) i = p.on m (gat p x z i)
  | 0 => (on_zero p m).symm
  | i + 1 => by
    have ih := gat_on p x m z i
    show (if x.testBit (p.bits - 1 - i) = true then gat p x (p.on m z) i ^^^ p.on i (p.on m z) else gat p x (p.on m z) i) = p.on m (if x.testBit (p.bits - 1 - i) = true then gat p x z i ^^^ p.on i z else gat p x z i)
    by_cases h : x.testBit (p.bits - 1 - i) = true
    · rw [if_pos h, if_pos h, on_xor, ih, ← on_add, ← on_add, Nat.add_comm]
    · rw [if_neg h, if_neg h, ih]
theorem bit1_pow (f k : Nat) : bit1 f (2 ^ (k + 1)) = 2 ^ k := by
  unfold bit1
  rw [Nat.pow_succ, if_neg (by omega)]
  omega
theorem on_top (p : Poly) : ∀ i, i < p.bits → p.on i (top p) = 2 ^ (p.bits - 1 - i)
  | 0, _ => rfl
  | i + 1, h => by
    rw [on_last, on_top p i (by omega), show p.bits - 1 - i = (p.bits - 1 - (i + 1)) + 1 by omega, bit1_pow]
theorem gat_bit (p : Poly) (x j : Nat) : ∀ i, i ≤ p.bits → (gat p x (top p) i).testBit j = (x.testBit j && decide (p.bits - i ≤ j ∧ j < p.bits))
  | 0, _ => by
    rw [decide_eq_false (by omega), Bool.and_false]
    exact Nat.zero_testBit j
  | i + 1, h => by
    have ih := gat_bit p x j i (by omega)
    show (if x.testBit (p.bits - 1 - i) = true then gat p x (top p) i ^^^ p.on i (top p) else gat p x (top p) i).testBit j = _
    by_cases e : j = p.bits - 1 - i
    · have d1 : decide (p.bits - i ≤ j ∧ j < p.bits) = false := decide_eq_false (by omega)
      have d2 : decide (p.bits - (i + 1) ≤ j ∧ j < p.bits) = true := decide_eq_true (by omega)
      rw [d1, Bool.and_false] at ih
      rw [d2, Bool.and_true]
      by_cases b : x.testBit (p.bits - 1 - i) = true
      · rw [if_pos b, Nat.testBit_xor, ih, on_top p i (by omega), ← e, Nat.testBit_two_pow, decide_eq_true rfl, e, b]
        rfl
      · rw [if_neg b, ih, e]
        rw [Bool.not_eq_true] at b
        exact b.symm
    · have d : decide (p.bits - (i + 1) ≤ j ∧ j < p.bits) = decide (p.bits - i ≤ j ∧ j < p.bits) := decide_eq_decide.mpr (by omega)
      rw [d, ← ih]
      by_cases b : x.testBit (p.bits - 1 - i) = true
      · rw [if_pos b, Nat.testBit_xor, on_top p i (by omega), Nat.testBit_two_pow, decide_eq_false (fun z => e z.symm), Bool.xor_false]
      · rw [if_neg b]
theorem gat_all {p : Poly} {x : Nat} (hx : x < 2 ^ p.bits) : gat p x (top p) p.bits = x := by
  apply Nat.eq_of_testBit_eq
  intro j
  rw [gat_bit p x j p.bits (Nat.le_refl _)]
  by_cases h : j < p.bits
  · rw [decide_eq_true (by omega), Bool.and_true]
  · rw [decide_eq_false (by omega), Bool.and_false]
    exact (Nat.testBit_lt_two_pow (Nat.lt_of_lt_of_le hx (Nat.pow_le_pow_right (by decide) (by omega)))).symm
theorem prod_on {p : Poly} {x : Nat} (hx : x < 2 ^ p.bits) (m : Nat) : gat p x (p.on m (top p)) p.bits = p.on m x := by
  rw [gat_on, gat_all hx]
theorem gat_lt {p : Poly} (g : Good p) {x y : Nat} (hy : y < 2 ^ p.bits) : ∀ i, gat p x y i < 2 ^ p.bits
  | 0 => Nat.two_pow_pos _
  | i + 1 => by
    show (if x.testBit (p.bits - 1 - i) = true then gat p x y i ^^^ p.on i y else gat p x y i) < _
    split
    · exact Nat.xor_lt_two_pow (gat_lt g hy i) (on_lt g.lt hy)
    · exact gat_lt g hy i
/-- the bit that turn i asks for -/
def ask (p : Poly) (i : Nat) : Nat := top p / 2 ^ i
theorem ask_half (p : Poly) (i : Nat) : ask p i / 2 = ask p (i + 1) := by
  unfold ask
  rw [Nat.div_div_eq_div_mul, Nat.pow_succ]
theorem ask_pow {p : Poly} {i : Nat} (h : i < p.bits) : ask p i = 2 ^ (p.bits - 1 - i) := by
  unfold ask top
  rw [Nat.pow_div (by omega) (by decide)]
theorem ask_end {p : Poly} (g : Good p) : ask p p.bits = 0 := Nat.div_eq_of_lt (top_lt g)
theorem ask_pos {p : Poly} (g : Good p) {i : Nat} (h : i ≤ p.bits) : 0 < ask p i ↔ i < p.bits := by
  by_cases e : i < p.bits
  · rw [ask_pow e]
    exact ⟨fun _ => e, fun _ => Nat.two_pow_pos _⟩
  · have q : i = p.bits := by omega
    rw [q, ask_end g]
    omega
theorem and_ask {p : Poly} {i x : Nat} (h : i < p.bits) : (x &&& ask p i = 0) ↔ ¬ x.testBit (p.bits - 1 - i) = true := by
  rw [ask_pow h]
  generalize p.bits - 1 - i = k
  refine ⟨fun e b => ?_, fun e => Nat.eq_of_testBit_eq fun j => ?_⟩
  · have q : (x &&& 2 ^ k).testBit k = true := by
      rw [Nat.testBit_and, b, Nat.testBit_two_pow, decide_eq_true rfl]
      rfl
    rw [e, Nat.zero_testBit] at q
    cases q
  · rw [Nat.testBit_and, Nat.testBit_two_pow, Nat.zero_testBit]
    by_cases q : k = j
    · rw [Bool.not_eq_true] at e
      rw [← q, e, Bool.false_and]
    · rw [decide_eq_false q, Bool.and_false]
/-! ### n bytes of 0, by halves of n -/
theorem half_odd (p : Poly) {e m x : Nat} (h : m % 2 = 1) : p.on (8 * (e + e) * (m / 2)) (p.on (8 * e) x) = p.on (8 * e * m) x := by
  rw [← on_add]
  congr 1
  have q : m = 2 * (m / 2) + 1 := by omega
  generalize m / 2 = r at q
  subst q
  rw [Nat.mul_add (8 * e), Nat.mul_one, Nat.add_comm, ← Nat.mul_assoc]
  congr 2
  omega
theorem half_even (p : Poly) {e m x : Nat} (h : ¬ m % 2 = 1) : p.on (8 * (e + e) * (m / 2)) x = p.on (8 * e * m) x := by
  congr 1
  have q : m = 2 * (m / 2) := by omega
  generalize m / 2 = r at q
  subst q
  rw [← Nat.mul_assoc]
  congr 1
  omega
/-! ### totals of whole numbers, byte by byte -/
def tstep (z : Int × Bool) (v : Int) : Int × Bool := (z.1 + (if z.2 = true then v else 256 * v), !z.2)
def tst (odd : Bool) (l : List Int) : Int × Bool := l.foldl tstep (0, odd)
theorem tst_more {odd : Bool} {l : List Int} {i : Nat} {v : Int} (h : l[i]? = some v) : tst odd (l.take (i + 1)) = tstep (tst odd (l.take i)) v := fold_more h
theorem tfold_bytes : ∀ (b : Bytes) (z : Nat) (o : Bool), ((b.map bi).foldl tstep ((z : Int), o)).1 = (((b.foldl wstep (z, o)).1 : Nat) : Int)
  | [], _, _ => rfl
  | c :: r, z, o => by
    have ih := tfold_bytes r (z + (if o = true then c.toNat else 256 * c.toNat)) (!o)
    show ((r.map bi).foldl tstep ((z : Int) + (if o = true then bi c else 256 * bi c), !o)).1 = (((r.foldl wstep (z + (if o = true then c.toNat else 256 * c.toNat), !o)).1 : Nat) : Int)
    rw [← ih]
    congr 3
    cases o with
    | true =>
      rw [if_pos rfl, if_pos rfl]
      show (z : Int) + (c.toNat : Int) = ((z + c.toNat : Nat) : Int)
      omega
    | false =>
      rw [if_neg Bool.false_ne_true, if_neg Bool.false_ne_true]
      show (z : Int) + 256 * (c.toNat : Int) = ((z + 256 * c.toNat : Nat) : Int)
      omega
theorem tst_bytes (odd : Bool) (b : Bytes) : (tst odd (b.map bi)).1 = ((wordsSum odd b : Nat) : Int) := tfold_bytes b 0 odd
/-- the differences of two texts -/
def diffs (old new : Bytes) : List Int := (old.zip new).map fun z => bi z.2 - bi z.1
theorem tfold_diffs : ∀ (old new : Bytes) (z : Int) (u v : Nat) (o : Bool), old.length = new.length → z = (v : Int) - (u : Int) →
    ((diffs old new).foldl tstep (z, o)).1 = (((new.foldl wstep (v, o)).1 : Nat) : Int) - (((old.foldl wstep (u, o)).1 : Nat) : Int)
  | [], [], _, _, _, _, _, h => h
  | [], _ :: _, _, _, _, _, h, _ => by cases h
  | _ :: _, [], _, _, _, _, h, _ => by cases h
  | c :: r, d :: s, z, u, v, o, h, e => by
    show ((diffs r s).foldl tstep (z + (if o = true then bi d - bi c else 256 * (bi d - bi c)), !o)).1 = (((s.foldl wstep (v + (if o = true then d.toNat else 256 * d.toNat), !o)).1 : Nat) : Int) - (((r.foldl wstep (u + (if o = true then c.toNat else 256 * c.toNat), !o)).1 : Nat) : Int)
    refine tfold_diffs r s _ _ _ _ (Nat.succ.inj h) ?_
    subst e
    cases o with
    | true =>
      rw [if_pos rfl, if_pos rfl, if_pos rfl]
      show (v : Int) - (u : Int) + ((d.toNat : Int) - (c.toNat : Int)) = ((v + d.toNat : Nat) : Int) - ((u + c.toNat : Nat) : Int)
      omega
    | false =>
      rw [if_neg Bool.false_ne_true, if_neg Bool.false_ne_true, if_neg Bool.false_ne_true]
      show (v : Int) - (u : Int) + 256 * ((d.toNat : Int) - (c.toNat : Int)) = ((v + 256 * d.toNat : Nat) : Int) - ((u + 256 * c.toNat : Nat) : Int)
      omega
theorem tst_diffs (odd : Bool) {old new : Bytes} (h : old.length = new.length) : (tst odd (diffs old new)).1 = ((wordsSum odd new : Nat) : Int) - ((wordsSum odd old : Nat) : Int) := tfold_diffs old new 0 0 0 odd h rfl
theorem wfold_le : ∀ (b : Bytes) (z : Nat) (o : Bool), (b.foldl wstep (z, o)).1 ≤ z + 65280 * b.length
  | [], _, _ => Nat.le_refl _
  | c :: r, z, o => by
    have ih := wfold_le r (z + (if o = true then c.toNat else 256 * c.toNat)) (!o)
    have hc := c.toNat_lt
    show (r.foldl wstep (z + (if o = true then c.toNat else 256 * c.toNat), !o)).1 ≤ z + 65280 * (r.length + 1)
    have q : (if o = true then c.toNat else 256 * c.toNat) ≤ 65280 := by
      split
      · omega
      · omega
    omega
theorem words_le (odd : Bool) (b : Bytes) : wordsSum odd b ≤ 65280 * b.length := by
  have h := wfold_le b 0 odd
  rw [Nat.zero_add] at h
  exact h
/-- kind 2, a stretch changed -/
theorem ones_new {t : Nat} {v u : Nat} (hu : u ≤ 4278190080) : ((t : Int) + ((v : Int) - (u : Int)) - 1) % 65535 + 1 = (((if (t + 65535 * 65536 + v - u) % 65535 = 0 then 65535 else (t + 65535 * 65536 + v - u) % 65535 : Nat)) : Int) := by
  split
  · omega
  · omega
/-- a sum with what's carried out put in again, of sums -/
theorem folded_in (a m : Nat) : folded (a + folded m) = folded (a + m) := by
  unfold folded
  by_cases h : m = 0
  · rw [if_pos h, h]
  · rw [if_neg h, if_neg (by omega), if_neg (by omega)]
    omega
theorem folded_pos {n : Nat} (h : 0 < n) : folded n = (n - 1) % 65535 + 1 := by
  unfold folded
  rw [if_neg (by omega)]
/-! ### Adler-32: products modulo 65521 -/
theorem mod_mul (n a b : Nat) : (b + n * a) % 65521 = (b + n % 65521 * a) % 65521 := by
  have h : n * a = n % 65521 * a + 65521 * (n / 65521 * a) := by
    rw [← Nat.mul_assoc, ← Nat.add_mul, Nat.mod_add_div]
  rw [h, ← Nat.add_assoc, Nat.add_mul_mod_self_left]
/-- what a changed stretch adds, by the specification -/
def chs (far : Nat) (x : Nat × Nat) (p : (UInt8 × UInt8) × Nat) : Nat × Nat := (x.1 + (MOD + p.1.2.toNat - p.1.1.toNat), x.2 + (MOD + p.1.2.toNat - p.1.1.toNat) * ((far - p.2) % MOD))
theorem chs_step {far i : Nat} {A B : Int} {x : Nat × Nat} {c d : UInt8} (hi : i ≤ far) (h1 : ∃ q, A = (x.1 : Int) + 65521 * q) (h2 : ∃ q, B = (x.2 : Int) + 65521 * q) :
    (∃ q, A + bi d - bi c = ((chs far x ((c, d), i)).1 : Int) + 65521 * q) ∧ ∃ q, B + ((far : Int) - (i : Int)) * (bi d - bi c) = ((chs far x ((c, d), i)).2 : Int) + 65521 * q := by
  obtain ⟨q1, e1⟩ := h1
  obtain ⟨q2, e2⟩ := h2
  have hc := c.toNat_lt
  have hd := d.toNat_lt
  refine ⟨⟨q1 - 1, ?_⟩, ?_⟩
  · show A + (d.toNat : Int) - (c.toNat : Int) = ((x.1 + (65521 + d.toNat - c.toNat) : Nat) : Int) + 65521 * (q1 - 1)
    omega
  · show ∃ q, B + ((far : Int) - (i : Int)) * ((d.toNat : Int) - (c.toNat : Int)) = ((x.2 + (65521 + d.toNat - c.toNat) * ((far - i) % 65521) : Nat) : Int) + 65521 * q
    have eD : ((65521 + d.toNat - c.toNat : Nat) : Int) = 65521 + ((d.toNat : Int) - (c.toNat : Int)) := by omega
    have eF : (far : Int) - (i : Int) = (((far - i) % 65521 : Nat) : Int) + 65521 * (((far - i) / 65521 : Nat) : Int) := by omega
    rw [Int.natCast_add, Int.natCast_mul, eD, eF, e2]
    generalize ((d.toNat : Int) - (c.toNat : Int)) = D
    generalize (((far - i) % 65521 : Nat) : Int) = m
    generalize (((far - i) / 65521 : Nat) : Int) = r
    refine ⟨q2 + r * D - m, ?_⟩
    have f1 : (m + 65521 * r) * D = m * D + 65521 * (r * D) := by rw [Int.add_mul, Int.mul_assoc]
    have f2 : (65521 + D) * m = 65521 * m + m * D := by rw [Int.add_mul, Int.mul_comm D m]
    rw [f1, f2]
    generalize m * D = a
    generalize r * D = b
    omega
/-- the walk over both stretches, i turns of it -/
def chw (far : Nat) (old new : Bytes) (i : Nat) : Nat × Nat := ((old.zip new).zipIdx.take i).foldl (chs far) (0, 0)
theorem chw_more {far : Nat} {old new : Bytes} {i : Nat} {c d : UInt8} (h1 : old[i]? = some c) (h2 : new[i]? = some d) : chw far old new (i + 1) = chs far (chw far old new i) ((c, d), i) := by
  have h : (old.zip new).zipIdx[i]? = some ((c, d), i) := by
    have z : (old.zip new)[i]? = some (c, d) := List.getElem?_zip_eq_some.mpr ⟨h1, h2⟩
    rw [List.getElem?_zipIdx, z]
    simp
  exact fold_more h
theorem chw_all {far : Nat} {old new : Bytes} (h : old.length = new.length) : chw far old new old.length = (old.zip new).zipIdx.foldl (chs far) (0, 0) := by
  unfold chw
  rw [List.take_of_length_le]
  rw [List.length_zipIdx, List.length_zip]
  omega
theorem adler_new {s : Nat} {n : Nat} {old new : Bytes} : Kind.adler.changed s n old new = adlerOf (s % 65536 + ((old.zip new).zipIdx.foldl (chs (n + old.length)) (0, 0)).1) (s / 65536 + ((old.zip new).zipIdx.foldl (chs (n + old.length)) (0, 0)).2) := rfl
theorem zip_get {old new : Bytes} {i : Nat} {c d : UInt8} (h1 : old[i]? = some c) (h2 : new[i]? = some d) : (old.zip new)[i]? = some (c, d) := List.getElem?_zip_eq_some.mpr ⟨h1, h2⟩
theorem zip_len {old new : Bytes} (h : old.length = new.length) : (old.zip new).length = old.length := by
  rw [List.length_zip]
  omega
end Ms
namespace Ms
open Sf81
/-! ### one turned bit: what the walk back finds -/
theorem back_add (p : Poly) : ∀ m n x : Nat, p.back (m + n) x = p.back n (p.back m x)
  | 0, n, x => by rw [Nat.zero_add]; rfl
  | m + 1, n, x => by
    rw [Nat.add_right_comm, back_succ, back_succ]
    exact back_add p m n _
theorem bit_lt {p : Poly} (g : Good p) {j : Nat} (h : j < 8) : 2 ^ j < 2 ^ p.bits := Nat.pow_lt_pow_right (by decide) (Nat.lt_of_lt_of_le h (good8 g))
theorem hit_iff {p : Poly} (g : Good p) {x d j : Nat} (hx : x < 2 ^ p.bits) (hj : j < 8) : p.on 8 (2 ^ j) = p.back (8 * d) x ↔ p.on (8 * (d + 1)) (2 ^ j) = x := by
  have e : p.on (8 * (d + 1)) (2 ^ j) = p.on (8 * d) (p.on 8 (2 ^ j)) := by
    rw [← on_add]
    congr 1
    omega
  rw [e]
  constructor
  · intro h
    rw [h, on_back g _ hx]
  · intro h
    rw [← h, back_on g _ (on_lt g.lt (bit_lt g hj))]
theorem found_is {p : Poly} (g : Good p) {x d' j : Nat} (hx : x < 2 ^ p.bits) (hj : j < 8) (h : p.on (8 * (d' + 1)) (2 ^ j) = x) (no : ∀ d, d < d' → ∀ i, i < 8 → ¬ p.on (8 * (d + 1)) (2 ^ i) = x) :
    ∀ f d, d ≤ d' → d' < d + f → p.found f d (p.back (8 * d) x) = some (d', j)
  | 0, d, h1, h2 => by omega
  | f + 1, d, h1, h2 => by
    show (match (List.range 8).find? fun (i : Nat) => p.on 8 (2 ^ i) == p.back (8 * d) x with
      | some i => some (d, i)
      | none => p.found f (d + 1) (p.back 8 (p.back (8 * d) x))) = _
    by_cases e : d = d'
    · subst e
      cases q : (List.range 8).find? fun (i : Nat) => p.on 8 (2 ^ i) == p.back (8 * d) x with
      | none =>
        have z := List.find?_eq_none.mp q j (List.mem_range.mpr hj)
        exact absurd (beq_iff_eq.mpr ((hit_iff g hx hj).mpr h)) z
      | some i =>
        have hi : i < 8 := List.mem_range.mp (List.mem_of_find?_eq_some q)
        have z0 : (p.on 8 (2 ^ i) == p.back (8 * d) x) = true := List.find?_some (p := fun (i : Nat) => p.on 8 (2 ^ i) == p.back (8 * d) x) q
        have z : p.on 8 (2 ^ i) = p.back (8 * d) x := beq_iff_eq.mp z0
        have w : p.on 8 (2 ^ i) = p.on 8 (2 ^ j) := z.trans ((hit_iff g hx hj).mpr h).symm
        have v := on_inj g (bit_lt g hi) (bit_lt g hj) w
        have u : i = j := Nat.pow_right_inj (by decide : 1 < 2) |>.mp v
        rw [u]
    · have q : ((List.range 8).find? fun (i : Nat) => p.on 8 (2 ^ i) == p.back (8 * d) x) = none := by
        refine List.find?_eq_none.mpr fun i hi z => ?_
        have hi' : i < 8 := List.mem_range.mp hi
        exact no d (by omega) i hi' ((hit_iff g hx hi').mp (beq_iff_eq.mp z))
      rw [q]
      show p.found f (d + 1) (p.back 8 (p.back (8 * d) x)) = _
      rw [← back_add]
      exact found_is g hx hj h no f (d + 1) (by omega) (by omega)
theorem found_no {p : Poly} (g : Good p) {x n : Nat} (hx : x < 2 ^ p.bits) (no : ∀ d, d < n → ∀ i, i < 8 → ¬ p.on (8 * (d + 1)) (2 ^ i) = x) :
    ∀ f d, d + f ≤ n → p.found f d (p.back (8 * d) x) = none
  | 0, d, _ => rfl
  | f + 1, d, h => by
    show (match (List.range 8).find? fun (i : Nat) => p.on 8 (2 ^ i) == p.back (8 * d) x with
      | some i => some (d, i)
      | none => p.found f (d + 1) (p.back 8 (p.back (8 * d) x))) = _
    have q : ((List.range 8).find? fun (i : Nat) => p.on 8 (2 ^ i) == p.back (8 * d) x) = none := by
      refine List.find?_eq_none.mpr fun i hi z => ?_
      have hi' : i < 8 := List.mem_range.mp hi
      exact no d (by omega) i hi' ((hit_iff g hx hi').mp (beq_iff_eq.mp z))
    rw [q]
    show p.found f (d + 1) (p.back 8 (p.back (8 * d) x)) = _
    rw [← back_add]
    exact found_no g hx no f (d + 1) (by omega)
/-- bit j as so many steps from bit 7 -/
theorem low_on (p : Poly) : ∀ i, i < 8 → p.on i (2 ^ 7) = 2 ^ (7 - i)
  | 0, _ => rfl
  | i + 1, h => by
    have e : bit1 p.fall (2 ^ ((7 - (i + 1)) + 1)) = 2 ^ (7 - (i + 1)) := by
      unfold bit1
      rw [Nat.pow_succ, if_neg (by omega)]
      omega
    rw [on_last, low_on p i (by omega), show 7 - i = (7 - (i + 1)) + 1 by omega, e]
theorem hit_bit (p : Poly) (d : Nat) {j : Nat} (h : j < 8) : p.on (8 * (d + 1)) (2 ^ j) = p.on (8 * d + 15 - j) (2 ^ 7) := by
  have e := low_on p (7 - j) (by omega)
  rw [show 7 - (7 - j) = j by omega] at e
  rw [← e, ← on_add]
  congr 1
  omega
/-! ### a text in two parts -/
theorem fold_le {n : Nat} : folded n ≤ 65535 := by
  unfold folded
  split
  · omega
  · omega
theorem fold_in2 (a m : Nat) : folded (folded m + a) = folded (m + a) := by
  unfold folded
  by_cases h : m = 0
  · rw [if_pos h, h]
  · rw [if_neg h, if_neg (by omega), if_neg (by omega)]
    omega
theorem wfold_base : ∀ (c : Bytes) (z : Nat) (o : Bool), (c.foldl wstep (z, o)).1 = z + (c.foldl wstep (0, o)).1
  | [], _, _ => rfl
  | d :: r, z, o => by
    show (r.foldl wstep (z + (if o = true then d.toNat else 256 * d.toNat), !o)).1 = z + (r.foldl wstep (0 + (if o = true then d.toNat else 256 * d.toNat), !o)).1
    rw [wfold_base r (z + _), wfold_base r (0 + _)]
    omega
theorem words_append (o : Bool) (b c : Bytes) : wordsSum o (b ++ c) = wordsSum o b + wordsSum (wst o b).2 c := by
  show ((b ++ c).foldl wstep (0, o)).1 = (b.foldl wstep (0, o)).1 + (c.foldl wstep (0, (b.foldl wstep (0, o)).2)).1
  rw [List.foldl_append]
  exact wfold_base c _ _
theorem b2n_back {o : Bool} {m : Nat} (h : b2n o = m) : o = (m == 1) := by
  subst h
  cases o with
  | true => rfl
  | false => rfl
theorem afold_lt : ∀ (b : Bytes) (z : Nat × Nat), z.1 < 65536 → (b.foldl astep z).1 < 65536
  | [], _, h => h
  | c :: r, z, _ => afold_lt r _ (by
    show (z.1 + c.toNat) % 65521 < 65536
    omega)
theorem add_append {k : Int} {x : Kind} (hk : kindOf k = some x) {s : Nat} (hs : x.ok s = true) (b c : Bytes) : x.add s (b ++ c) = x.add (x.add s b) c := by
  have crc : ∀ p : Poly, (Kind.crc p).add s (b ++ c) = (Kind.crc p).add ((Kind.crc p).add s b) c := fun p => by
    show p.raw (s ^^^ p.ones) (b ++ c) ^^^ p.ones = p.raw (p.raw (s ^^^ p.ones) b ^^^ p.ones ^^^ p.ones) c ^^^ p.ones
    rw [xor_cancel, raw_append]
  rcases kind_some hk with ⟨_, rfl⟩ | ⟨_, rfl⟩ | ⟨_, rfl⟩ | ⟨_, rfl⟩
  · exact crc _
  · exact crc _
  · have hs2 : s < 131072 := of_decide_eq_true hs
    have hm : s / 65536 ≤ 1 := by omega
    have e1 := wst_odd hm b
    have e2 := b2n_back e1
    have l : (Kind.ones.add s b) = folded (s % 65536 + wordsSum (s / 65536 == 1) b) + 65536 * ((s / 65536 + b.length) % 2) := rfl
    have f := @fold_le (s % 65536 + wordsSum (s / 65536 == 1) b)
    have d1 : Kind.ones.add s b % 65536 = folded (s % 65536 + wordsSum (s / 65536 == 1) b) := by
      rw [l]
      omega
    have d2 : Kind.ones.add s b / 65536 = (s / 65536 + b.length) % 2 := by
      rw [l]
      omega
    show folded (s % 65536 + wordsSum (s / 65536 == 1) (b ++ c)) + 65536 * ((s / 65536 + (b ++ c).length) % 2) = folded (Kind.ones.add s b % 65536 + wordsSum (Kind.ones.add s b / 65536 == 1) c) + 65536 * ((Kind.ones.add s b / 65536 + c.length) % 2)
    rw [d1, d2, fold_in2, words_append, ← e2, List.length_append, Nat.add_assoc]
    congr 2
    omega
  · have h1 : (b.foldl astep (s % 65536, s / 65536)).1 < 65536 := afold_lt b _ (by
      show s % 65536 < 65536
      omega)
    have l : Kind.adler.add s b = (b.foldl astep (s % 65536, s / 65536)).2 * 65536 + (b.foldl astep (s % 65536, s / 65536)).1 := rfl
    have d1 : Kind.adler.add s b % 65536 = (b.foldl astep (s % 65536, s / 65536)).1 := by
      rw [l]
      omega
    have d2 : Kind.adler.add s b / 65536 = (b.foldl astep (s % 65536, s / 65536)).2 := by
      rw [l]
      omega
    show ((b ++ c).foldl astep (s % 65536, s / 65536)).2 * 65536 + ((b ++ c).foldl astep (s % 65536, s / 65536)).1 = (c.foldl astep (Kind.adler.add s b % 65536, Kind.adler.add s b / 65536)).2 * 65536 + (c.foldl astep (Kind.adler.add s b % 65536, Kind.adler.add s b / 65536)).1
    rw [d1, d2, List.foldl_append]
theorem afold_ok : ∀ (b : Bytes) (z : Nat × Nat), z.1 < 65521 → z.2 < 65521 → (b.foldl astep z).1 < 65521 ∧ (b.foldl astep z).2 < 65521
  | [], _, h, h' => ⟨h, h'⟩
  | c :: r, z, _, _ => afold_ok r _ (by
    show (z.1 + c.toNat) % 65521 < 65521
    omega) (by
    show (z.2 + z.1 + c.toNat) % 65521 < 65521
    omega)
theorem add_ok {k : Int} {x : Kind} (hk : kindOf k = some x) {s : Nat} (hs : x.ok s = true) (b : Bytes) : x.ok (x.add s b) = true := by
  have crc : ∀ p : Poly, Good p → (Kind.crc p).ok s = true → (Kind.crc p).ok ((Kind.crc p).add s b) = true := fun p g h => by
    have h2 : s < 2 ^ p.bits := of_decide_eq_true h
    exact decide_eq_true (Nat.xor_lt_two_pow (raw_lt g (good8 g) b (Nat.xor_lt_two_pow h2 (ones_lt p))) (ones_lt p))
  rcases kind_some hk with ⟨_, rfl⟩ | ⟨_, rfl⟩ | ⟨_, rfl⟩ | ⟨_, rfl⟩
  · exact crc _ good32 hs
  · exact crc _ good64 hs
  · have f := @fold_le (s % 65536 + wordsSum (s / 65536 == 1) b)
    refine decide_eq_true (p := Kind.ones.add s b < 131072) ?_
    show folded (s % 65536 + wordsSum (s / 65536 == 1) b) + 65536 * ((s / 65536 + b.length) % 2) < 131072
    omega
  · have ho : (decide (s % 65536 < 65521) && decide (s / 65536 < 65521)) = true := hs
    rw [Bool.and_eq_true] at ho
    obtain ⟨h1, h2⟩ := afold_ok b (s % 65536, s / 65536) (of_decide_eq_true ho.1) (of_decide_eq_true ho.2)
    show (decide (Kind.adler.add s b % 65536 < 65521) && decide (Kind.adler.add s b / 65536 < 65521)) = true
    have l : Kind.adler.add s b = (b.foldl astep (s % 65536, s / 65536)).2 * 65536 + (b.foldl astep (s % 65536, s / 65536)).1 := rfl
    rw [Bool.and_eq_true, l]
    exact ⟨decide_eq_true (by omega), decide_eq_true (by omega)⟩
end Ms
namespace Ms
open Sf81
/-! ### one text behind another, from both states -/
theorem zip_zero : ∀ c : Bytes, (((List.replicate c.length (0 : UInt8)).zip c).map fun (z : UInt8 × UInt8) => z.1 ^^^ z.2) = c
  | [] => rfl
  | d :: r => by
    show ((0 : UInt8) ^^^ d) :: (((List.replicate r.length (0 : UInt8)).zip r).map fun (z : UInt8 × UInt8) => z.1 ^^^ z.2) = d :: r
    rw [zip_zero r, UInt8.zero_xor]
theorem raw_split (p : Poly) (x y : Nat) (c : Bytes) : p.raw (x ^^^ y) c = p.on (8 * c.length) x ^^^ p.raw y c := by
  have e := raw_xor p (List.replicate c.length 0) c x y (List.length_replicate ..)
  rw [zip_zero, raw_zeros] at e
  exact e
theorem crc_joined {p : Poly} (g : Good p) {s : Nat} (hs : s < 2 ^ p.bits) {c : Bytes} (hc : c.length < 2 ^ 64) : (Kind.crc p).joined s ((Kind.crc p).state c) c.length = (Kind.crc p).add s c := by
  show p.zeros c.length s ^^^ (p.raw (0 ^^^ p.ones) c ^^^ p.ones) = p.raw (s ^^^ p.ones) c ^^^ p.ones
  rw [zeros_is g hc hs, raw_split p s p.ones c, Nat.zero_xor, Nat.xor_assoc]
/-! ### the ones' complement sum -/
theorem words_cons (o : Bool) (d : UInt8) (r : Bytes) : wordsSum o (d :: r) = (if o = true then d.toNat else 256 * d.toNat) + wordsSum (!o) r := by
  show (r.foldl wstep (0 + (if o = true then d.toNat else 256 * d.toNat), !o)).1 = _
  rw [wfold_base]
  show 0 + _ + wordsSum (!o) r = _
  omega
theorem words_cross : ∀ (c : Bytes) (o : Bool), ∃ q, 256 * wordsSum o c = wordsSum (!o) c + 65535 * q
  | [], _ => ⟨0, rfl⟩
  | d :: r, o => by
    obtain ⟨q, h⟩ := words_cross r (!o)
    rw [words_cons, words_cons]
    cases o with
    | true =>
      refine ⟨q, ?_⟩
      have h' : 256 * wordsSum false r = wordsSum true r + 65535 * q := h
      show 256 * (d.toNat + wordsSum false r) = 256 * d.toNat + wordsSum true r + 65535 * q
      omega
    | false =>
      refine ⟨q + d.toNat, ?_⟩
      have h' : 256 * wordsSum true r = wordsSum false r + 65535 * q := h
      show 256 * (256 * d.toNat + wordsSum true r) = d.toNat + wordsSum false r + 65535 * (q + d.toNat)
      omega
theorem folded_cong {m n : Nat} (h : m % 65535 = n % 65535) (h0 : m = 0 ↔ n = 0) : folded m = folded n := by
  unfold folded
  by_cases e : m = 0
  · rw [if_pos e, if_pos (h0.mp e)]
  · have e2 : ¬ n = 0 := fun z => e (h0.mpr z)
    rw [if_neg e, if_neg e2]
    omega
theorem folded_256 (m : Nat) : folded (256 * folded m) = folded (256 * m) := by
  unfold folded
  by_cases h : m = 0
  · rw [if_pos h, h]
  · rw [if_neg h, if_neg (by omega), if_neg (by omega)]
    omega
theorem ones_joined {s : Nat} (hs : s < 131072) (c : Bytes) : Kind.ones.joined s (Kind.ones.state c) c.length = Kind.ones.add s c := by
  have l : Kind.ones.state c = folded (wordsSum false c) + 65536 * (c.length % 2) := by
    show folded (0 % 65536 + wordsSum (0 / 65536 == 1) c) + 65536 * ((0 / 65536 + c.length) % 2) = _
    rw [Nat.zero_mod, Nat.zero_div, Nat.zero_add, Nat.zero_add]
    rfl
  have f := @fold_le (wordsSum false c)
  have d1 : Kind.ones.state c % 65536 = folded (wordsSum false c) := by
    rw [l]
    omega
  show folded (s % 65536 + (if s / 65536 = 1 then folded (256 * (Kind.ones.state c % 65536)) else Kind.ones.state c % 65536)) + 65536 * ((s / 65536 + c.length) % 2) = folded (s % 65536 + wordsSum (s / 65536 == 1) c) + 65536 * ((s / 65536 + c.length) % 2)
  rw [d1]
  congr 1
  have e : s / 65536 = 0 ∨ s / 65536 = 1 := by omega
  rcases e with e | e
  · rw [e, if_neg (by decide), folded_in]
    rfl
  · rw [e, if_pos rfl, folded_256, folded_in]
    obtain ⟨q, h⟩ := words_cross c false
    obtain ⟨q2, h2⟩ := words_cross c true
    have h' : 256 * wordsSum false c = wordsSum true c + 65535 * q := h
    have h2' : 256 * wordsSum true c = wordsSum false c + 65535 * q2 := h2
    show _ = folded (s % 65536 + wordsSum true c)
    generalize wordsSum true c = u at h' h2' ⊢
    generalize wordsSum false c = v at h' h2' ⊢
    exact folded_cong (by omega) (by omega)
/-! ### Adler-32 -/
theorem pair_eq {a b c d : Nat} (h1 : a = c) (h2 : b = d) : (a, b) = (c, d) := by rw [h1, h2]
theorem ast_both {A B : Nat} (hA : A < 65521) (hB : B < 65521) (c : Bytes) : ∀ i, i ≤ c.length →
    ast (A, B) (c.take i) = ((A + (ast (1, 0) (c.take i)).1 + 65520) % 65521, (B + (ast (1, 0) (c.take i)).2 + i * (A + 65520)) % 65521)
  | 0, _ => by
    show (A, B) = ((A + 1 + 65520) % 65521, (B + 0 + 0 * (A + 65520)) % 65521)
    rw [Nat.zero_mul]
    refine pair_eq ?_ ?_
    · omega
    · omega
  | i + 1, h => by
    have ih := ast_both hA hB c i (by omega)
    have e : c[i]? = some c[i] := List.getElem?_eq_getElem (by omega)
    rw [ast_more e, ast_more e, ih]
    generalize ast (1, 0) (c.take i) = z
    obtain ⟨u, v⟩ := z
    have m : (i + 1) * (A + 65520) = i * (A + 65520) + (A + 65520) := Nat.succ_mul _ _
    show (((A + u + 65520) % 65521 + c[i].toNat) % 65521, ((B + v + i * (A + 65520)) % 65521 + (A + u + 65520) % 65521 + c[i].toNat) % 65521) = ((A + (u + c[i].toNat) % 65521 + 65520) % 65521, (B + (v + u + c[i].toNat) % 65521 + (i + 1) * (A + 65520)) % 65521)
    rw [m]
    generalize i * (A + 65520) = t
    generalize c[i].toNat = d
    refine pair_eq ?_ ?_
    · omega
    · omega
theorem adler_joined {s : Nat} (h1 : s % 65536 < 65521) (h2 : s / 65536 < 65521) (c : Bytes) : Kind.adler.joined s (Kind.adler.state c) c.length = Kind.adler.add s c := by
  have e := ast_both h1 h2 c c.length (Nat.le_refl _)
  rw [List.take_length] at e
  have f := afold_ok c (1, 0) (by decide) (by decide)
  have l : Kind.adler.state c = (ast (1, 0) c).2 * 65536 + (ast (1, 0) c).1 := rfl
  have f' : (ast (1, 0) c).1 < 65521 ∧ (ast (1, 0) c).2 < 65521 := f
  have r : Kind.adler.add s c = (ast (s % 65536, s / 65536) c).2 * 65536 + (ast (s % 65536, s / 65536) c).1 := rfl
  have d1 : Kind.adler.state c % 65536 = (ast (1, 0) c).1 := by
    rw [l]
    omega
  have d2 : Kind.adler.state c / 65536 = (ast (1, 0) c).2 := by
    rw [l]
    omega
  rw [r, e]
  show (s / 65536 + Kind.adler.state c / 65536 + c.length % 65521 * (s % 65536 + 65521 - 1)) % 65521 * 65536 + (s % 65536 + Kind.adler.state c % 65536 + 65521 - 1) % 65521 = _
  rw [d1, d2]
  have m := mod_mul c.length (s % 65536 + 65521 - 1) (s / 65536 + (ast (1, 0) c).2)
  rw [← m]
  show (s / 65536 + (ast (1, 0) c).2 + c.length * (s % 65536 + 65520)) % 65521 * 65536 + (s % 65536 + (ast (1, 0) c).1 + 65520) % 65521 = _
  rfl
theorem joined_is {k : Int} {x : Kind} (hk : kindOf k = some x) {s : Nat} (hs : x.ok s = true) {c : Bytes} (hc : c.length < 2 ^ 64) : x.joined s (x.state c) c.length = x.add s c := by
  rcases kind_some hk with ⟨_, rfl⟩ | ⟨_, rfl⟩ | ⟨_, rfl⟩ | ⟨_, rfl⟩
  · exact crc_joined good32 (of_decide_eq_true hs) hc
  · exact crc_joined good64 (of_decide_eq_true hs) hc
  · exact ones_joined (of_decide_eq_true hs) c
  · have ho : (decide (s % 65536 < 65521) && decide (s / 65536 < 65521)) = true := hs
    rw [Bool.and_eq_true] at ho
    exact adler_joined (of_decide_eq_true ho.1) (of_decide_eq_true ho.2) c
theorem state_ok {k : Int} {x : Kind} (hk : kindOf k = some x) (b : Bytes) : x.ok (x.state b) = true := add_ok hk (begin_ok hk) b
theorem state_more {k : Int} {x : Kind} (hk : kindOf k = some x) (b : Bytes) {c : Bytes} (hc : c.length < 2 ^ 64) : x.joined (x.state b) (x.state c) c.length = x.state (b ++ c) := by
  rw [joined_is hk (state_ok hk b) hc]
  exact (add_append hk (begin_ok hk) b c).symm
theorem state_nil {k : Int} {x : Kind} (hk : kindOf k = some x) : x.state [] = x.begin_ := by
  rcases kind_some hk with ⟨_, rfl⟩ | ⟨_, rfl⟩ | ⟨_, rfl⟩ | ⟨_, rfl⟩
  · rfl
  · rfl
  · rfl
  · rfl
/-! ### several texts -/
theorem flat_more {l : List Bytes} {i : Nat} {c : Bytes} (h : l[i]? = some c) : (l.take (i + 1)).flatten = (l.take i).flatten ++ c := by
  rw [take_more h, List.flatten_append, List.flatten_singleton]
theorem sum_in : ∀ {l : List Nat} {i n : Nat}, l[i]? = some n → n ≤ l.sum
  | [], _, _, h => by cases h
  | m :: r, 0, n, h => by
    have e : m = n := Option.some.inj h
    rw [List.sum_cons]
    omega
  | m :: r, i + 1, n, h => by
    have q := sum_in (l := r) (i := i) (n := n) h
    rw [List.sum_cons]
    omega
theorem sum_cast : ∀ l : List Nat, (l.map fun (n : Nat) => (n : Int)).sum = ((l.sum : Nat) : Int)
  | [] => rfl
  | m :: r => by
    rw [List.map_cons, List.sum_cons, List.sum_cons, sum_cast r]
    omega
end Ms
namespace My
open PySem PySem.Spec PyProof.Rows L2
open PySem.W (Codec WData)
/-! ### a def that is called by its name -/
structure Cal (P : Program) (w : World) (K : PySem.W.Frag) (mg : Str → Option Value) (base : Heap) (k : Nat) (x : Str) (ps : List Str) (sp : Sp) : Prop where
  ex : ∃ f fd, FnOk P w K mg base CX0 k f fd ps sp ∧ mg x = some (.ref f) ∧ PySem.W.keepIn K (.ref f) = true ∧ Binds K fd ps []
theorem pe_cal {X : Cx} {k : Nat} {x : Str} {ps : List Str} {sp : Sp} {p pos : Pos} {e : Expr} {es : List Expr} {t : TA} (C : Cal X.prog X.w X.K X.mg X.base k x ps sp) (hr : Room k X.A) (hg : Gl X x) (ha : PA X (e :: es) t)
    (hdb : (x == ("__debug__" : Str)) = false := by decide) (he : starEach (e :: es) X.env = (false, eval e X.env) :: starEach es X.env := by rfl) (hpl : (backTo pos (starEach es X.env)).any (·.1) = false := by rfl) :
    PE X (.Call (.Name x p) (e :: es) [] pos) (tCall sp [] E0 t) := by
  obtain ⟨f, fd, F, hm, hk, hb⟩ := C.ex
  exact pe_call F hr hg hm hk hb .nil pass0 ha hdb he hpl
/-! ### constants of the top -/
theorem pe_ci {X : Cx} {x : Str} {i : Int} {pos : Pos} (hg : Gl X x) (h : ∃ t, X.mg x = some (.int i t)) (hd : (x == ("__debug__" : Str)) = false := by decide) : PE X (.Name x pos) (tC (.int i)) := by
  obtain ⟨t, h⟩ := h
  exact pe_glob hg h ⟨_, rfl⟩ hd
theorem pe_weak {X : Cx} {e : Expr} {t t' : TE} (h : PE X e t) (w : ∀ σ H Q, t' σ H Q → t σ H Q) : PE X e t' := ⟨fun pins s σ H Q I q => h.run pins s σ H Q I (w σ H Q q)⟩
def tIxC (xs : List V) (ti : TE) : TE := fun σ H Q => ti σ H fun y H1 => ∃ i v, y = .int i ∧ atI xs i = some v ∧ Q v H1
theorem pe_tc {X : Cx} {x : Str} {xs : List V} {p pos : Pos} {b : Expr} {tb : TE} (hg : Gl X x) (h : ∃ a, X.mg x = some (.ref a) ∧ ∀ H, SqT X.K H a xs) (hb : PE X b tb) (hs : PlainIx b) (hd : (x == ("__debug__" : Str)) = false := by decide) :
    PE X (.Subscript (.Name x p) b pos) (tIxC xs tb) := by
  obtain ⟨a, h, q⟩ := h
  refine ⟨fun pins s σ H Q I hq => ?_⟩
  refine Subscript_ (thn ((pe_glob (pos := p) hg h (v := .ref a) rfl hd).run pins s σ H (fun x H1 => x = .ref a ∧ H1 = H) I ⟨rfl, rfl⟩) fun v s1 ⟨x, H1, I1, rx, ex, eH⟩ => ?_)
  subst ex eH
  refine thn (hb.run pins s1 σ _ _ I1 hq) fun u s2 ⟨y, H2, I2, ry, i, v', ey, ha, qq⟩ => ?_
  exact ix_tup _ b pins s2 σ H2 _ y v u Q I2 rx ry ⟨a, xs, i, v', rfl, ey, q H2, ha, qq⟩ (hs _ _)
/-! ### requests -/
theorem int_dw {K : PySem.W.Frag} {H : Hp} {v : V} {lo hi i : Int} (h : Dw K H v ((Codec.int lo hi).enc i)) : v = .int i := by
  cases h
  rfl
theorem list_dw {K : PySem.W.Frag} {H : Hp} {v : V} {lo hi : Int} {m n : Nat} {l : List Int} (h : Dw K H v ((Codec.list m n (.int lo hi)).enc l)) : ∃ a, v = .ref a ∧ SqL K H a (l.map V.int) := by
  cases h with
  | lst hs ha =>
    have e := L2.ints_dw l _ ha
    subst e
    exact ⟨_, rfl, hs⟩
theorem inInt_iff {lo hi i : Int} (h : Codec.inInt lo hi i = true) : lo ≤ i ∧ i ≤ hi := by
  unfold Codec.inInt at h
  simpa using h
/-- bytes as values -/
abbrev bV (c : UInt8) : V := .int (Ms.bi c)
theorem bytes_of {l : List Int} {m n : Nat} (h : (Codec.inLen m n l && l.all (Codec.inInt 0 255)) = true) : l.length ≤ n ∧ l.map V.int = (Sf81Neutral.bs l).map bV := by
  rw [Bool.and_eq_true] at h
  refine ⟨(Codec.inNat_iff.mp h.1).2, ?_⟩
  have q : ∀ z ∈ l, 0 ≤ z ∧ z ≤ 255 := fun z hz => inInt_iff (List.all_eq_true.mp h.2 z hz)
  have e := Ms.bs_back q
  have e2 : l.map V.int = ((Sf81Neutral.bs l).map Ms.bi).map V.int := congrArg (List.map V.int) e
  rw [e2, List.map_map]
  rfl
theorem xor_nn (a b : Nat) : Builtin.bitXor (a : Int) (b : Int) = ((a ^^^ b : Nat) : Int) := by
  have e := Bits.bitXor_pp (x := (a : Int)) (y := (b : Int)) (by omega) (by omega)
  exact e
theorem q_int {Q : VK} {H : Hp} {i j : Int} (h : Q (.int i) H) (e : j = i) : Q (.int j) H := e ▸ h
theorem q_bl {Q : VK} {H : Hp} {b c : Bool} (h : Q (.bl b) H) (e : c = b) : Q (.bl c) H := e ▸ h
theorem st_int3 {a b c d : Option V} {i j : Int} (e : i = j) : ([a, b, c, some (V.int i), d] : List (Option V)) = [a, b, c, some (V.int j), d] := e ▸ rfl
theorem st_int23 {a b d : Option V} {i j i' j' : Int} (e : i = i') (e' : j = j') : ([a, b, some (V.int i), some (V.int j), d] : List (Option V)) = [a, b, some (V.int i'), some (V.int j'), d] := e ▸ e' ▸ rfl
theorem args_int {i j : Int} {r : List V} (e : i = j) : (V.int i :: r) = (V.int j :: r) := e ▸ rfl
theorem args_int2 {a : V} {i j : Int} {r : List V} (e : i = j) : (a :: V.int i :: r) = (a :: V.int j :: r) := e ▸ rfl
theorem fall_at {k : Int} {p : Sf81.Poly} (h : Sf81.kindOf k = some (.crc p)) : atI [V.int 2197175160, V.int 14514072000185962306] k = some (V.int (p.fall : Nat)) := by
  rcases Ms.kind_some h with ⟨rfl, e⟩ | ⟨rfl, e⟩ | ⟨rfl, e⟩ | ⟨rfl, e⟩
  · cases e
    rfl
  · cases e
    rfl
  · cases e
  · cases e
theorem ones_at {k : Int} {p : Sf81.Poly} (h : Sf81.kindOf k = some (.crc p)) : atI [V.int 4294967295, V.int 18446744073709551615] k = some (V.int (p.ones : Nat)) := by
  rcases Ms.kind_some h with ⟨rfl, e⟩ | ⟨rfl, e⟩ | ⟨rfl, e⟩ | ⟨rfl, e⟩
  · cases e
    rfl
  · cases e
    rfl
  · cases e
  · cases e
theorem neg1 {H : Hp} {p : Addr} : (upd H p (.lst [V.int (-1)])) p = some (.lst ((Sf81Neutral.listOf (Sf81.says (-1))).map V.int)) := upd_same
theorem pos_lit {j : Int} (h : 0 < j) : 0 < j := h
theorem ite2b {c : Bool} {A B : Prop} (h1 : c = true → A) (h2 : c = false → B) : if c = true then A else B := by
  cases c with
  | true => exact iteT (h1 rfl)
  | false => exact iteF (h2 rfl)
theorem one_ok {a : V} : ([a] : List V).length ≤ sizeLine := by
  show 1 ≤ sizeLine
  decide
theorem two_ok {a b : V} : ([a, b] : List V).length ≤ sizeLine := by
  show 2 ≤ sizeLine
  decide
/-- a test by a letter: numbers in it are never unfolded -/
theorem dec_ex (p : Prop) [Decidable p] : ∃ c : Bool, decide p = c ∧ (c = true → p) ∧ (c = false → ¬ p) := ⟨_, rfl, of_decide_eq_true, of_decide_eq_false⟩
theorem half_odd {s : Nat} (h : s / 65536 ≤ 1) : (s : Int) / 65536 = ((Ms.b2n (s / 65536 == 1) : Nat) : Int) := by
  have e := Ms.wst_odd h []
  show _ = ((Ms.b2n (Ms.wst (s / 65536 == 1) []).2 : Nat) : Int)
  rw [e]
  show _ = (((s / 65536 + 0) % 2 : Nat) : Int)
  omega
theorem bytes_sq {K : PySem.W.Frag} {H : Hp} {a : Addr} {b : Sf81.Bytes} (h : SqL K H a (b.map bV)) : SqL K H a ((b.map Ms.bi).map V.int) := by
  rw [List.map_map]
  exact h
theorem and_nn (a b : Nat) : Builtin.bitAnd (a : Int) (b : Int) = ((a &&& b : Nat) : Int) := by
  have e := PyProof.Rows.bitAnd_pp (x := (a : Int)) (y := (b : Int)) (by omega) (by omega)
  exact e
theorem is_crc {k : Int} {x : Sf81.Kind} (hk : Sf81.kindOf k = some x) (n2 : ¬ k = 2) (n3 : ¬ k = 3) : ∃ p, x = .crc p := by
  rcases Ms.kind_some hk with ⟨e, z⟩ | ⟨e, z⟩ | ⟨e, z⟩ | ⟨e, z⟩
  · exact ⟨_, z⟩
  · exact ⟨_, z⟩
  · exact absurd e n2
  · exact absurd e n3
theorem mul_ok {i : Int} (h0 : 0 ≤ i) (h1 : i < 18446744073709551616) : -(2 ^ 64) < i ∧ i < 2 ^ 64 := ⟨by omega, by omega⟩
theorem both {a b : Bool} (h : (a && b) = true) : a = true ∧ b = true := by
  rw [Bool.and_eq_true] at h
  exact h
end My
namespace My
open PySem PySem.Spec PyProof.Rows L2
/-- what is told of a heap is told of another -/
def Xt (H H' : Hp) : Prop := ∀ q o, H q = some o → H' q = some o
theorem xt_refl {H : Hp} : Xt H H := fun _ _ h => h
theorem Xt.tr {H H' H'' : Hp} (a : Xt H H') (b : Xt H' H'') : Xt H H'' := fun q o h => b q o (a q o h)
theorem Xt.new {H H' : Hp} {p : Addr} {u : HO} (a : Xt H H') (h : H' p = none) : Xt H (upd H' p u) := fun q o e => by
  have e1 := a q o e
  have n : q ≠ p := fun z => by rw [z, h] at e1; cases e1
  rw [upd_ne n]
  exact e1
theorem Xt.put {H H' : Hp} {p : Addr} {u : HO} (a : Xt H H') (h : H p = none) : Xt H (upd H' p u) := fun q o e => by
  have n : q ≠ p := fun z => by rw [z, h] at e; cases e
  rw [upd_ne n]
  exact a q o e
theorem sq_xt {K : PySem.W.Frag} {H H' : Hp} {a : Addr} {xs : List V} (h : SqL K H a xs) (e : Xt H H') : SqL K H' a xs := by
  rcases h with h | h
  · rcases h with h | ⟨o, h⟩
    · exact .inl (.inl (e _ _ h))
    · exact .inl (.inr ⟨o, e _ _ h⟩)
  · exact .inr h
theorem Xt.none {H H' : Hp} {p : Addr} (a : Xt H H') (h : H' p = none) : H p = none := by
  cases e : H p with
  | none => rfl
  | some o =>
    have z := a p o e
    rw [h] at z
    cases z
theorem fits {n : Nat} (h : n ≤ 66000) : n < sizeLine := Nat.lt_of_le_of_lt h (by decide)
theorem fits2 {n : Nat} (h : n ≤ 66000) : n ≤ sizeLine := Nat.le_of_lt (fits h)
theorem lst_more {H : Hp} {D : Addr} {l r : List V} {x : V} (h : l ++ [x] = r) : (upd H D (.lst (l ++ [x]))) D = some (.lst r) := h ▸ upd_same
theorem st9 {a b c d v w : Option V} {i j k i' j' k' : Int} (e : i = i') (e' : j = j') (e'' : k = k') : ([a, b, c, d, some (V.int i), some (V.int j), some (V.int k), v, w] : List (Option V)) = [a, b, c, d, some (V.int i'), some (V.int j'), some (V.int k'), v, w] := e ▸ e' ▸ e'' ▸ rfl
end My
namespace My
open PySem PySem.Spec PyProof.Rows L2
theorem st_first {b c d : Option V} {i j : Int} (e : i = j) : ([some (V.int i), b, c, d] : List (Option V)) = [some (V.int j), b, c, d] := e ▸ rfl
theorem st6 {a b c d v : Option V} {i j : Int} (e : i = j) : ([a, b, c, d, some (V.int i), v] : List (Option V)) = [a, b, c, d, some (V.int j), v] := e ▸ rfl
theorem lst_is {H : Hp} {D : Addr} {l r : List V} (h : r = l) : (upd H D (.lst l)) D = some (.lst r) := h ▸ upd_same
theorem list_nums1 {z : Int} {y : Nat} {c : Sf81.Bytes} : (Sf81Neutral.listOf ⟨z, y :: Sf81.nums c⟩).map V.int = [V.int z, V.int (y : Int)] ++ c.map bV := by
  unfold Sf81Neutral.listOf Sf81.nums
  rw [List.map_cons, List.map_map, List.map_cons, List.map_map]
  rfl
theorem st_3 {a b c v w : Option V} {i j : Int} (e : i = j) : ([a, b, c, some (V.int i), v, w] : List (Option V)) = [a, b, c, some (V.int j), v, w] := e ▸ rfl
theorem list_all {z : Int} {l : List Sf81.Bytes} {f : Sf81.Bytes → Nat} {y : Nat} : (Sf81Neutral.listOf ⟨z, l.map f ++ [y]⟩).map V.int = [V.int z] ++ (l.map fun t => V.int (f t : Nat)) ++ [V.int (y : Int)] := by
  unfold Sf81Neutral.listOf
  rw [List.map_cons, List.map_map, List.map_append, List.map_map]
  rfl
end My
namespace My
open PySem PySem.Spec PyProof.Rows L2
open PySem.W (Codec)
/-! ### a row of texts -/
def Tx (K : PySem.W.Frag) (H : Hp) (vs : List V) (ts : List Sf81.Bytes) : Prop := vs.length = ts.length ∧ ∀ (i : Nat) (v : V) (t : Sf81.Bytes), vs[i]? = some v → ts[i]? = some t → ∃ a, v = .ref a ∧ SqL K H a (t.map bV)
theorem tx_get {K : PySem.W.Frag} {H : Hp} {vs : List V} {ts : List Sf81.Bytes} {i : Nat} {v : V} (h : Tx K H vs ts) (hi : vs[i]? = some v) : ∃ (t : Sf81.Bytes) (a : Addr), ts[i]? = some t ∧ v = .ref a ∧ SqL K H a (t.map bV) := by
  have hl : i < vs.length := (List.getElem?_eq_some_iff.mp hi).1
  have hl2 : i < ts.length := by
    rw [← h.1]
    exact hl
  have e : ts[i]? = some ts[i] := List.getElem?_eq_getElem hl2
  obtain ⟨a, h1, h2⟩ := h.2 i v _ hi e
  exact ⟨_, a, e, h1, h2⟩
theorem tx_xt {K : PySem.W.Frag} {H H' : Hp} {vs : List V} {ts : List Sf81.Bytes} (h : Tx K H vs ts) (e : Xt H H') : Tx K H' vs ts := ⟨h.1, fun i v t h1 h2 => by
  obtain ⟨a, h3, h4⟩ := h.2 i v t h1 h2
  exact ⟨a, h3, sq_xt h4 e⟩⟩
theorem texts_dw {K : PySem.W.Frag} {H : Hp} {lo hi : Int} {m n : Nat} : ∀ (l : List (List Int)) (xs : List V), DwAll K H xs (l.map fun t => (Codec.list m n (.int lo hi)).enc t) → (∀ t ∈ l, t.map V.int = (Sf81Neutral.bs t).map bV) → Tx K H xs (l.map Sf81Neutral.bs)
  | [], xs, h, _ => by
    cases h
    exact ⟨rfl, fun i v t h1 _ => by cases h1⟩
  | t :: r, xs, h, hb => by
    cases h with
    | cons h1 h2 =>
      obtain ⟨a, e, hS⟩ := list_dw h1
      have ih := texts_dw r _ h2 fun u hu => hb u (List.mem_cons_of_mem _ hu)
      rw [hb t (List.mem_cons_self ..)] at hS
      refine ⟨congrArg Nat.succ ih.1, fun i v u q1 q2 => ?_⟩
      cases i with
      | zero =>
        have e1 := Option.some.inj q1
        have e2 := Option.some.inj q2
        subst e1 e2
        exact ⟨a, e, hS⟩
      | succ i => exact ih.2 i v u q1 q2
/-- len within a comprehension: K said outright -/
theorem call_lenK {X : Cx} {K : PySem.W.Frag} (h : X.K = K) : CallR X (.builtin "len") (fun xs H Q => ∃ (p : Addr) (ys : List V), xs = [V.ref p] ∧ (SqL K H p ys ∨ SqT K H p ys) ∧ Q (.int ys.length) H) := h ▸ call_len_seq
theorem rows_dw {K : PySem.W.Frag} {H : Hp} {v : V} {lo hi : Int} {m n m' n' : Nat} {l : List (List Int)} (h : Dw K H v ((Codec.list m' n' (.list m n (.int lo hi))).enc l)) (hb : ∀ t ∈ l, t.map V.int = (Sf81Neutral.bs t).map bV) : ∃ (a : Addr) (xs : List V), v = .ref a ∧ SqL K H a xs ∧ Tx K H xs (l.map Sf81Neutral.bs) := by
  cases h with
  | lst hs ha => exact ⟨_, _, rfl, hs, texts_dw l _ ha hb⟩
end My
namespace My
open PySem PySem.Spec PyProof.Rows L2
theorem top_at {k : Int} {p : Sf81.Poly} (h : Sf81.kindOf k = some (.crc p)) : atI [V.int 2147483648, V.int 9223372036854775808] k = some (V.int (Ms.top p : Nat)) := by
  rcases Ms.kind_some h with ⟨rfl, e⟩ | ⟨rfl, e⟩ | ⟨rfl, e⟩ | ⟨rfl, e⟩
  · cases e
    rfl
  · cases e
    rfl
  · cases e
  · cases e
theorem st5 {a b : Option V} {i j k i' j' k' : Int} (e : i = i') (e' : j = j') (e'' : k = k') : ([a, b, some (V.int i), some (V.int j), some (V.int k)] : List (Option V)) = [a, b, some (V.int i'), some (V.int j'), some (V.int k')] := e ▸ e' ▸ e'' ▸ rfl
theorem st4 {a : Option V} {i j k i' j' k' : Int} (e : i = i') (e' : j = j') (e'' : k = k') : ([a, some (V.int i), some (V.int j), some (V.int k)] : List (Option V)) = [a, some (V.int i'), some (V.int j'), some (V.int k')] := e ▸ e' ▸ e'' ▸ rfl
/-- the last slot, a whole number -/
def last5 : L2.St → Nat
  | [_, _, _, _, some (.int b)] => b.toNat
  | _ => 0
def third4 : L2.St → Nat
  | [_, _, some (.int b), _] => b.toNat
  | _ => 0
end My
namespace My
open PySem PySem.Spec PyProof.Rows L2
open PySem.W (Codec)
def top (i : Nat) : Stmt := PySem.Challenge.pw_damagesums_s11_pieces.main.body.getD i (.Pass ⟨0, 0, 0, 0⟩)
abbrev s_one_bit_on : Stmt := top 19
theorem sc_one_bit_on : FnScope ["x", "feedback"] ["x", "feedback"] (defScope s_one_bit_on) := ⟨rfl, rfl, rfl, by decide +kernel, rfl, by decide +kernel, by decide +kernel⟩
abbrev s_eight_bits_on : Stmt := top 18
theorem sc_eight_bits_on : FnScope ["x", "feedback", "step"] ["x", "feedback"] (defScope s_eight_bits_on) := ⟨rfl, rfl, rfl, by decide +kernel, rfl, by decide +kernel, by decide +kernel⟩
abbrev s_bytes_by : Stmt := top 17
theorem sc_bytes_by : FnScope ["k", "x", "text", "c"] ["k", "x", "text"] (defScope s_bytes_by) := ⟨rfl, rfl, rfl, by decide +kernel, rfl, by decide +kernel, by decide +kernel⟩
abbrev s_bits_behind : Stmt := top 16
theorem sc_bits_behind : FnScope ["k", "s", "text"] ["k", "s", "text"] (defScope s_bits_behind) := ⟨rfl, rfl, rfl, by decide +kernel, rfl, by decide +kernel, by decide +kernel⟩
abbrev s_ones_number : Stmt := top 24
theorem sc_ones_number : FnScope ["total"] ["total"] (defScope s_ones_number) := ⟨rfl, rfl, rfl, by decide +kernel, rfl, by decide +kernel, by decide +kernel⟩
abbrev s_ones_total : Stmt := top 23
theorem sc_ones_total : FnScope ["odd", "values", "total", "value"] ["odd", "values"] (defScope s_ones_total) := ⟨rfl, rfl, rfl, by decide +kernel, rfl, by decide +kernel, by decide +kernel⟩
abbrev s_ones_behind : Stmt := top 22
theorem sc_ones_behind : FnScope ["s", "text", "odd"] ["s", "text"] (defScope s_ones_behind) := ⟨rfl, rfl, rfl, by decide +kernel, rfl, by decide +kernel, by decide +kernel⟩
abbrev s_adler_behind : Stmt := top 26
theorem sc_adler_behind : FnScope ["s", "text", "a", "b", "c"] ["s", "text"] (defScope s_adler_behind) := ⟨rfl, rfl, rfl, by decide +kernel, rfl, by decide +kernel, by decide +kernel⟩
abbrev s_state_behind : Stmt := top 13
theorem sc_state_behind : FnScope ["k", "s", "text"] ["k", "s", "text"] (defScope s_state_behind) := ⟨rfl, rfl, rfl, by decide +kernel, rfl, by decide +kernel, by decide +kernel⟩
abbrev s_empty_state : Stmt := top 11
theorem sc_empty_state : FnScope ["k"] ["k"] (defScope s_empty_state) := ⟨rfl, rfl, rfl, by decide +kernel, rfl, by decide +kernel, by decide +kernel⟩
abbrev s_state_of_text : Stmt := top 12
theorem sc_state_of_text : FnScope ["k", "text"] ["k", "text"] (defScope s_state_of_text) := ⟨rfl, rfl, rfl, by decide +kernel, rfl, by decide +kernel, by decide +kernel⟩
abbrev s_is_kind : Stmt := top 10
theorem sc_is_kind : FnScope ["k"] ["k"] (defScope s_is_kind) := ⟨rfl, rfl, rfl, by decide +kernel, rfl, by decide +kernel, by decide +kernel⟩
abbrev s_ones_of_both : Stmt := top 25
theorem sc_ones_of_both : FnScope ["a", "b", "n", "weight"] ["a", "b", "n"] (defScope s_ones_of_both) := ⟨rfl, rfl, rfl, by decide +kernel, rfl, by decide +kernel, by decide +kernel⟩
abbrev s_adler_of_both : Stmt := top 27
theorem sc_adler_of_both : FnScope ["a", "b", "n", "ahead", "lower", "upper"] ["a", "b", "n"] (defScope s_adler_of_both) := ⟨rfl, rfl, rfl, by decide +kernel, rfl, by decide +kernel, by decide +kernel⟩
abbrev s_product : Stmt := top 21
theorem sc_product : FnScope ["k", "x", "y", "total", "bit"] ["k", "x", "y"] (defScope s_product) := ⟨rfl, rfl, rfl, by decide +kernel, rfl, by decide +kernel, by decide +kernel⟩
abbrev s_zero_bytes_on : Stmt := top 20
theorem sc_zero_bytes_on : FnScope ["k", "x", "n", "power"] ["k", "x", "n"] (defScope s_zero_bytes_on) := ⟨rfl, rfl, rfl, by decide +kernel, rfl, by decide +kernel, by decide +kernel⟩
abbrev s_state_of_both : Stmt := top 14
theorem sc_state_of_both : FnScope ["k", "a", "b", "n"] ["k", "a", "b", "n"] (defScope s_state_of_both) := ⟨rfl, rfl, rfl, by decide +kernel, rfl, by decide +kernel, by decide +kernel⟩
abbrev s_state_of_all : Stmt := top 15
theorem sc_state_of_all : FnScope ["k", "each", "texts", "whole", "s", "text"] ["k", "each", "texts"] (defScope s_state_of_all) := ⟨rfl, rfl, rfl, by decide +kernel, rfl, by decide +kernel, by decide +kernel⟩
abbrev s_pieces : Stmt := top 31
theorem sc_pieces : FnScope ["k", "texts", "each", "text"] ["k", "texts"] (defScope s_pieces) := ⟨rfl, rfl, rfl, by decide +kernel, rfl, by decide +kernel, by decide +kernel⟩
structure Txt (K : PySem.W.Frag) (mg : Str → Option Value) : Prop where
  dummy : True
  c_ONES : ∃ t, mg "ONES" = some (.int (2) t)
  c_ADLER : ∃ t, mg "ADLER" = some (.int (3) t)
  c_HIGHEST_KIND : ∃ t, mg "HIGHEST_KIND" = some (.int (3) t)
  c_HALF : ∃ t, mg "HALF" = some (.int (65536) t)
  c_ONES_MODULUS : ∃ t, mg "ONES_MODULUS" = some (.int (65535) t)
  c_ADLER_MODULUS : ∃ t, mg "ADLER_MODULUS" = some (.int (65521) t)
  c_LONGEST_TEXT : ∃ t, mg "LONGEST_TEXT" = some (.int (65536) t)
  c_MOST_PIECES : ∃ t, mg "MOST_PIECES" = some (.int (64) t)
  t_FEEDBACK : ∃ a, mg "FEEDBACK" = some (.ref a) ∧ ∀ H, SqT K H a [.int 2197175160, .int 14514072000185962306]
  t_ALL_BITS : ∃ a, mg "ALL_BITS" = some (.ref a) ∧ ∀ H, SqT K H a [.int 4294967295, .int 18446744073709551615]
  t_TOP_BIT : ∃ a, mg "TOP_BIT" = some (.ref a) ∧ ∀ H, SqT K H a [.int 2147483648, .int 9223372036854775808]
  b_range : mg "range" = none
  b_len : mg "len" = none
  b_zip : mg "zip" = none
  b_sum : mg "sum" = none
section
variable {P : Program} {w : World} {K : PySem.W.Frag} {mg : Str → Option Value} {base : Heap}
def sp_one_bit_on (K : PySem.W.Frag) : Sp := fun vs H Q _ => ∃ (x g : Nat), vs = [.int x, .int g] ∧ Q (.int (Ms.bit1 g x : Nat)) H
theorem ok_one_bit_on {f : Addr} {fd : FuncData} (F : Fun K "one_bit_on" "one_bit_on" s_one_bit_on f fd) (T : Txt K mg) : FnOk P w K mg base CX0 1 f fd ["x", "feedback"] (sp_one_bit_on K) := by
  refine F.ok sc_one_bit_on (fun vs H Q E h => ?_) (fun cdv A outer s H vs Q E hr h => ?_)
  · obtain ⟨x, g, rfl, k⟩ := h
    rfl
  · obtain ⟨x, g, rfl, k⟩ := h
    refine ⟨_, (pss_cons (ps_if (pt_cmpR op_eq (pe_op op_mod (pv 0) pe_int) pe_int (nomark _)) (pss_one (ps_ret (pe_op op_xor (pe_op op_fdiv (pv 0) pe_int) (pv 1)))) pss_nil)
      (pss_one (ps_ret (pe_op op_fdiv (pv 0) pe_int)))), ?_⟩
    refine ⟨_, rfl, _, _, rfl, rfl, My.pos_lit (by decide), rfl, _, rfl, My.ite2b (fun e => ?_) (fun e => ?_)⟩
    · have e1 : (x : Int) % 2 = 1 := V.int.inj (of_decide_eq_true e)
      refine ⟨_, rfl, _, _, rfl, rfl, ⟨by decide, by decide⟩, _, rfl, _, _, rfl, rfl, My.q_int k ?_⟩
      have e2 : (x : Int) / 2 = ((x / 2 : Nat) : Int) := by omega
      rw [e2, My.xor_nn]
      unfold Ms.bit1
      rw [if_pos (by omega)]
    · have e1 : ¬ (x : Int) % 2 = 1 := fun z => of_decide_eq_false e (congrArg V.int z)
      refine ⟨_, rfl, _, _, rfl, rfl, ⟨by decide, by decide⟩, My.q_int k ?_⟩
      unfold Ms.bit1
      rw [if_neg (by omega)]
      omega
def sp_eight_bits_on (K : PySem.W.Frag) : Sp := fun vs H Q _ => ∃ (x : Nat) (p : Sf81.Poly), vs = [.int x, .int p.fall] ∧ Q (.int (p.on 8 x : Nat)) H
theorem ok_eight_bits_on {f : Addr} {fd : FuncData} (F : Fun K "eight_bits_on" "eight_bits_on" s_eight_bits_on f fd) (T : Txt K mg) (C_one_bit_on : My.Cal P w K mg base 1 "one_bit_on" ["x", "feedback"] (sp_one_bit_on K)) : FnOk P w K mg base CX0 2 f fd ["x", "feedback"] (sp_eight_bits_on K) := by
  refine F.ok sc_eight_bits_on (fun vs H Q E h => ?_) (fun cdv A outer s H vs Q E hr h => ?_)
  · obtain ⟨x, p, rfl, k⟩ := h
    rfl
  · obtain ⟨x, p, rfl, k⟩ := h
    refine ⟨_, (pss_cons (ps_for PassesOwn.never rfl (pi_range1 (by rfl) T.b_range (pa_cons pe_int pa_nil)) (pg_name (i := 2) sc_eight_bits_on.nd rfl (Or.inl rfl))
        (pss_one (ps_set (i := 0) sc_eight_bits_on.nd rfl (Or.inl rfl) (My.pe_cal C_one_bit_on (hr.mono (by decide)) (by rfl) (pa_cons (pv 0) (pa_cons (pv 1) pa_nil))))))
      (pss_one (ps_ret (pv 0)))), ?_⟩
    refine ⟨8, rfl, by decide, by decide, for_range (lo := 0) (n := 8) (fun i σ H' => ∃ v, σ = [some (.int (p.on i x : Nat)), some (.int p.fall), v] ∧ H' = H) ⟨none, rfl, rfl⟩ ?_ ?_⟩
    · rintro i σ H' hi ⟨v, rfl, rfl⟩
      refine ⟨_, rfl, _, rfl, p.on i x, p.fall, rfl, ?_⟩
      exact ⟨_, by rw [Ms.on_last]; rfl, rfl⟩
    · rintro σ H' ⟨v, rfl, rfl⟩
      exact ⟨_, rfl, k⟩
def sp_bytes_by (K : PySem.W.Frag) : Sp := fun vs H Q _ => ∃ (k : Int) (p : Sf81.Poly) (x : Nat) (a : Addr) (b : Sf81.Bytes), vs = [.int k, .int x, .ref a] ∧ Sf81.kindOf k = some (.crc p) ∧ SqL K H a (b.map bV) ∧ Q (.int (p.raw x b : Nat)) H
theorem ok_bytes_by {f : Addr} {fd : FuncData} (F : Fun K "bytes_by" "bytes_by" s_bytes_by f fd) (T : Txt K mg) (C_eight_bits_on : My.Cal P w K mg base 2 "eight_bits_on" ["x", "feedback"] (sp_eight_bits_on K)) : FnOk P w K mg base CX0 3 f fd ["k", "x", "text"] (sp_bytes_by K) := by
  refine F.ok sc_bytes_by (fun vs H Q E h => ?_) (fun cdv A outer s H vs Q E hr h => ?_)
  · obtain ⟨k, p, x, a, b, rfl, hk, hS, q⟩ := h
    rfl
  · obtain ⟨k, p, x, a, b, rfl, hk, hS, q⟩ := h
    refine ⟨_, (pss_cons (ps_for PassesOwn.never rfl (pi_list (pv 2)) (pg_name (i := 3) sc_bytes_by.nd rfl (Or.inl rfl))
        (pss_one (ps_set (i := 1) sc_bytes_by.nd rfl (Or.inl rfl) (My.pe_cal C_eight_bits_on (hr.mono (by decide)) (by rfl) (pa_cons (pe_op op_xor (pv 1) (pv 3)) (pa_cons (My.pe_tc (by rfl) T.t_FEEDBACK (pv 0) (fun _ _ => rfl)) pa_nil))))))
      (pss_one (ps_ret (pv 1)))), ?_⟩
    refine ⟨_, rfl, a, rfl, ⟨_, hS⟩, for_list (K := K) (a := a) (xs := b.map bV) (fun i σ H' => ∃ v, σ = [some (.int k), some (.int (p.raw x (b.take i) : Nat)), some (.ref a), v] ∧ H' = H) ⟨none, rfl, rfl⟩ ?_ ?_ ?_⟩
    · rintro i σ H' _ ⟨v, rfl, rfl⟩
      exact hS
    · rintro i y σ H' hi ⟨v, rfl, rfl⟩
      obtain ⟨c, hc, rfl⟩ := Ms.get_map hi
      refine ⟨_, rfl, _, rfl, _, _, rfl, rfl, _, rfl, k, _, rfl, fall_at hk, _, p, My.args_int (My.xor_nn _ _), ?_⟩
      exact ⟨_, by rw [Ms.raw_more hc]; rfl, rfl⟩
    · rintro σ H' ⟨v, rfl, rfl⟩
      rw [List.length_map, List.take_length]
      exact ⟨_, rfl, q⟩
def sp_bits_behind (K : PySem.W.Frag) : Sp := fun vs H Q _ => ∃ (k : Int) (p : Sf81.Poly) (s : Nat) (a : Addr) (b : Sf81.Bytes), vs = [.int k, .int s, .ref a] ∧ Sf81.kindOf k = some (.crc p) ∧ SqL K H a (b.map bV) ∧ Q (.int ((Sf81.Kind.crc p).add s b : Nat)) H
theorem ok_bits_behind {f : Addr} {fd : FuncData} (F : Fun K "bits_behind" "bits_behind" s_bits_behind f fd) (T : Txt K mg) (C_bytes_by : My.Cal P w K mg base 3 "bytes_by" ["k", "x", "text"] (sp_bytes_by K)) : FnOk P w K mg base CX0 4 f fd ["k", "s", "text"] (sp_bits_behind K) := by
  refine F.ok sc_bits_behind (fun vs H Q E h => ?_) (fun cdv A outer s H vs Q E hr h => ?_)
  · obtain ⟨k, p, s, a, b, rfl, hk, hS, q⟩ := h
    rfl
  · obtain ⟨k, p, s, a, b, rfl, hk, hS, q⟩ := h
    refine ⟨_, (pss_one (ps_ret (pe_op op_xor (My.pe_cal C_bytes_by (hr.mono (by decide)) (by rfl) (pa_cons (pv 0) (pa_cons (pe_op op_xor (pv 1) (My.pe_tc (by rfl) T.t_ALL_BITS (pv 0) (fun _ _ => rfl))) (pa_cons (pv 2) pa_nil)))) (My.pe_tc (by rfl) T.t_ALL_BITS (pv 0) (fun _ _ => rfl))))), ?_⟩
    refine ⟨_, rfl, _, rfl, _, rfl, k, _, rfl, ones_at hk, _, _, rfl, rfl, _, rfl, k, p, s ^^^ p.ones, a, b, My.args_int2 (My.xor_nn _ _), hk, hS, ?_⟩
    refine ⟨_, rfl, k, _, rfl, ones_at hk, _, _, rfl, rfl, My.q_int q ?_⟩
    exact My.xor_nn _ _
def sp_ones_number (K : PySem.W.Frag) : Sp := fun vs H Q _ => ∃ (n : Nat), vs = [.int n] ∧ Q (.int (Sf81.folded n : Nat)) H
theorem ok_ones_number {f : Addr} {fd : FuncData} (F : Fun K "ones_number" "ones_number" s_ones_number f fd) (T : Txt K mg) : FnOk P w K mg base CX0 1 f fd ["total"] (sp_ones_number K) := by
  refine F.ok sc_ones_number (fun vs H Q E h => ?_) (fun cdv A outer s H vs Q E hr h => ?_)
  · obtain ⟨n, rfl, k⟩ := h
    rfl
  · obtain ⟨n, rfl, k⟩ := h
    refine ⟨_, (pss_cons (ps_if (pt_cmpR op_eq (pv 0) pe_int (nomark _)) (pss_one (ps_ret pe_int)) pss_nil)
      (pss_one (ps_ret (pe_op op_add (pe_op op_mod (pe_op op_sub (pv 0) pe_int) (My.pe_ci (by rfl) T.c_ONES_MODULUS)) pe_int)))), ?_⟩
    refine ⟨_, rfl, rfl, _, rfl, My.ite2b (fun e => ?_) (fun e => ?_)⟩
    · have e1 : (n : Int) = 0 := V.int.inj (of_decide_eq_true e)
      refine My.q_int k ?_
      unfold Sf81.folded
      rw [if_pos (by omega)]
      rfl
    · have e1 : ¬ (n : Int) = 0 := fun z => of_decide_eq_false e (congrArg V.int z)
      refine ⟨_, rfl, _, _, rfl, rfl, _, _, rfl, rfl, My.pos_lit (by decide), _, _, rfl, rfl, My.q_int k ?_⟩
      unfold Sf81.folded
      rw [if_neg (by omega)]
      omega
def sp_ones_total (K : PySem.W.Frag) : Sp := fun vs H Q _ => ∃ (o : Bool) (a : Addr) (l : List Int), vs = [.int (Ms.b2n o : Nat), .ref a] ∧ SqL K H a (l.map V.int) ∧ Q (.int (Ms.tst o l).1) H
theorem ok_ones_total {f : Addr} {fd : FuncData} (F : Fun K "ones_total" "ones_total" s_ones_total f fd) (T : Txt K mg) : FnOk P w K mg base CX0 1 f fd ["odd", "values"] (sp_ones_total K) := by
  refine F.ok sc_ones_total (fun vs H Q E h => ?_) (fun cdv A outer s H vs Q E hr h => ?_)
  · obtain ⟨o, a, l, rfl, hS, q⟩ := h
    rfl
  · obtain ⟨o, a, l, rfl, hS, q⟩ := h
    refine ⟨_, (pss_cons (ps_set (i := 2) sc_ones_total.nd rfl (Or.inl rfl) pe_int)
      (pss_cons (ps_for PassesOwn.never rfl (pi_list (pv 1)) (pg_name (i := 3) sc_ones_total.nd rfl (Or.inl rfl))
        (pss_cons (ps_if (pt_cmpR op_eq (pv 0) pe_int (nomark _)) (pss_one (ps_set (i := 2) sc_ones_total.nd rfl (Or.inl rfl) (pe_op op_add (pv 2) (pv 3)))) (pss_one (ps_set (i := 2) sc_ones_total.nd rfl (Or.inl rfl) (pe_op op_add (pv 2) (pe_op op_mul pe_int (pv 3))))))
      (pss_one (ps_set (i := 0) sc_ones_total.nd rfl (Or.inl rfl) (pe_op op_sub pe_int (pv 0))))))
      (pss_one (ps_ret (pv 2))))), ?_⟩
    refine ⟨_, rfl, a, rfl, ⟨_, hS⟩, for_list (K := K) (a := a) (xs := l.map V.int) (fun i σ H' => ∃ v, σ = [some (.int (Ms.b2n (Ms.tst o (l.take i)).2 : Nat)), some (.ref a), some (.int (Ms.tst o (l.take i)).1), v] ∧ H' = H) ⟨none, rfl, rfl⟩ ?_ ?_ ?_⟩
    · rintro i σ H' _ ⟨v, rfl, rfl⟩
      exact hS
    · rintro i y σ H' hi ⟨v, rfl, rfl⟩
      obtain ⟨c, hc, rfl⟩ := Ms.get_map hi
      have st := Ms.tst_more (odd := o) hc
      generalize Ms.tst o (l.take i) = z at st ⊢
      rw [st]
      obtain ⟨t, o'⟩ := z
      refine ⟨_, rfl, rfl, _, rfl, ?_⟩
      cases o' with
      | true =>
        refine iteT ?_
        refine ⟨_, rfl, _, rfl, _, _, rfl, rfl, ?_⟩
        refine ⟨_, rfl, _, _, rfl, rfl, ?_⟩
        exact ⟨_, rfl, rfl⟩
      | false =>
        refine iteF ?_
        refine ⟨_, rfl, _, rfl, _, _, rfl, rfl, .inl ⟨by decide, by decide⟩, _, _, rfl, rfl, ?_⟩
        refine ⟨_, rfl, _, _, rfl, rfl, ?_⟩
        exact ⟨_, rfl, rfl⟩
    · rintro σ H' ⟨v, rfl, rfl⟩
      rw [List.length_map, List.take_length]
      exact ⟨_, rfl, q⟩
def sp_ones_behind (K : PySem.W.Frag) : Sp := fun vs H Q _ => ∃ (s : Nat) (a : Addr) (b : Sf81.Bytes), vs = [.int s, .ref a] ∧ s < 131072 ∧ SqL K H a (b.map bV) ∧ Q (.int (Sf81.Kind.ones.add s b : Nat)) H
theorem ok_ones_behind {f : Addr} {fd : FuncData} (F : Fun K "ones_behind" "ones_behind" s_ones_behind f fd) (T : Txt K mg) (C_ones_number : My.Cal P w K mg base 1 "ones_number" ["total"] (sp_ones_number K)) (C_ones_total : My.Cal P w K mg base 1 "ones_total" ["odd", "values"] (sp_ones_total K)) : FnOk P w K mg base CX0 2 f fd ["s", "text"] (sp_ones_behind K) := by
  refine F.ok sc_ones_behind (fun vs H Q E h => ?_) (fun cdv A outer s H vs Q E hr h => ?_)
  · obtain ⟨s, a, b, rfl, hs, hS, q⟩ := h
    rfl
  · obtain ⟨s, a, b, rfl, hs, hS, q⟩ := h
    refine ⟨_, (pss_cons (ps_set (i := 2) sc_ones_behind.nd rfl (Or.inl rfl) (pe_op op_fdiv (pv 0) (My.pe_ci (by rfl) T.c_HALF)))
      (pss_one (ps_ret (pe_op op_add (My.pe_cal C_ones_number (hr.mono (by decide)) (by rfl) (pa_cons (pe_op op_add (pe_op op_mod (pv 0) (My.pe_ci (by rfl) T.c_HALF)) (My.pe_cal C_ones_total (hr.mono (by decide)) (by rfl) (pa_cons (pv 2) (pa_cons (pv 1) pa_nil)))) pa_nil)) (pe_op op_mul (My.pe_ci (by rfl) T.c_HALF) (pe_op op_mod (pe_op op_add (pv 2) (pe_callB call_len_seq (by rfl) T.b_len PySem.boot_len (pa_cons (pv 1) pa_nil))) pe_int)))))), ?_⟩
    have hm : s / 65536 ≤ 1 := by omega
    refine ⟨_, rfl, _, _, rfl, rfl, ⟨by decide, by decide⟩, ?_⟩
    refine ⟨_, rfl, _, _, rfl, rfl, My.pos_lit (by decide), _, rfl, _, rfl, (s / 65536 == 1), a, b.map Ms.bi, My.args_int (My.half_odd hm), My.bytes_sq hS, _, _, rfl, rfl, s % 65536 + Sf81.wordsSum (s / 65536 == 1) b, My.args_int ?_, ?_⟩
    · rw [Ms.tst_bytes]
      omega
    · refine ⟨_, rfl, _, rfl, a, _, rfl, .inl hS, _, _, rfl, rfl, _, _, rfl, rfl, My.pos_lit (by decide), _, _, rfl, rfl, .inl ⟨by decide, by decide⟩, _, _, rfl, rfl, My.q_int q ?_⟩
      rw [List.length_map]
      show _ = ((Sf81.folded (s % 65536 + Sf81.wordsSum (s / 65536 == 1) b) + 65536 * ((s / 65536 + b.length) % 2) : Nat) : Int)
      omega
def sp_adler_behind (K : PySem.W.Frag) : Sp := fun vs H Q _ => ∃ (s : Nat) (a : Addr) (b : Sf81.Bytes), vs = [.int s, .ref a] ∧ SqL K H a (b.map bV) ∧ Q (.int (Sf81.Kind.adler.add s b : Nat)) H
theorem ok_adler_behind {f : Addr} {fd : FuncData} (F : Fun K "adler_behind" "adler_behind" s_adler_behind f fd) (T : Txt K mg) : FnOk P w K mg base CX0 1 f fd ["s", "text"] (sp_adler_behind K) := by
  refine F.ok sc_adler_behind (fun vs H Q E h => ?_) (fun cdv A outer s H vs Q E hr h => ?_)
  · obtain ⟨s, a, b, rfl, hS, q⟩ := h
    rfl
  · obtain ⟨s, a, b, rfl, hS, q⟩ := h
    refine ⟨_, (pss_cons (ps_set (i := 2) sc_adler_behind.nd rfl (Or.inl rfl) (pe_op op_mod (pv 0) (My.pe_ci (by rfl) T.c_HALF)))
      (pss_cons (ps_set (i := 3) sc_adler_behind.nd rfl (Or.inl rfl) (pe_op op_fdiv (pv 0) (My.pe_ci (by rfl) T.c_HALF)))
      (pss_cons (ps_for PassesOwn.never rfl (pi_list (pv 1)) (pg_name (i := 4) sc_adler_behind.nd rfl (Or.inl rfl))
        (pss_cons (ps_set (i := 2) sc_adler_behind.nd rfl (Or.inl rfl) (pe_op op_mod (pe_op op_add (pv 2) (pv 4)) (My.pe_ci (by rfl) T.c_ADLER_MODULUS)))
      (pss_one (ps_set (i := 3) sc_adler_behind.nd rfl (Or.inl rfl) (pe_op op_mod (pe_op op_add (pv 3) (pv 2)) (My.pe_ci (by rfl) T.c_ADLER_MODULUS))))))
      (pss_one (ps_ret (pe_op op_add (pe_op op_mul (My.pe_ci (by rfl) T.c_HALF) (pv 3)) (pv 2))))))), ?_⟩
    refine ⟨_, rfl, _, _, rfl, rfl, My.pos_lit (by decide), ?_⟩
    refine ⟨_, rfl, _, _, rfl, rfl, ⟨by decide, by decide⟩, ?_⟩
    refine ⟨_, rfl, a, rfl, ⟨_, hS⟩, for_list (K := K) (a := a) (xs := b.map bV) (fun i σ H' => ∃ v, σ = [some (.int s), some (.ref a), some (.int ((Ms.ast (s % 65536, s / 65536) (b.take i)).1 : Nat)), some (.int ((Ms.ast (s % 65536, s / 65536) (b.take i)).2 : Nat)), v] ∧ H' = H) ⟨none, ?_, rfl⟩ ?_ ?_ ?_⟩
    · exact My.st_int23 rfl rfl
    · rintro i σ H' _ ⟨v, rfl, rfl⟩
      exact hS
    · rintro i y σ H' hi ⟨v, rfl, rfl⟩
      obtain ⟨c, hc, rfl⟩ := Ms.get_map hi
      have st := Ms.ast_more (z := (s % 65536, s / 65536)) hc
      generalize Ms.ast (s % 65536, s / 65536) (b.take i) = z at st ⊢
      rw [st]
      obtain ⟨t, o⟩ := z
      refine ⟨_, rfl, _, rfl, _, _, rfl, rfl, _, _, rfl, rfl, My.pos_lit (by decide), ?_⟩
      refine ⟨_, rfl, _, rfl, _, _, rfl, rfl, _, _, rfl, rfl, My.pos_lit (by decide), ?_⟩
      refine ⟨_, My.st_int23 ?_ ?_, rfl⟩
      · show ((t : Int) + (c.toNat : Int)) % 65521 = (((t + c.toNat) % 65521 : Nat) : Int)
        omega
      · show ((o : Int) + ((t : Int) + (c.toNat : Int)) % 65521) % 65521 = (((o + t + c.toNat) % 65521 : Nat) : Int)
        omega
    · rintro σ H' ⟨v, rfl, rfl⟩
      rw [List.length_map, List.take_length]
      refine ⟨_, rfl, _, _, rfl, rfl, .inl ⟨by decide, by decide⟩, _, rfl, _, _, rfl, rfl, My.q_int q ?_⟩
      show (65536 : Int) * ((Ms.ast (s % 65536, s / 65536) b).2 : Int) + ((Ms.ast (s % 65536, s / 65536) b).1 : Int) = (((Ms.ast (s % 65536, s / 65536) b).2 * 65536 + (Ms.ast (s % 65536, s / 65536) b).1 : Nat) : Int)
      omega
def sp_state_behind (K : PySem.W.Frag) : Sp := fun vs H Q _ => ∃ (k : Int) (x : Sf81.Kind) (s : Nat) (a : Addr) (b : Sf81.Bytes), vs = [.int k, .int s, .ref a] ∧ Sf81.kindOf k = some x ∧ x.ok s = true ∧ SqL K H a (b.map bV) ∧ Q (.int (x.add s b : Nat)) H
theorem ok_state_behind {f : Addr} {fd : FuncData} (F : Fun K "state_behind" "state_behind" s_state_behind f fd) (T : Txt K mg) (C_bits_behind : My.Cal P w K mg base 4 "bits_behind" ["k", "s", "text"] (sp_bits_behind K)) (C_ones_behind : My.Cal P w K mg base 2 "ones_behind" ["s", "text"] (sp_ones_behind K)) (C_adler_behind : My.Cal P w K mg base 1 "adler_behind" ["s", "text"] (sp_adler_behind K)) : FnOk P w K mg base CX0 5 f fd ["k", "s", "text"] (sp_state_behind K) := by
  refine F.ok sc_state_behind (fun vs H Q E h => ?_) (fun cdv A outer s H vs Q E hr h => ?_)
  · obtain ⟨k, x, s, a, b, rfl, hk, hok, hS, q⟩ := h
    rfl
  · obtain ⟨k, x, s, a, b, rfl, hk, hok, hS, q⟩ := h
    refine ⟨_, (pss_cons (ps_if (pt_cmpR op_eq (pv 0) (My.pe_ci (by rfl) T.c_ONES) (nomark _)) (pss_one (ps_ret (My.pe_cal C_ones_behind (hr.mono (by decide)) (by rfl) (pa_cons (pv 1) (pa_cons (pv 2) pa_nil))))) pss_nil)
      (pss_cons (ps_if (pt_cmpR op_eq (pv 0) (My.pe_ci (by rfl) T.c_ADLER) (nomark _)) (pss_one (ps_ret (My.pe_cal C_adler_behind (hr.mono (by decide)) (by rfl) (pa_cons (pv 1) (pa_cons (pv 2) pa_nil))))) pss_nil)
      (pss_one (ps_ret (My.pe_cal C_bits_behind (hr.mono (by decide)) (by rfl) (pa_cons (pv 0) (pa_cons (pv 1) (pa_cons (pv 2) pa_nil)))))))), ?_⟩
    refine ⟨_, rfl, rfl, _, rfl, My.ite2b (fun e => ?_) (fun e => ?_)⟩
    · have e1 : k = 2 := V.int.inj (of_decide_eq_true e)
      subst e1
      cases hk
      exact ⟨_, rfl, _, rfl, s, a, b, rfl, of_decide_eq_true hok, hS, q⟩
    · have n2 : ¬ k = 2 := fun z => of_decide_eq_false e (congrArg V.int z)
      refine ⟨_, rfl, rfl, _, rfl, My.ite2b (fun e => ?_) (fun e => ?_)⟩
      · have e1 : k = 3 := V.int.inj (of_decide_eq_true e)
        subst e1
        cases hk
        exact ⟨_, rfl, _, rfl, s, a, b, rfl, hS, q⟩
      · have n3 : ¬ k = 3 := fun z => of_decide_eq_false e (congrArg V.int z)
        have hp : ∃ p, x = .crc p := by
          rcases Ms.kind_some hk with ⟨e, z⟩ | ⟨e, z⟩ | ⟨e, z⟩ | ⟨e, z⟩
          · exact ⟨_, z⟩
          · exact ⟨_, z⟩
          · exact absurd e n2
          · exact absurd e n3
        obtain ⟨p, rfl⟩ := hp
        exact ⟨_, rfl, _, rfl, _, rfl, k, p, s, a, b, rfl, hk, hS, q⟩
def sp_empty_state (K : PySem.W.Frag) : Sp := fun vs H Q _ => ∃ (k : Int) (x : Sf81.Kind), vs = [.int k] ∧ Sf81.kindOf k = some x ∧ Q (.int (x.begin_ : Nat)) H
theorem ok_empty_state {f : Addr} {fd : FuncData} (F : Fun K "empty_state" "empty_state" s_empty_state f fd) (T : Txt K mg) : FnOk P w K mg base CX0 1 f fd ["k"] (sp_empty_state K) := by
  refine F.ok sc_empty_state (fun vs H Q E h => ?_) (fun cdv A outer s H vs Q E hr h => ?_)
  · obtain ⟨k, x, rfl, hk, q⟩ := h
    rfl
  · obtain ⟨k, x, rfl, hk, q⟩ := h
    refine ⟨_, (pss_cons (ps_if (pt_cmpR op_eq (pv 0) (My.pe_ci (by rfl) T.c_ADLER) (nomark _)) (pss_one (ps_ret pe_int)) pss_nil)
      (pss_one (ps_ret pe_int))), ?_⟩
    refine ⟨_, rfl, rfl, _, rfl, My.ite2b (fun e => ?_) (fun e => ?_)⟩
    · have e1 : k = 3 := V.int.inj (of_decide_eq_true e)
      subst e1
      cases hk
      exact q
    · have n3 : ¬ k = 3 := fun z => of_decide_eq_false e (congrArg V.int z)
      refine My.q_int q ?_
      rcases Ms.kind_some hk with ⟨e, rfl⟩ | ⟨e, rfl⟩ | ⟨e, rfl⟩ | ⟨e, rfl⟩
      · rfl
      · rfl
      · rfl
      · exact absurd e n3
def sp_state_of_text (K : PySem.W.Frag) : Sp := fun vs H Q _ => ∃ (k : Int) (x : Sf81.Kind) (a : Addr) (b : Sf81.Bytes), vs = [.int k, .ref a] ∧ Sf81.kindOf k = some x ∧ SqL K H a (b.map bV) ∧ Q (.int (x.state b : Nat)) H
theorem ok_state_of_text {f : Addr} {fd : FuncData} (F : Fun K "state_of_text" "state_of_text" s_state_of_text f fd) (T : Txt K mg) (C_state_behind : My.Cal P w K mg base 5 "state_behind" ["k", "s", "text"] (sp_state_behind K)) (C_empty_state : My.Cal P w K mg base 1 "empty_state" ["k"] (sp_empty_state K)) : FnOk P w K mg base CX0 6 f fd ["k", "text"] (sp_state_of_text K) := by
  refine F.ok sc_state_of_text (fun vs H Q E h => ?_) (fun cdv A outer s H vs Q E hr h => ?_)
  · obtain ⟨k, x, a, b, rfl, hk, hS, q⟩ := h
    rfl
  · obtain ⟨k, x, a, b, rfl, hk, hS, q⟩ := h
    refine ⟨_, (pss_one (ps_ret (My.pe_cal C_state_behind (hr.mono (by decide)) (by rfl) (pa_cons (pv 0) (pa_cons (My.pe_cal C_empty_state (hr.mono (by decide)) (by rfl) (pa_cons (pv 0) pa_nil)) (pa_cons (pv 1) pa_nil)))))), ?_⟩
    exact ⟨_, rfl, _, rfl, k, x, rfl, hk, _, rfl, k, x, x.begin_, a, b, rfl, hk, Ms.begin_ok hk, hS, q⟩
def sp_is_kind (K : PySem.W.Frag) : Sp := fun vs H Q _ => ∃ (k : Int), vs = [.int k] ∧ Q (.bl (Sf81.kindOf k).isSome) H
theorem ok_is_kind {f : Addr} {fd : FuncData} (F : Fun K "is_kind" "is_kind" s_is_kind f fd) (T : Txt K mg) : FnOk P w K mg base CX0 1 f fd ["k"] (sp_is_kind K) := by
  refine F.ok sc_is_kind (fun vs H Q E h => ?_) (fun cdv A outer s H vs Q E hr h => ?_)
  · obtain ⟨k, rfl, q⟩ := h
    rfl
  · obtain ⟨k, rfl, q⟩ := h
    refine ⟨_, (pss_one (ps_ret (pe_chain op_le op_le pe_int (pv 0) (My.pe_ci (by rfl) T.c_HIGHEST_KIND)))), ?_⟩
    refine ⟨_, rfl, _, _, rfl, rfl, _, rfl, ?_⟩
    rw [Ms.kind_bool] at q
    refine My.ite2b (fun e => ?_) (fun e => ?_)
    · have e1 : (0 : Int) ≤ k := of_decide_eq_true e
      refine ⟨_, _, rfl, rfl, My.q_bl q ?_⟩
      exact decide_eq_decide.mpr ⟨fun z => ⟨e1, z⟩, fun z => z.2⟩
    · have e1 : ¬ (0 : Int) ≤ k := of_decide_eq_false e
      refine My.q_bl q ?_
      exact (decide_eq_false fun z => e1 z.1).symm
def sp_ones_of_both (K : PySem.W.Frag) : Sp := fun vs H Q _ => ∃ (a b n : Nat), vs = [.int a, .int b, .int n] ∧ a < 131072 ∧ Q (.int (Sf81.Kind.ones.joined a b n : Nat)) H
theorem ok_ones_of_both {f : Addr} {fd : FuncData} (F : Fun K "ones_of_both" "ones_of_both" s_ones_of_both f fd) (T : Txt K mg) (C_ones_number : My.Cal P w K mg base 1 "ones_number" ["total"] (sp_ones_number K)) : FnOk P w K mg base CX0 2 f fd ["a", "b", "n"] (sp_ones_of_both K) := by
  refine F.ok sc_ones_of_both (fun vs H Q E h => ?_) (fun cdv A outer s H vs Q E hr h => ?_)
  · obtain ⟨a, b, n, rfl, ha, q⟩ := h
    rfl
  · obtain ⟨a, b, n, rfl, ha, q⟩ := h
    refine ⟨_, (pss_cons (ps_set (i := 3) sc_ones_of_both.nd rfl (Or.inl rfl) pe_int)
      (pss_cons (ps_if (pt_cmpR op_eq (pe_op op_fdiv (pv 0) (My.pe_ci (by rfl) T.c_HALF)) pe_int (nomark _)) (pss_one (ps_set (i := 3) sc_ones_of_both.nd rfl (Or.inl rfl) pe_int)) pss_nil)
      (pss_one (ps_ret (pe_op op_add (My.pe_cal C_ones_number (hr.mono (by decide)) (by rfl) (pa_cons (pe_op op_add (pe_op op_mod (pv 0) (My.pe_ci (by rfl) T.c_HALF)) (pe_op op_mul (pv 3) (pe_op op_mod (pv 1) (My.pe_ci (by rfl) T.c_HALF)))) pa_nil)) (pe_op op_mul (My.pe_ci (by rfl) T.c_HALF) (pe_op op_mod (pe_op op_add (pe_op op_fdiv (pv 0) (My.pe_ci (by rfl) T.c_HALF)) (pv 2)) pe_int))))))), ?_⟩
    refine ⟨_, rfl, _, _, rfl, rfl, ⟨by decide, by decide⟩, rfl, _, rfl, My.ite2b (fun e => ?_) (fun e => ?_)⟩
    · have e1 : (a : Int) / 65536 = 1 := V.int.inj (of_decide_eq_true e)
      refine ⟨_, rfl, _, _, rfl, rfl, My.pos_lit (by decide), _, rfl, _, rfl, _, _, rfl, rfl, My.pos_lit (by decide), _, _, rfl, rfl, .inl ⟨by decide, by decide⟩, _, _, rfl, rfl, a % 65536 + 256 * (b % 65536), My.args_int (by omega), ?_⟩
      refine ⟨_, rfl, _, _, rfl, rfl, ⟨by decide, by decide⟩, _, rfl, _, _, rfl, rfl, _, _, rfl, rfl, My.pos_lit (by decide), _, _, rfl, rfl, .inl ⟨by decide, by decide⟩, _, _, rfl, rfl, My.q_int q ?_⟩
      show _ = ((Sf81.folded (a % 65536 + (if a / 65536 = 1 then Sf81.folded (256 * (b % 65536)) else b % 65536)) + 65536 * ((a / 65536 + n) % 2) : Nat) : Int)
      rw [if_pos (by omega), Ms.folded_in]
      omega
    · have e1 : ¬ (a : Int) / 65536 = 1 := fun z => of_decide_eq_false e (congrArg V.int z)
      refine ⟨_, rfl, _, _, rfl, rfl, My.pos_lit (by decide), _, rfl, _, rfl, _, _, rfl, rfl, My.pos_lit (by decide), _, _, rfl, rfl, .inl ⟨by decide, by decide⟩, _, _, rfl, rfl, a % 65536 + b % 65536, My.args_int (by omega), ?_⟩
      refine ⟨_, rfl, _, _, rfl, rfl, ⟨by decide, by decide⟩, _, rfl, _, _, rfl, rfl, _, _, rfl, rfl, My.pos_lit (by decide), _, _, rfl, rfl, .inl ⟨by decide, by decide⟩, _, _, rfl, rfl, My.q_int q ?_⟩
      show _ = ((Sf81.folded (a % 65536 + (if a / 65536 = 1 then Sf81.folded (256 * (b % 65536)) else b % 65536)) + 65536 * ((a / 65536 + n) % 2) : Nat) : Int)
      rw [if_neg (by omega)]
      omega
def sp_adler_of_both (K : PySem.W.Frag) : Sp := fun vs H Q _ => ∃ (a b n : Nat), vs = [.int a, .int b, .int n] ∧ n ≤ 1099511627776 ∧ Q (.int (Sf81.Kind.adler.joined a b n : Nat)) H
theorem ok_adler_of_both {f : Addr} {fd : FuncData} (F : Fun K "adler_of_both" "adler_of_both" s_adler_of_both f fd) (T : Txt K mg) : FnOk P w K mg base CX0 1 f fd ["a", "b", "n"] (sp_adler_of_both K) := by
  refine F.ok sc_adler_of_both (fun vs H Q E h => ?_) (fun cdv A outer s H vs Q E hr h => ?_)
  · obtain ⟨a, b, n, rfl, hn, q⟩ := h
    rfl
  · obtain ⟨a, b, n, rfl, hn, q⟩ := h
    refine ⟨_, (pss_cons (ps_set (i := 3) sc_adler_of_both.nd rfl (Or.inl rfl) (pe_op op_sub (pe_op op_add (pe_op op_mod (pv 0) (My.pe_ci (by rfl) T.c_HALF)) (My.pe_ci (by rfl) T.c_ADLER_MODULUS)) pe_int))
      (pss_cons (ps_set (i := 4) sc_adler_of_both.nd rfl (Or.inl rfl) (pe_op op_mod (pe_op op_add (pv 3) (pe_op op_mod (pv 1) (My.pe_ci (by rfl) T.c_HALF))) (My.pe_ci (by rfl) T.c_ADLER_MODULUS)))
      (pss_cons (ps_set (i := 5) sc_adler_of_both.nd rfl (Or.inl rfl) (pe_op op_mod (pe_op op_add (pe_op op_add (pe_op op_fdiv (pv 0) (My.pe_ci (by rfl) T.c_HALF)) (pe_op op_fdiv (pv 1) (My.pe_ci (by rfl) T.c_HALF))) (pe_op op_mul (pv 2) (pv 3))) (My.pe_ci (by rfl) T.c_ADLER_MODULUS)))
      (pss_one (ps_ret (pe_op op_add (pe_op op_mul (My.pe_ci (by rfl) T.c_HALF) (pv 5)) (pv 4))))))), ?_⟩
    refine ⟨_, rfl, _, _, rfl, rfl, My.pos_lit (by decide), _, _, rfl, rfl, _, _, rfl, rfl, ?_⟩
    refine ⟨_, rfl, _, rfl, _, _, rfl, rfl, My.pos_lit (by decide), _, _, rfl, rfl, _, _, rfl, rfl, My.pos_lit (by decide), ?_⟩
    refine ⟨_, rfl, _, _, rfl, rfl, ⟨by decide, by decide⟩, _, rfl, _, _, rfl, rfl, ⟨by decide, by decide⟩, _, _, rfl, rfl, _, rfl, _, rfl, _, _, rfl, rfl, .inl (My.mul_ok (by omega) (by omega)), _, _, rfl, rfl, _, _, rfl, rfl, My.pos_lit (by decide), ?_⟩
    refine ⟨_, rfl, _, _, rfl, rfl, .inl ⟨by decide, by decide⟩, _, rfl, _, _, rfl, rfl, My.q_int q ?_⟩
    have h := Ms.mod_mul n (a % 65536 + 65521 - 1) (a / 65536 + b / 65536)
    show (65536 : Int) * (((a : Int) / 65536 + (b : Int) / 65536 + (n : Int) * ((a : Int) % 65536 + 65521 - 1)) % 65521) + ((a : Int) % 65536 + 65521 - 1 + (b : Int) % 65536) % 65521 = (((a / 65536 + b / 65536 + n % 65521 * (a % 65536 + 65521 - 1)) % 65521 * 65536 + (a % 65536 + b % 65536 + 65521 - 1) % 65521 : Nat) : Int)
    have e0 : (a : Int) % 65536 + 65521 - 1 = ((a % 65536 + 65521 - 1 : Nat) : Int) := by omega
    have e1 : (n : Int) * ((a % 65536 + 65521 - 1 : Nat) : Int) = ((n * (a % 65536 + 65521 - 1) : Nat) : Int) := (Int.natCast_mul _ _).symm
    rw [e0, e1]
    generalize n * (a % 65536 + 65521 - 1) = u at h ⊢
    generalize n % 65521 * (a % 65536 + 65521 - 1) = v at h ⊢
    omega
def sp_product (K : PySem.W.Frag) : Sp := fun vs H Q _ => ∃ (k : Int) (p : Sf81.Poly) (x y : Nat), vs = [.int k, .int x, .int y] ∧ Sf81.kindOf k = some (.crc p) ∧ Q (.int (Ms.gat p x y p.bits : Nat)) H
theorem ok_product {f : Addr} {fd : FuncData} (F : Fun K "product" "product" s_product f fd) (T : Txt K mg) (C_one_bit_on : My.Cal P w K mg base 1 "one_bit_on" ["x", "feedback"] (sp_one_bit_on K)) : FnOk P w K mg base CX0 2 f fd ["k", "x", "y"] (sp_product K) := by
  refine F.ok sc_product (fun vs H Q E h => ?_) (fun cdv A outer s H vs Q E hr h => ?_)
  · obtain ⟨k, p, x, y, rfl, hk, q⟩ := h
    rfl
  · obtain ⟨k, p, x, y, rfl, hk, q⟩ := h
    refine ⟨_, (pss_cons (ps_set (i := 3) sc_product.nd rfl (Or.inl rfl) pe_int)
      (pss_cons (ps_set (i := 4) sc_product.nd rfl (Or.inl rfl) (My.pe_tc (by rfl) T.t_TOP_BIT (pv 0) (fun _ _ => rfl)))
      (pss_cons (ps_while PassesOwn.never (pt_cmpR op_gt (pv 4) pe_int (nomark _)) (pss_cons (ps_if (pt_cmpR op_ne (pe_op op_and (pv 1) (pv 4)) pe_int (nomark _)) (pss_one (ps_set (i := 3) sc_product.nd rfl (Or.inl rfl) (pe_op op_xor (pv 3) (pv 2)))) pss_nil)
      (pss_cons (ps_set (i := 2) sc_product.nd rfl (Or.inl rfl) (My.pe_cal C_one_bit_on (hr.mono (by decide)) (by rfl) (pa_cons (pv 2) (pa_cons (My.pe_tc (by rfl) T.t_FEEDBACK (pv 0) (fun _ _ => rfl)) pa_nil))))
      (pss_one (ps_set (i := 4) sc_product.nd rfl (Or.inl rfl) (pe_op op_fdiv (pv 4) pe_int))))))
      (pss_one (ps_ret (pv 3)))))), ?_⟩
    have g := Ms.good_of hk
    refine ⟨_, rfl, k, _, rfl, My.top_at hk, ?_⟩
    refine while_by (fun σ H' => ∃ i, i ≤ p.bits ∧ σ = [some (.int k), some (.int x), some (.int (p.on i y : Nat)), some (.int (Ms.gat p x y i : Nat)), some (.int (Ms.ask p i : Nat))] ∧ H' = H) (fun σ _ => My.last5 σ) ⟨0, Nat.zero_le _, ?_, rfl⟩ ?_ ?_
    · refine My.st5 rfl rfl ?_
      show _ = ((Ms.top p / 2 ^ 0 : Nat) : Int)
      rw [Nat.pow_zero, Nat.div_one]
    · rintro σ H' ⟨i, hi, rfl, rfl⟩
      refine ⟨_, rfl, _, _, rfl, rfl, _, rfl, My.ite2b (fun e => ?_) (fun e => ?_)⟩
      · have e0 := of_decide_eq_true e
        have e1 : i < p.bits := (Ms.ask_pos g hi).mp (by omega)
        have hl : Ms.ask p (i + 1) < Ms.ask p i := by
          rw [← Ms.ask_half]
          omega
        have hy : Ms.bit1 p.fall (p.on i y) = p.on (i + 1) y := (Ms.on_last p i y).symm
        have hb : ((Ms.ask p i : Nat) : Int) / 2 = ((Ms.ask p (i + 1) : Nat) : Int) := by
          rw [← Ms.ask_half]
          omega
        obtain ⟨cc, hc, ht, hf⟩ := My.dec_ex (V.int (Builtin.bitAnd (x : Int) ((Ms.ask p i : Nat) : Int)) = V.int 0)
        refine ⟨_, rfl, _, rfl, _, _, rfl, rfl, rfl, !cc, congrArg (fun z => V.bl (!z)) hc, ?_⟩
        cases cc with
        | false =>
          have hn : ¬ x &&& Ms.ask p i = 0 := fun z => hf rfl (by rw [My.and_nn, z]; rfl)
          have ht : x.testBit (p.bits - 1 - i) = true := Decidable.not_not.mp fun z => hn ((Ms.and_ask e1).mpr z)
          have hg : Ms.gat p x y (i + 1) = Ms.gat p x y i ^^^ p.on i y := if_pos ht
          refine iteT ⟨_, rfl, _, rfl, _, _, rfl, rfl, ?_⟩
          refine ⟨_, rfl, _, rfl, k, _, rfl, fall_at hk, p.on i y, p.fall, rfl, ?_⟩
          refine ⟨_, rfl, _, _, rfl, rfl, ⟨by decide, by decide⟩, ⟨i + 1, e1, My.st5 ?_ ?_ hb, rfl⟩, ?_⟩
          · rw [hy]
          · rw [My.xor_nn, hg]
          · show Int.toNat (((Ms.ask p i : Nat) : Int) / 2) < Int.toNat ((Ms.ask p i : Nat) : Int)
            rw [hb]
            omega
        | true =>
          have hz : x &&& Ms.ask p i = 0 := by
            have z := V.int.inj (ht rfl)
            rw [My.and_nn] at z
            omega
          have hg : Ms.gat p x y (i + 1) = Ms.gat p x y i := if_neg ((Ms.and_ask e1).mp hz)
          refine iteF ?_
          refine ⟨_, rfl, _, rfl, k, _, rfl, fall_at hk, p.on i y, p.fall, rfl, ?_⟩
          refine ⟨_, rfl, _, _, rfl, rfl, ⟨by decide, by decide⟩, ⟨i + 1, e1, My.st5 ?_ ?_ hb, rfl⟩, ?_⟩
          · rw [hy]
          · rw [hg]
          · show Int.toNat (((Ms.ask p i : Nat) : Int) / 2) < Int.toNat ((Ms.ask p i : Nat) : Int)
            rw [hb]
            omega
      · have e0 := of_decide_eq_false e
        have e1 : ¬ i < p.bits := fun z => by
          have := (Ms.ask_pos g hi).mpr z
          omega
        have e2 : i = p.bits := by omega
        subst e2
        exact ⟨_, rfl, q⟩
    · rintro σ H' Q1 Q2 h ⟨v, h1, i, j, h2, h3, b, h4, qq⟩
      exact ⟨v, h1, i, j, h2, h3, b, h4, h _ _ qq⟩
def sp_zero_bytes_on (K : PySem.W.Frag) : Sp := fun vs H Q _ => ∃ (k : Int) (p : Sf81.Poly) (x n : Nat), vs = [.int k, .int x, .int n] ∧ Sf81.kindOf k = some (.crc p) ∧ x < 2 ^ p.bits ∧ Q (.int (p.on (8 * n) x : Nat)) H
theorem ok_zero_bytes_on {f : Addr} {fd : FuncData} (F : Fun K "zero_bytes_on" "zero_bytes_on" s_zero_bytes_on f fd) (T : Txt K mg) (C_eight_bits_on : My.Cal P w K mg base 2 "eight_bits_on" ["x", "feedback"] (sp_eight_bits_on K)) (C_product : My.Cal P w K mg base 2 "product" ["k", "x", "y"] (sp_product K)) : FnOk P w K mg base CX0 3 f fd ["k", "x", "n"] (sp_zero_bytes_on K) := by
  refine F.ok sc_zero_bytes_on (fun vs H Q E h => ?_) (fun cdv A outer s H vs Q E hr h => ?_)
  · obtain ⟨k, p, x, n, rfl, hk, hx, q⟩ := h
    rfl
  · obtain ⟨k, p, x, n, rfl, hk, hx, q⟩ := h
    refine ⟨_, (pss_cons (ps_set (i := 3) sc_zero_bytes_on.nd rfl (Or.inl rfl) (My.pe_cal C_eight_bits_on (hr.mono (by decide)) (by rfl) (pa_cons (My.pe_tc (by rfl) T.t_TOP_BIT (pv 0) (fun _ _ => rfl)) (pa_cons (My.pe_tc (by rfl) T.t_FEEDBACK (pv 0) (fun _ _ => rfl)) pa_nil))))
      (pss_cons (ps_while PassesOwn.never (pt_cmpR op_gt (pv 2) pe_int (nomark _)) (pss_cons (ps_if (pt_cmpR op_eq (pe_op op_mod (pv 2) pe_int) pe_int (nomark _)) (pss_one (ps_set (i := 1) sc_zero_bytes_on.nd rfl (Or.inl rfl) (My.pe_cal C_product (hr.mono (by decide)) (by rfl) (pa_cons (pv 0) (pa_cons (pv 1) (pa_cons (pv 3) pa_nil)))))) pss_nil)
      (pss_cons (ps_set (i := 3) sc_zero_bytes_on.nd rfl (Or.inl rfl) (My.pe_cal C_product (hr.mono (by decide)) (by rfl) (pa_cons (pv 0) (pa_cons (pv 3) (pa_cons (pv 3) pa_nil)))))
      (pss_one (ps_set (i := 2) sc_zero_bytes_on.nd rfl (Or.inl rfl) (pe_op op_fdiv (pv 2) pe_int))))))
      (pss_one (ps_ret (pv 1))))), ?_⟩
    have g := Ms.good_of hk
    refine ⟨_, rfl, k, _, rfl, My.top_at hk, _, rfl, k, _, rfl, fall_at hk, Ms.top p, p, rfl, ?_⟩
    refine while_by (fun σ H' => ∃ x' n' e : Nat, x' < 2 ^ p.bits ∧ p.on (8 * e * n') x' = p.on (8 * n) x ∧ σ = [some (.int k), some (.int x'), some (.int n'), some (.int (p.on (8 * e) (Ms.top p) : Nat))] ∧ H' = H) (fun σ _ => My.third4 σ) ⟨x, n, 1, hx, rfl, rfl, rfl⟩ ?_ ?_
    · rintro σ H' ⟨x', n', e, hx', ho, rfl, rfl⟩
      refine ⟨_, rfl, _, _, rfl, rfl, _, rfl, My.ite2b (fun e0 => ?_) (fun e0 => ?_)⟩
      · have e1 := of_decide_eq_true e0
        have ht : Ms.gat p (p.on (8 * e) (Ms.top p)) (p.on (8 * e) (Ms.top p)) p.bits = p.on (8 * (e + e)) (Ms.top p) := by
          rw [Ms.prod_on (Ms.on_lt g.lt (Ms.top_lt g)), ← Ms.on_add, Nat.mul_add]
        have hd : ((n' : Nat) : Int) / 2 = ((n' / 2 : Nat) : Int) := by omega
        have hm : Int.toNat (((n' : Nat) : Int) / 2) < Int.toNat (n' : Int) := by omega
        refine ⟨_, rfl, _, _, rfl, rfl, My.pos_lit (by decide), rfl, _, rfl, My.ite2b (fun e2 => ?_) (fun e2 => ?_)⟩
        · have e3 : (n' : Int) % 2 = 1 := V.int.inj (of_decide_eq_true e2)
          refine ⟨_, rfl, _, rfl, _, rfl, k, p, x', p.on (8 * e) (Ms.top p), rfl, hk, ?_⟩
          refine ⟨_, rfl, _, rfl, _, rfl, k, p, p.on (8 * e) (Ms.top p), p.on (8 * e) (Ms.top p), rfl, hk, ?_⟩
          refine ⟨_, rfl, _, _, rfl, rfl, ⟨by decide, by decide⟩, ⟨p.on (8 * e) x', n' / 2, e + e, Ms.on_lt g.lt hx', (Ms.half_odd p (by omega)).trans ho, My.st4 ?_ hd ?_, rfl⟩, hm⟩
          · rw [Ms.prod_on hx']
          · rw [ht]
        · have e3 : ¬ (n' : Int) % 2 = 1 := fun z => of_decide_eq_false e2 (congrArg V.int z)
          refine ⟨_, rfl, _, rfl, _, rfl, k, p, p.on (8 * e) (Ms.top p), p.on (8 * e) (Ms.top p), rfl, hk, ?_⟩
          refine ⟨_, rfl, _, _, rfl, rfl, ⟨by decide, by decide⟩, ⟨x', n' / 2, e + e, hx', (Ms.half_even p (by omega)).trans ho, My.st4 rfl hd ?_, rfl⟩, hm⟩
          rw [ht]
      · have e1 := of_decide_eq_false e0
        have e2 : n' = 0 := by omega
        subst e2
        rw [Nat.mul_zero] at ho
        refine ⟨_, rfl, My.q_int q ?_⟩
        rw [← ho]
        rfl
    · rintro σ H' Q1 Q2 h ⟨v, h1, i, j, h2, h3, b, h4, qq⟩
      exact ⟨v, h1, i, j, h2, h3, b, h4, h _ _ qq⟩
def sp_state_of_both (K : PySem.W.Frag) : Sp := fun vs H Q _ => ∃ (k : Int) (x : Sf81.Kind) (a b n : Nat), vs = [.int k, .int a, .int b, .int n] ∧ Sf81.kindOf k = some x ∧ x.ok a = true ∧ n ≤ 1099511627776 ∧ Q (.int (x.joined a b n : Nat)) H
theorem ok_state_of_both {f : Addr} {fd : FuncData} (F : Fun K "state_of_both" "state_of_both" s_state_of_both f fd) (T : Txt K mg) (C_ones_of_both : My.Cal P w K mg base 2 "ones_of_both" ["a", "b", "n"] (sp_ones_of_both K)) (C_adler_of_both : My.Cal P w K mg base 1 "adler_of_both" ["a", "b", "n"] (sp_adler_of_both K)) (C_zero_bytes_on : My.Cal P w K mg base 3 "zero_bytes_on" ["k", "x", "n"] (sp_zero_bytes_on K)) : FnOk P w K mg base CX0 4 f fd ["k", "a", "b", "n"] (sp_state_of_both K) := by
  refine F.ok sc_state_of_both (fun vs H Q E h => ?_) (fun cdv A outer s H vs Q E hr h => ?_)
  · obtain ⟨k, x, a, b, n, rfl, hk, hok, hn, q⟩ := h
    rfl
  · obtain ⟨k, x, a, b, n, rfl, hk, hok, hn, q⟩ := h
    refine ⟨_, (pss_cons (ps_if (pt_cmpR op_eq (pv 0) (My.pe_ci (by rfl) T.c_ONES) (nomark _)) (pss_one (ps_ret (My.pe_cal C_ones_of_both (hr.mono (by decide)) (by rfl) (pa_cons (pv 1) (pa_cons (pv 2) (pa_cons (pv 3) pa_nil)))))) pss_nil)
      (pss_cons (ps_if (pt_cmpR op_eq (pv 0) (My.pe_ci (by rfl) T.c_ADLER) (nomark _)) (pss_one (ps_ret (My.pe_cal C_adler_of_both (hr.mono (by decide)) (by rfl) (pa_cons (pv 1) (pa_cons (pv 2) (pa_cons (pv 3) pa_nil)))))) pss_nil)
      (pss_one (ps_ret (pe_op op_xor (My.pe_cal C_zero_bytes_on (hr.mono (by decide)) (by rfl) (pa_cons (pv 0) (pa_cons (pv 1) (pa_cons (pv 3) pa_nil)))) (pv 2)))))), ?_⟩
    refine ⟨_, rfl, rfl, _, rfl, My.ite2b (fun e => ?_) (fun e => ?_)⟩
    · have e1 : k = 2 := V.int.inj (of_decide_eq_true e)
      subst e1
      cases hk
      exact ⟨_, rfl, _, rfl, _, rfl, a, b, n, rfl, of_decide_eq_true hok, q⟩
    · have n2 : ¬ k = 2 := fun z => of_decide_eq_false e (congrArg V.int z)
      refine ⟨_, rfl, rfl, _, rfl, My.ite2b (fun e => ?_) (fun e => ?_)⟩
      · have e1 : k = 3 := V.int.inj (of_decide_eq_true e)
        subst e1
        cases hk
        exact ⟨_, rfl, _, rfl, _, rfl, a, b, n, rfl, hn, q⟩
      · have n3 : ¬ k = 3 := fun z => of_decide_eq_false e (congrArg V.int z)
        obtain ⟨p, rfl⟩ := My.is_crc hk n2 n3
        have g := Ms.good_of hk
        have hx : a < 2 ^ p.bits := of_decide_eq_true hok
        refine ⟨_, rfl, _, rfl, _, rfl, k, p, a, n, rfl, hk, hx, ?_⟩
        refine ⟨_, rfl, _, _, rfl, rfl, My.q_int q ?_⟩
        rw [My.xor_nn]
        show _ = ((p.zeros n a ^^^ b : Nat) : Int)
        rw [Ms.zeros_is g (by omega) hx]
def sp_state_of_all (K : PySem.W.Frag) : Sp := fun vs H Q _ => ∃ (k : Int) (x : Sf81.Kind) (a b : Addr) (us : List V) (ts : List Sf81.Bytes), vs = [.int k, .ref a, .ref b] ∧ Sf81.kindOf k = some x ∧ SqL K H a (ts.map fun t => V.int (x.state t : Nat)) ∧ SqL K H b us ∧ My.Tx K H us ts ∧ (ts.map List.length).sum ≤ 65536 ∧ ∀ H', My.Xt H H' → Q (.int (x.state ts.flatten : Nat)) H'
theorem ok_state_of_all {f : Addr} {fd : FuncData} (F : Fun K "state_of_all" "state_of_all" s_state_of_all f fd) (T : Txt K mg) (C_empty_state : My.Cal P w K mg base 1 "empty_state" ["k"] (sp_empty_state K)) (C_state_of_both : My.Cal P w K mg base 4 "state_of_both" ["k", "a", "b", "n"] (sp_state_of_both K)) : FnOk P w K mg base CX0 5 f fd ["k", "each", "texts"] (sp_state_of_all K) := by
  refine F.ok sc_state_of_all (fun vs H Q E h => ?_) (fun cdv A outer s H vs Q E hr h => ?_)
  · obtain ⟨k, x, a, b, us, ts, rfl, hk, hA, hB, hT, hl, q⟩ := h
    rfl
  · obtain ⟨k, x, a, b, us, ts, rfl, hk, hA, hB, hT, hl, q⟩ := h
    refine ⟨_, (pss_cons (ps_set (i := 3) sc_state_of_all.nd rfl (Or.inl rfl) (My.pe_cal C_empty_state (hr.mono (by decide)) (by rfl) (pa_cons (pv 0) pa_nil)))
      (pss_cons (ps_for PassesOwn.never rfl (pi_zip (by rfl) T.b_zip (pa_cons (pv 1) (pa_cons (pv 2) pa_nil))) (pg_tup rfl (pgs_cons (pg_name (i := 4) sc_state_of_all.nd rfl (Or.inl rfl)) (pgs_cons (pg_name (i := 5) sc_state_of_all.nd rfl (Or.inl rfl)) pgs_nil)))
        (pss_one (ps_set (i := 3) sc_state_of_all.nd rfl (Or.inl rfl) (My.pe_cal C_state_of_both (hr.mono (by decide)) (by rfl) (pa_cons (pv 0) (pa_cons (pv 3) (pa_cons (pv 4) (pa_cons (pe_callB call_len_seq (by rfl) T.b_len PySem.boot_len (pa_cons (pv 5) pa_nil)) pa_nil))))))))
      (pss_one (ps_ret (pv 3))))), ?_⟩
    refine ⟨_, rfl, k, x, rfl, hk, ?_⟩
    refine ⟨_, rfl, _, rfl, a, b, _, _, rfl, hA, hB, ?_⟩
    refine for_it (walk_zip (K := K) (a := a) (b := b) (xs := ts.map fun t => V.int (x.state t : Nat)) (ys := us) (n := ts.length) (by rw [List.length_map, hT.1, Nat.min_self])) (fun i σ H' => ∃ (v w : Option V), σ = [some (.int k), some (.ref a), some (.ref b), some (.int (x.state (ts.take i).flatten : Nat)), v, w] ∧ My.Xt H H') ⟨none, none, ?_, My.xt_refl⟩ ?_ ?_ ?_
    · refine My.st_3 ?_
      rw [List.take_zero, List.flatten_nil, Ms.state_nil hk]
    · rintro i σ H' _ ⟨v, w, rfl, hx⟩
      exact ⟨My.sq_xt hA hx, My.sq_xt hB hx⟩
    · rintro i v σ H1 H2 hi ⟨v, w, rfl, hx⟩ ⟨T, y, z, rfl, hN, rfl, h3, h4⟩
      obtain ⟨t, ht, rfl⟩ := Ms.get_map h3
      obtain ⟨t2, ad, ht2, rfl, hS⟩ := My.tx_get hT h4
      rw [ht] at ht2
      cases ht2
      have hs : t.length ≤ 65536 := Nat.le_trans (Ms.sum_in (i := i) (by rw [List.getElem?_map, ht]; rfl)) hl
      have x2 := hx.new (u := .tup [V.int (x.state t : Nat), .ref ad]) hN
      refine ⟨T, _, rfl, SqT.of upd_same, rfl, _, _, rfl, _, _, rfl, rfl, ?_⟩
      refine ⟨_, rfl, _, rfl, _, rfl, _, rfl, ad, _, rfl, .inl (My.sq_xt hS x2), k, x, x.state (ts.take i).flatten, x.state t, t.length, by rw [List.length_map]; rfl, hk, Ms.state_ok hk _, by omega, ?_⟩
      refine ⟨_, _, My.st_3 ?_, x2⟩
      rw [Ms.flat_more ht, Ms.state_more hk _ (by omega)]
    · rintro σ H' ⟨v, w, rfl, hx⟩
      rw [List.take_length]
      exact ⟨_, rfl, q _ hx⟩
def sp_pieces (K : PySem.W.Frag) : Sp := fun vs H Q _ => ∃ (k : Int) (a : Addr) (us : List V) (ts : List Sf81.Bytes), vs = [.int k, .ref a] ∧ SqL K H a us ∧ My.Tx K H us ts ∧ ∀ (H' : Hp) (p : Addr), H' p = some (.lst ((Sf81Neutral.listOf (Sf81.does (.pieces k ts))).map V.int)) → Q (.ref p) H'
theorem ok_pieces {f : Addr} {fd : FuncData} (F : Fun K "pieces" "pieces" s_pieces f fd) (T : Txt K mg) (C_state_of_text : My.Cal P w K mg base 6 "state_of_text" ["k", "text"] (sp_state_of_text K)) (C_is_kind : My.Cal P w K mg base 1 "is_kind" ["k"] (sp_is_kind K)) (C_state_of_all : My.Cal P w K mg base 5 "state_of_all" ["k", "each", "texts"] (sp_state_of_all K)) : FnOk P w K mg base CX0 7 f fd ["k", "texts"] (sp_pieces K) := by
  refine F.ok sc_pieces (fun vs H Q E h => ?_) (fun cdv A outer s H vs Q E hr h => ?_)
  · obtain ⟨k, a, us, ts, rfl, hS, hT, q⟩ := h
    rfl
  · obtain ⟨k, a, us, ts, rfl, hS, hT, q⟩ := h
    refine ⟨_, (pss_cons (ps_if (PW.pt (pw_or (pt_not (pt_val (My.pe_cal C_is_kind (hr.mono (by decide)) (by rfl) (pa_cons (pv 0) pa_nil)))) (pw_or1 (pt_cmpR op_gt (pe_callB call_len_seq (by rfl) T.b_len PySem.boot_len (pa_cons (pv 1) pa_nil)) (My.pe_ci (by rfl) T.c_MOST_PIECES) (nomark _))))) (pss_one (ps_ret (pe_lst (pa_cons (pe_un un_neg pe_int) pa_nil)))) pss_nil)
      (pss_cons (ps_if (pt_cmpR op_gt (pe_callB (cr_sum rfl) (by rfl) T.b_sum (by decide +kernel) (pa_cons (pe_lc (own := [("text", 3)]) (g := (gName 3)) (tt := tYes) rfl sc_pieces.nd (pi_list (pv 1)) (blkOk_by (N := ["k", "texts", "each", "text"]) (sc := defScope s_pieces) (by decide +kernel)) (fun _ _ _ _ _ => (pg_name (i := 3) sc_pieces.nd rfl (Or.inl rfl))) (fun _ _ _ _ _ => pts_nil) (fun _ _ _ _ _ => (pe_callB (My.call_lenK (K := K) rfl) (by rfl) T.b_len PySem.boot_len (pa_cons (pv 3) pa_nil)))) pa_nil)) (My.pe_ci (by rfl) T.c_LONGEST_TEXT) (nomark _)) (pss_one (ps_ret (pe_lst (pa_cons (pe_un un_neg pe_int) pa_nil)))) pss_nil)
      (pss_cons (ps_setLc (i := 2) (own := [("text", 3)]) (g := (gName 3)) (tt := tYes) rfl sc_pieces.nd rfl rfl (sw_true rfl rfl rfl (by decide +kernel)) (pi_list (pv 1)) (blkOk_by (N := ["k", "texts", "each", "text"]) (sc := defScope s_pieces) (by decide +kernel)) (fun _ _ _ _ _ => (pg_name (i := 3) sc_pieces.nd rfl (Or.inl rfl))) (fun _ _ _ _ _ => pts_nil) (fun _ _ _ _ _ => (My.pe_cal C_state_of_text (hr.mono (by decide)) (by rfl) (pa_cons (pv 0) (pa_cons (pv 3) pa_nil)))))
      (pss_one (ps_ret (pe_op op_cat (pe_op op_cat (pe_lst (pa_cons (pe_callB call_len_seq (by rfl) T.b_len PySem.boot_len (pa_cons (pv 1) pa_nil)) pa_nil)) (pv 2)) (pe_lst (pa_cons (My.pe_cal C_state_of_all (hr.mono (by decide)) (by rfl) (pa_cons (pv 0) (pa_cons (pv 2) (pa_cons (pv 1) pa_nil)))) pa_nil)))))))), ?_⟩
    refine ⟨_, rfl, k, rfl, _, rfl, ?_⟩
    cases e : Sf81.kindOf k with
    | none =>
      refine iteT (iteT ⟨1, rfl, My.one_ok, fun r0 hr0 => q _ r0 ?_⟩)
      have z : Sf81.does (.pieces k ts) = Sf81.says (-1) := Ms.ofKind_none e
      rw [z]
      exact neg1
    | some x =>
      have hd : Sf81.does (.pieces k ts) = (if ts.length ≤ 64 ∧ (ts.map List.length).sum ≤ 65536 then ⟨(ts.length : Int), ts.map x.state ++ [x.state ts.flatten]⟩ else Sf81.says (-1)) := Ms.ofKind_some e
      refine iteF ⟨_, rfl, a, _, rfl, .inl hS, _, _, rfl, rfl, _, rfl, My.ite2b (fun e3 => ?_) (fun e3 => ?_)⟩
      · have e4 := of_decide_eq_true e3
        rw [hT.1] at e4
        refine ⟨1, rfl, My.one_ok, fun r0 hr0 => q _ r0 ?_⟩
        rw [hd, if_neg (fun z => absurd z.1 (by omega))]
        exact neg1
      · have e4 := of_decide_eq_false e3
        rw [hT.1] at e4
        have hn : ts.length ≤ 64 := by omega
        refine ⟨_, rfl, a, rfl, ⟨_, hS⟩, fun D hD => ?_⟩
        refine lc_list (K := K) (a := a) (xs := us) (fun i H' => My.Xt H H' ∧ H' D = some (.lst ((((ts.map List.length).map fun (n : Nat) => (n : Int)).take i).map V.int))) ⟨My.xt_refl.put hD, upd_same⟩ ?_ ?_ ?_
        · rintro i H' _ ⟨hx, _⟩
          exact My.sq_xt hS hx
        · rintro i v H' hi ⟨hx, hL⟩
          obtain ⟨t, ad, ht, rfl, hA⟩ := My.tx_get hT hi
          have hw : ((ts.map List.length).map fun (n : Nat) => (n : Int))[i]? = some (t.length : Int) := by
            rw [List.getElem?_map, List.getElem?_map, ht]
            rfl
          refine ⟨rfl, _, rfl, ad, _, rfl, .inl (My.sq_xt hA hx), _, hL, ?_, hx.put hD, My.lst_more ?_⟩
          · rw [List.length_map, List.length_take, List.length_map, List.length_map]
            exact My.fits (by omega)
          · rw [Ms.take_more hw, List.map_append, List.length_map]
            rfl
        · rintro H1 ⟨x1, hL⟩
          rw [List.take_of_length_le (by rw [List.length_map, List.length_map, hT.1]; exact Nat.le_refl _)] at hL
          refine ⟨D, _, rfl, SqL.of hL, _, _, rfl, rfl, _, rfl, My.ite2b (fun e5 => ?_) (fun e5 => ?_)⟩
          · have e6 := of_decide_eq_true e5
            rw [Ms.sum_cast] at e6
            refine ⟨1, rfl, My.one_ok, fun r0 hr0 => q _ r0 ?_⟩
            rw [hd, if_neg (fun z => absurd z.2 (by omega))]
            exact neg1
          · have e6 := of_decide_eq_false e5
            rw [Ms.sum_cast] at e6
            have hl : (ts.map List.length).sum ≤ 65536 := by omega
            rw [if_pos ⟨hn, hl⟩] at hd
            refine ⟨_, rfl, a, rfl, ⟨_, My.sq_xt hS x1⟩, fun E hE => ?_⟩
            refine lc_list (K := K) (a := a) (xs := us) (fun i H' => My.Xt H1 H' ∧ H' E = some (.lst ((ts.map fun t => V.int (x.state t : Nat)).take i))) ⟨My.xt_refl.put hE, upd_same⟩ ?_ ?_ ?_
            · rintro i H' _ ⟨hx, _⟩
              exact My.sq_xt hS (x1.tr hx)
            · rintro i v H' hi ⟨hx, hE2⟩
              obtain ⟨t, ad, ht, rfl, hA⟩ := My.tx_get hT hi
              have hw : (ts.map fun t => V.int (x.state t : Nat))[i]? = some (V.int (x.state t : Nat)) := by
                rw [List.getElem?_map, ht]
                rfl
              refine ⟨rfl, _, rfl, _, rfl, k, x, ad, t, rfl, e, My.sq_xt hA (x1.tr hx), _, hE2, ?_, hx.put hE, My.lst_more ?_⟩
              · rw [List.length_take, List.length_map]
                exact My.fits (by omega)
              · rw [Ms.take_more hw]
            · rintro H2 ⟨x2, hE2⟩
              rw [List.take_of_length_le (by rw [List.length_map, hT.1]; exact Nat.le_refl _)] at hE2
              have x3 := x1.tr x2
              refine ⟨_, rfl, a, _, rfl, .inl (My.sq_xt hS x3), My.one_ok, fun p1 h1 => ?_⟩
              refine ⟨_, rfl, p1, E, _, _, rfl, rfl, upd_same, (My.xt_refl.new h1) _ _ hE2, ?_, fun p2 h2 => ?_⟩
              · simp only [List.length_append, List.length_map, List.length_cons, List.length_nil]
                exact My.fits2 (by omega)
              have x4 := ((My.xt_refl (H := H2)).new (u := .lst [V.int ((us.length : Nat) : Int)]) h1).new (u := .lst ([V.int ((us.length : Nat) : Int)] ++ ts.map fun t => V.int (x.state t : Nat))) h2
              refine ⟨_, rfl, _, rfl, _, rfl, k, x, E, a, us, ts, rfl, e, SqL.of (x4 _ _ hE2), My.sq_xt hS (x3.tr x4), My.tx_xt hT (x3.tr x4), hl, fun H5 x5 => ⟨My.one_ok, fun p3 h3 => ?_⟩⟩
              refine ⟨p2, p3, _, _, rfl, rfl, (x5.new h3) _ _ upd_same, upd_same, ?_, fun p4 h4 => q _ p4 ?_⟩
              · simp only [List.length_append, List.length_map, List.length_cons, List.length_nil]
                exact My.fits2 (by omega)
              rw [hd, hT.1]
              exact My.lst_is (My.list_all (z := (ts.length : Int)) (l := ts) (f := x.state) (y := x.state ts.flatten))
end
theorem all_mk {P : Program} {w : World} {K : PySem.W.Frag} {h : Heap} {mg : Str → Option Value} {fa f0 f1 f2 f3 f4 f5 f6 f7 f8 f9 f10 f11 f12 f13 f14 f15 f16 f17 f18 a_FEEDBACK a_ALL_BITS a_TOP_BIT : Addr} {od0 an0 od1 an1 od2 an2 od3 an3 od4 an4 od5 an5 od6 an6 od7 an7 od8 an8 od9 an9 od10 an10 od11 an11 od12 an12 od13 an13 od14 an14 od15 an15 od16 an16 od17 an17 od18 an18 d_FEEDBACK d_ALL_BITS d_TOP_BIT : Option Addr} {sl0 sl1 sl2 sl3 sl4 sl5 sl6 sl7 sl8 sl9 sl10 sl11 sl12 sl13 sl14 sl15 sl16 sl17 sl18 x_FEEDBACK x_ALL_BITS x_TOP_BIT : Array (Option Value)} {oc0 kV0 dc0 pm0 cd0 ct0 oc1 kV1 dc1 pm1 cd1 ct1 oc2 kV2 dc2 pm2 cd2 ct2 oc3 kV3 dc3 pm3 cd3 ct3 oc4 kV4 dc4 pm4 cd4 ct4 oc5 kV5 dc5 pm5 cd5 ct5 oc6 kV6 dc6 pm6 cd6 ct6 oc7 kV7 dc7 pm7 cd7 ct7 oc8 kV8 dc8 pm8 cd8 ct8 oc9 kV9 dc9 pm9 cd9 ct9 oc10 kV10 dc10 pm10 cd10 ct10 oc11 kV11 dc11 pm11 cd11 ct11 oc12 kV12 dc12 pm12 cd12 ct12 oc13 kV13 dc13 pm13 cd13 ct13 oc14 kV14 dc14 pm14 cd14 ct14 oc15 kV15 dc15 pm15 cd15 ct15 oc16 kV16 dc16 pm16 cd16 ct16 oc17 kV17 dc17 pm17 cd17 ct17 oc18 kV18 dc18 pm18 cd18 ct18 : Value} {t_ONES t_ADLER t_HIGHEST_KIND t_HALF t_ONES_MODULUS t_ADLER_MODULUS t_LONGEST_TEXT t_MOST_PIECES : Nat} {s_FEEDBACK s_ALL_BITS s_TOP_BIT : Array Value} {n_FEEDBACK n_ALL_BITS n_TOP_BIT : Nat} (X : K.In h) (G : h.Ns mainGlobals mg) (hfa : mg "pieces" = some (.ref fa))
    (a0 : PySem.W.nsIn K mainGlobals "one_bit_on" = some (some (.ref f0))) (l0 : K.lookup f0 = some ⟨oc0, od0, .func (PySem.W.fnOf "one_bit_on" "one_bit_on" (defArgs s_one_bit_on) (defBody s_one_bit_on) (defScope s_one_bit_on) .none kV0 dc0 pm0 an0 cd0 ct0), sl0⟩) (c0 : PySem.W.codeIn K cd0 "one_bit_on" = true) (k0 : PySem.W.keepIn K (.ref f0) = true)
    (a1 : PySem.W.nsIn K mainGlobals "eight_bits_on" = some (some (.ref f1))) (l1 : K.lookup f1 = some ⟨oc1, od1, .func (PySem.W.fnOf "eight_bits_on" "eight_bits_on" (defArgs s_eight_bits_on) (defBody s_eight_bits_on) (defScope s_eight_bits_on) .none kV1 dc1 pm1 an1 cd1 ct1), sl1⟩) (c1 : PySem.W.codeIn K cd1 "eight_bits_on" = true) (k1 : PySem.W.keepIn K (.ref f1) = true)
    (a2 : PySem.W.nsIn K mainGlobals "bytes_by" = some (some (.ref f2))) (l2 : K.lookup f2 = some ⟨oc2, od2, .func (PySem.W.fnOf "bytes_by" "bytes_by" (defArgs s_bytes_by) (defBody s_bytes_by) (defScope s_bytes_by) .none kV2 dc2 pm2 an2 cd2 ct2), sl2⟩) (c2 : PySem.W.codeIn K cd2 "bytes_by" = true) (k2 : PySem.W.keepIn K (.ref f2) = true)
    (a3 : PySem.W.nsIn K mainGlobals "bits_behind" = some (some (.ref f3))) (l3 : K.lookup f3 = some ⟨oc3, od3, .func (PySem.W.fnOf "bits_behind" "bits_behind" (defArgs s_bits_behind) (defBody s_bits_behind) (defScope s_bits_behind) .none kV3 dc3 pm3 an3 cd3 ct3), sl3⟩) (c3 : PySem.W.codeIn K cd3 "bits_behind" = true) (k3 : PySem.W.keepIn K (.ref f3) = true)
    (a4 : PySem.W.nsIn K mainGlobals "ones_number" = some (some (.ref f4))) (l4 : K.lookup f4 = some ⟨oc4, od4, .func (PySem.W.fnOf "ones_number" "ones_number" (defArgs s_ones_number) (defBody s_ones_number) (defScope s_ones_number) .none kV4 dc4 pm4 an4 cd4 ct4), sl4⟩) (c4 : PySem.W.codeIn K cd4 "ones_number" = true) (k4 : PySem.W.keepIn K (.ref f4) = true)
    (a5 : PySem.W.nsIn K mainGlobals "ones_total" = some (some (.ref f5))) (l5 : K.lookup f5 = some ⟨oc5, od5, .func (PySem.W.fnOf "ones_total" "ones_total" (defArgs s_ones_total) (defBody s_ones_total) (defScope s_ones_total) .none kV5 dc5 pm5 an5 cd5 ct5), sl5⟩) (c5 : PySem.W.codeIn K cd5 "ones_total" = true) (k5 : PySem.W.keepIn K (.ref f5) = true)
    (a6 : PySem.W.nsIn K mainGlobals "ones_behind" = some (some (.ref f6))) (l6 : K.lookup f6 = some ⟨oc6, od6, .func (PySem.W.fnOf "ones_behind" "ones_behind" (defArgs s_ones_behind) (defBody s_ones_behind) (defScope s_ones_behind) .none kV6 dc6 pm6 an6 cd6 ct6), sl6⟩) (c6 : PySem.W.codeIn K cd6 "ones_behind" = true) (k6 : PySem.W.keepIn K (.ref f6) = true)
    (a7 : PySem.W.nsIn K mainGlobals "adler_behind" = some (some (.ref f7))) (l7 : K.lookup f7 = some ⟨oc7, od7, .func (PySem.W.fnOf "adler_behind" "adler_behind" (defArgs s_adler_behind) (defBody s_adler_behind) (defScope s_adler_behind) .none kV7 dc7 pm7 an7 cd7 ct7), sl7⟩) (c7 : PySem.W.codeIn K cd7 "adler_behind" = true) (k7 : PySem.W.keepIn K (.ref f7) = true)
    (a8 : PySem.W.nsIn K mainGlobals "state_behind" = some (some (.ref f8))) (l8 : K.lookup f8 = some ⟨oc8, od8, .func (PySem.W.fnOf "state_behind" "state_behind" (defArgs s_state_behind) (defBody s_state_behind) (defScope s_state_behind) .none kV8 dc8 pm8 an8 cd8 ct8), sl8⟩) (c8 : PySem.W.codeIn K cd8 "state_behind" = true) (k8 : PySem.W.keepIn K (.ref f8) = true)
    (a9 : PySem.W.nsIn K mainGlobals "empty_state" = some (some (.ref f9))) (l9 : K.lookup f9 = some ⟨oc9, od9, .func (PySem.W.fnOf "empty_state" "empty_state" (defArgs s_empty_state) (defBody s_empty_state) (defScope s_empty_state) .none kV9 dc9 pm9 an9 cd9 ct9), sl9⟩) (c9 : PySem.W.codeIn K cd9 "empty_state" = true) (k9 : PySem.W.keepIn K (.ref f9) = true)
    (a10 : PySem.W.nsIn K mainGlobals "state_of_text" = some (some (.ref f10))) (l10 : K.lookup f10 = some ⟨oc10, od10, .func (PySem.W.fnOf "state_of_text" "state_of_text" (defArgs s_state_of_text) (defBody s_state_of_text) (defScope s_state_of_text) .none kV10 dc10 pm10 an10 cd10 ct10), sl10⟩) (c10 : PySem.W.codeIn K cd10 "state_of_text" = true) (k10 : PySem.W.keepIn K (.ref f10) = true)
    (a11 : PySem.W.nsIn K mainGlobals "is_kind" = some (some (.ref f11))) (l11 : K.lookup f11 = some ⟨oc11, od11, .func (PySem.W.fnOf "is_kind" "is_kind" (defArgs s_is_kind) (defBody s_is_kind) (defScope s_is_kind) .none kV11 dc11 pm11 an11 cd11 ct11), sl11⟩) (c11 : PySem.W.codeIn K cd11 "is_kind" = true) (k11 : PySem.W.keepIn K (.ref f11) = true)
    (a12 : PySem.W.nsIn K mainGlobals "ones_of_both" = some (some (.ref f12))) (l12 : K.lookup f12 = some ⟨oc12, od12, .func (PySem.W.fnOf "ones_of_both" "ones_of_both" (defArgs s_ones_of_both) (defBody s_ones_of_both) (defScope s_ones_of_both) .none kV12 dc12 pm12 an12 cd12 ct12), sl12⟩) (c12 : PySem.W.codeIn K cd12 "ones_of_both" = true) (k12 : PySem.W.keepIn K (.ref f12) = true)
    (a13 : PySem.W.nsIn K mainGlobals "adler_of_both" = some (some (.ref f13))) (l13 : K.lookup f13 = some ⟨oc13, od13, .func (PySem.W.fnOf "adler_of_both" "adler_of_both" (defArgs s_adler_of_both) (defBody s_adler_of_both) (defScope s_adler_of_both) .none kV13 dc13 pm13 an13 cd13 ct13), sl13⟩) (c13 : PySem.W.codeIn K cd13 "adler_of_both" = true) (k13 : PySem.W.keepIn K (.ref f13) = true)
    (a14 : PySem.W.nsIn K mainGlobals "product" = some (some (.ref f14))) (l14 : K.lookup f14 = some ⟨oc14, od14, .func (PySem.W.fnOf "product" "product" (defArgs s_product) (defBody s_product) (defScope s_product) .none kV14 dc14 pm14 an14 cd14 ct14), sl14⟩) (c14 : PySem.W.codeIn K cd14 "product" = true) (k14 : PySem.W.keepIn K (.ref f14) = true)
    (a15 : PySem.W.nsIn K mainGlobals "zero_bytes_on" = some (some (.ref f15))) (l15 : K.lookup f15 = some ⟨oc15, od15, .func (PySem.W.fnOf "zero_bytes_on" "zero_bytes_on" (defArgs s_zero_bytes_on) (defBody s_zero_bytes_on) (defScope s_zero_bytes_on) .none kV15 dc15 pm15 an15 cd15 ct15), sl15⟩) (c15 : PySem.W.codeIn K cd15 "zero_bytes_on" = true) (k15 : PySem.W.keepIn K (.ref f15) = true)
    (a16 : PySem.W.nsIn K mainGlobals "state_of_both" = some (some (.ref f16))) (l16 : K.lookup f16 = some ⟨oc16, od16, .func (PySem.W.fnOf "state_of_both" "state_of_both" (defArgs s_state_of_both) (defBody s_state_of_both) (defScope s_state_of_both) .none kV16 dc16 pm16 an16 cd16 ct16), sl16⟩) (c16 : PySem.W.codeIn K cd16 "state_of_both" = true) (k16 : PySem.W.keepIn K (.ref f16) = true)
    (a17 : PySem.W.nsIn K mainGlobals "state_of_all" = some (some (.ref f17))) (l17 : K.lookup f17 = some ⟨oc17, od17, .func (PySem.W.fnOf "state_of_all" "state_of_all" (defArgs s_state_of_all) (defBody s_state_of_all) (defScope s_state_of_all) .none kV17 dc17 pm17 an17 cd17 ct17), sl17⟩) (c17 : PySem.W.codeIn K cd17 "state_of_all" = true) (k17 : PySem.W.keepIn K (.ref f17) = true)
    (a18 : PySem.W.nsIn K mainGlobals "pieces" = some (some (.ref f18))) (l18 : K.lookup f18 = some ⟨oc18, od18, .func (PySem.W.fnOf "pieces" "pieces" (defArgs s_pieces) (defBody s_pieces) (defScope s_pieces) .none kV18 dc18 pm18 an18 cd18 ct18), sl18⟩) (c18 : PySem.W.codeIn K cd18 "pieces" = true) (k18 : PySem.W.keepIn K (.ref f18) = true)
    (i_ONES : PySem.W.nsIn K mainGlobals "ONES" = some (some (.int (2) t_ONES)))
    (i_ADLER : PySem.W.nsIn K mainGlobals "ADLER" = some (some (.int (3) t_ADLER)))
    (i_HIGHEST_KIND : PySem.W.nsIn K mainGlobals "HIGHEST_KIND" = some (some (.int (3) t_HIGHEST_KIND)))
    (i_HALF : PySem.W.nsIn K mainGlobals "HALF" = some (some (.int (65536) t_HALF)))
    (i_ONES_MODULUS : PySem.W.nsIn K mainGlobals "ONES_MODULUS" = some (some (.int (65535) t_ONES_MODULUS)))
    (i_ADLER_MODULUS : PySem.W.nsIn K mainGlobals "ADLER_MODULUS" = some (some (.int (65521) t_ADLER_MODULUS)))
    (i_LONGEST_TEXT : PySem.W.nsIn K mainGlobals "LONGEST_TEXT" = some (some (.int (65536) t_LONGEST_TEXT)))
    (i_MOST_PIECES : PySem.W.nsIn K mainGlobals "MOST_PIECES" = some (some (.int (64) t_MOST_PIECES)))
    (g_FEEDBACK : PySem.W.nsIn K mainGlobals "FEEDBACK" = some (some (.ref a_FEEDBACK))) (u_FEEDBACK : K.lookup a_FEEDBACK = some ⟨.type "tuple", d_FEEDBACK, .seq s_FEEDBACK n_FEEDBACK, x_FEEDBACK⟩) (v_FEEDBACK : s_FEEDBACK.size ≤ sizeLine ∧ Vals [.int 2197175160, .int 14514072000185962306] s_FEEDBACK.toList)
    (g_ALL_BITS : PySem.W.nsIn K mainGlobals "ALL_BITS" = some (some (.ref a_ALL_BITS))) (u_ALL_BITS : K.lookup a_ALL_BITS = some ⟨.type "tuple", d_ALL_BITS, .seq s_ALL_BITS n_ALL_BITS, x_ALL_BITS⟩) (v_ALL_BITS : s_ALL_BITS.size ≤ sizeLine ∧ Vals [.int 4294967295, .int 18446744073709551615] s_ALL_BITS.toList)
    (g_TOP_BIT : PySem.W.nsIn K mainGlobals "TOP_BIT" = some (some (.ref a_TOP_BIT))) (u_TOP_BIT : K.lookup a_TOP_BIT = some ⟨.type "tuple", d_TOP_BIT, .seq s_TOP_BIT n_TOP_BIT, x_TOP_BIT⟩) (v_TOP_BIT : s_TOP_BIT.size ≤ sizeLine ∧ Vals [.int 2147483648, .int 9223372036854775808] s_TOP_BIT.toList)
    (z_range : PySem.W.nsIn K mainGlobals "range" = some none)
    (z_len : PySem.W.nsIn K mainGlobals "len" = some none)
    (z_zip : PySem.W.nsIn K mainGlobals "zip" = some none)
    (z_sum : PySem.W.nsIn K mainGlobals "sum" = some none) :
    ∃ fd : FuncData, (∀ (s : Shared) (us : List Value), us.length = (["k", "texts"] : List Str).length → BindsTo s fd ⟨us, []⟩ ((["k", "texts"] : List Str).zip us)) ∧ ∀ base : Heap, K.In base → base.Ns mainGlobals mg → FnOk P w K mg base CX0 7 fa fd ["k", "texts"] (sp_pieces K) := by
  have e := hfa.symm.trans (PySem.W.mg_of X G a18)
  cases e
  have T : Txt K mg := ⟨trivial, ⟨_, PySem.W.mg_of X G i_ONES⟩, ⟨_, PySem.W.mg_of X G i_ADLER⟩, ⟨_, PySem.W.mg_of X G i_HIGHEST_KIND⟩, ⟨_, PySem.W.mg_of X G i_HALF⟩, ⟨_, PySem.W.mg_of X G i_ONES_MODULUS⟩, ⟨_, PySem.W.mg_of X G i_ADLER_MODULUS⟩, ⟨_, PySem.W.mg_of X G i_LONGEST_TEXT⟩, ⟨_, PySem.W.mg_of X G i_MOST_PIECES⟩, ⟨_, PySem.W.mg_of X G g_FEEDBACK, fun H => .inr ⟨_, _, _, u_FEEDBACK, rfl, rfl, v_FEEDBACK.1, v_FEEDBACK.2⟩⟩, ⟨_, PySem.W.mg_of X G g_ALL_BITS, fun H => .inr ⟨_, _, _, u_ALL_BITS, rfl, rfl, v_ALL_BITS.1, v_ALL_BITS.2⟩⟩, ⟨_, PySem.W.mg_of X G g_TOP_BIT, fun H => .inr ⟨_, _, _, u_TOP_BIT, rfl, rfl, v_TOP_BIT.1, v_TOP_BIT.2⟩⟩, PySem.W.mg_none_of X G z_range, PySem.W.mg_none_of X G z_len, PySem.W.mg_none_of X G z_zip, PySem.W.mg_none_of X G z_sum⟩
  have F0 := fun_mk (st := s_one_bit_on) l0 c0 k0
  have b0 := F0.binds (ps := ["x", "feedback"]) fun _ _ _ _ _ _ us hl => match us, hl with | [_, _], _ => rfl
  have F1 := fun_mk (st := s_eight_bits_on) l1 c1 k1
  have b1 := F1.binds (ps := ["x", "feedback"]) fun _ _ _ _ _ _ us hl => match us, hl with | [_, _], _ => rfl
  have F2 := fun_mk (st := s_bytes_by) l2 c2 k2
  have b2 := F2.binds (ps := ["k", "x", "text"]) fun _ _ _ _ _ _ us hl => match us, hl with | [_, _, _], _ => rfl
  have F3 := fun_mk (st := s_bits_behind) l3 c3 k3
  have b3 := F3.binds (ps := ["k", "s", "text"]) fun _ _ _ _ _ _ us hl => match us, hl with | [_, _, _], _ => rfl
  have F4 := fun_mk (st := s_ones_number) l4 c4 k4
  have b4 := F4.binds (ps := ["total"]) fun _ _ _ _ _ _ us hl => match us, hl with | [_], _ => rfl
  have F5 := fun_mk (st := s_ones_total) l5 c5 k5
  have b5 := F5.binds (ps := ["odd", "values"]) fun _ _ _ _ _ _ us hl => match us, hl with | [_, _], _ => rfl
  have F6 := fun_mk (st := s_ones_behind) l6 c6 k6
  have b6 := F6.binds (ps := ["s", "text"]) fun _ _ _ _ _ _ us hl => match us, hl with | [_, _], _ => rfl
  have F7 := fun_mk (st := s_adler_behind) l7 c7 k7
  have b7 := F7.binds (ps := ["s", "text"]) fun _ _ _ _ _ _ us hl => match us, hl with | [_, _], _ => rfl
  have F8 := fun_mk (st := s_state_behind) l8 c8 k8
  have b8 := F8.binds (ps := ["k", "s", "text"]) fun _ _ _ _ _ _ us hl => match us, hl with | [_, _, _], _ => rfl
  have F9 := fun_mk (st := s_empty_state) l9 c9 k9
  have b9 := F9.binds (ps := ["k"]) fun _ _ _ _ _ _ us hl => match us, hl with | [_], _ => rfl
  have F10 := fun_mk (st := s_state_of_text) l10 c10 k10
  have b10 := F10.binds (ps := ["k", "text"]) fun _ _ _ _ _ _ us hl => match us, hl with | [_, _], _ => rfl
  have F11 := fun_mk (st := s_is_kind) l11 c11 k11
  have b11 := F11.binds (ps := ["k"]) fun _ _ _ _ _ _ us hl => match us, hl with | [_], _ => rfl
  have F12 := fun_mk (st := s_ones_of_both) l12 c12 k12
  have b12 := F12.binds (ps := ["a", "b", "n"]) fun _ _ _ _ _ _ us hl => match us, hl with | [_, _, _], _ => rfl
  have F13 := fun_mk (st := s_adler_of_both) l13 c13 k13
  have b13 := F13.binds (ps := ["a", "b", "n"]) fun _ _ _ _ _ _ us hl => match us, hl with | [_, _, _], _ => rfl
  have F14 := fun_mk (st := s_product) l14 c14 k14
  have b14 := F14.binds (ps := ["k", "x", "y"]) fun _ _ _ _ _ _ us hl => match us, hl with | [_, _, _], _ => rfl
  have F15 := fun_mk (st := s_zero_bytes_on) l15 c15 k15
  have b15 := F15.binds (ps := ["k", "x", "n"]) fun _ _ _ _ _ _ us hl => match us, hl with | [_, _, _], _ => rfl
  have F16 := fun_mk (st := s_state_of_both) l16 c16 k16
  have b16 := F16.binds (ps := ["k", "a", "b", "n"]) fun _ _ _ _ _ _ us hl => match us, hl with | [_, _, _, _], _ => rfl
  have F17 := fun_mk (st := s_state_of_all) l17 c17 k17
  have b17 := F17.binds (ps := ["k", "each", "texts"]) fun _ _ _ _ _ _ us hl => match us, hl with | [_, _, _], _ => rfl
  have F18 := fun_mk (st := s_pieces) l18 c18 k18
  have b18 := F18.binds (ps := ["k", "texts"]) fun _ _ _ _ _ _ us hl => match us, hl with | [_, _], _ => rfl
  refine ⟨PySem.W.fnOf "pieces" "pieces" (defArgs s_pieces) (defBody s_pieces) (defScope s_pieces) .none kV18 dc18 pm18 an18 cd18 ct18, fun s us hu => match us, hu with | [_, _], _ => .of_eq rfl, fun base _ _ => ?_⟩
  have C0 : My.Cal P w K mg base 1 "one_bit_on" ["x", "feedback"] (sp_one_bit_on K) := ⟨_, _, ok_one_bit_on F0 T, PySem.W.mg_of X G a0, k0, b0⟩
  have C1 : My.Cal P w K mg base 2 "eight_bits_on" ["x", "feedback"] (sp_eight_bits_on K) := ⟨_, _, ok_eight_bits_on F1 T C0, PySem.W.mg_of X G a1, k1, b1⟩
  have C2 : My.Cal P w K mg base 3 "bytes_by" ["k", "x", "text"] (sp_bytes_by K) := ⟨_, _, ok_bytes_by F2 T C1, PySem.W.mg_of X G a2, k2, b2⟩
  have C3 : My.Cal P w K mg base 4 "bits_behind" ["k", "s", "text"] (sp_bits_behind K) := ⟨_, _, ok_bits_behind F3 T C2, PySem.W.mg_of X G a3, k3, b3⟩
  have C4 : My.Cal P w K mg base 1 "ones_number" ["total"] (sp_ones_number K) := ⟨_, _, ok_ones_number F4 T, PySem.W.mg_of X G a4, k4, b4⟩
  have C5 : My.Cal P w K mg base 1 "ones_total" ["odd", "values"] (sp_ones_total K) := ⟨_, _, ok_ones_total F5 T, PySem.W.mg_of X G a5, k5, b5⟩
  have C6 : My.Cal P w K mg base 2 "ones_behind" ["s", "text"] (sp_ones_behind K) := ⟨_, _, ok_ones_behind F6 T C4 C5, PySem.W.mg_of X G a6, k6, b6⟩
  have C7 : My.Cal P w K mg base 1 "adler_behind" ["s", "text"] (sp_adler_behind K) := ⟨_, _, ok_adler_behind F7 T, PySem.W.mg_of X G a7, k7, b7⟩
  have C8 : My.Cal P w K mg base 5 "state_behind" ["k", "s", "text"] (sp_state_behind K) := ⟨_, _, ok_state_behind F8 T C3 C6 C7, PySem.W.mg_of X G a8, k8, b8⟩
  have C9 : My.Cal P w K mg base 1 "empty_state" ["k"] (sp_empty_state K) := ⟨_, _, ok_empty_state F9 T, PySem.W.mg_of X G a9, k9, b9⟩
  have C10 : My.Cal P w K mg base 6 "state_of_text" ["k", "text"] (sp_state_of_text K) := ⟨_, _, ok_state_of_text F10 T C8 C9, PySem.W.mg_of X G a10, k10, b10⟩
  have C11 : My.Cal P w K mg base 1 "is_kind" ["k"] (sp_is_kind K) := ⟨_, _, ok_is_kind F11 T, PySem.W.mg_of X G a11, k11, b11⟩
  have C12 : My.Cal P w K mg base 2 "ones_of_both" ["a", "b", "n"] (sp_ones_of_both K) := ⟨_, _, ok_ones_of_both F12 T C4, PySem.W.mg_of X G a12, k12, b12⟩
  have C13 : My.Cal P w K mg base 1 "adler_of_both" ["a", "b", "n"] (sp_adler_of_both K) := ⟨_, _, ok_adler_of_both F13 T, PySem.W.mg_of X G a13, k13, b13⟩
  have C14 : My.Cal P w K mg base 2 "product" ["k", "x", "y"] (sp_product K) := ⟨_, _, ok_product F14 T C0, PySem.W.mg_of X G a14, k14, b14⟩
  have C15 : My.Cal P w K mg base 3 "zero_bytes_on" ["k", "x", "n"] (sp_zero_bytes_on K) := ⟨_, _, ok_zero_bytes_on F15 T C1 C14, PySem.W.mg_of X G a15, k15, b15⟩
  have C16 : My.Cal P w K mg base 4 "state_of_both" ["k", "a", "b", "n"] (sp_state_of_both K) := ⟨_, _, ok_state_of_both F16 T C12 C13 C15, PySem.W.mg_of X G a16, k16, b16⟩
  have C17 : My.Cal P w K mg base 5 "state_of_all" ["k", "each", "texts"] (sp_state_of_all K) := ⟨_, _, ok_state_of_all F17 T C9 C16, PySem.W.mg_of X G a17, k17, b17⟩
  exact ok_pieces F18 T C10 C11 C17
end My
open PySem PySem.W PyProof.Rows
set_option maxRecDepth 100000 in
set_option maxHeartbeats 8000000 in
theorem PySem.Challenge.cw_damagesums_s11_pieces_holds : PySem.Challenge.rw_damagesums_s11_pieces.Holds := by
  w_on; k_headS; (case hw => exact ⟨[.int 0, .list []], by decide +kernel, by decide +kernel⟩)
  k_fillS
  refine L2.walk_specK (r := PySem.Challenge.rw_damagesums_s11_pieces) (k := 7) (CX := L2.CX0) (ps := ["k", "texts"]) (sp := My.sp_pieces) (by decide +kernel) rfl rfl ⟨rfl, by decide, by decide⟩ (fun w h Y => PySem.W.kIn_of Y) ?F ?S (fun _ _ _ _ z => z)
  case F =>
    intro w mg fa h Y KX G hmg
    refine' My.all_mk KX G hmg ?a0 ?l0 ?c0 ?k0 ?a1 ?l1 ?c1 ?k1 ?a2 ?l2 ?c2 ?k2 ?a3 ?l3 ?c3 ?k3 ?a4 ?l4 ?c4 ?k4 ?a5 ?l5 ?c5 ?k5 ?a6 ?l6 ?c6 ?k6 ?a7 ?l7 ?c7 ?k7 ?a8 ?l8 ?c8 ?k8 ?a9 ?l9 ?c9 ?k9 ?a10 ?l10 ?c10 ?k10 ?a11 ?l11 ?c11 ?k11 ?a12 ?l12 ?c12 ?k12 ?a13 ?l13 ?c13 ?k13 ?a14 ?l14 ?c14 ?k14 ?a15 ?l15 ?c15 ?k15 ?a16 ?l16 ?c16 ?k16 ?a17 ?l17 ?c17 ?k17 ?a18 ?l18 ?c18 ?k18 ?i_ONES ?i_ADLER ?i_HIGHEST_KIND ?i_HALF ?i_ONES_MODULUS ?i_ADLER_MODULUS ?i_LONGEST_TEXT ?i_MOST_PIECES ?g_FEEDBACK ?u_FEEDBACK ?v_FEEDBACK ?g_ALL_BITS ?u_ALL_BITS ?v_ALL_BITS ?g_TOP_BIT ?u_TOP_BIT ?v_TOP_BIT ?z_range ?z_len ?z_zip ?z_sum
    (case a0 => k_is)
    (case l0 => k_is)
    (case c0 => k_is)
    (case k0 => k_is)
    (case a1 => k_is)
    (case l1 => k_is)
    (case c1 => k_is)
    (case k1 => k_is)
    (case a2 => k_is)
    (case l2 => k_is)
    (case c2 => k_is)
    (case k2 => k_is)
    (case a3 => k_is)
    (case l3 => k_is)
    (case c3 => k_is)
    (case k3 => k_is)
    (case a4 => k_is)
    (case l4 => k_is)
    (case c4 => k_is)
    (case k4 => k_is)
    (case a5 => k_is)
    (case l5 => k_is)
    (case c5 => k_is)
    (case k5 => k_is)
    (case a6 => k_is)
    (case l6 => k_is)
    (case c6 => k_is)
    (case k6 => k_is)
    (case a7 => k_is)
    (case l7 => k_is)
    (case c7 => k_is)
    (case k7 => k_is)
    (case a8 => k_is)
    (case l8 => k_is)
    (case c8 => k_is)
    (case k8 => k_is)
    (case a9 => k_is)
    (case l9 => k_is)
    (case c9 => k_is)
    (case k9 => k_is)
    (case a10 => k_is)
    (case l10 => k_is)
    (case c10 => k_is)
    (case k10 => k_is)
    (case a11 => k_is)
    (case l11 => k_is)
    (case c11 => k_is)
    (case k11 => k_is)
    (case a12 => k_is)
    (case l12 => k_is)
    (case c12 => k_is)
    (case k12 => k_is)
    (case a13 => k_is)
    (case l13 => k_is)
    (case c13 => k_is)
    (case k13 => k_is)
    (case a14 => k_is)
    (case l14 => k_is)
    (case c14 => k_is)
    (case k14 => k_is)
    (case a15 => k_is)
    (case l15 => k_is)
    (case c15 => k_is)
    (case k15 => k_is)
    (case a16 => k_is)
    (case l16 => k_is)
    (case c16 => k_is)
    (case k16 => k_is)
    (case a17 => k_is)
    (case l17 => k_is)
    (case c17 => k_is)
    (case k17 => k_is)
    (case a18 => k_is)
    (case l18 => k_is)
    (case c18 => k_is)
    (case k18 => k_is)
    (case i_ONES => k_is)
    (case i_ADLER => k_is)
    (case i_HIGHEST_KIND => k_is)
    (case i_HALF => k_is)
    (case i_ONES_MODULUS => k_is)
    (case i_ADLER_MODULUS => k_is)
    (case i_LONGEST_TEXT => k_is)
    (case i_MOST_PIECES => k_is)
    (case g_FEEDBACK => k_is)
    (case u_FEEDBACK => k_is)
    (case v_FEEDBACK => exact ⟨by decide, (.cons ⟨_, rfl⟩ (.cons ⟨_, rfl⟩ .nil))⟩)
    (case g_ALL_BITS => k_is)
    (case u_ALL_BITS => k_is)
    (case v_ALL_BITS => exact ⟨by decide, (.cons ⟨_, rfl⟩ (.cons ⟨_, rfl⟩ .nil))⟩)
    (case g_TOP_BIT => k_is)
    (case u_TOP_BIT => k_is)
    (case v_TOP_BIT => exact ⟨by decide, (.cons ⟨_, rfl⟩ (.cons ⟨_, rfl⟩ .nil))⟩)
    (case z_range => k_is)
    (case z_len => k_is)
    (case z_zip => k_is)
    (case z_sum => k_is)
  case S =>
    intro K H xs a hO hwi hask hx
    obtain ⟨k, l, u⟩ := a
    cases hx with
    | cons h1 hx =>
      cases hx with
      | cons h2 hx =>
        cases hx
        have e1 := My.int_dw h1
        subst e1
        have q : (Codec.inInt (-2147483648) 2147483647 k && ((Codec.inLen 0 66 l && l.all (fun t => Codec.inLen 0 1700 t && t.all (Codec.inInt 0 255))) && true)) = true := hwi
        have q2 := (My.both (My.both (My.both q).2).1).2
        obtain ⟨ad, us, rfl, hS, hT⟩ := My.rows_dw h2 fun t ht => (My.bytes_of (List.all_eq_true.mp q2 t ht)).2
        exact ⟨k, ad, us, l.map Sf81Neutral.bs, rfl, hS, hT, fun H' p hp => .lst (L2.SqL.of hp) (L2.dw_ints _)⟩
#print axioms PySem.Challenge.cw_damagesums_s11_pieces_holds
