import PyProof.Rows.All
import Wide.All
import OpenK.AllK
import Wide.FinOn
import Open.SpecLaws
import KE.OsGo
import HandS.ForSpec
import HandS.Text
import PySem.Challenge.RW_damagesums_s02_add
set_option Elab.async false
set_option linter.all false
set_option maxRecDepth 100000
set_option maxHeartbeats 2000000
namespace Ms
open Sf81
/-! ### bits -/
def bit1 (f x : Nat) : Nat := if x % 2 = 1 then x / 2 ^^^ f else x / 2
theorem on_succ (p : Poly) (n x : Nat) : p.on (n + 1) x = p.on n (bit1 p.fall x) := rfl
theorem on_last (p : Poly) : ∀ n x : Nat, p.on (n + 1) x = bit1 p.fall (p.on n x)
  | 0, _ => rfl
  | n + 1, x => by
    rw [on_succ p (n + 1) x, on_last p n (bit1 p.fall x)]
    rfl
/-! ### lists: one item more -/
theorem take_more {α : Type} {l : List α} {i : Nat} {x : α} (h : l[i]? = some x) : l.take (i + 1) = l.take i ++ [x] := by
  rw [List.take_add_one, h]
  rfl
theorem fold_more {α β : Type} {f : β → α → β} {z : β} {l : List α} {i : Nat} {x : α} (h : l[i]? = some x) : (l.take (i + 1)).foldl f z = f ((l.take i).foldl f z) x := by
  rw [take_more h, List.foldl_append]
  rfl
theorem get_map {α β : Type} {f : α → β} {l : List α} {i : Nat} {y : β} (h : (l.map f)[i]? = some y) : ∃ x, l[i]? = some x ∧ y = f x := by
  rw [List.getElem?_map] at h
  cases e : l[i]? with
  | none =>
    rw [e] at h
    cases h
  | some x =>
    rw [e] at h
    exact ⟨x, rfl, (Option.some.inj h).symm⟩
/-! ### bytes as ints -/
abbrev bi (c : UInt8) : Int := (c.toNat : Int)
theorem bs_back : ∀ {l : List Int}, (∀ z ∈ l, 0 ≤ z ∧ z ≤ 255) → l = (Sf81Neutral.bs l).map bi
  | [], _ => rfl
  | z :: r, h => by
    have h1 := h z (List.mem_cons_self ..)
    have h2 := bs_back (l := r) fun y hy => h y (List.mem_cons_of_mem _ hy)
    have e : z = bi (UInt8.ofNat z.toNat) := by
      show z = (((UInt8.ofNat z.toNat).toNat : Nat) : Int)
      rw [UInt8.toNat_ofNat']
      omega
    show z :: r = bi (UInt8.ofNat z.toNat) :: (Sf81Neutral.bs r).map bi
    rw [← e, ← h2]
theorem bs_length (l : List Int) : (Sf81Neutral.bs l).length = l.length := by
  unfold Sf81Neutral.bs
  exact List.length_map _
/-! ### kinds -/
theorem kind_some {k : Int} {x : Kind} (h : kindOf k = some x) : (k = 0 ∧ x = .crc CRC32) ∨ (k = 1 ∧ x = .crc CRC64) ∨ (k = 2 ∧ x = .ones) ∨ (k = 3 ∧ x = .adler) := by
  unfold kindOf at h
  split at h
  · exact .inl ⟨by assumption, (Option.some.inj h).symm⟩
  · split at h
    · exact .inr (.inl ⟨by assumption, (Option.some.inj h).symm⟩)
    · split at h
      · exact .inr (.inr (.inl ⟨by assumption, (Option.some.inj h).symm⟩))
      · split at h
        · exact .inr (.inr (.inr ⟨by assumption, (Option.some.inj h).symm⟩))
        · cases h
theorem kind_is {k : Int} (h0 : 0 ≤ k) (h3 : k ≤ 3) : ∃ x, kindOf k = some x := by
  have h : k = 0 ∨ k = 1 ∨ k = 2 ∨ k = 3 := by omega
  rcases h with rfl | rfl | rfl | rfl
  · exact ⟨_, rfl⟩
  · exact ⟨_, rfl⟩
  · exact ⟨_, rfl⟩
  · exact ⟨_, rfl⟩
theorem kind_none {k : Int} (h : ¬ (0 ≤ k ∧ k ≤ 3)) : kindOf k = none := by
  unfold kindOf
  rw [if_neg (by omega), if_neg (by omega), if_neg (by omega), if_neg (by omega)]
theorem kind_bool (k : Int) : (kindOf k).isSome = decide (0 ≤ k ∧ k ≤ 3) := by
  by_cases h : 0 ≤ k ∧ k ≤ 3
  · obtain ⟨x, e⟩ := kind_is h.1 h.2
    rw [e, decide_eq_true h]
    rfl
  · rw [kind_none h, decide_eq_false h]
    rfl
theorem ofKind_none {k : Int} {f : Kind → Ans} (h : kindOf k = none) : ofKind k f = says (-1) := by
  unfold ofKind
  rw [h]
theorem ofKind_some {k : Int} {x : Kind} {f : Kind → Ans} (h : kindOf k = some x) : ofKind k f = f x := by
  unfold ofKind
  rw [h]
/-! ### the ones' complement sum, byte by byte -/
def wstep (x : Nat × Bool) (c : UInt8) : Nat × Bool := (x.1 + (if x.2 = true then c.toNat else 256 * c.toNat), !x.2)
def wst (odd : Bool) (b : Bytes) : Nat × Bool := b.foldl wstep (0, odd)
theorem wst_sum (odd : Bool) (b : Bytes) : wordsSum odd b = (wst odd b).1 := rfl
theorem wst_more {odd : Bool} {b : Bytes} {i : Nat} {c : UInt8} (h : b[i]? = some c) : wst odd (b.take (i + 1)) = wstep (wst odd (b.take i)) c := fold_more h
theorem wfold_odd : ∀ (b : Bytes) (z : Nat × Bool), (b.foldl wstep z).2 = (if b.length % 2 = 0 then z.2 else !z.2)
  | [], _ => rfl
  | c :: r, z => by
    show (r.foldl wstep (wstep z c)).2 = _
    rw [wfold_odd r, List.length_cons]
    show (if r.length % 2 = 0 then !z.2 else !!z.2) = _
    by_cases h : r.length % 2 = 0
    · rw [if_pos h, if_neg (by omega)]
    · rw [if_neg h, if_pos (by omega), Bool.not_not]
def b2n (b : Bool) : Nat := if b = true then 1 else 0
theorem wst_odd {m : Nat} (hm : m ≤ 1) (b : Bytes) : b2n (wst (m == 1) b).2 = (m + b.length) % 2 := by
  have e := wfold_odd b (0, (m == 1))
  unfold wst
  rw [e]
  have h : m = 0 ∨ m = 1 := by omega
  rcases h with rfl | rfl
  · by_cases q : b.length % 2 = 0
    · rw [if_pos q]
      show 0 = _
      omega
    · rw [if_neg q]
      show 1 = _
      omega
  · by_cases q : b.length % 2 = 0
    · rw [if_pos q]
      show 1 = _
      omega
    · rw [if_neg q]
      show 0 = _
      omega
/-! ### Adler-32, byte by byte -/
def astep (x : Nat × Nat) (c : UInt8) : Nat × Nat := ((x.1 + c.toNat) % MOD, (x.2 + x.1 + c.toNat) % MOD)
def ast (z : Nat × Nat) (b : Bytes) : Nat × Nat := b.foldl astep z
theorem ast_more {z : Nat × Nat} {b : Bytes} {i : Nat} {c : UInt8} (h : b[i]? = some c) : ast z (b.take (i + 1)) = astep (ast z (b.take i)) c := fold_more h
/-! ### one bit after another over bytes -/
def rstep (p : Poly) (x : Nat) (c : UInt8) : Nat := p.on 8 (x ^^^ c.toNat)
theorem raw_more {p : Poly} {x : Nat} {b : Bytes} {i : Nat} {c : UInt8} (h : b[i]? = some c) : p.raw x (b.take (i + 1)) = rstep p (p.raw x (b.take i)) c := fold_more h
end Ms
namespace My
open PySem PySem.Spec PyProof.Rows L2
open PySem.W (Codec WData)
/-! ### a def that is called by its name -/
structure Cal (P : Program) (w : World) (K : PySem.W.Frag) (mg : Str → Option Value) (base : Heap) (k : Nat) (x : Str) (ps : List Str) (sp : Sp) : Prop where
  ex : ∃ f fd, FnOk P w K mg base CX0 k f fd ps sp ∧ mg x = some (.ref f) ∧ PySem.W.keepIn K (.ref f) = true ∧ Binds K fd ps []
theorem pe_cal {X : Cx} {k : Nat} {x : Str} {ps : List Str} {sp : Sp} {p pos : Pos} {e : Expr} {es : List Expr} {t : TA} (C : Cal X.prog X.w X.K X.mg X.base k x ps sp) (hr : Room k X.A) (hg : Gl X x) (ha : PA X (e :: es) t)
    (hdb : (x == ("__debug__" : Str)) = false := by decide) (he : starEach (e :: es) X.env = (false, eval e X.env) :: starEach es X.env := by rfl) (hpl : (backTo pos (starEach es X.env)).any (·.1) = false := by rfl) :
    PE X (.Call (.Name x p) (e :: es) [] pos) (tCall sp [] E0 t) := by
  obtain ⟨f, fd, F, hm, hk, hb⟩ := C.ex
  exact pe_call F hr hg hm hk hb .nil pass0 ha hdb he hpl
/-! ### constants of the top -/
theorem pe_ci {X : Cx} {x : Str} {i : Int} {pos : Pos} (hg : Gl X x) (h : ∃ t, X.mg x = some (.int i t)) (hd : (x == ("__debug__" : Str)) = false := by decide) : PE X (.Name x pos) (tC (.int i)) := by
  obtain ⟨t, h⟩ := h
  exact pe_glob hg h ⟨_, rfl⟩ hd
theorem pe_weak {X : Cx} {e : Expr} {t t' : TE} (h : PE X e t) (w : ∀ σ H Q, t' σ H Q → t σ H Q) : PE X e t' := ⟨fun pins s σ H Q I q => h.run pins s σ H Q I (w σ H Q q)⟩
def tIxC (xs : List V) (ti : TE) : TE := fun σ H Q => ti σ H fun y H1 => ∃ i v, y = .int i ∧ atI xs i = some v ∧ Q v H1
theorem pe_tc {X : Cx} {x : Str} {xs : List V} {p pos : Pos} {b : Expr} {tb : TE} (hg : Gl X x) (h : ∃ a, X.mg x = some (.ref a) ∧ ∀ H, SqT X.K H a xs) (hb : PE X b tb) (hs : PlainIx b) (hd : (x == ("__debug__" : Str)) = false := by decide) :
    PE X (.Subscript (.Name x p) b pos) (tIxC xs tb) := by
  obtain ⟨a, h, q⟩ := h
  refine ⟨fun pins s σ H Q I hq => ?_⟩
  refine Subscript_ (thn ((pe_glob (pos := p) hg h (v := .ref a) rfl hd).run pins s σ H (fun x H1 => x = .ref a ∧ H1 = H) I ⟨rfl, rfl⟩) fun v s1 ⟨x, H1, I1, rx, ex, eH⟩ => ?_)
  subst ex eH
  refine thn (hb.run pins s1 σ _ _ I1 hq) fun u s2 ⟨y, H2, I2, ry, i, v', ey, ha, qq⟩ => ?_
  exact ix_tup _ b pins s2 σ H2 _ y v u Q I2 rx ry ⟨a, xs, i, v', rfl, ey, q H2, ha, qq⟩ (hs _ _)
/-! ### requests -/
theorem int_dw {K : PySem.W.Frag} {H : Hp} {v : V} {lo hi i : Int} (h : Dw K H v ((Codec.int lo hi).enc i)) : v = .int i := by
  cases h
  rfl
theorem list_dw {K : PySem.W.Frag} {H : Hp} {v : V} {lo hi : Int} {m n : Nat} {l : List Int} (h : Dw K H v ((Codec.list m n (.int lo hi)).enc l)) : ∃ a, v = .ref a ∧ SqL K H a (l.map V.int) := by
  cases h with
  | lst hs ha =>
    have e := L2.ints_dw l _ ha
    subst e
    exact ⟨_, rfl, hs⟩
theorem inInt_iff {lo hi i : Int} (h : Codec.inInt lo hi i = true) : lo ≤ i ∧ i ≤ hi := by
  unfold Codec.inInt at h
  simpa using h
/-- bytes as values -/
abbrev bV (c : UInt8) : V := .int (Ms.bi c)
theorem bytes_of {l : List Int} {m n : Nat} (h : (Codec.inLen m n l && l.all (Codec.inInt 0 255)) = true) : l.length ≤ n ∧ l.map V.int = (Sf81Neutral.bs l).map bV := by
  rw [Bool.and_eq_true] at h
  refine ⟨(Codec.inNat_iff.mp h.1).2, ?_⟩
  have q : ∀ z ∈ l, 0 ≤ z ∧ z ≤ 255 := fun z hz => inInt_iff (List.all_eq_true.mp h.2 z hz)
  have e := Ms.bs_back q
  have e2 : l.map V.int = ((Sf81Neutral.bs l).map Ms.bi).map V.int := congrArg (List.map V.int) e
  rw [e2, List.map_map]
  rfl
theorem xor_nn (a b : Nat) : Builtin.bitXor (a : Int) (b : Int) = ((a ^^^ b : Nat) : Int) := by
  have e := Bits.bitXor_pp (x := (a : Int)) (y := (b : Int)) (by omega) (by omega)
  exact e
theorem q_int {Q : VK} {H : Hp} {i j : Int} (h : Q (.int i) H) (e : j = i) : Q (.int j) H := e ▸ h
theorem q_bl {Q : VK} {H : Hp} {b c : Bool} (h : Q (.bl b) H) (e : c = b) : Q (.bl c) H := e ▸ h
theorem st_int3 {a b c d : Option V} {i j : Int} (e : i = j) : ([a, b, c, some (V.int i), d] : List (Option V)) = [a, b, c, some (V.int j), d] := e ▸ rfl
theorem st_int23 {a b d : Option V} {i j i' j' : Int} (e : i = i') (e' : j = j') : ([a, b, some (V.int i), some (V.int j), d] : List (Option V)) = [a, b, some (V.int i'), some (V.int j'), d] := e ▸ e' ▸ rfl
theorem args_int {i j : Int} {r : List V} (e : i = j) : (V.int i :: r) = (V.int j :: r) := e ▸ rfl
theorem fall_at {k : Int} {p : Sf81.Poly} (h : Sf81.kindOf k = some (.crc p)) : atI [V.int 2197175160, V.int 14514072000185962306] k = some (V.int (p.fall : Nat)) := by
  rcases Ms.kind_some h with ⟨rfl, e⟩ | ⟨rfl, e⟩ | ⟨rfl, e⟩ | ⟨rfl, e⟩
  · cases e
    rfl
  · cases e
    rfl
  · cases e
  · cases e
theorem ones_at {k : Int} {p : Sf81.Poly} (h : Sf81.kindOf k = some (.crc p)) : atI [V.int 4294967295, V.int 18446744073709551615] k = some (V.int (p.ones : Nat)) := by
  rcases Ms.kind_some h with ⟨rfl, e⟩ | ⟨rfl, e⟩ | ⟨rfl, e⟩ | ⟨rfl, e⟩
  · cases e
    rfl
  · cases e
    rfl
  · cases e
  · cases e
theorem neg1 {H : Hp} {p : Addr} : (upd H p (.lst [V.int (-1)])) p = some (.lst ((Sf81Neutral.listOf (Sf81.says (-1))).map V.int)) := upd_same
theorem pos_lit {j : Int} (h : 0 < j) : 0 < j := h
theorem ite2b {c : Bool} {A B : Prop} (h1 : c = true → A) (h2 : c = false → B) : if c = true then A else B := by
  cases c with
  | true => exact iteT (h1 rfl)
  | false => exact iteF (h2 rfl)
theorem one_ok {a : V} : ([a] : List V).length ≤ sizeLine := by
  show 1 ≤ sizeLine
  decide
theorem two_ok {a b : V} : ([a, b] : List V).length ≤ sizeLine := by
  show 2 ≤ sizeLine
  decide
/-- a test by a letter: numbers in it are never unfolded -/
theorem dec_ex (p : Prop) [Decidable p] : ∃ c : Bool, decide p = c ∧ (c = true → p) ∧ (c = false → ¬ p) := ⟨_, rfl, of_decide_eq_true, of_decide_eq_false⟩
end My
namespace My
open PySem PySem.Spec PyProof.Rows L2
open PySem.W (Codec)
def top (i : Nat) : Stmt := PySem.Challenge.pw_damagesums_s02_add.main.body.getD i (.Pass ⟨0, 0, 0, 0⟩)
abbrev s_one_bit_on : Stmt := top 15
theorem sc_one_bit_on : FnScope ["x", "feedback"] ["x", "feedback"] (defScope s_one_bit_on) := ⟨rfl, rfl, rfl, by decide +kernel, rfl, by decide +kernel, by decide +kernel⟩
abbrev s_eight_bits_on : Stmt := top 14
theorem sc_eight_bits_on : FnScope ["x", "feedback", "step"] ["x", "feedback"] (defScope s_eight_bits_on) := ⟨rfl, rfl, rfl, by decide +kernel, rfl, by decide +kernel, by decide +kernel⟩
abbrev s_bits_behind : Stmt := top 13
theorem sc_bits_behind : FnScope ["k", "s", "text", "x", "c"] ["k", "s", "text"] (defScope s_bits_behind) := ⟨rfl, rfl, rfl, by decide +kernel, rfl, by decide +kernel, by decide +kernel⟩
abbrev s_ones_number : Stmt := top 17
theorem sc_ones_number : FnScope ["total"] ["total"] (defScope s_ones_number) := ⟨rfl, rfl, rfl, by decide +kernel, rfl, by decide +kernel, by decide +kernel⟩
abbrev s_ones_behind : Stmt := top 16
theorem sc_ones_behind : FnScope ["s", "text", "total", "odd", "c"] ["s", "text"] (defScope s_ones_behind) := ⟨rfl, rfl, rfl, by decide +kernel, rfl, by decide +kernel, by decide +kernel⟩
abbrev s_adler_behind : Stmt := top 18
theorem sc_adler_behind : FnScope ["s", "text", "a", "b", "c"] ["s", "text"] (defScope s_adler_behind) := ⟨rfl, rfl, rfl, by decide +kernel, rfl, by decide +kernel, by decide +kernel⟩
abbrev s_state_behind : Stmt := top 12
theorem sc_state_behind : FnScope ["k", "s", "text"] ["k", "s", "text"] (defScope s_state_behind) := ⟨rfl, rfl, rfl, by decide +kernel, rfl, by decide +kernel, by decide +kernel⟩
abbrev s_is_kind : Stmt := top 10
theorem sc_is_kind : FnScope ["k"] ["k"] (defScope s_is_kind) := ⟨rfl, rfl, rfl, by decide +kernel, rfl, by decide +kernel, by decide +kernel⟩
abbrev s_is_state : Stmt := top 11
theorem sc_is_state : FnScope ["k", "s"] ["k", "s"] (defScope s_is_state) := ⟨rfl, rfl, rfl, by decide +kernel, rfl, by decide +kernel, by decide +kernel⟩
abbrev s_add : Stmt := top 21
theorem sc_add : FnScope ["k", "s", "text"] ["k", "s", "text"] (defScope s_add) := ⟨rfl, rfl, rfl, by decide +kernel, rfl, by decide +kernel, by decide +kernel⟩
structure Txt (K : PySem.W.Frag) (mg : Str → Option Value) : Prop where
  dummy : True
  c_ONES : ∃ t, mg "ONES" = some (.int (2) t)
  c_ADLER : ∃ t, mg "ADLER" = some (.int (3) t)
  c_HIGHEST_KIND : ∃ t, mg "HIGHEST_KIND" = some (.int (3) t)
  c_HALF : ∃ t, mg "HALF" = some (.int (65536) t)
  c_ONES_MODULUS : ∃ t, mg "ONES_MODULUS" = some (.int (65535) t)
  c_ONES_HIGHEST_STATE : ∃ t, mg "ONES_HIGHEST_STATE" = some (.int (131071) t)
  c_ADLER_MODULUS : ∃ t, mg "ADLER_MODULUS" = some (.int (65521) t)
  c_LONGEST_TEXT : ∃ t, mg "LONGEST_TEXT" = some (.int (65536) t)
  t_FEEDBACK : ∃ a, mg "FEEDBACK" = some (.ref a) ∧ ∀ H, SqT K H a [.int 2197175160, .int 14514072000185962306]
  t_ALL_BITS : ∃ a, mg "ALL_BITS" = some (.ref a) ∧ ∀ H, SqT K H a [.int 4294967295, .int 18446744073709551615]
  b_range : mg "range" = none
  b_len : mg "len" = none
section
variable {P : Program} {w : World} {K : PySem.W.Frag} {mg : Str → Option Value} {base : Heap}
def sp_one_bit_on (K : PySem.W.Frag) : Sp := fun vs H Q _ => ∃ (x g : Nat), vs = [.int x, .int g] ∧ Q (.int (Ms.bit1 g x : Nat)) H
theorem ok_one_bit_on {f : Addr} {fd : FuncData} (F : Fun K "one_bit_on" "one_bit_on" s_one_bit_on f fd) (T : Txt K mg) : FnOk P w K mg base CX0 1 f fd ["x", "feedback"] (sp_one_bit_on K) := by
  refine F.ok sc_one_bit_on (fun vs H Q E h => ?_) (fun cdv A outer s H vs Q E hr h => ?_)
  · obtain ⟨x, g, rfl, k⟩ := h
    rfl
  · obtain ⟨x, g, rfl, k⟩ := h
    refine ⟨_, (pss_cons (ps_if (pt_cmpR op_eq (pe_op op_mod (pv 0) pe_int) pe_int (nomark _)) (pss_one (ps_ret (pe_op op_xor (pe_op op_fdiv (pv 0) pe_int) (pv 1)))) pss_nil)
      (pss_one (ps_ret (pe_op op_fdiv (pv 0) pe_int)))), ?_⟩
    refine ⟨_, rfl, _, _, rfl, rfl, My.pos_lit (by decide), rfl, _, rfl, My.ite2b (fun e => ?_) (fun e => ?_)⟩
    · have e1 : (x : Int) % 2 = 1 := V.int.inj (of_decide_eq_true e)
      refine ⟨_, rfl, _, _, rfl, rfl, ⟨by decide, by decide⟩, _, rfl, _, _, rfl, rfl, My.q_int k ?_⟩
      have e2 : (x : Int) / 2 = ((x / 2 : Nat) : Int) := by omega
      rw [e2, My.xor_nn]
      unfold Ms.bit1
      rw [if_pos (by omega)]
    · have e1 : ¬ (x : Int) % 2 = 1 := fun z => of_decide_eq_false e (congrArg V.int z)
      refine ⟨_, rfl, _, _, rfl, rfl, ⟨by decide, by decide⟩, My.q_int k ?_⟩
      unfold Ms.bit1
      rw [if_neg (by omega)]
      omega
def sp_eight_bits_on (K : PySem.W.Frag) : Sp := fun vs H Q _ => ∃ (x : Nat) (p : Sf81.Poly), vs = [.int x, .int p.fall] ∧ Q (.int (p.on 8 x : Nat)) H
theorem ok_eight_bits_on {f : Addr} {fd : FuncData} (F : Fun K "eight_bits_on" "eight_bits_on" s_eight_bits_on f fd) (T : Txt K mg) (C_one_bit_on : My.Cal P w K mg base 1 "one_bit_on" ["x", "feedback"] (sp_one_bit_on K)) : FnOk P w K mg base CX0 2 f fd ["x", "feedback"] (sp_eight_bits_on K) := by
  refine F.ok sc_eight_bits_on (fun vs H Q E h => ?_) (fun cdv A outer s H vs Q E hr h => ?_)
  · obtain ⟨x, p, rfl, k⟩ := h
    rfl
  · obtain ⟨x, p, rfl, k⟩ := h
    refine ⟨_, (pss_cons (ps_for PassesOwn.never rfl (pi_range1 (by rfl) T.b_range (pa_cons pe_int pa_nil)) (pg_name (i := 2) sc_eight_bits_on.nd rfl (Or.inl rfl))
        (pss_one (ps_set (i := 0) sc_eight_bits_on.nd rfl (Or.inl rfl) (My.pe_cal C_one_bit_on (hr.mono (by decide)) (by rfl) (pa_cons (pv 0) (pa_cons (pv 1) pa_nil))))))
      (pss_one (ps_ret (pv 0)))), ?_⟩
    refine ⟨8, rfl, by decide, by decide, for_range (lo := 0) (n := 8) (fun i σ H' => ∃ v, σ = [some (.int (p.on i x : Nat)), some (.int p.fall), v] ∧ H' = H) ⟨none, rfl, rfl⟩ ?_ ?_⟩
    · rintro i σ H' hi ⟨v, rfl, rfl⟩
      refine ⟨_, rfl, _, rfl, p.on i x, p.fall, rfl, ?_⟩
      exact ⟨_, by rw [Ms.on_last]; rfl, rfl⟩
    · rintro σ H' ⟨v, rfl, rfl⟩
      exact ⟨_, rfl, k⟩
def sp_bits_behind (K : PySem.W.Frag) : Sp := fun vs H Q _ => ∃ (k : Int) (p : Sf81.Poly) (s : Nat) (a : Addr) (b : Sf81.Bytes), vs = [.int k, .int s, .ref a] ∧ Sf81.kindOf k = some (.crc p) ∧ SqL K H a (b.map bV) ∧ Q (.int ((Sf81.Kind.crc p).add s b : Nat)) H
theorem ok_bits_behind {f : Addr} {fd : FuncData} (F : Fun K "bits_behind" "bits_behind" s_bits_behind f fd) (T : Txt K mg) (C_eight_bits_on : My.Cal P w K mg base 2 "eight_bits_on" ["x", "feedback"] (sp_eight_bits_on K)) : FnOk P w K mg base CX0 3 f fd ["k", "s", "text"] (sp_bits_behind K) := by
  refine F.ok sc_bits_behind (fun vs H Q E h => ?_) (fun cdv A outer s H vs Q E hr h => ?_)
  · obtain ⟨k, p, s, a, b, rfl, hk, hS, q⟩ := h
    rfl
  · obtain ⟨k, p, s, a, b, rfl, hk, hS, q⟩ := h
    refine ⟨_, (pss_cons (ps_set (i := 3) sc_bits_behind.nd rfl (Or.inl rfl) (pe_op op_xor (pv 1) (My.pe_tc (by rfl) T.t_ALL_BITS (pv 0) (fun _ _ => rfl))))
      (pss_cons (ps_for PassesOwn.never rfl (pi_list (pv 2)) (pg_name (i := 4) sc_bits_behind.nd rfl (Or.inl rfl))
        (pss_one (ps_set (i := 3) sc_bits_behind.nd rfl (Or.inl rfl) (My.pe_cal C_eight_bits_on (hr.mono (by decide)) (by rfl) (pa_cons (pe_op op_xor (pv 3) (pv 4)) (pa_cons (My.pe_tc (by rfl) T.t_FEEDBACK (pv 0) (fun _ _ => rfl)) pa_nil))))))
      (pss_one (ps_ret (pe_op op_xor (pv 3) (My.pe_tc (by rfl) T.t_ALL_BITS (pv 0) (fun _ _ => rfl))))))), ?_⟩
    refine ⟨_, rfl, _, rfl, k, _, rfl, ones_at hk, _, _, rfl, rfl, ?_⟩
    refine ⟨_, rfl, a, rfl, ⟨_, hS⟩, for_list (K := K) (a := a) (xs := b.map bV) (fun i σ H' => ∃ v, σ = [some (.int k), some (.int s), some (.ref a), some (.int (p.raw (s ^^^ p.ones) (b.take i) : Nat)), v] ∧ H' = H) ⟨none, ?_, rfl⟩ ?_ ?_ ?_⟩
    · exact My.st_int3 (My.xor_nn s p.ones)
    · rintro i σ H' _ ⟨v, rfl, rfl⟩
      exact hS
    · rintro i y σ H' hi ⟨v, rfl, rfl⟩
      obtain ⟨c, hc, rfl⟩ := Ms.get_map hi
      refine ⟨_, rfl, _, rfl, _, _, rfl, rfl, _, rfl, k, _, rfl, fall_at hk, _, p, My.args_int (My.xor_nn _ _), ?_⟩
      exact ⟨_, by rw [Ms.raw_more hc]; rfl, rfl⟩
    · rintro σ H' ⟨v, rfl, rfl⟩
      rw [List.length_map, List.take_length]
      refine ⟨_, rfl, _, rfl, k, _, rfl, ones_at hk, _, _, rfl, rfl, My.q_int q ?_⟩
      exact My.xor_nn _ _
def sp_ones_number (K : PySem.W.Frag) : Sp := fun vs H Q _ => ∃ (n : Nat), vs = [.int n] ∧ Q (.int (Sf81.folded n : Nat)) H
theorem ok_ones_number {f : Addr} {fd : FuncData} (F : Fun K "ones_number" "ones_number" s_ones_number f fd) (T : Txt K mg) : FnOk P w K mg base CX0 1 f fd ["total"] (sp_ones_number K) := by
  refine F.ok sc_ones_number (fun vs H Q E h => ?_) (fun cdv A outer s H vs Q E hr h => ?_)
  · obtain ⟨n, rfl, k⟩ := h
    rfl
  · obtain ⟨n, rfl, k⟩ := h
    refine ⟨_, (pss_cons (ps_if (pt_cmpR op_eq (pv 0) pe_int (nomark _)) (pss_one (ps_ret pe_int)) pss_nil)
      (pss_one (ps_ret (pe_op op_add (pe_op op_mod (pe_op op_sub (pv 0) pe_int) (My.pe_ci (by rfl) T.c_ONES_MODULUS)) pe_int)))), ?_⟩
    refine ⟨_, rfl, rfl, _, rfl, My.ite2b (fun e => ?_) (fun e => ?_)⟩
    · have e1 : (n : Int) = 0 := V.int.inj (of_decide_eq_true e)
      refine My.q_int k ?_
      unfold Sf81.folded
      rw [if_pos (by omega)]
      rfl
    · have e1 : ¬ (n : Int) = 0 := fun z => of_decide_eq_false e (congrArg V.int z)
      refine ⟨_, rfl, _, _, rfl, rfl, _, _, rfl, rfl, My.pos_lit (by decide), _, _, rfl, rfl, My.q_int k ?_⟩
      unfold Sf81.folded
      rw [if_neg (by omega)]
      omega
def sp_ones_behind (K : PySem.W.Frag) : Sp := fun vs H Q _ => ∃ (s : Nat) (a : Addr) (b : Sf81.Bytes), vs = [.int s, .ref a] ∧ s < 131072 ∧ SqL K H a (b.map bV) ∧ Q (.int (Sf81.Kind.ones.add s b : Nat)) H
theorem ok_ones_behind {f : Addr} {fd : FuncData} (F : Fun K "ones_behind" "ones_behind" s_ones_behind f fd) (T : Txt K mg) (C_ones_number : My.Cal P w K mg base 1 "ones_number" ["total"] (sp_ones_number K)) : FnOk P w K mg base CX0 2 f fd ["s", "text"] (sp_ones_behind K) := by
  refine F.ok sc_ones_behind (fun vs H Q E h => ?_) (fun cdv A outer s H vs Q E hr h => ?_)
  · obtain ⟨s, a, b, rfl, hs, hS, q⟩ := h
    rfl
  · obtain ⟨s, a, b, rfl, hs, hS, q⟩ := h
    refine ⟨_, (pss_cons (ps_set (i := 2) sc_ones_behind.nd rfl (Or.inl rfl) (pe_op op_mod (pv 0) (My.pe_ci (by rfl) T.c_HALF)))
      (pss_cons (ps_set (i := 3) sc_ones_behind.nd rfl (Or.inl rfl) (pe_op op_fdiv (pv 0) (My.pe_ci (by rfl) T.c_HALF)))
      (pss_cons (ps_for PassesOwn.never rfl (pi_list (pv 1)) (pg_name (i := 4) sc_ones_behind.nd rfl (Or.inl rfl))
        (pss_cons (ps_if (pt_cmpR op_eq (pv 3) pe_int (nomark _)) (pss_one (ps_set (i := 2) sc_ones_behind.nd rfl (Or.inl rfl) (pe_op op_add (pv 2) (pv 4)))) (pss_one (ps_set (i := 2) sc_ones_behind.nd rfl (Or.inl rfl) (pe_op op_add (pv 2) (pe_op op_mul pe_int (pv 4))))))
      (pss_one (ps_set (i := 3) sc_ones_behind.nd rfl (Or.inl rfl) (pe_op op_sub pe_int (pv 3))))))
      (pss_one (ps_ret (pe_op op_add (My.pe_cal C_ones_number (hr.mono (by decide)) (by rfl) (pa_cons (pv 2) pa_nil)) (pe_op op_mul (My.pe_ci (by rfl) T.c_HALF) (pv 3)))))))), ?_⟩
    refine ⟨_, rfl, _, _, rfl, rfl, My.pos_lit (by decide), ?_⟩
    refine ⟨_, rfl, _, _, rfl, rfl, ⟨by decide, by decide⟩, ?_⟩
    have hm : s / 65536 ≤ 1 := by omega
    have h0 : (s : Int) / 65536 = (Ms.b2n (Ms.wst (s / 65536 == 1) []).2 : Nat) := by
      have e := Ms.wst_odd hm []
      rw [e]
      show _ = (((s / 65536 + 0) % 2 : Nat) : Int)
      omega
    refine ⟨_, rfl, a, rfl, ⟨_, hS⟩, for_list (K := K) (a := a) (xs := b.map bV) (fun i σ H' => ∃ v, σ = [some (.int s), some (.ref a), some (.int ((s % 65536 + (Ms.wst (s / 65536 == 1) (b.take i)).1 : Nat))), some (.int (Ms.b2n (Ms.wst (s / 65536 == 1) (b.take i)).2 : Nat)), v] ∧ H' = H) ⟨none, ?_, rfl⟩ ?_ ?_ ?_⟩
    · refine My.st_int23 ?_ h0
      show (s : Int) % 65536 = ((s % 65536 + 0 : Nat) : Int)
      omega
    · rintro i σ H' _ ⟨v, rfl, rfl⟩
      exact hS
    · rintro i y σ H' hi ⟨v, rfl, rfl⟩
      obtain ⟨c, hc, rfl⟩ := Ms.get_map hi
      have st := Ms.wst_more (odd := s / 65536 == 1) hc
      generalize Ms.wst (s / 65536 == 1) (b.take i) = z at st ⊢
      rw [st]
      obtain ⟨t, o⟩ := z
      refine ⟨_, rfl, rfl, _, rfl, ?_⟩
      cases o with
      | true =>
        refine iteT ?_
        refine ⟨_, rfl, _, rfl, _, _, rfl, rfl, ?_⟩
        refine ⟨_, rfl, _, _, rfl, rfl, ?_⟩
        refine ⟨_, My.st_int23 ?_ ?_, rfl⟩
        · show ((s % 65536 + t : Nat) : Int) + (c.toNat : Int) = ((s % 65536 + (t + c.toNat) : Nat) : Int)
          omega
        · rfl
      | false =>
        refine iteF ?_
        refine ⟨_, rfl, _, rfl, _, _, rfl, rfl, .inl ⟨by decide, by decide⟩, _, _, rfl, rfl, ?_⟩
        refine ⟨_, rfl, _, _, rfl, rfl, ?_⟩
        refine ⟨_, My.st_int23 ?_ ?_, rfl⟩
        · show ((s % 65536 + t : Nat) : Int) + 256 * (c.toNat : Int) = ((s % 65536 + (t + 256 * c.toNat) : Nat) : Int)
          omega
        · rfl
    · rintro σ H' ⟨v, rfl, rfl⟩
      rw [List.length_map, List.take_length]
      refine ⟨_, rfl, _, rfl, _, rfl, _, _, rfl, rfl, .inl ⟨by decide, by decide⟩, _, _, rfl, rfl, My.q_int q ?_⟩
      rw [Ms.wst_odd hm b]
      show _ = ((Sf81.folded (s % 65536 + Sf81.wordsSum (s / 65536 == 1) b) + 65536 * ((s / 65536 + b.length) % 2) : Nat) : Int)
      rw [Ms.wst_sum]
      omega
def sp_adler_behind (K : PySem.W.Frag) : Sp := fun vs H Q _ => ∃ (s : Nat) (a : Addr) (b : Sf81.Bytes), vs = [.int s, .ref a] ∧ SqL K H a (b.map bV) ∧ Q (.int (Sf81.Kind.adler.add s b : Nat)) H
theorem ok_adler_behind {f : Addr} {fd : FuncData} (F : Fun K "adler_behind" "adler_behind" s_adler_behind f fd) (T : Txt K mg) : FnOk P w K mg base CX0 1 f fd ["s", "text"] (sp_adler_behind K) := by
  refine F.ok sc_adler_behind (fun vs H Q E h => ?_) (fun cdv A outer s H vs Q E hr h => ?_)
  · obtain ⟨s, a, b, rfl, hS, q⟩ := h
    rfl
  · obtain ⟨s, a, b, rfl, hS, q⟩ := h
    refine ⟨_, (pss_cons (ps_set (i := 2) sc_adler_behind.nd rfl (Or.inl rfl) (pe_op op_mod (pv 0) (My.pe_ci (by rfl) T.c_HALF)))
      (pss_cons (ps_set (i := 3) sc_adler_behind.nd rfl (Or.inl rfl) (pe_op op_fdiv (pv 0) (My.pe_ci (by rfl) T.c_HALF)))
      (pss_cons (ps_for PassesOwn.never rfl (pi_list (pv 1)) (pg_name (i := 4) sc_adler_behind.nd rfl (Or.inl rfl))
        (pss_cons (ps_set (i := 2) sc_adler_behind.nd rfl (Or.inl rfl) (pe_op op_mod (pe_op op_add (pv 2) (pv 4)) (My.pe_ci (by rfl) T.c_ADLER_MODULUS)))
      (pss_one (ps_set (i := 3) sc_adler_behind.nd rfl (Or.inl rfl) (pe_op op_mod (pe_op op_add (pv 3) (pv 2)) (My.pe_ci (by rfl) T.c_ADLER_MODULUS))))))
      (pss_one (ps_ret (pe_op op_add (pe_op op_mul (My.pe_ci (by rfl) T.c_HALF) (pv 3)) (pv 2))))))), ?_⟩
    refine ⟨_, rfl, _, _, rfl, rfl, My.pos_lit (by decide), ?_⟩
    refine ⟨_, rfl, _, _, rfl, rfl, ⟨by decide, by decide⟩, ?_⟩
    refine ⟨_, rfl, a, rfl, ⟨_, hS⟩, for_list (K := K) (a := a) (xs := b.map bV) (fun i σ H' => ∃ v, σ = [some (.int s), some (.ref a), some (.int ((Ms.ast (s % 65536, s / 65536) (b.take i)).1 : Nat)), some (.int ((Ms.ast (s % 65536, s / 65536) (b.take i)).2 : Nat)), v] ∧ H' = H) ⟨none, ?_, rfl⟩ ?_ ?_ ?_⟩
    · exact My.st_int23 rfl rfl
    · rintro i σ H' _ ⟨v, rfl, rfl⟩
      exact hS
    · rintro i y σ H' hi ⟨v, rfl, rfl⟩
      obtain ⟨c, hc, rfl⟩ := Ms.get_map hi
      have st := Ms.ast_more (z := (s % 65536, s / 65536)) hc
      generalize Ms.ast (s % 65536, s / 65536) (b.take i) = z at st ⊢
      rw [st]
      obtain ⟨t, o⟩ := z
      refine ⟨_, rfl, _, rfl, _, _, rfl, rfl, _, _, rfl, rfl, My.pos_lit (by decide), ?_⟩
      refine ⟨_, rfl, _, rfl, _, _, rfl, rfl, _, _, rfl, rfl, My.pos_lit (by decide), ?_⟩
      refine ⟨_, My.st_int23 ?_ ?_, rfl⟩
      · show ((t : Int) + (c.toNat : Int)) % 65521 = (((t + c.toNat) % 65521 : Nat) : Int)
        omega
      · show ((o : Int) + ((t : Int) + (c.toNat : Int)) % 65521) % 65521 = (((o + t + c.toNat) % 65521 : Nat) : Int)
        omega
    · rintro σ H' ⟨v, rfl, rfl⟩
      rw [List.length_map, List.take_length]
      refine ⟨_, rfl, _, _, rfl, rfl, .inl ⟨by decide, by decide⟩, _, rfl, _, _, rfl, rfl, My.q_int q ?_⟩
      show (65536 : Int) * ((Ms.ast (s % 65536, s / 65536) b).2 : Int) + ((Ms.ast (s % 65536, s / 65536) b).1 : Int) = (((Ms.ast (s % 65536, s / 65536) b).2 * 65536 + (Ms.ast (s % 65536, s / 65536) b).1 : Nat) : Int)
      omega
def sp_state_behind (K : PySem.W.Frag) : Sp := fun vs H Q _ => ∃ (k : Int) (x : Sf81.Kind) (s : Nat) (a : Addr) (b : Sf81.Bytes), vs = [.int k, .int s, .ref a] ∧ Sf81.kindOf k = some x ∧ x.ok s = true ∧ SqL K H a (b.map bV) ∧ Q (.int (x.add s b : Nat)) H
theorem ok_state_behind {f : Addr} {fd : FuncData} (F : Fun K "state_behind" "state_behind" s_state_behind f fd) (T : Txt K mg) (C_bits_behind : My.Cal P w K mg base 3 "bits_behind" ["k", "s", "text"] (sp_bits_behind K)) (C_ones_behind : My.Cal P w K mg base 2 "ones_behind" ["s", "text"] (sp_ones_behind K)) (C_adler_behind : My.Cal P w K mg base 1 "adler_behind" ["s", "text"] (sp_adler_behind K)) : FnOk P w K mg base CX0 4 f fd ["k", "s", "text"] (sp_state_behind K) := by
  refine F.ok sc_state_behind (fun vs H Q E h => ?_) (fun cdv A outer s H vs Q E hr h => ?_)
  · obtain ⟨k, x, s, a, b, rfl, hk, hok, hS, q⟩ := h
    rfl
  · obtain ⟨k, x, s, a, b, rfl, hk, hok, hS, q⟩ := h
    refine ⟨_, (pss_cons (ps_if (pt_cmpR op_eq (pv 0) (My.pe_ci (by rfl) T.c_ONES) (nomark _)) (pss_one (ps_ret (My.pe_cal C_ones_behind (hr.mono (by decide)) (by rfl) (pa_cons (pv 1) (pa_cons (pv 2) pa_nil))))) pss_nil)
      (pss_cons (ps_if (pt_cmpR op_eq (pv 0) (My.pe_ci (by rfl) T.c_ADLER) (nomark _)) (pss_one (ps_ret (My.pe_cal C_adler_behind (hr.mono (by decide)) (by rfl) (pa_cons (pv 1) (pa_cons (pv 2) pa_nil))))) pss_nil)
      (pss_one (ps_ret (My.pe_cal C_bits_behind (hr.mono (by decide)) (by rfl) (pa_cons (pv 0) (pa_cons (pv 1) (pa_cons (pv 2) pa_nil)))))))), ?_⟩
    refine ⟨_, rfl, rfl, _, rfl, My.ite2b (fun e => ?_) (fun e => ?_)⟩
    · have e1 : k = 2 := V.int.inj (of_decide_eq_true e)
      subst e1
      cases hk
      exact ⟨_, rfl, _, rfl, s, a, b, rfl, of_decide_eq_true hok, hS, q⟩
    · have n2 : ¬ k = 2 := fun z => of_decide_eq_false e (congrArg V.int z)
      refine ⟨_, rfl, rfl, _, rfl, My.ite2b (fun e => ?_) (fun e => ?_)⟩
      · have e1 : k = 3 := V.int.inj (of_decide_eq_true e)
        subst e1
        cases hk
        exact ⟨_, rfl, _, rfl, s, a, b, rfl, hS, q⟩
      · have n3 : ¬ k = 3 := fun z => of_decide_eq_false e (congrArg V.int z)
        have hp : ∃ p, x = .crc p := by
          rcases Ms.kind_some hk with ⟨e, z⟩ | ⟨e, z⟩ | ⟨e, z⟩ | ⟨e, z⟩
          · exact ⟨_, z⟩
          · exact ⟨_, z⟩
          · exact absurd e n2
          · exact absurd e n3
        obtain ⟨p, rfl⟩ := hp
        exact ⟨_, rfl, _, rfl, _, rfl, k, p, s, a, b, rfl, hk, hS, q⟩
def sp_is_kind (K : PySem.W.Frag) : Sp := fun vs H Q _ => ∃ (k : Int), vs = [.int k] ∧ Q (.bl (Sf81.kindOf k).isSome) H
theorem ok_is_kind {f : Addr} {fd : FuncData} (F : Fun K "is_kind" "is_kind" s_is_kind f fd) (T : Txt K mg) : FnOk P w K mg base CX0 1 f fd ["k"] (sp_is_kind K) := by
  refine F.ok sc_is_kind (fun vs H Q E h => ?_) (fun cdv A outer s H vs Q E hr h => ?_)
  · obtain ⟨k, rfl, q⟩ := h
    rfl
  · obtain ⟨k, rfl, q⟩ := h
    refine ⟨_, (pss_one (ps_ret (pe_chain op_le op_le pe_int (pv 0) (My.pe_ci (by rfl) T.c_HIGHEST_KIND)))), ?_⟩
    refine ⟨_, rfl, _, _, rfl, rfl, _, rfl, ?_⟩
    rw [Ms.kind_bool] at q
    refine My.ite2b (fun e => ?_) (fun e => ?_)
    · have e1 : (0 : Int) ≤ k := of_decide_eq_true e
      refine ⟨_, _, rfl, rfl, My.q_bl q ?_⟩
      exact decide_eq_decide.mpr ⟨fun z => ⟨e1, z⟩, fun z => z.2⟩
    · have e1 : ¬ (0 : Int) ≤ k := of_decide_eq_false e
      refine My.q_bl q ?_
      exact (decide_eq_false fun z => e1 z.1).symm
def sp_is_state (K : PySem.W.Frag) : Sp := fun vs H Q _ => ∃ (k : Int) (x : Sf81.Kind) (s : Nat), vs = [.int k, .int s] ∧ Sf81.kindOf k = some x ∧ Q (.bl (x.ok s)) H
theorem ok_is_state {f : Addr} {fd : FuncData} (F : Fun K "is_state" "is_state" s_is_state f fd) (T : Txt K mg) : FnOk P w K mg base CX0 1 f fd ["k", "s"] (sp_is_state K) := by
  refine F.ok sc_is_state (fun vs H Q E h => ?_) (fun cdv A outer s H vs Q E hr h => ?_)
  · obtain ⟨k, x, s, rfl, hk, q⟩ := h
    rfl
  · obtain ⟨k, x, s, rfl, hk, q⟩ := h
    refine ⟨_, (pss_cons (ps_if (pt_cmpR op_eq (pv 0) (My.pe_ci (by rfl) T.c_ONES) (nomark _)) (pss_one (ps_ret (pe_chain op_le op_le pe_int (pv 1) (My.pe_ci (by rfl) T.c_ONES_HIGHEST_STATE)))) pss_nil)
      (pss_cons (ps_if (pt_cmpR op_eq (pv 0) (My.pe_ci (by rfl) T.c_ADLER) (nomark _)) (pss_one (ps_ret (pe_and (pe_cmpR op_le pe_int (pv 1) (nomark _)) (pe_and (pe_cmpR op_lt (pe_op op_mod (pv 1) (My.pe_ci (by rfl) T.c_HALF)) (My.pe_ci (by rfl) T.c_ADLER_MODULUS) (nomark _)) (pe_one (pe_cmpR op_lt (pe_op op_fdiv (pv 1) (My.pe_ci (by rfl) T.c_HALF)) (My.pe_ci (by rfl) T.c_ADLER_MODULUS) (nomark _))))))) pss_nil)
      (pss_one (ps_ret (pe_chain op_le op_le pe_int (pv 1) (My.pe_tc (by rfl) T.t_ALL_BITS (pv 0) (fun _ _ => rfl))))))), ?_⟩
    have h0 : (decide ((0 : Int) ≤ (s : Int))) = true := decide_eq_true (by omega)
    refine ⟨_, rfl, rfl, _, rfl, My.ite2b (fun e => ?_) (fun e => ?_)⟩
    · have e1 : k = 2 := V.int.inj (of_decide_eq_true e)
      subst e1
      cases hk
      refine ⟨_, rfl, _, _, rfl, rfl, _, rfl, ?_⟩
      rw [if_pos h0]
      refine ⟨_, _, rfl, rfl, My.q_bl q ?_⟩
      show _ = decide (s < 131072)
      exact decide_eq_decide.mpr (by omega)
    · have n2 : ¬ k = 2 := fun z => of_decide_eq_false e (congrArg V.int z)
      refine ⟨_, rfl, rfl, _, rfl, My.ite2b (fun e => ?_) (fun e => ?_)⟩
      · have e1 : k = 3 := V.int.inj (of_decide_eq_true e)
        subst e1
        cases hk
        refine ⟨_, rfl, _, _, rfl, rfl, _, rfl, ?_⟩
        rw [if_pos h0]
        obtain ⟨cc, hc, ht, hf⟩ := My.dec_ex ((s : Int) % 65536 < 65521)
        refine ⟨_, rfl, _, _, rfl, rfl, My.pos_lit (by decide), _, _, rfl, rfl, cc, congrArg V.bl hc, ?_⟩
        cases cc with
        | true =>
          have e1 := ht rfl
          refine iteT ?_
          refine ⟨_, rfl, _, _, rfl, rfl, ⟨by decide, by decide⟩, _, _, rfl, rfl, My.q_bl q ?_⟩
          show _ = (decide (s % 65536 < 65521) && decide (s / 65536 < 65521))
          rw [decide_eq_true (show s % 65536 < 65521 by omega), Bool.true_and]
          exact decide_eq_decide.mpr (by omega)
        | false =>
          have e1 := hf rfl
          refine iteF ?_
          refine My.q_bl q ?_
          show _ = (decide (s % 65536 < 65521) && decide (s / 65536 < 65521))
          rw [decide_eq_false (show ¬ s % 65536 < 65521 by omega), Bool.false_and]
      · have n3 : ¬ k = 3 := fun z => of_decide_eq_false e (congrArg V.int z)
        have hp : ∃ p, x = .crc p := by
          rcases Ms.kind_some hk with ⟨e, z⟩ | ⟨e, z⟩ | ⟨e, z⟩ | ⟨e, z⟩
          · exact ⟨_, z⟩
          · exact ⟨_, z⟩
          · exact absurd e n2
          · exact absurd e n3
        obtain ⟨p, rfl⟩ := hp
        refine ⟨_, rfl, _, _, rfl, rfl, _, rfl, ?_⟩
        rw [if_pos h0]
        refine ⟨_, rfl, k, _, rfl, ones_at hk, _, _, rfl, rfl, My.q_bl q ?_⟩
        show _ = decide (s < 2 ^ p.bits)
        refine decide_eq_decide.mpr ?_
        have h1 : p.ones + 1 = 2 ^ p.bits := Nat.sub_add_cancel (Nat.one_le_two_pow)
        omega
def sp_add (K : PySem.W.Frag) : Sp := fun vs H Q _ => ∃ (k : Int) (s : Nat) (a : Addr) (b : Sf81.Bytes), vs = [.int k, .int s, .ref a] ∧ SqL K H a (b.map bV) ∧ ∀ (H' : Hp) (p : Addr), H' p = some (.lst ((Sf81Neutral.listOf (Sf81.does (.add k s b))).map V.int)) → Q (.ref p) H'
theorem ok_add {f : Addr} {fd : FuncData} (F : Fun K "add" "add" s_add f fd) (T : Txt K mg) (C_state_behind : My.Cal P w K mg base 4 "state_behind" ["k", "s", "text"] (sp_state_behind K)) (C_is_kind : My.Cal P w K mg base 1 "is_kind" ["k"] (sp_is_kind K)) (C_is_state : My.Cal P w K mg base 1 "is_state" ["k", "s"] (sp_is_state K)) : FnOk P w K mg base CX0 5 f fd ["k", "s", "text"] (sp_add K) := by
  refine F.ok sc_add (fun vs H Q E h => ?_) (fun cdv A outer s H vs Q E hr h => ?_)
  · obtain ⟨k, s, a, b, rfl, hS, q⟩ := h
    rfl
  · obtain ⟨k, s, a, b, rfl, hS, q⟩ := h
    refine ⟨_, (pss_cons (ps_if (PW.pt (pw_or (pt_not (pt_val (My.pe_cal C_is_kind (hr.mono (by decide)) (by rfl) (pa_cons (pv 0) pa_nil)))) (pw_or (pt_not (pt_val (My.pe_cal C_is_state (hr.mono (by decide)) (by rfl) (pa_cons (pv 0) (pa_cons (pv 1) pa_nil))))) (pw_or1 (pt_cmpR op_gt (pe_callB call_len_seq (by rfl) T.b_len PySem.boot_len (pa_cons (pv 2) pa_nil)) (My.pe_ci (by rfl) T.c_LONGEST_TEXT) (nomark _)))))) (pss_one (ps_ret (pe_lst (pa_cons (pe_un un_neg pe_int) pa_nil)))) pss_nil)
      (pss_one (ps_ret (pe_lst (pa_cons pe_int (pa_cons (My.pe_cal C_state_behind (hr.mono (by decide)) (by rfl) (pa_cons (pv 0) (pa_cons (pv 1) (pa_cons (pv 2) pa_nil)))) pa_nil)))))), ?_⟩
    refine ⟨_, rfl, k, rfl, _, rfl, ?_⟩
    cases e : Sf81.kindOf k with
    | none =>
      refine iteT (iteT ⟨1, rfl, My.one_ok, fun p hp => q _ p ?_⟩)
      have z : Sf81.does (.add k s b) = Sf81.says (-1) := Ms.ofKind_none e
      rw [z]
      exact neg1
    | some x =>
      refine iteF ⟨_, rfl, _, rfl, k, x, s, rfl, e, _, rfl, ?_⟩
      cases e2 : x.ok s with
      | false =>
        refine iteT (iteT ⟨1, rfl, My.one_ok, fun p hp => q _ p ?_⟩)
        have z : Sf81.does (.add k s b) = Sf81.says (-1) := by
          refine (Ms.ofKind_some e).trans ?_
          show (if x.ok s = true ∧ b.length ≤ Sf81.MOST then _ else _) = _
          rw [if_neg (by rw [e2]; exact fun z => Bool.false_ne_true z.1)]
        rw [z]
        exact neg1
      | true =>
        refine iteF ⟨_, rfl, a, _, rfl, .inl hS, _, _, rfl, rfl, _, rfl, My.ite2b (fun e3 => ?_) (fun e3 => ?_)⟩
        · have e4 := of_decide_eq_true e3
          rw [List.length_map] at e4
          refine ⟨1, rfl, My.one_ok, fun p hp => q _ p ?_⟩
          have z : Sf81.does (.add k s b) = Sf81.says (-1) := by
            refine (Ms.ofKind_some e).trans ?_
            show (if x.ok s = true ∧ b.length ≤ Sf81.MOST then _ else _) = _
            rw [if_neg (fun z => absurd z.2 (by show ¬ b.length ≤ 65536; omega))]
          rw [z]
          exact neg1
        · have e4 := of_decide_eq_false e3
          rw [List.length_map] at e4
          refine ⟨_, rfl, _, rfl, _, rfl, k, x, s, a, b, rfl, e, e2, hS, My.two_ok, fun p hp => q _ p ?_⟩
          have z : Sf81.does (.add k s b) = ⟨0, [x.add s b]⟩ := by
            refine (Ms.ofKind_some e).trans ?_
            show (if x.ok s = true ∧ b.length ≤ Sf81.MOST then _ else _) = _
            rw [if_pos ⟨e2, by show b.length ≤ 65536; omega⟩]
          rw [z]
          exact upd_same
end
theorem all_mk {P : Program} {w : World} {K : PySem.W.Frag} {h : Heap} {mg : Str → Option Value} {fa f0 f1 f2 f3 f4 f5 f6 f7 f8 f9 a_FEEDBACK a_ALL_BITS : Addr} {od0 an0 od1 an1 od2 an2 od3 an3 od4 an4 od5 an5 od6 an6 od7 an7 od8 an8 od9 an9 d_FEEDBACK d_ALL_BITS : Option Addr} {sl0 sl1 sl2 sl3 sl4 sl5 sl6 sl7 sl8 sl9 x_FEEDBACK x_ALL_BITS : Array (Option Value)} {oc0 kV0 dc0 pm0 cd0 ct0 oc1 kV1 dc1 pm1 cd1 ct1 oc2 kV2 dc2 pm2 cd2 ct2 oc3 kV3 dc3 pm3 cd3 ct3 oc4 kV4 dc4 pm4 cd4 ct4 oc5 kV5 dc5 pm5 cd5 ct5 oc6 kV6 dc6 pm6 cd6 ct6 oc7 kV7 dc7 pm7 cd7 ct7 oc8 kV8 dc8 pm8 cd8 ct8 oc9 kV9 dc9 pm9 cd9 ct9 : Value} {t_ONES t_ADLER t_HIGHEST_KIND t_HALF t_ONES_MODULUS t_ONES_HIGHEST_STATE t_ADLER_MODULUS t_LONGEST_TEXT : Nat} {s_FEEDBACK s_ALL_BITS : Array Value} {n_FEEDBACK n_ALL_BITS : Nat} (X : K.In h) (G : h.Ns mainGlobals mg) (hfa : mg "add" = some (.ref fa))
    (a0 : PySem.W.nsIn K mainGlobals "one_bit_on" = some (some (.ref f0))) (l0 : K.lookup f0 = some ⟨oc0, od0, .func (PySem.W.fnOf "one_bit_on" "one_bit_on" (defArgs s_one_bit_on) (defBody s_one_bit_on) (defScope s_one_bit_on) .none kV0 dc0 pm0 an0 cd0 ct0), sl0⟩) (c0 : PySem.W.codeIn K cd0 "one_bit_on" = true) (k0 : PySem.W.keepIn K (.ref f0) = true)
    (a1 : PySem.W.nsIn K mainGlobals "eight_bits_on" = some (some (.ref f1))) (l1 : K.lookup f1 = some ⟨oc1, od1, .func (PySem.W.fnOf "eight_bits_on" "eight_bits_on" (defArgs s_eight_bits_on) (defBody s_eight_bits_on) (defScope s_eight_bits_on) .none kV1 dc1 pm1 an1 cd1 ct1), sl1⟩) (c1 : PySem.W.codeIn K cd1 "eight_bits_on" = true) (k1 : PySem.W.keepIn K (.ref f1) = true)
    (a2 : PySem.W.nsIn K mainGlobals "bits_behind" = some (some (.ref f2))) (l2 : K.lookup f2 = some ⟨oc2, od2, .func (PySem.W.fnOf "bits_behind" "bits_behind" (defArgs s_bits_behind) (defBody s_bits_behind) (defScope s_bits_behind) .none kV2 dc2 pm2 an2 cd2 ct2), sl2⟩) (c2 : PySem.W.codeIn K cd2 "bits_behind" = true) (k2 : PySem.W.keepIn K (.ref f2) = true)
    (a3 : PySem.W.nsIn K mainGlobals "ones_number" = some (some (.ref f3))) (l3 : K.lookup f3 = some ⟨oc3, od3, .func (PySem.W.fnOf "ones_number" "ones_number" (defArgs s_ones_number) (defBody s_ones_number) (defScope s_ones_number) .none kV3 dc3 pm3 an3 cd3 ct3), sl3⟩) (c3 : PySem.W.codeIn K cd3 "ones_number" = true) (k3 : PySem.W.keepIn K (.ref f3) = true)
    (a4 : PySem.W.nsIn K mainGlobals "ones_behind" = some (some (.ref f4))) (l4 : K.lookup f4 = some ⟨oc4, od4, .func (PySem.W.fnOf "ones_behind" "ones_behind" (defArgs s_ones_behind) (defBody s_ones_behind) (defScope s_ones_behind) .none kV4 dc4 pm4 an4 cd4 ct4), sl4⟩) (c4 : PySem.W.codeIn K cd4 "ones_behind" = true) (k4 : PySem.W.keepIn K (.ref f4) = true)
    (a5 : PySem.W.nsIn K mainGlobals "adler_behind" = some (some (.ref f5))) (l5 : K.lookup f5 = some ⟨oc5, od5, .func (PySem.W.fnOf "adler_behind" "adler_behind" (defArgs s_adler_behind) (defBody s_adler_behind) (defScope s_adler_behind) .none kV5 dc5 pm5 an5 cd5 ct5), sl5⟩) (c5 : PySem.W.codeIn K cd5 "adler_behind" = true) (k5 : PySem.W.keepIn K (.ref f5) = true)
    (a6 : PySem.W.nsIn K mainGlobals "state_behind" = some (some (.ref f6))) (l6 : K.lookup f6 = some ⟨oc6, od6, .func (PySem.W.fnOf "state_behind" "state_behind" (defArgs s_state_behind) (defBody s_state_behind) (defScope s_state_behind) .none kV6 dc6 pm6 an6 cd6 ct6), sl6⟩) (c6 : PySem.W.codeIn K cd6 "state_behind" = true) (k6 : PySem.W.keepIn K (.ref f6) = true)
    (a7 : PySem.W.nsIn K mainGlobals "is_kind" = some (some (.ref f7))) (l7 : K.lookup f7 = some ⟨oc7, od7, .func (PySem.W.fnOf "is_kind" "is_kind" (defArgs s_is_kind) (defBody s_is_kind) (defScope s_is_kind) .none kV7 dc7 pm7 an7 cd7 ct7), sl7⟩) (c7 : PySem.W.codeIn K cd7 "is_kind" = true) (k7 : PySem.W.keepIn K (.ref f7) = true)
    (a8 : PySem.W.nsIn K mainGlobals "is_state" = some (some (.ref f8))) (l8 : K.lookup f8 = some ⟨oc8, od8, .func (PySem.W.fnOf "is_state" "is_state" (defArgs s_is_state) (defBody s_is_state) (defScope s_is_state) .none kV8 dc8 pm8 an8 cd8 ct8), sl8⟩) (c8 : PySem.W.codeIn K cd8 "is_state" = true) (k8 : PySem.W.keepIn K (.ref f8) = true)
    (a9 : PySem.W.nsIn K mainGlobals "add" = some (some (.ref f9))) (l9 : K.lookup f9 = some ⟨oc9, od9, .func (PySem.W.fnOf "add" "add" (defArgs s_add) (defBody s_add) (defScope s_add) .none kV9 dc9 pm9 an9 cd9 ct9), sl9⟩) (c9 : PySem.W.codeIn K cd9 "add" = true) (k9 : PySem.W.keepIn K (.ref f9) = true)
    (i_ONES : PySem.W.nsIn K mainGlobals "ONES" = some (some (.int (2) t_ONES)))
    (i_ADLER : PySem.W.nsIn K mainGlobals "ADLER" = some (some (.int (3) t_ADLER)))
    (i_HIGHEST_KIND : PySem.W.nsIn K mainGlobals "HIGHEST_KIND" = some (some (.int (3) t_HIGHEST_KIND)))
    (i_HALF : PySem.W.nsIn K mainGlobals "HALF" = some (some (.int (65536) t_HALF)))
    (i_ONES_MODULUS : PySem.W.nsIn K mainGlobals "ONES_MODULUS" = some (some (.int (65535) t_ONES_MODULUS)))
    (i_ONES_HIGHEST_STATE : PySem.W.nsIn K mainGlobals "ONES_HIGHEST_STATE" = some (some (.int (131071) t_ONES_HIGHEST_STATE)))
    (i_ADLER_MODULUS : PySem.W.nsIn K mainGlobals "ADLER_MODULUS" = some (some (.int (65521) t_ADLER_MODULUS)))
    (i_LONGEST_TEXT : PySem.W.nsIn K mainGlobals "LONGEST_TEXT" = some (some (.int (65536) t_LONGEST_TEXT)))
    (g_FEEDBACK : PySem.W.nsIn K mainGlobals "FEEDBACK" = some (some (.ref a_FEEDBACK))) (u_FEEDBACK : K.lookup a_FEEDBACK = some ⟨.type "tuple", d_FEEDBACK, .seq s_FEEDBACK n_FEEDBACK, x_FEEDBACK⟩) (v_FEEDBACK : s_FEEDBACK.size ≤ sizeLine ∧ Vals [.int 2197175160, .int 14514072000185962306] s_FEEDBACK.toList)
    (g_ALL_BITS : PySem.W.nsIn K mainGlobals "ALL_BITS" = some (some (.ref a_ALL_BITS))) (u_ALL_BITS : K.lookup a_ALL_BITS = some ⟨.type "tuple", d_ALL_BITS, .seq s_ALL_BITS n_ALL_BITS, x_ALL_BITS⟩) (v_ALL_BITS : s_ALL_BITS.size ≤ sizeLine ∧ Vals [.int 4294967295, .int 18446744073709551615] s_ALL_BITS.toList)
    (z_range : PySem.W.nsIn K mainGlobals "range" = some none)
    (z_len : PySem.W.nsIn K mainGlobals "len" = some none) :
    ∃ fd : FuncData, (∀ (s : Shared) (us : List Value), us.length = (["k", "s", "text"] : List Str).length → BindsTo s fd ⟨us, []⟩ ((["k", "s", "text"] : List Str).zip us)) ∧ ∀ base : Heap, K.In base → base.Ns mainGlobals mg → FnOk P w K mg base CX0 5 fa fd ["k", "s", "text"] (sp_add K) := by
  have e := hfa.symm.trans (PySem.W.mg_of X G a9)
  cases e
  have T : Txt K mg := ⟨trivial, ⟨_, PySem.W.mg_of X G i_ONES⟩, ⟨_, PySem.W.mg_of X G i_ADLER⟩, ⟨_, PySem.W.mg_of X G i_HIGHEST_KIND⟩, ⟨_, PySem.W.mg_of X G i_HALF⟩, ⟨_, PySem.W.mg_of X G i_ONES_MODULUS⟩, ⟨_, PySem.W.mg_of X G i_ONES_HIGHEST_STATE⟩, ⟨_, PySem.W.mg_of X G i_ADLER_MODULUS⟩, ⟨_, PySem.W.mg_of X G i_LONGEST_TEXT⟩, ⟨_, PySem.W.mg_of X G g_FEEDBACK, fun H => .inr ⟨_, _, _, u_FEEDBACK, rfl, rfl, v_FEEDBACK.1, v_FEEDBACK.2⟩⟩, ⟨_, PySem.W.mg_of X G g_ALL_BITS, fun H => .inr ⟨_, _, _, u_ALL_BITS, rfl, rfl, v_ALL_BITS.1, v_ALL_BITS.2⟩⟩, PySem.W.mg_none_of X G z_range, PySem.W.mg_none_of X G z_len⟩
  have F0 := fun_mk (st := s_one_bit_on) l0 c0 k0
  have b0 := F0.binds (ps := ["x", "feedback"]) fun _ _ _ _ _ _ us hl => match us, hl with | [_, _], _ => rfl
  have F1 := fun_mk (st := s_eight_bits_on) l1 c1 k1
  have b1 := F1.binds (ps := ["x", "feedback"]) fun _ _ _ _ _ _ us hl => match us, hl with | [_, _], _ => rfl
  have F2 := fun_mk (st := s_bits_behind) l2 c2 k2
  have b2 := F2.binds (ps := ["k", "s", "text"]) fun _ _ _ _ _ _ us hl => match us, hl with | [_, _, _], _ => rfl
  have F3 := fun_mk (st := s_ones_number) l3 c3 k3
  have b3 := F3.binds (ps := ["total"]) fun _ _ _ _ _ _ us hl => match us, hl with | [_], _ => rfl
  have F4 := fun_mk (st := s_ones_behind) l4 c4 k4
  have b4 := F4.binds (ps := ["s", "text"]) fun _ _ _ _ _ _ us hl => match us, hl with | [_, _], _ => rfl
  have F5 := fun_mk (st := s_adler_behind) l5 c5 k5
  have b5 := F5.binds (ps := ["s", "text"]) fun _ _ _ _ _ _ us hl => match us, hl with | [_, _], _ => rfl
  have F6 := fun_mk (st := s_state_behind) l6 c6 k6
  have b6 := F6.binds (ps := ["k", "s", "text"]) fun _ _ _ _ _ _ us hl => match us, hl with | [_, _, _], _ => rfl
  have F7 := fun_mk (st := s_is_kind) l7 c7 k7
  have b7 := F7.binds (ps := ["k"]) fun _ _ _ _ _ _ us hl => match us, hl with | [_], _ => rfl
  have F8 := fun_mk (st := s_is_state) l8 c8 k8
  have b8 := F8.binds (ps := ["k", "s"]) fun _ _ _ _ _ _ us hl => match us, hl with | [_, _], _ => rfl
  have F9 := fun_mk (st := s_add) l9 c9 k9
  have b9 := F9.binds (ps := ["k", "s", "text"]) fun _ _ _ _ _ _ us hl => match us, hl with | [_, _, _], _ => rfl
  refine ⟨PySem.W.fnOf "add" "add" (defArgs s_add) (defBody s_add) (defScope s_add) .none kV9 dc9 pm9 an9 cd9 ct9, fun s us hu => match us, hu with | [_, _, _], _ => .of_eq rfl, fun base _ _ => ?_⟩
  have C0 : My.Cal P w K mg base 1 "one_bit_on" ["x", "feedback"] (sp_one_bit_on K) := ⟨_, _, ok_one_bit_on F0 T, PySem.W.mg_of X G a0, k0, b0⟩
  have C1 : My.Cal P w K mg base 2 "eight_bits_on" ["x", "feedback"] (sp_eight_bits_on K) := ⟨_, _, ok_eight_bits_on F1 T C0, PySem.W.mg_of X G a1, k1, b1⟩
  have C2 : My.Cal P w K mg base 3 "bits_behind" ["k", "s", "text"] (sp_bits_behind K) := ⟨_, _, ok_bits_behind F2 T C1, PySem.W.mg_of X G a2, k2, b2⟩
  have C3 : My.Cal P w K mg base 1 "ones_number" ["total"] (sp_ones_number K) := ⟨_, _, ok_ones_number F3 T, PySem.W.mg_of X G a3, k3, b3⟩
  have C4 : My.Cal P w K mg base 2 "ones_behind" ["s", "text"] (sp_ones_behind K) := ⟨_, _, ok_ones_behind F4 T C3, PySem.W.mg_of X G a4, k4, b4⟩
  have C5 : My.Cal P w K mg base 1 "adler_behind" ["s", "text"] (sp_adler_behind K) := ⟨_, _, ok_adler_behind F5 T, PySem.W.mg_of X G a5, k5, b5⟩
  have C6 : My.Cal P w K mg base 4 "state_behind" ["k", "s", "text"] (sp_state_behind K) := ⟨_, _, ok_state_behind F6 T C2 C4 C5, PySem.W.mg_of X G a6, k6, b6⟩
  have C7 : My.Cal P w K mg base 1 "is_kind" ["k"] (sp_is_kind K) := ⟨_, _, ok_is_kind F7 T, PySem.W.mg_of X G a7, k7, b7⟩
  have C8 : My.Cal P w K mg base 1 "is_state" ["k", "s"] (sp_is_state K) := ⟨_, _, ok_is_state F8 T, PySem.W.mg_of X G a8, k8, b8⟩
  exact ok_add F9 T C6 C7 C8
end My
open PySem PySem.W PyProof.Rows
set_option maxRecDepth 100000 in
set_option maxHeartbeats 8000000 in
theorem PySem.Challenge.cw_damagesums_s02_add_holds : PySem.Challenge.rw_damagesums_s02_add.Holds := by
  w_on; k_headS; (case hw => exact ⟨[.int 0, .int 0, .list []], by decide +kernel, by decide +kernel⟩)
  k_fillS
  refine L2.walk_specK (r := PySem.Challenge.rw_damagesums_s02_add) (k := 5) (CX := L2.CX0) (ps := ["k", "s", "text"]) (sp := My.sp_add) (by decide +kernel) rfl rfl ⟨rfl, by decide, by decide⟩ (fun w h Y => PySem.W.kIn_of Y) ?F ?S (fun _ _ _ _ z => z)
  case F =>
    intro w mg fa h Y KX G hmg
    refine' My.all_mk KX G hmg ?a0 ?l0 ?c0 ?k0 ?a1 ?l1 ?c1 ?k1 ?a2 ?l2 ?c2 ?k2 ?a3 ?l3 ?c3 ?k3 ?a4 ?l4 ?c4 ?k4 ?a5 ?l5 ?c5 ?k5 ?a6 ?l6 ?c6 ?k6 ?a7 ?l7 ?c7 ?k7 ?a8 ?l8 ?c8 ?k8 ?a9 ?l9 ?c9 ?k9 ?i_ONES ?i_ADLER ?i_HIGHEST_KIND ?i_HALF ?i_ONES_MODULUS ?i_ONES_HIGHEST_STATE ?i_ADLER_MODULUS ?i_LONGEST_TEXT ?g_FEEDBACK ?u_FEEDBACK ?v_FEEDBACK ?g_ALL_BITS ?u_ALL_BITS ?v_ALL_BITS ?z_range ?z_len
    (case a0 => k_is)
    (case l0 => k_is)
    (case c0 => k_is)
    (case k0 => k_is)
    (case a1 => k_is)
    (case l1 => k_is)
    (case c1 => k_is)
    (case k1 => k_is)
    (case a2 => k_is)
    (case l2 => k_is)
    (case c2 => k_is)
    (case k2 => k_is)
    (case a3 => k_is)
    (case l3 => k_is)
    (case c3 => k_is)
    (case k3 => k_is)
    (case a4 => k_is)
    (case l4 => k_is)
    (case c4 => k_is)
    (case k4 => k_is)
    (case a5 => k_is)
    (case l5 => k_is)
    (case c5 => k_is)
    (case k5 => k_is)
    (case a6 => k_is)
    (case l6 => k_is)
    (case c6 => k_is)
    (case k6 => k_is)
    (case a7 => k_is)
    (case l7 => k_is)
    (case c7 => k_is)
    (case k7 => k_is)
    (case a8 => k_is)
    (case l8 => k_is)
    (case c8 => k_is)
    (case k8 => k_is)
    (case a9 => k_is)
    (case l9 => k_is)
    (case c9 => k_is)
    (case k9 => k_is)
    (case i_ONES => k_is)
    (case i_ADLER => k_is)
    (case i_HIGHEST_KIND => k_is)
    (case i_HALF => k_is)
    (case i_ONES_MODULUS => k_is)
    (case i_ONES_HIGHEST_STATE => k_is)
    (case i_ADLER_MODULUS => k_is)
    (case i_LONGEST_TEXT => k_is)
    (case g_FEEDBACK => k_is)
    (case u_FEEDBACK => k_is)
    (case v_FEEDBACK => exact ⟨by decide, (.cons ⟨_, rfl⟩ (.cons ⟨_, rfl⟩ .nil))⟩)
    (case g_ALL_BITS => k_is)
    (case u_ALL_BITS => k_is)
    (case v_ALL_BITS => exact ⟨by decide, (.cons ⟨_, rfl⟩ (.cons ⟨_, rfl⟩ .nil))⟩)
    (case z_range => k_is)
    (case z_len => k_is)
  case S =>
    intro K H xs a hO hwi hask hx
    obtain ⟨k, s, t, u⟩ := a
    cases hx with
    | cons h1 hx =>
      cases hx with
      | cons h2 hx =>
        cases hx with
        | cons h3 hx =>
          cases hx
          have e1 := My.int_dw h1
          have e2 := My.int_dw h2
          subst e1 e2
          obtain ⟨ad, rfl, hS⟩ := My.list_dw h3
          have q : (Codec.inInt (-2147483648) 2147483647 k && (Codec.inInt 0 18446744073709551615 s && ((Codec.inLen 0 66000 t && t.all (Codec.inInt 0 255)) && true))) = true := hwi
          rw [Bool.and_eq_true, Bool.and_eq_true, Bool.and_eq_true] at q
          have hs := My.inInt_iff q.2.1
          obtain ⟨hl, hb⟩ := My.bytes_of q.2.2.1
          rw [hb] at hS
          have es : s = ((s.toNat : Nat) : Int) := (Int.toNat_of_nonneg hs.1).symm
          refine ⟨k, s.toNat, ad, Sf81Neutral.bs t, ?_, hS, fun H' p hp => .lst (L2.SqL.of hp) (L2.dw_ints _)⟩
          rw [← es]
#print axioms PySem.Challenge.cw_damagesums_s02_add_holds
