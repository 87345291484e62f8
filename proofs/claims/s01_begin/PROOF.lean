import PyProof.Rows.All
import Wide.All
import OpenK.AllK
import Wide.FinOn
import Open.SpecLaws
import KE.OsGo
import HandS.ForSpec
import HandS.Text
import PySem.Challenge.RW_damagesums_s01_begin
set_option Elab.async false
set_option linter.all false
set_option maxRecDepth 100000
set_option maxHeartbeats 2000000
namespace Ms
open Sf81
/-! ### bits -/
def bit1 (f x : Nat) : Nat := if x % 2 = 1 then x / 2 ^^^ f else x / 2
theorem on_succ (p : Poly) (n x : Nat) : p.on (n + 1) x = p.on n (bit1 p.fall x) := rfl
theorem on_last (p : Poly) : ∀ n x : Nat, p.on (n + 1) x = bit1 p.fall (p.on n x)
  | 0, _ => rfl
  | n + 1, x => by
    rw [on_succ p (n + 1) x, on_last p n (bit1 p.fall x)]
    rfl
/-! ### lists: one item more -/
theorem take_more {α : Type} {l : List α} {i : Nat} {x : α} (h : l[i]? = some x) : l.take (i + 1) = l.take i ++ [x] := by
  rw [List.take_add_one, h]
  rfl
theorem fold_more {α β : Type} {f : β → α → β} {z : β} {l : List α} {i : Nat} {x : α} (h : l[i]? = some x) : (l.take (i + 1)).foldl f z = f ((l.take i).foldl f z) x := by
  rw [take_more h, List.foldl_append]
  rfl
theorem get_map {α β : Type} {f : α → β} {l : List α} {i : Nat} {y : β} (h : (l.map f)[i]? = some y) : ∃ x, l[i]? = some x ∧ y = f x := by
  rw [List.getElem?_map] at h
  cases e : l[i]? with
  | none =>
    rw [e] at h
    cases h
  | some x =>
    rw [e] at h
    exact ⟨x, rfl, (Option.some.inj h).symm⟩
/-! ### bytes as ints -/
abbrev bi (c : UInt8) : Int := (c.toNat : Int)
theorem bs_back : ∀ {l : List Int}, (∀ z ∈ l, 0 ≤ z ∧ z ≤ 255) → l = (Sf81Neutral.bs l).map bi
  | [], _ => rfl
  | z :: r, h => by
    have h1 := h z (List.mem_cons_self ..)
    have h2 := bs_back (l := r) fun y hy => h y (List.mem_cons_of_mem _ hy)
    have e : z = bi (UInt8.ofNat z.toNat) := by
      show z = (((UInt8.ofNat z.toNat).toNat : Nat) : Int)
      rw [UInt8.toNat_ofNat']
      omega
    show z :: r = bi (UInt8.ofNat z.toNat) :: (Sf81Neutral.bs r).map bi
    rw [← e, ← h2]
theorem bs_length (l : List Int) : (Sf81Neutral.bs l).length = l.length := by
  unfold Sf81Neutral.bs
  exact List.length_map _
/-! ### kinds -/
theorem kind_some {k : Int} {x : Kind} (h : kindOf k = some x) : (k = 0 ∧ x = .crc CRC32) ∨ (k = 1 ∧ x = .crc CRC64) ∨ (k = 2 ∧ x = .ones) ∨ (k = 3 ∧ x = .adler) := by
  unfold kindOf at h
  split at h
  · exact .inl ⟨by assumption, (Option.some.inj h).symm⟩
  · split at h
    · exact .inr (.inl ⟨by assumption, (Option.some.inj h).symm⟩)
    · split at h
      · exact .inr (.inr (.inl ⟨by assumption, (Option.some.inj h).symm⟩))
      · split at h
        · exact .inr (.inr (.inr ⟨by assumption, (Option.some.inj h).symm⟩))
        · cases h
theorem kind_is {k : Int} (h0 : 0 ≤ k) (h3 : k ≤ 3) : ∃ x, kindOf k = some x := by
  have h : k = 0 ∨ k = 1 ∨ k = 2 ∨ k = 3 := by omega
  rcases h with rfl | rfl | rfl | rfl
  · exact ⟨_, rfl⟩
  · exact ⟨_, rfl⟩
  · exact ⟨_, rfl⟩
  · exact ⟨_, rfl⟩
theorem kind_none {k : Int} (h : ¬ (0 ≤ k ∧ k ≤ 3)) : kindOf k = none := by
  unfold kindOf
  rw [if_neg (by omega), if_neg (by omega), if_neg (by omega), if_neg (by omega)]
theorem kind_bool (k : Int) : (kindOf k).isSome = decide (0 ≤ k ∧ k ≤ 3) := by
  by_cases h : 0 ≤ k ∧ k ≤ 3
  · obtain ⟨x, e⟩ := kind_is h.1 h.2
    rw [e, decide_eq_true h]
    rfl
  · rw [kind_none h, decide_eq_false h]
    rfl
theorem ofKind_none {k : Int} {f : Kind → Ans} (h : kindOf k = none) : ofKind k f = says (-1) := by
  unfold ofKind
  rw [h]
theorem ofKind_some {k : Int} {x : Kind} {f : Kind → Ans} (h : kindOf k = some x) : ofKind k f = f x := by
  unfold ofKind
  rw [h]
/-! ### the ones' complement sum, byte by byte -/
def wstep (x : Nat × Bool) (c : UInt8) : Nat × Bool := (x.1 + (if x.2 = true then c.toNat else 256 * c.toNat), !x.2)
def wst (odd : Bool) (b : Bytes) : Nat × Bool := b.foldl wstep (0, odd)
theorem wst_sum (odd : Bool) (b : Bytes) : wordsSum odd b = (wst odd b).1 := rfl
theorem wst_more {odd : Bool} {b : Bytes} {i : Nat} {c : UInt8} (h : b[i]? = some c) : wst odd (b.take (i + 1)) = wstep (wst odd (b.take i)) c := fold_more h
theorem wfold_odd : ∀ (b : Bytes) (z : Nat × Bool), (b.foldl wstep z).2 = (if b.length % 2 = 0 then z.2 else !z.2)
  | [], _ => rfl
  | c :: r, z => by
    show (r.foldl wstep (wstep z c)).2 = _
    rw [wfold_odd r, List.length_cons]
    show (if r.length % 2 = 0 then !z.2 else !!z.2) = _
    by_cases h : r.length % 2 = 0
    · rw [if_pos h, if_neg (by omega)]
    · rw [if_neg h, if_pos (by omega), Bool.not_not]
def b2n (b : Bool) : Nat := if b = true then 1 else 0
theorem wst_odd {m : Nat} (hm : m ≤ 1) (b : Bytes) : b2n (wst (m == 1) b).2 = (m + b.length) % 2 := by
  have e := wfold_odd b (0, (m == 1))
  unfold wst
  rw [e]
  have h : m = 0 ∨ m = 1 := by omega
  rcases h with rfl | rfl
  · by_cases q : b.length % 2 = 0
    · rw [if_pos q]
      show 0 = _
      omega
    · rw [if_neg q]
      show 1 = _
      omega
  · by_cases q : b.length % 2 = 0
    · rw [if_pos q]
      show 1 = _
      omega
    · rw [if_neg q]
      show 0 = _
      omega
/-! ### Adler-32, byte by byte -/
def astep (x : Nat × Nat) (c : UInt8) : Nat × Nat := ((x.1 + c.toNat) % MOD, (x.2 + x.1 + c.toNat) % MOD)
def ast (z : Nat × Nat) (b : Bytes) : Nat × Nat := b.foldl astep z
theorem ast_more {z : Nat × Nat} {b : Bytes} {i : Nat} {c : UInt8} (h : b[i]? = some c) : ast z (b.take (i + 1)) = astep (ast z (b.take i)) c := fold_more h
/-! ### one bit after another over bytes -/
def rstep (p : Poly) (x : Nat) (c : UInt8) : Nat := p.on 8 (x ^^^ c.toNat)
theorem raw_more {p : Poly} {x : Nat} {b : Bytes} {i : Nat} {c : UInt8} (h : b[i]? = some c) : p.raw x (b.take (i + 1)) = rstep p (p.raw x (b.take i)) c := fold_more h
theorem begin_ok {k : Int} {x : Kind} (h : kindOf k = some x) : x.ok x.begin_ = true := by
  rcases kind_some h with ⟨_, rfl⟩ | ⟨_, rfl⟩ | ⟨_, rfl⟩ | ⟨_, rfl⟩
  · decide
  · decide
  · decide
  · decide
theorem ones_lt (p : Poly) : p.ones < 2 ^ p.bits := Nat.sub_lt (Nat.two_pow_pos _) (by decide)
theorem b2n_one {m : Nat} (h : m ≤ 1) : b2n (m == 1) = m := by
  have e : m = 0 ∨ m = 1 := by omega
  rcases e with rfl | rfl
  · rfl
  · rfl
end Ms
namespace My
open PySem PySem.Spec PyProof.Rows L2
open PySem.W (Codec WData)
/-! ### a def that is called by its name -/
structure Cal (P : Program) (w : World) (K : PySem.W.Frag) (mg : Str → Option Value) (base : Heap) (k : Nat) (x : Str) (ps : List Str) (sp : Sp) : Prop where
  ex : ∃ f fd, FnOk P w K mg base CX0 k f fd ps sp ∧ mg x = some (.ref f) ∧ PySem.W.keepIn K (.ref f) = true ∧ Binds K fd ps []
theorem pe_cal {X : Cx} {k : Nat} {x : Str} {ps : List Str} {sp : Sp} {p pos : Pos} {e : Expr} {es : List Expr} {t : TA} (C : Cal X.prog X.w X.K X.mg X.base k x ps sp) (hr : Room k X.A) (hg : Gl X x) (ha : PA X (e :: es) t)
    (hdb : (x == ("__debug__" : Str)) = false := by decide) (he : starEach (e :: es) X.env = (false, eval e X.env) :: starEach es X.env := by rfl) (hpl : (backTo pos (starEach es X.env)).any (·.1) = false := by rfl) :
    PE X (.Call (.Name x p) (e :: es) [] pos) (tCall sp [] E0 t) := by
  obtain ⟨f, fd, F, hm, hk, hb⟩ := C.ex
  exact pe_call F hr hg hm hk hb .nil pass0 ha hdb he hpl
/-! ### constants of the top -/
theorem pe_ci {X : Cx} {x : Str} {i : Int} {pos : Pos} (hg : Gl X x) (h : ∃ t, X.mg x = some (.int i t)) (hd : (x == ("__debug__" : Str)) = false := by decide) : PE X (.Name x pos) (tC (.int i)) := by
  obtain ⟨t, h⟩ := h
  exact pe_glob hg h ⟨_, rfl⟩ hd
theorem pe_weak {X : Cx} {e : Expr} {t t' : TE} (h : PE X e t) (w : ∀ σ H Q, t' σ H Q → t σ H Q) : PE X e t' := ⟨fun pins s σ H Q I q => h.run pins s σ H Q I (w σ H Q q)⟩
def tIxC (xs : List V) (ti : TE) : TE := fun σ H Q => ti σ H fun y H1 => ∃ i v, y = .int i ∧ atI xs i = some v ∧ Q v H1
theorem pe_tc {X : Cx} {x : Str} {xs : List V} {p pos : Pos} {b : Expr} {tb : TE} (hg : Gl X x) (h : ∃ a, X.mg x = some (.ref a) ∧ ∀ H, SqT X.K H a xs) (hb : PE X b tb) (hs : PlainIx b) (hd : (x == ("__debug__" : Str)) = false := by decide) :
    PE X (.Subscript (.Name x p) b pos) (tIxC xs tb) := by
  obtain ⟨a, h, q⟩ := h
  refine ⟨fun pins s σ H Q I hq => ?_⟩
  refine Subscript_ (thn ((pe_glob (pos := p) hg h (v := .ref a) rfl hd).run pins s σ H (fun x H1 => x = .ref a ∧ H1 = H) I ⟨rfl, rfl⟩) fun v s1 ⟨x, H1, I1, rx, ex, eH⟩ => ?_)
  subst ex eH
  refine thn (hb.run pins s1 σ _ _ I1 hq) fun u s2 ⟨y, H2, I2, ry, i, v', ey, ha, qq⟩ => ?_
  exact ix_tup _ b pins s2 σ H2 _ y v u Q I2 rx ry ⟨a, xs, i, v', rfl, ey, q H2, ha, qq⟩ (hs _ _)
/-! ### requests -/
theorem int_dw {K : PySem.W.Frag} {H : Hp} {v : V} {lo hi i : Int} (h : Dw K H v ((Codec.int lo hi).enc i)) : v = .int i := by
  cases h
  rfl
theorem list_dw {K : PySem.W.Frag} {H : Hp} {v : V} {lo hi : Int} {m n : Nat} {l : List Int} (h : Dw K H v ((Codec.list m n (.int lo hi)).enc l)) : ∃ a, v = .ref a ∧ SqL K H a (l.map V.int) := by
  cases h with
  | lst hs ha =>
    have e := L2.ints_dw l _ ha
    subst e
    exact ⟨_, rfl, hs⟩
theorem inInt_iff {lo hi i : Int} (h : Codec.inInt lo hi i = true) : lo ≤ i ∧ i ≤ hi := by
  unfold Codec.inInt at h
  simpa using h
/-- bytes as values -/
abbrev bV (c : UInt8) : V := .int (Ms.bi c)
theorem bytes_of {l : List Int} {m n : Nat} (h : (Codec.inLen m n l && l.all (Codec.inInt 0 255)) = true) : l.length ≤ n ∧ l.map V.int = (Sf81Neutral.bs l).map bV := by
  rw [Bool.and_eq_true] at h
  refine ⟨(Codec.inNat_iff.mp h.1).2, ?_⟩
  have q : ∀ z ∈ l, 0 ≤ z ∧ z ≤ 255 := fun z hz => inInt_iff (List.all_eq_true.mp h.2 z hz)
  have e := Ms.bs_back q
  have e2 : l.map V.int = ((Sf81Neutral.bs l).map Ms.bi).map V.int := congrArg (List.map V.int) e
  rw [e2, List.map_map]
  rfl
theorem xor_nn (a b : Nat) : Builtin.bitXor (a : Int) (b : Int) = ((a ^^^ b : Nat) : Int) := by
  have e := Bits.bitXor_pp (x := (a : Int)) (y := (b : Int)) (by omega) (by omega)
  exact e
theorem q_int {Q : VK} {H : Hp} {i j : Int} (h : Q (.int i) H) (e : j = i) : Q (.int j) H := e ▸ h
theorem q_bl {Q : VK} {H : Hp} {b c : Bool} (h : Q (.bl b) H) (e : c = b) : Q (.bl c) H := e ▸ h
theorem st_int3 {a b c d : Option V} {i j : Int} (e : i = j) : ([a, b, c, some (V.int i), d] : List (Option V)) = [a, b, c, some (V.int j), d] := e ▸ rfl
theorem st_int23 {a b d : Option V} {i j i' j' : Int} (e : i = i') (e' : j = j') : ([a, b, some (V.int i), some (V.int j), d] : List (Option V)) = [a, b, some (V.int i'), some (V.int j'), d] := e ▸ e' ▸ rfl
theorem args_int {i j : Int} {r : List V} (e : i = j) : (V.int i :: r) = (V.int j :: r) := e ▸ rfl
theorem args_int2 {a : V} {i j : Int} {r : List V} (e : i = j) : (a :: V.int i :: r) = (a :: V.int j :: r) := e ▸ rfl
theorem fall_at {k : Int} {p : Sf81.Poly} (h : Sf81.kindOf k = some (.crc p)) : atI [V.int 2197175160, V.int 14514072000185962306] k = some (V.int (p.fall : Nat)) := by
  rcases Ms.kind_some h with ⟨rfl, e⟩ | ⟨rfl, e⟩ | ⟨rfl, e⟩ | ⟨rfl, e⟩
  · cases e
    rfl
  · cases e
    rfl
  · cases e
  · cases e
theorem ones_at {k : Int} {p : Sf81.Poly} (h : Sf81.kindOf k = some (.crc p)) : atI [V.int 4294967295, V.int 18446744073709551615] k = some (V.int (p.ones : Nat)) := by
  rcases Ms.kind_some h with ⟨rfl, e⟩ | ⟨rfl, e⟩ | ⟨rfl, e⟩ | ⟨rfl, e⟩
  · cases e
    rfl
  · cases e
    rfl
  · cases e
  · cases e
theorem neg1 {H : Hp} {p : Addr} : (upd H p (.lst [V.int (-1)])) p = some (.lst ((Sf81Neutral.listOf (Sf81.says (-1))).map V.int)) := upd_same
theorem pos_lit {j : Int} (h : 0 < j) : 0 < j := h
theorem ite2b {c : Bool} {A B : Prop} (h1 : c = true → A) (h2 : c = false → B) : if c = true then A else B := by
  cases c with
  | true => exact iteT (h1 rfl)
  | false => exact iteF (h2 rfl)
theorem one_ok {a : V} : ([a] : List V).length ≤ sizeLine := by
  show 1 ≤ sizeLine
  decide
theorem two_ok {a b : V} : ([a, b] : List V).length ≤ sizeLine := by
  show 2 ≤ sizeLine
  decide
/-- a test by a letter: numbers in it are never unfolded -/
theorem dec_ex (p : Prop) [Decidable p] : ∃ c : Bool, decide p = c ∧ (c = true → p) ∧ (c = false → ¬ p) := ⟨_, rfl, of_decide_eq_true, of_decide_eq_false⟩
theorem half_odd {s : Nat} (h : s / 65536 ≤ 1) : (s : Int) / 65536 = ((Ms.b2n (s / 65536 == 1) : Nat) : Int) := by
  have e := Ms.wst_odd h []
  show _ = ((Ms.b2n (Ms.wst (s / 65536 == 1) []).2 : Nat) : Int)
  rw [e]
  show _ = (((s / 65536 + 0) % 2 : Nat) : Int)
  omega
theorem bytes_sq {K : PySem.W.Frag} {H : Hp} {a : Addr} {b : Sf81.Bytes} (h : SqL K H a (b.map bV)) : SqL K H a ((b.map Ms.bi).map V.int) := by
  rw [List.map_map]
  exact h
theorem and_nn (a b : Nat) : Builtin.bitAnd (a : Int) (b : Int) = ((a &&& b : Nat) : Int) := by
  have e := PyProof.Rows.bitAnd_pp (x := (a : Int)) (y := (b : Int)) (by omega) (by omega)
  exact e
theorem is_crc {k : Int} {x : Sf81.Kind} (hk : Sf81.kindOf k = some x) (n2 : ¬ k = 2) (n3 : ¬ k = 3) : ∃ p, x = .crc p := by
  rcases Ms.kind_some hk with ⟨e, z⟩ | ⟨e, z⟩ | ⟨e, z⟩ | ⟨e, z⟩
  · exact ⟨_, z⟩
  · exact ⟨_, z⟩
  · exact absurd e n2
  · exact absurd e n3
theorem mul_ok {i : Int} (h0 : 0 ≤ i) (h1 : i < 18446744073709551616) : -(2 ^ 64) < i ∧ i < 2 ^ 64 := ⟨by omega, by omega⟩
theorem both {a b : Bool} (h : (a && b) = true) : a = true ∧ b = true := by
  rw [Bool.and_eq_true] at h
  exact h
end My
namespace My
open PySem PySem.Spec PyProof.Rows L2
open PySem.W (Codec)
def top (i : Nat) : Stmt := PySem.Challenge.pw_damagesums_s01_begin.main.body.getD i (.Pass ⟨0, 0, 0, 0⟩)
abbrev s_is_kind : Stmt := top 3
theorem sc_is_kind : FnScope ["k"] ["k"] (defScope s_is_kind) := ⟨rfl, rfl, rfl, by decide +kernel, rfl, by decide +kernel, by decide +kernel⟩
abbrev s_empty_state : Stmt := top 4
theorem sc_empty_state : FnScope ["k"] ["k"] (defScope s_empty_state) := ⟨rfl, rfl, rfl, by decide +kernel, rfl, by decide +kernel, by decide +kernel⟩
abbrev s_begin : Stmt := top 6
theorem sc_begin : FnScope ["k"] ["k"] (defScope s_begin) := ⟨rfl, rfl, rfl, by decide +kernel, rfl, by decide +kernel, by decide +kernel⟩
structure Txt (K : PySem.W.Frag) (mg : Str → Option Value) : Prop where
  dummy : True
  c_ADLER : ∃ t, mg "ADLER" = some (.int (3) t)
  c_HIGHEST_KIND : ∃ t, mg "HIGHEST_KIND" = some (.int (3) t)
section
variable {P : Program} {w : World} {K : PySem.W.Frag} {mg : Str → Option Value} {base : Heap}
def sp_is_kind (K : PySem.W.Frag) : Sp := fun vs H Q _ => ∃ (k : Int), vs = [.int k] ∧ Q (.bl (Sf81.kindOf k).isSome) H
theorem ok_is_kind {f : Addr} {fd : FuncData} (F : Fun K "is_kind" "is_kind" s_is_kind f fd) (T : Txt K mg) : FnOk P w K mg base CX0 1 f fd ["k"] (sp_is_kind K) := by
  refine F.ok sc_is_kind (fun vs H Q E h => ?_) (fun cdv A outer s H vs Q E hr h => ?_)
  · obtain ⟨k, rfl, q⟩ := h
    rfl
  · obtain ⟨k, rfl, q⟩ := h
    refine ⟨_, (pss_one (ps_ret (pe_chain op_le op_le pe_int (pv 0) (My.pe_ci (by rfl) T.c_HIGHEST_KIND)))), ?_⟩
    refine ⟨_, rfl, _, _, rfl, rfl, _, rfl, ?_⟩
    rw [Ms.kind_bool] at q
    refine My.ite2b (fun e => ?_) (fun e => ?_)
    · have e1 : (0 : Int) ≤ k := of_decide_eq_true e
      refine ⟨_, _, rfl, rfl, My.q_bl q ?_⟩
      exact decide_eq_decide.mpr ⟨fun z => ⟨e1, z⟩, fun z => z.2⟩
    · have e1 : ¬ (0 : Int) ≤ k := of_decide_eq_false e
      refine My.q_bl q ?_
      exact (decide_eq_false fun z => e1 z.1).symm
def sp_empty_state (K : PySem.W.Frag) : Sp := fun vs H Q _ => ∃ (k : Int) (x : Sf81.Kind), vs = [.int k] ∧ Sf81.kindOf k = some x ∧ Q (.int (x.begin_ : Nat)) H
theorem ok_empty_state {f : Addr} {fd : FuncData} (F : Fun K "empty_state" "empty_state" s_empty_state f fd) (T : Txt K mg) : FnOk P w K mg base CX0 1 f fd ["k"] (sp_empty_state K) := by
  refine F.ok sc_empty_state (fun vs H Q E h => ?_) (fun cdv A outer s H vs Q E hr h => ?_)
  · obtain ⟨k, x, rfl, hk, q⟩ := h
    rfl
  · obtain ⟨k, x, rfl, hk, q⟩ := h
    refine ⟨_, (pss_cons (ps_if (pt_cmpR op_eq (pv 0) (My.pe_ci (by rfl) T.c_ADLER) (nomark _)) (pss_one (ps_ret pe_int)) pss_nil)
      (pss_one (ps_ret pe_int))), ?_⟩
    refine ⟨_, rfl, rfl, _, rfl, My.ite2b (fun e => ?_) (fun e => ?_)⟩
    · have e1 : k = 3 := V.int.inj (of_decide_eq_true e)
      subst e1
      cases hk
      exact q
    · have n3 : ¬ k = 3 := fun z => of_decide_eq_false e (congrArg V.int z)
      refine My.q_int q ?_
      rcases Ms.kind_some hk with ⟨e, rfl⟩ | ⟨e, rfl⟩ | ⟨e, rfl⟩ | ⟨e, rfl⟩
      · rfl
      · rfl
      · rfl
      · exact absurd e n3
def sp_begin (K : PySem.W.Frag) : Sp := fun vs H Q _ => ∃ (k : Int), vs = [.int k] ∧ ∀ (H' : Hp) (p : Addr), H' p = some (.lst ((Sf81Neutral.listOf (Sf81.does (.begin_ k))).map V.int)) → Q (.ref p) H'
theorem ok_begin {f : Addr} {fd : FuncData} (F : Fun K "begin" "begin" s_begin f fd) (T : Txt K mg) (C_is_kind : My.Cal P w K mg base 1 "is_kind" ["k"] (sp_is_kind K)) (C_empty_state : My.Cal P w K mg base 1 "empty_state" ["k"] (sp_empty_state K)) : FnOk P w K mg base CX0 2 f fd ["k"] (sp_begin K) := by
  refine F.ok sc_begin (fun vs H Q E h => ?_) (fun cdv A outer s H vs Q E hr h => ?_)
  · obtain ⟨k, rfl, q⟩ := h
    rfl
  · obtain ⟨k, rfl, q⟩ := h
    refine ⟨_, (pss_cons (ps_if (pt_not (pt_val (My.pe_cal C_is_kind (hr.mono (by decide)) (by rfl) (pa_cons (pv 0) pa_nil)))) (pss_one (ps_ret (pe_lst (pa_cons (pe_un un_neg pe_int) pa_nil)))) pss_nil)
      (pss_one (ps_ret (pe_lst (pa_cons pe_int (pa_cons (My.pe_cal C_empty_state (hr.mono (by decide)) (by rfl) (pa_cons (pv 0) pa_nil)) pa_nil)))))), ?_⟩
    refine ⟨_, rfl, k, rfl, _, rfl, ?_⟩
    cases e : Sf81.kindOf k with
    | none =>
      refine iteT ⟨1, rfl, My.one_ok, fun p hp => q _ p ?_⟩
      have z : Sf81.does (.begin_ k) = Sf81.says (-1) := Ms.ofKind_none e
      rw [z]
      exact neg1
    | some x =>
      refine iteF ⟨_, rfl, k, x, rfl, e, My.two_ok, fun p hp => q _ p ?_⟩
      have z : Sf81.does (.begin_ k) = ⟨0, [x.begin_]⟩ := Ms.ofKind_some e
      rw [z]
      exact upd_same
end
theorem all_mk {P : Program} {w : World} {K : PySem.W.Frag} {h : Heap} {mg : Str → Option Value} {fa f0 f1 f2 : Addr} {od0 an0 od1 an1 od2 an2 : Option Addr} {sl0 sl1 sl2 : Array (Option Value)} {oc0 kV0 dc0 pm0 cd0 ct0 oc1 kV1 dc1 pm1 cd1 ct1 oc2 kV2 dc2 pm2 cd2 ct2 : Value} {t_ADLER t_HIGHEST_KIND : Nat} (X : K.In h) (G : h.Ns mainGlobals mg) (hfa : mg "begin" = some (.ref fa))
    (a0 : PySem.W.nsIn K mainGlobals "is_kind" = some (some (.ref f0))) (l0 : K.lookup f0 = some ⟨oc0, od0, .func (PySem.W.fnOf "is_kind" "is_kind" (defArgs s_is_kind) (defBody s_is_kind) (defScope s_is_kind) .none kV0 dc0 pm0 an0 cd0 ct0), sl0⟩) (c0 : PySem.W.codeIn K cd0 "is_kind" = true) (k0 : PySem.W.keepIn K (.ref f0) = true)
    (a1 : PySem.W.nsIn K mainGlobals "empty_state" = some (some (.ref f1))) (l1 : K.lookup f1 = some ⟨oc1, od1, .func (PySem.W.fnOf "empty_state" "empty_state" (defArgs s_empty_state) (defBody s_empty_state) (defScope s_empty_state) .none kV1 dc1 pm1 an1 cd1 ct1), sl1⟩) (c1 : PySem.W.codeIn K cd1 "empty_state" = true) (k1 : PySem.W.keepIn K (.ref f1) = true)
    (a2 : PySem.W.nsIn K mainGlobals "begin" = some (some (.ref f2))) (l2 : K.lookup f2 = some ⟨oc2, od2, .func (PySem.W.fnOf "begin" "begin" (defArgs s_begin) (defBody s_begin) (defScope s_begin) .none kV2 dc2 pm2 an2 cd2 ct2), sl2⟩) (c2 : PySem.W.codeIn K cd2 "begin" = true) (k2 : PySem.W.keepIn K (.ref f2) = true)
    (i_ADLER : PySem.W.nsIn K mainGlobals "ADLER" = some (some (.int (3) t_ADLER)))
    (i_HIGHEST_KIND : PySem.W.nsIn K mainGlobals "HIGHEST_KIND" = some (some (.int (3) t_HIGHEST_KIND))) :
    ∃ fd : FuncData, (∀ (s : Shared) (us : List Value), us.length = (["k"] : List Str).length → BindsTo s fd ⟨us, []⟩ ((["k"] : List Str).zip us)) ∧ ∀ base : Heap, K.In base → base.Ns mainGlobals mg → FnOk P w K mg base CX0 2 fa fd ["k"] (sp_begin K) := by
  have e := hfa.symm.trans (PySem.W.mg_of X G a2)
  cases e
  have T : Txt K mg := ⟨trivial, ⟨_, PySem.W.mg_of X G i_ADLER⟩, ⟨_, PySem.W.mg_of X G i_HIGHEST_KIND⟩⟩
  have F0 := fun_mk (st := s_is_kind) l0 c0 k0
  have b0 := F0.binds (ps := ["k"]) fun _ _ _ _ _ _ us hl => match us, hl with | [_], _ => rfl
  have F1 := fun_mk (st := s_empty_state) l1 c1 k1
  have b1 := F1.binds (ps := ["k"]) fun _ _ _ _ _ _ us hl => match us, hl with | [_], _ => rfl
  have F2 := fun_mk (st := s_begin) l2 c2 k2
  have b2 := F2.binds (ps := ["k"]) fun _ _ _ _ _ _ us hl => match us, hl with | [_], _ => rfl
  refine ⟨PySem.W.fnOf "begin" "begin" (defArgs s_begin) (defBody s_begin) (defScope s_begin) .none kV2 dc2 pm2 an2 cd2 ct2, fun s us hu => match us, hu with | [_], _ => .of_eq rfl, fun base _ _ => ?_⟩
  have C0 : My.Cal P w K mg base 1 "is_kind" ["k"] (sp_is_kind K) := ⟨_, _, ok_is_kind F0 T, PySem.W.mg_of X G a0, k0, b0⟩
  have C1 : My.Cal P w K mg base 1 "empty_state" ["k"] (sp_empty_state K) := ⟨_, _, ok_empty_state F1 T, PySem.W.mg_of X G a1, k1, b1⟩
  exact ok_begin F2 T C0 C1
end My
open PySem PySem.W PyProof.Rows
set_option maxRecDepth 100000 in
set_option maxHeartbeats 8000000 in
theorem PySem.Challenge.cw_damagesums_s01_begin_holds : PySem.Challenge.rw_damagesums_s01_begin.Holds := by
  w_on; k_headS; (case hw => exact ⟨[.int 0], by decide +kernel, by decide +kernel⟩)
  k_fillS
  refine L2.walk_specK (r := PySem.Challenge.rw_damagesums_s01_begin) (k := 2) (CX := L2.CX0) (ps := ["k"]) (sp := My.sp_begin) (by decide +kernel) rfl rfl ⟨rfl, by decide, by decide⟩ (fun w h Y => PySem.W.kIn_of Y) ?F ?S (fun _ _ _ _ z => z)
  case F =>
    intro w mg fa h Y KX G hmg
    refine' My.all_mk KX G hmg ?a0 ?l0 ?c0 ?k0 ?a1 ?l1 ?c1 ?k1 ?a2 ?l2 ?c2 ?k2 ?i_ADLER ?i_HIGHEST_KIND
    (case a0 => k_is)
    (case l0 => k_is)
    (case c0 => k_is)
    (case k0 => k_is)
    (case a1 => k_is)
    (case l1 => k_is)
    (case c1 => k_is)
    (case k1 => k_is)
    (case a2 => k_is)
    (case l2 => k_is)
    (case c2 => k_is)
    (case k2 => k_is)
    (case i_ADLER => k_is)
    (case i_HIGHEST_KIND => k_is)
  case S =>
    intro K H xs a hO hwi hask hx
    obtain ⟨k, u⟩ := a
    cases hx with
    | cons h1 hx =>
      cases hx
      have e1 := My.int_dw h1
      subst e1
      exact ⟨k, rfl, fun H' p hp => .lst (L2.SqL.of hp) (L2.dw_ints _)⟩
#print axioms PySem.Challenge.cw_damagesums_s01_begin_holds
