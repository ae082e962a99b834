import PyProof.Rows.All
import Wide.All
import OpenK.AllK
import Wide.FinOn
import Open.SpecLaws
import KE.OsGo
import HandS.ForSpec
import HandS.Comp
import PySem.Challenge.RW_otherend_s07_step
set_option Elab.async false
set_option linter.all false
set_option maxRecDepth 100000
set_option maxHeartbeats 2000000
namespace My
open Kzs1
/-! ### 1. The list and the lines that it tells -/
def nats (ns : List Int) : List Nat := ns.map Int.toNat
theorem read_even : ∀ (l : List Nat) (n : Nat), l.length = 2 * n → ∃ g, readLines l = some g ∧ g.nx.length = n ∧ g.bf.length = n ∧
    (∀ i, g.nx.getD i 0 = l.getD (2 * i) 0) ∧ (∀ i, g.bf.getD i 0 = l.getD (2 * i + 1) 0) ∧ (∀ x, x ∈ g.nx ++ g.bf ↔ x ∈ l)
  | [], n, h => by
    have : n = 0 := by simp at h; omega
    subst this
    exact ⟨⟨[], []⟩, rfl, rfl, rfl, fun i => by simp, fun i => by simp, fun x => by simp⟩
  | [a], n, h => by
    simp at h
    omega
  | a :: b :: l, n, h => by
    obtain ⟨m, rfl⟩ : ∃ m, n = m + 1 := ⟨n - 1, by simp at h; omega⟩
    obtain ⟨g, e, l1, l2, hn, hb, hm⟩ := read_even l m (by simp at h; omega)
    refine ⟨⟨a :: g.nx, b :: g.bf⟩, ?_, by simp [l1], by simp [l2], fun i => ?_, fun i => ?_, fun x => ?_⟩
    · unfold readLines
      rw [e]
      rfl
    · cases i with
      | zero => rfl
      | succ i =>
        show g.nx.getD i 0 = _
        rw [hn i, show 2 * (i + 1) = 2 * i + 2 from by omega]
        simp [List.getD]
    · cases i with
      | zero => rfl
      | succ i =>
        show g.bf.getD i 0 = _
        rw [hb i, show 2 * (i + 1) + 1 = 2 * i + 1 + 2 from by omega]
        simp [List.getD]
    · have := hm x
      simp only [List.mem_append, List.mem_cons] at this ⊢
      grind
theorem read_odd : ∀ (l : List Nat), l.length % 2 = 1 → readLines l = none
  | [], h => by simp at h
  | [a], _ => rfl
  | a :: b :: l, h => by
    unfold readLines
    rw [read_odd l (by simp at h; omega)]
    rfl
/-- what is asked of the list that is handed in -/
def fitsB (ns : List Int) : Bool := decide (ns.length % 2 = 0) && decide (ns.length / 2 ≤ 400) && ns.all fun x => decide (x ≤ ((ns.length / 2 : Nat) : Int))
/-- the list tells the lines g, and they are no refusal -/
structure Rd (ns : List Int) (g : Lines) : Prop where
  rd : readLines (nats ns) = some g
  ok : okLines g = true
  sz : size g = ns.length / 2
  ev : ns.length = 2 * size g
  le : size g ≤ 400
  nx : ∀ i, (g.nx.getD i 0 : Int) = ns.getD (2 * i) 0
  bf : ∀ i, (g.bf.getD i 0 : Int) = ns.getD (2 * i + 1) 0
  nl : ∀ i, g.nx.getD i 0 ≤ size g
  bl : ∀ i, g.bf.getD i 0 ≤ size g
theorem getD_nats {ns : List Int} (h0 : ∀ x ∈ ns, 0 ≤ x) (i : Nat) : (((nats ns).getD i 0 : Nat) : Int) = ns.getD i 0 := by
  unfold nats
  rw [List.getD_eq_getElem?_getD, List.getD_eq_getElem?_getD, List.getElem?_map]
  cases e : ns[i]? with
  | none => rfl
  | some x =>
    have := h0 x (List.mem_of_getElem? e)
    simp
    omega
theorem getD_le {l : List Nat} {n : Nat} (h : ∀ x ∈ l, x ≤ n) (i : Nat) : l.getD i 0 ≤ n := by
  rw [List.getD_eq_getElem?_getD]
  cases e : l[i]? with
  | none => simp
  | some x => exact h x (List.mem_of_getElem? e)
theorem fits_rd {ns : List Int} (h0 : ∀ x ∈ ns, 0 ≤ x) (h : fitsB ns = true) : ∃ g, Rd ns g := by
  unfold fitsB at h
  simp only [Bool.and_eq_true, decide_eq_true_eq, List.all_eq_true] at h
  obtain ⟨⟨h1, h2⟩, h3⟩ := h
  have hl : (nats ns).length = 2 * (ns.length / 2) := by
    unfold nats
    rw [List.length_map]
    omega
  obtain ⟨g, e, l1, l2, hn, hb, hm⟩ := read_even (nats ns) (ns.length / 2) hl
  have hmem : ∀ x ∈ g.nx ++ g.bf, x ≤ size g := fun x hx => by
    have hx := (hm x).mp hx
    unfold nats at hx
    obtain ⟨y, hy, rfl⟩ := List.mem_map.mp hx
    have := h3 y hy
    have := h0 y hy
    show y.toNat ≤ g.nx.length
    omega
  have hok : okLines g = true := by
    unfold okLines
    rw [Bool.and_eq_true, decide_eq_true_eq, List.all_eq_true]
    refine ⟨?_, fun x hx => decide_eq_true (hmem x hx)⟩
    show g.nx.length ≤ 400
    omega
  refine ⟨g, e, hok, l1, ?_, ?_, fun i => ?_, fun i => ?_, fun i => ?_, fun i => ?_⟩
  · show ns.length = 2 * g.nx.length
    omega
  · show g.nx.length ≤ 400
    omega
  · rw [hn i]
    exact getD_nats h0 _
  · rw [hb i]
    exact getD_nats h0 _
  · exact getD_le (fun x hx => hmem x (List.mem_append_left _ hx)) i
  · exact getD_le (fun x hx => hmem x (List.mem_append_right _ hx)) i
theorem Rd.with {ns : List Int} {g : Lines} (r : Rd ns g) (h : Lines → Ans) : withLines (Kzs1Neutral.natsOf ns) h = h g := by
  unfold withLines
  have e : readLines (Kzs1Neutral.natsOf ns) = some g := r.rd
  rw [e]
  show (if okLines g = true then h g else say (-22)) = h g
  rw [if_pos r.ok]
theorem unfit_with {ns : List Int} (h0 : ∀ x ∈ ns, 0 ≤ x) (hf : fitsB ns = false) (h : Lines → Ans) : withLines (Kzs1Neutral.natsOf ns) h = say (-22) := by
  unfold withLines
  show (match readLines (nats ns) with | none => say (-22) | some g => if okLines g then h g else say (-22)) = say (-22)
  rcases Nat.mod_two_eq_zero_or_one ns.length with e | e
  · have hl : (nats ns).length = 2 * (ns.length / 2) := by
      unfold nats
      rw [List.length_map]
      omega
    obtain ⟨g, eg, l1, l2, hn, hb, hm⟩ := read_even (nats ns) (ns.length / 2) hl
    rw [eg]
    show (if okLines g = true then h g else say (-22)) = say (-22)
    rw [if_neg]
    intro hok
    unfold okLines at hok
    rw [Bool.and_eq_true, decide_eq_true_eq, List.all_eq_true] at hok
    have hs : g.nx.length ≤ 400 := hok.1
    have : fitsB ns = true := by
      unfold fitsB
      simp only [Bool.and_eq_true, decide_eq_true_eq, List.all_eq_true]
      refine ⟨⟨e, by omega⟩, fun x hx => ?_⟩
      have hx2 : x.toNat ∈ g.nx ++ g.bf := (hm _).mpr (List.mem_map_of_mem hx)
      have h3 : x.toNat ≤ g.nx.length := of_decide_eq_true (hok.2 _ hx2)
      have := h0 x hx
      omega
    rw [this] at hf
    cases hf
  · rw [read_odd (nats ns) (by unfold nats; rw [List.length_map]; exact e)]
/-! ### 2. Steps -/
theorem next_some {g : Lines} {v w : Nat} (h : next g v = some w) : g.nx.getD v 0 = w + 1 ∧ g.bf.getD w 0 = v + 1 := by
  unfold next at h
  simp only at h
  split at h
  · cases h
  · split at h
    · have := Option.some.inj h
      subst this
      rename_i h1 h2
      exact ⟨by omega, h2⟩
    · cases h
theorem before_some {g : Lines} {v w : Nat} (h : before g v = some w) : g.bf.getD v 0 = w + 1 ∧ g.nx.getD w 0 = v + 1 := by
  unfold before at h
  simp only at h
  split at h
  · cases h
  · split at h
    · have := Option.some.inj h
      subst this
      rename_i h1 h2
      exact ⟨by omega, h2⟩
    · cases h
theorem next_of {g : Lines} {v w : Nat} (h1 : g.nx.getD v 0 = w + 1) (h2 : g.bf.getD w 0 = v + 1) : next g v = some w := by
  unfold next
  simp only
  rw [h1, if_neg (by omega), Nat.add_sub_cancel, if_pos h2]
theorem before_of {g : Lines} {v w : Nat} (h1 : g.bf.getD v 0 = w + 1) (h2 : g.nx.getD w 0 = v + 1) : before g v = some w := by
  unfold before
  simp only
  rw [h1, if_neg (by omega), Nat.add_sub_cancel, if_pos h2]
theorem next_before {g : Lines} {v w : Nat} : next g v = some w ↔ before g w = some v :=
  ⟨fun h => before_of (next_some h).2 (next_some h).1, fun h => next_of (before_some h).2 (before_some h).1⟩
/-- a step's number, as the program has it -/
theorem on_eq {ns : List Int} {g : Lines} (r : Rd ns g) (v : Nat) : oneMore (next g v) = if ns.getD (2 * v) 0 ≠ 0 ∧ ns.getD (2 * (ns.getD (2 * v) 0 - 1).toNat + 1) 0 = (v : Int) + 1 then ns.getD (2 * v) 0 else 0 := by
  have e1 := r.nx v
  unfold next
  simp only
  by_cases c : g.nx.getD v 0 = 0
  · rw [if_pos c, if_neg]
    · rfl
    · rw [← e1, c]
      intro h
      exact h.1 rfl
  · rw [if_neg c]
    have e2 : (ns.getD (2 * v) 0 - 1).toNat = g.nx.getD v 0 - 1 := by omega
    have e3 := r.bf (g.nx.getD v 0 - 1)
    rw [e2, ← e3, ← e1]
    by_cases d : g.bf.getD (g.nx.getD v 0 - 1) 0 = v + 1
    · rw [if_pos d, if_pos ⟨by omega, by omega⟩]
      show ((g.nx.getD v 0 - 1 + 1 : Nat) : Int) = _
      omega
    · rw [if_neg d, if_neg (fun h => d (by omega))]
      rfl
theorem back_eq {ns : List Int} {g : Lines} (r : Rd ns g) (v : Nat) : oneMore (before g v) = if ns.getD (2 * v + 1) 0 ≠ 0 ∧ ns.getD (2 * (ns.getD (2 * v + 1) 0 - 1).toNat) 0 = (v : Int) + 1 then ns.getD (2 * v + 1) 0 else 0 := by
  have e1 := r.bf v
  unfold before
  simp only
  by_cases c : g.bf.getD v 0 = 0
  · rw [if_pos c, if_neg]
    · rfl
    · rw [← e1, c]
      intro h
      exact h.1 rfl
  · rw [if_neg c]
    have e2 : (ns.getD (2 * v + 1) 0 - 1).toNat = g.bf.getD v 0 - 1 := by omega
    have e3 := r.nx (g.bf.getD v 0 - 1)
    rw [e2, ← e3, ← e1]
    by_cases d : g.nx.getD (g.bf.getD v 0 - 1) 0 = v + 1
    · rw [if_pos d, if_pos ⟨by omega, by omega⟩]
      show ((g.bf.getD v 0 - 1 + 1 : Nat) : Int) = _
      omega
    · rw [if_neg d, if_neg (fun h => d (by omega))]
      rfl
theorem next_lt {ns : List Int} {g : Lines} (r : Rd ns g) {v w : Nat} (h : next g v = some w) : w < size g := by
  have := (next_some h).1
  have := r.nl v
  omega
theorem before_lt {ns : List Int} {g : Lines} (r : Rd ns g) {v w : Nat} (h : before g v = some w) : w < size g := by
  have := (before_some h).1
  have := r.bl v
  omega
theorem oneMore_zero {o : Option Nat} : oneMore o = 0 ↔ o = none := by
  cases o with
  | none => exact ⟨fun _ => rfl, fun _ => rfl⟩
  | some w =>
    refine ⟨fun h => ?_, fun h => by cases h⟩
    have : ((w + 1 : Nat) : Int) = 0 := h
    omega
theorem oneMore_some {o : Option Nat} (h : oneMore o ≠ 0) : ∃ w, o = some w ∧ oneMore o = (w : Int) + 1 := by
  cases o with
  | none => exact absurd rfl h
  | some w => exact ⟨w, rfl, by show ((w + 1 : Nat) : Int) = _; omega⟩
theorem isSome_more (o : Option Nat) : o.isSome = decide (oneMore o ≠ 0) := by
  cases o with
  | none => rfl
  | some w =>
    show true = _
    rw [decide_eq_true]
    show ((w + 1 : Nat) : Int) ≠ 0
    omega
theorem isNone_more (o : Option Nat) : o.isNone = decide (oneMore o = 0) := by
  cases o with
  | none => rfl
  | some w =>
    show false = _
    rw [decide_eq_false]
    show ¬ ((w + 1 : Nat) : Int) = 0
    omega
end My
namespace My
open PySem PySem.Spec PyProof.Rows L2
open PySem.W (Codec)
/-! ### 4. The text -/
def topS (i : Nat) : Stmt := PySem.Challenge.pw_otherend_s07_step.main.body.getD i (.Pass ⟨0, 0, 0, 0⟩)
abbrev S_step : Stmt := topS 4
abbrev S_count_points : Stmt := topS 5
abbrev S_list_fits : Stmt := topS 6
abbrev S_refusal_of_point : Stmt := topS 7
abbrev S_said_next : Stmt := topS 8
abbrev S_said_before : Stmt := topS 9
abbrev S_step_on : Stmt := topS 10
abbrev S_step_back : Stmt := topS 11
/-- a def of the top: it stands, it binds, it has its name -/
structure Dn (K : PySem.W.Frag) (mg : Str → Option Value) (x : Str) (st : Stmt) (ps : List Str) (f : Addr) (fd : FuncData) : Prop where
  F : Fun K x x st f fd
  b : Binds K fd ps []
  g : mg x = some (.ref f)
structure Txt (K : PySem.W.Frag) (mg : Str → Option Value) where
  len : mg "len" = none
  all : mg "all" = none
  tMost : Nat
  most : mg "MOST_POINTS" = some (.int 400 tMost)
  tList : Nat
  listR : mg "LIST_REFUSED" = some (.int (-22) tList)
  tPoint : Nat
  pointR : mg "POINT_REFUSED" = some (.int (-2) tPoint)
  f_count : Addr
  fd_count : FuncData
  d_count : Dn K mg "count_points" S_count_points ["l"] f_count fd_count
  f_sn : Addr
  fd_sn : FuncData
  d_sn : Dn K mg "said_next" S_said_next ["v", "l"] f_sn fd_sn
  f_sb : Addr
  fd_sb : FuncData
  d_sb : Dn K mg "said_before" S_said_before ["v", "l"] f_sb fd_sb
  f_on : Addr
  fd_on : FuncData
  d_on : Dn K mg "step_on" S_step_on ["v", "l"] f_on fd_on
  f_bk : Addr
  fd_bk : FuncData
  d_bk : Dn K mg "step_back" S_step_back ["v", "l"] f_bk fd_bk
  f_fits : Addr
  fd_fits : FuncData
  d_fits : Dn K mg "list_fits" S_list_fits ["l"] f_fits fd_fits
  f_rp : Addr
  fd_rp : FuncData
  d_rp : Dn K mg "refusal_of_point" S_refusal_of_point ["v", "l"] f_rp fd_rp
section
variable {P : Program} {w : World} {K : PySem.W.Frag} {mg : Str → Option Value} {base : Heap}
/-! ### 5. Promises and bodies -/
theorem same_upd {H : Hp} {p : Addr} {o : HO} (h : H p = none) : Same H (upd H p o) := fun b x e => by
  rw [upd_ne (ne_of_none e h)]
  exact e
theorem at_int {ns : List Int} {z : Int} (j : Nat) (e : z = (j : Int)) (h : j < ns.length) : atI (ns.map V.int) z = some (.int (ns.getD j 0)) := by
  rw [e]
  refine atI_nat ?_
  rw [List.getElem?_map, List.getElem?_eq_getElem h, List.getD_eq_getElem?_getD, List.getElem?_eq_getElem h]
  rfl
/-- the list that is handed in tells g, and v is a point of g -/
def spV (f : Kzs1.Lines → Nat → V) (K : PySem.W.Frag) : Sp := fun vs H Q _ => ∃ (v : Nat) (a : Addr) (ns : List Int) (g : Kzs1.Lines), vs = [.int (v : Int), .ref a] ∧ SqL K H a (ns.map V.int) ∧ Rd ns g ∧ v < Kzs1.size g ∧ Q (f g v) H
theorem spV_len {f : Kzs1.Lines → Nat → V} {vs : List V} {H : Hp} {Q : VK} {E : XK} (h : spV f K vs H Q E) : vs.length = (["v", "l"] : List Str).length := by
  obtain ⟨v, a, ns, g, rfl, _⟩ := h
  rfl
def vInt (f : Kzs1.Lines → Nat → Int) : Kzs1.Lines → Nat → V := fun g v => .int (f g v)
def vBl (f : Kzs1.Lines → Nat → Bool) : Kzs1.Lines → Nat → V := fun g v => .bl (f g v)
abbrev fSn : Kzs1.Lines → Nat → V := fun g v => .int (g.nx.getD v 0 : Nat)
abbrev fSb : Kzs1.Lines → Nat → V := fun g v => .int (g.bf.getD v 0 : Nat)
abbrev fOn : Kzs1.Lines → Nat → V := fun g v => .int (Kzs1.oneMore (Kzs1.next g v))
abbrev fBk : Kzs1.Lines → Nat → V := fun g v => .int (Kzs1.oneMore (Kzs1.before g v))
abbrev fBg : Kzs1.Lines → Nat → V := fun g v => .bl (Kzs1.begins g v)
abbrev fSt : Kzs1.Lines → Nat → V := fun g v => .bl (Kzs1.stops g v)
abbrev fIe : Kzs1.Lines → Nat → V := fun g v => .bl (Kzs1.isEnd g v)
theorem ifT {c : Bool} {A B : Prop} (hc : c = true) (h : A) : if c = true then A else B := by
  rw [if_pos hc]
  exact h
theorem ifF {c : Bool} {A B : Prop} (hc : c = false) (h : B) : if c = true then A else B := by
  rw [hc, if_neg Bool.false_ne_true]
  exact h
theorem neI_t {i j : Int} (h : i ≠ j) : (!decide (V.int i = V.int j)) = true := by
  rw [decide_eq_false (fun e => h (V.int.inj e))]
  rfl
theorem neI_f {i j : Int} (h : i = j) : (!decide (V.int i = V.int j)) = false := by
  rw [decide_eq_true (congrArg V.int h)]
  rfl
theorem eqI_t {i j : Int} (h : i = j) : decide (V.int i = V.int j) = true := decide_eq_true (congrArg V.int h)
theorem eqI_f {i j : Int} (h : i ≠ j) : decide (V.int i = V.int j) = false := decide_eq_false (fun e => h (V.int.inj e))
theorem eqI (i j : Int) : decide (V.int i = V.int j) = decide (i = j) := by
  by_cases h : i = j
  · rw [eqI_t h, decide_eq_true h]
  · rw [eqI_f h, decide_eq_false h]
theorem neI (i j : Int) : (!decide (V.int i = V.int j)) = decide (i ≠ j) := by
  by_cases h : i = j
  · rw [neI_f h, decide_eq_false (fun z => z h)]
  · rw [neI_t h, decide_eq_true h]
def spCount (K : PySem.W.Frag) : Sp := fun vs H Q _ => ∃ (a : Addr) (ns : List Int), vs = [.ref a] ∧ SqL K H a (ns.map V.int) ∧ Q (.int ((ns.length / 2 : Nat) : Int)) H
theorem sc_count : FnScope ["l"] ["l"] (defScope S_count_points) := ⟨rfl, rfl, rfl, by decide +kernel, rfl, by decide +kernel, by decide +kernel⟩
theorem ok_count (T : Txt K mg) : FnOk P w K mg base CX0 1 T.f_count T.fd_count ["l"] (spCount K) := by
  refine T.d_count.F.ok sc_count (fun vs H Q E h => ?_) (fun cdv A outer s H vs Q E hr h => ?_)
  · obtain ⟨a, ns, rfl, _⟩ := h
    rfl
  · obtain ⟨a, ns, rfl, hS, q⟩ := h
    refine ⟨_, pss_one (ps_ret (pe_op op_fdiv (pe_callB call_len_seq (by rfl) T.len PySem.boot_len (pa_cons (pv 0) pa_nil)) pe_int)), ?_⟩
    refine ⟨.ref a, rfl, a, _, rfl, .inl hS, _, _, rfl, rfl, ⟨by decide, by decide⟩, ?_⟩
    rw [List.length_map]
    exact q
theorem sc_sn : FnScope ["v", "l"] ["v", "l"] (defScope S_said_next) := ⟨rfl, rfl, rfl, by decide +kernel, rfl, by decide +kernel, by decide +kernel⟩
theorem ok_sn (T : Txt K mg) : FnOk P w K mg base CX0 1 T.f_sn T.fd_sn ["v", "l"] (spV fSn K) := by
  refine T.d_sn.F.ok sc_sn (fun vs H Q E h => spV_len h) (fun cdv A outer s H vs Q E hr h => ?_)
  obtain ⟨v, a, ns, g, rfl, hS, r, hv, q⟩ := h
  have hev := r.ev
  refine ⟨_, pss_one (ps_ret (pe_ix ix_list (pv 1) (pe_op op_mul pe_int (pv 0)) (fun _ _ => rfl))), ?_⟩
  refine ⟨_, rfl, _, rfl, _, _, rfl, rfl, .inl ⟨by decide, by decide⟩, a, _, _, _, rfl, rfl, hS, at_int (2 * v) (by omega) (by omega), ?_⟩
  rw [← r.nx v]
  exact q
theorem sc_sb : FnScope ["v", "l"] ["v", "l"] (defScope S_said_before) := ⟨rfl, rfl, rfl, by decide +kernel, rfl, by decide +kernel, by decide +kernel⟩
theorem ok_sb (T : Txt K mg) : FnOk P w K mg base CX0 1 T.f_sb T.fd_sb ["v", "l"] (spV fSb K) := by
  refine T.d_sb.F.ok sc_sb (fun vs H Q E h => spV_len h) (fun cdv A outer s H vs Q E hr h => ?_)
  obtain ⟨v, a, ns, g, rfl, hS, r, hv, q⟩ := h
  have hev := r.ev
  refine ⟨_, pss_one (ps_ret (pe_ix ix_list (pv 1) (pe_op op_add (pe_op op_mul pe_int (pv 0)) pe_int) (fun _ _ => rfl))), ?_⟩
  refine ⟨_, rfl, _, rfl, _, _, rfl, rfl, .inl ⟨by decide, by decide⟩, _, _, rfl, rfl, a, _, _, _, rfl, rfl, hS, at_int (2 * v + 1) (by omega) (by omega), ?_⟩
  rw [← r.bf v]
  exact q
theorem sc_on : FnScope ["v", "l", "there"] ["v", "l"] (defScope S_step_on) := ⟨rfl, rfl, rfl, by decide +kernel, rfl, by decide +kernel, by decide +kernel⟩
theorem ok_on (T : Txt K mg) : FnOk P w K mg base CX0 2 T.f_on T.fd_on ["v", "l"] (spV fOn K) := by
  have G1 : FnOk P w K mg base CX0 1 T.f_sn T.fd_sn ["v", "l"] (spV fSn K) := ok_sn T
  have G2 : FnOk P w K mg base CX0 1 T.f_sb T.fd_sb ["v", "l"] (spV fSb K) := ok_sb T
  refine T.d_on.F.ok sc_on (fun vs H Q E h => spV_len h) (fun cdv A outer s H vs Q E hr h => ?_)
  obtain ⟨v, a, ns, g, rfl, hS, r, hv, q⟩ := h
  refine ⟨_, pss_cons (ps_set (i := 2) sc_on.nd rfl (.inl rfl) (pe_call G1 hr (by rfl) T.d_sn.g T.d_sn.F.kp T.d_sn.b .nil pass0 (pa_cons (pv 0) (pa_cons (pv 1) pa_nil))))
    (pss_cons (ps_if (PW.pt (pw_and (pt_cmpR op_ne (pv 2) pe_int (nomark _)) (pw_and1 (pt_cmpR op_eq (pe_call G2 hr (by rfl) T.d_sb.g T.d_sb.F.kp T.d_sb.b .nil pass0 (pa_cons (pe_op op_sub (pv 2) pe_int) (pa_cons (pv 1) pa_nil))) (pe_op op_add (pv 0) pe_int) (nomark _)))))
      (pss_one (ps_ret (pv 2))) pss_nil)
    (pss_one (ps_ret pe_int))), ?_⟩
  refine ⟨_, rfl, _, rfl, v, a, ns, g, rfl, hS, r, hv, ?_⟩
  refine ⟨_, rfl, rfl, _, rfl, ?_⟩
  have hl := r.nl v
  by_cases c : g.nx.getD v 0 = 0
  · refine ifF (neI_f (by omega)) (iteF ?_)
    have e : Kzs1.next g v = none := by
      unfold Kzs1.next
      simp only
      rw [if_pos c]
    show Q _ H
    rw [fOn, e] at q
    exact q
  · refine ifT (neI_t (by omega)) ?_
    refine ⟨_, rfl, _, _, rfl, rfl, _, rfl, g.nx.getD v 0 - 1, a, ns, g, ?_, hS, r, by omega, _, rfl, _, _, rfl, rfl, rfl, _, rfl, ?_⟩
    · rw [show ((g.nx.getD v 0 - 1 : Nat) : Int) = (g.nx.getD v 0 : Int) - 1 from by omega]
      rfl
    by_cases d : g.bf.getD (g.nx.getD v 0 - 1) 0 = v + 1
    · refine ifT (eqI_t (by omega)) ?_
      refine ⟨_, rfl, ?_⟩
      have e : Kzs1.next g v = some (g.nx.getD v 0 - 1) := next_of (by omega) d
      rw [fOn, e] at q
      show Q (.int (g.nx.getD v 0 : Nat)) H
      rw [show ((g.nx.getD v 0 : Nat) : Int) = Kzs1.oneMore (some (g.nx.getD v 0 - 1)) from by
        show _ = ((g.nx.getD v 0 - 1 + 1 : Nat) : Int)
        omega]
      exact q
    · refine ifF (eqI_f (by omega)) ?_
      have e : Kzs1.next g v = none := by
        unfold Kzs1.next
        simp only
        rw [if_neg c, if_neg d]
      show Q _ H
      rw [fOn, e] at q
      exact q
theorem sc_bk : FnScope ["v", "l", "there"] ["v", "l"] (defScope S_step_back) := ⟨rfl, rfl, rfl, by decide +kernel, rfl, by decide +kernel, by decide +kernel⟩
theorem ok_bk (T : Txt K mg) : FnOk P w K mg base CX0 2 T.f_bk T.fd_bk ["v", "l"] (spV fBk K) := by
  have G1 : FnOk P w K mg base CX0 1 T.f_sb T.fd_sb ["v", "l"] (spV fSb K) := ok_sb T
  have G2 : FnOk P w K mg base CX0 1 T.f_sn T.fd_sn ["v", "l"] (spV fSn K) := ok_sn T
  refine T.d_bk.F.ok sc_bk (fun vs H Q E h => spV_len h) (fun cdv A outer s H vs Q E hr h => ?_)
  obtain ⟨v, a, ns, g, rfl, hS, r, hv, q⟩ := h
  refine ⟨_, pss_cons (ps_set (i := 2) sc_bk.nd rfl (.inl rfl) (pe_call G1 hr (by rfl) T.d_sb.g T.d_sb.F.kp T.d_sb.b .nil pass0 (pa_cons (pv 0) (pa_cons (pv 1) pa_nil))))
    (pss_cons (ps_if (PW.pt (pw_and (pt_cmpR op_ne (pv 2) pe_int (nomark _)) (pw_and1 (pt_cmpR op_eq (pe_call G2 hr (by rfl) T.d_sn.g T.d_sn.F.kp T.d_sn.b .nil pass0 (pa_cons (pe_op op_sub (pv 2) pe_int) (pa_cons (pv 1) pa_nil))) (pe_op op_add (pv 0) pe_int) (nomark _)))))
      (pss_one (ps_ret (pv 2))) pss_nil)
    (pss_one (ps_ret pe_int))), ?_⟩
  refine ⟨_, rfl, _, rfl, v, a, ns, g, rfl, hS, r, hv, ?_⟩
  refine ⟨_, rfl, rfl, _, rfl, ?_⟩
  have hl := r.bl v
  by_cases c : g.bf.getD v 0 = 0
  · refine ifF (neI_f (by omega)) (iteF ?_)
    have e : Kzs1.before g v = none := by
      unfold Kzs1.before
      simp only
      rw [if_pos c]
    show Q _ H
    rw [fBk, e] at q
    exact q
  · refine ifT (neI_t (by omega)) ?_
    refine ⟨_, rfl, _, _, rfl, rfl, _, rfl, g.bf.getD v 0 - 1, a, ns, g, ?_, hS, r, by omega, _, rfl, _, _, rfl, rfl, rfl, _, rfl, ?_⟩
    · rw [show ((g.bf.getD v 0 - 1 : Nat) : Int) = (g.bf.getD v 0 : Int) - 1 from by omega]
      rfl
    by_cases d : g.nx.getD (g.bf.getD v 0 - 1) 0 = v + 1
    · refine ifT (eqI_t (by omega)) ?_
      refine ⟨_, rfl, ?_⟩
      have e : Kzs1.before g v = some (g.bf.getD v 0 - 1) := before_of (by omega) d
      rw [fBk, e] at q
      show Q (.int (g.bf.getD v 0 : Nat)) H
      rw [show ((g.bf.getD v 0 : Nat) : Int) = Kzs1.oneMore (some (g.bf.getD v 0 - 1)) from by
        show _ = ((g.bf.getD v 0 - 1 + 1 : Nat) : Int)
        omega]
      exact q
    · refine ifF (eqI_f (by omega)) ?_
      have e : Kzs1.before g v = none := by
        unfold Kzs1.before
        simp only
        rw [if_neg c, if_neg d]
      show Q _ H
      rw [fBk, e] at q
      exact q
def spFits (K : PySem.W.Frag) : Sp := fun vs H Q _ => ∃ (a : Addr) (ns : List Int), vs = [.ref a] ∧ SqL K H a (ns.map V.int) ∧ ns.length ≤ 1000 ∧ ∀ H', Same H H' → Q (.bl (fitsB ns)) H'
theorem sc_fits : FnScope ["l", "number"] ["l"] (defScope S_list_fits) := ⟨rfl, rfl, rfl, by decide +kernel, rfl, by decide +kernel, by decide +kernel⟩
theorem ok_fits (T : Txt K mg) : FnOk P w K mg base CX0 2 T.f_fits T.fd_fits ["l"] (spFits K) := by
  have G1 : FnOk P w K mg base CX0 1 T.f_count T.fd_count ["l"] (spCount K) := ok_count T
  refine T.d_fits.F.ok sc_fits (fun vs H Q E h => ?_) (fun cdv A outer s H vs Q E hr h => ?_)
  · obtain ⟨a, ns, rfl, _⟩ := h
    rfl
  obtain ⟨a, ns, rfl, hS, hlen, q⟩ := h
  refine ⟨_, pss_cons (ps_if (PW.pt (pw_or (pt_cmpR op_ne (pe_op op_mod (pe_callB call_len_seq (by rfl) T.len PySem.boot_len (pa_cons (pv 0) pa_nil)) pe_int) pe_int (nomark _))
      (pw_or1 (pt_cmpR op_gt (pe_call G1 hr (by rfl) T.d_count.g T.d_count.F.kp T.d_count.b .nil pass0 (pa_cons (pv 0) pa_nil)) (pe_glob (v := .int 400) rfl T.most ⟨_, rfl⟩) (nomark _)))))
      (pss_one (ps_ret pe_bl)) pss_nil)
    (pss_one (ps_ret (pe_callB (cr_all rfl) (by rfl) T.all (by decide +kernel) (pa_cons
      (pe_lc (own := [("number", 1)]) (g := gName 1) (tt := tYes) (by rfl) sc_fits.nd (pi_list (pv 0)) (blkOk_by (own := [("number", 1)]) (N := ["l", "number"]) (sc := defScope S_list_fits) (by decide +kernel))
        (fun _ _ _ _ _ => pg_name (i := 1) sc_fits.nd rfl (Or.inl rfl)) (fun _ _ _ _ _ => pts_nil)
        (fun _ _ _ _ _ => pe_cmpR op_le (pv 1) (pe_call G1 hr (by rfl) T.d_count.g T.d_count.F.kp T.d_count.b .nil pass0 (pa_cons (pv 0) pa_nil)) (nomark _))) pa_nil)))), ?_⟩
  refine ⟨_, rfl, a, _, rfl, .inl hS, _, _, rfl, rfl, (by show (0 : Int) < 2; decide), rfl, _, rfl, ?_⟩
  rw [List.length_map]
  by_cases c1 : ns.length % 2 = 0
  · refine ifF (neI_f (by omega)) ?_
    refine ⟨_, rfl, a, ns, rfl, hS, _, _, rfl, rfl, _, rfl, ?_⟩
    by_cases c2 : ns.length / 2 ≤ 400
    · refine ifF (decide_eq_false (by omega)) ?_
      refine ⟨_, rfl, a, rfl, ⟨_, hS⟩, fun D hD => ?_⟩
      refine lc_list (K := K) (a := a) (xs := ns.map V.int) (fun i H' => H' D = some (.lst (((ns.take i).map fun x => decide (x ≤ ((ns.length / 2 : Nat) : Int))).map V.bl)) ∧ Same H H') ⟨upd_same, same_upd hD⟩ (fun i H' _ p => p.2.seq hS) ?_ ?_
      · rintro i x H' hi ⟨p1, p2⟩
        obtain ⟨z, hz, rfl⟩ : ∃ z, ns[i]? = some z ∧ V.int z = x := by
          rw [List.getElem?_map] at hi
          exact Option.map_eq_some_iff.mp hi
        have hl : i < ns.length := (List.getElem?_eq_some_iff.mp hz).1
        refine ⟨rfl, ?_⟩
        refine ⟨_, rfl, _, rfl, a, ns, rfl, p2.seq hS, _, _, rfl, rfl, _, p1, ?_, ?_, ?_⟩
        · rw [List.length_map, List.length_map, List.length_take]
          exact small1000 (by omega)
        · rw [upd_same, List.take_add_one, hz, List.map_append, List.map_append]
          rfl
        · intro b o e
          rw [upd_ne (ne_of_none e hD)]
          exact p2 b o e
      · rintro H' ⟨p1, p2⟩
        rw [List.length_map, List.take_length] at p1
        refine ⟨D, _, rfl, SqL.of p1, ?_⟩
        have e : fitsB ns = (ns.map fun x => decide (x ≤ ((ns.length / 2 : Nat) : Int))).all id := by
          unfold fitsB
          rw [decide_eq_true c1, decide_eq_true c2, List.all_map]
          rfl
        rw [← e]
        exact q H' p2
    · refine ifT (decide_eq_true (by omega)) ?_
      have e : fitsB ns = false := by
        unfold fitsB
        rw [decide_eq_false c2, Bool.and_false, Bool.false_and]
      rw [e] at q
      exact q H (Same.refl H)
  · refine ifT (neI_t (by omega)) (iteT ?_)
    have e : fitsB ns = false := by
      unfold fitsB
      rw [decide_eq_false c1, Bool.false_and, Bool.false_and]
    rw [e] at q
    exact q H (Same.refl H)
def spRp (K : PySem.W.Frag) : Sp := fun vs H Q _ => ∃ (v : Int) (a : Addr) (ns : List Int), vs = [.int v, .ref a] ∧ SqL K H a (ns.map V.int) ∧ ns.length ≤ 1000 ∧ (∀ x ∈ ns, 0 ≤ x) ∧ 0 ≤ v ∧
  (fitsB ns = false → ∀ H', Same H H' → Q (.int (-22)) H') ∧ (∀ g, Rd ns g → Kzs1.size g ≤ v.toNat → ∀ H', Same H H' → Q (.int (-2)) H') ∧
  (∀ g, Rd ns g → v.toNat < Kzs1.size g → ∀ H', Same H H' → Q (.int 0) H')
theorem sc_rp : FnScope ["v", "l"] ["v", "l"] (defScope S_refusal_of_point) := ⟨rfl, rfl, rfl, by decide +kernel, rfl, by decide +kernel, by decide +kernel⟩
theorem ok_rp (T : Txt K mg) : FnOk P w K mg base CX0 3 T.f_rp T.fd_rp ["v", "l"] (spRp K) := by
  have G1 : FnOk P w K mg base CX0 1 T.f_count T.fd_count ["l"] (spCount K) := ok_count T
  have G2 : FnOk P w K mg base CX0 2 T.f_fits T.fd_fits ["l"] (spFits K) := ok_fits T
  refine T.d_rp.F.ok sc_rp (fun vs H Q E h => ?_) (fun cdv A outer s H vs Q E hr h => ?_)
  · obtain ⟨v, a, ns, rfl, _⟩ := h
    rfl
  obtain ⟨v, a, ns, rfl, hS, hlen, h0, hv, q1, q2, q3⟩ := h
  refine ⟨_, pss_cons (ps_if (pt_not (pt_val (pe_call G2 hr (by rfl) T.d_fits.g T.d_fits.F.kp T.d_fits.b .nil pass0 (pa_cons (pv 1) pa_nil))))
      (pss_one (ps_ret (pe_glob (v := .int (-22)) rfl T.listR ⟨_, rfl⟩))) pss_nil)
    (pss_cons (ps_if (pt_cmpR op_ge (pv 0) (pe_call G1 (hr.mono (by decide)) (by rfl) T.d_count.g T.d_count.F.kp T.d_count.b .nil pass0 (pa_cons (pv 1) pa_nil)) (nomark _))
      (pss_one (ps_ret (pe_glob (v := .int (-2)) rfl T.pointR ⟨_, rfl⟩))) pss_nil)
    (pss_one (ps_ret pe_int))), ?_⟩
  refine ⟨_, rfl, a, ns, rfl, hS, hlen, fun H1 s1 => ⟨_, rfl, ?_⟩⟩
  cases c : fitsB ns with
  | false =>
    refine iteT ?_
    exact q1 c H1 s1
  | true =>
    obtain ⟨g, r⟩ := fits_rd h0 c
    have hsz := r.sz
    refine iteF ?_
    refine ⟨_, rfl, _, rfl, a, ns, rfl, s1.seq hS, _, _, rfl, rfl, _, rfl, ?_⟩
    by_cases d : Kzs1.size g ≤ v.toNat
    · refine ifT (decide_eq_true (by omega)) ?_
      exact q2 g r d H1 s1
    · refine ifF (decide_eq_false (by omega)) ?_
      exact q3 g r (by omega) H1 s1
def spStep (K : PySem.W.Frag) : Sp := fun vs H Q _ => ∃ (v : Int) (a : Addr) (ns : List Int), vs = [.int v, .ref a] ∧ SqL K H a (ns.map V.int) ∧ ns.length ≤ 800 ∧ 0 ≤ v ∧ (∀ x ∈ ns, 0 ≤ x) ∧
  ∀ (H' : Hp) (p : Addr), H' p = some (.lst ((PyKzs1.step v ns).map V.int)) → Q (.ref p) H'
theorem step_unfit {v : Int} {ns : List Int} (h0 : ∀ x ∈ ns, 0 ≤ x) (h : fitsB ns = false) : PyKzs1.step v ns = [-22] := by
  show (Kzs1.answer (.step v.toNat (Kzs1Neutral.natsOf ns))).value :: (Kzs1.answer (.step v.toNat (Kzs1Neutral.natsOf ns))).nums = _
  unfold Kzs1.answer
  simp only
  rw [unfit_with h0 h]
  rfl
theorem step_far {v : Int} {ns : List Int} {g : Kzs1.Lines} (r : Rd ns g) (h : Kzs1.size g ≤ v.toNat) : PyKzs1.step v ns = [-2] := by
  show (Kzs1.answer (.step v.toNat (Kzs1Neutral.natsOf ns))).value :: (Kzs1.answer (.step v.toNat (Kzs1Neutral.natsOf ns))).nums = _
  unfold Kzs1.answer
  simp only
  rw [r.with, if_pos h]
  rfl
theorem step_yes {v : Int} {ns : List Int} {g : Kzs1.Lines} (r : Rd ns g) (h : v.toNat < Kzs1.size g) : PyKzs1.step v ns = [Kzs1.oneMore (Kzs1.next g v.toNat), Kzs1.oneMore (Kzs1.before g v.toNat)] := by
  show (Kzs1.answer (.step v.toNat (Kzs1Neutral.natsOf ns))).value :: (Kzs1.answer (.step v.toNat (Kzs1Neutral.natsOf ns))).nums = _
  unfold Kzs1.answer
  simp only
  rw [r.with, if_neg (by omega)]
theorem sc_step : FnScope ["v", "l", "refusal"] ["v", "l"] (defScope S_step) := ⟨rfl, rfl, rfl, by decide +kernel, rfl, by decide +kernel, by decide +kernel⟩
theorem ok_step {f : Addr} {fd : FuncData} (F : Fun K "step" "step" S_step f fd) (T : Txt K mg) : FnOk P w K mg base CX0 4 f fd ["v", "l"] (spStep K) := by
  have G1 : FnOk P w K mg base CX0 3 T.f_rp T.fd_rp ["v", "l"] (spRp K) := ok_rp T
  have G2 : FnOk P w K mg base CX0 2 T.f_on T.fd_on ["v", "l"] (spV fOn K) := ok_on T
  have G3 : FnOk P w K mg base CX0 2 T.f_bk T.fd_bk ["v", "l"] (spV fBk K) := ok_bk T
  refine F.ok sc_step (fun vs H Q E h => ?_) (fun cdv A outer s H vs Q E hr h => ?_)
  · obtain ⟨v, a, ns, rfl, _⟩ := h
    rfl
  obtain ⟨v, a, ns, rfl, hS, hlen, hv, h0, q⟩ := h
  refine ⟨_, pss_cons (ps_set (i := 2) sc_step.nd rfl (.inl rfl) (pe_call G1 hr (by rfl) T.d_rp.g T.d_rp.F.kp T.d_rp.b .nil pass0 (pa_cons (pv 0) (pa_cons (pv 1) pa_nil))))
    (pss_cons (ps_if (pt_cmpR op_ne (pv 2) pe_int (nomark _)) (pss_one (ps_ret (pe_lst (pa_cons (pv 2) pa_nil)))) pss_nil)
    (pss_one (ps_ret (pe_lst (pa_cons (pe_call G2 (hr.mono (by decide)) (by rfl) T.d_on.g T.d_on.F.kp T.d_on.b .nil pass0 (pa_cons (pv 0) (pa_cons (pv 1) pa_nil)))
      (pa_cons (pe_call G3 (hr.mono (by decide)) (by rfl) T.d_bk.g T.d_bk.F.kp T.d_bk.b .nil pass0 (pa_cons (pv 0) (pa_cons (pv 1) pa_nil))) pa_nil)))))), ?_⟩
  refine ⟨_, rfl, _, rfl, v, a, ns, rfl, hS, by omega, h0, hv, fun c H1 s1 => ?_, fun g r c H1 s1 => ?_, fun g r c H1 s1 => ?_⟩
  · refine ⟨_, rfl, rfl, _, rfl, ifT (neI_t (by decide)) ?_⟩
    refine ⟨_, rfl, by show 1 ≤ sizeLine; decide, fun p hp => q _ p ?_⟩
    rw [step_unfit h0 c, upd_same]
    rfl
  · refine ⟨_, rfl, rfl, _, rfl, ifT (neI_t (by decide)) ?_⟩
    refine ⟨_, rfl, by show 1 ≤ sizeLine; decide, fun p hp => q _ p ?_⟩
    rw [step_far r c, upd_same]
    rfl
  · refine ⟨_, rfl, rfl, _, rfl, ifF (neI_f rfl) ?_⟩
    have ev : V.int v = V.int ((v.toNat : Nat) : Int) := by rw [Int.toNat_of_nonneg hv]
    rw [step_yes r c] at q
    refine ⟨_, rfl, _, rfl, v.toNat, a, ns, g, (by rw [← ev]; rfl), s1.seq hS, r, c, ?_⟩
    refine ⟨_, rfl, _, rfl, v.toNat, a, ns, g, (by rw [← ev]; rfl), s1.seq hS, r, c, ?_⟩
    exact ⟨by show 2 ≤ sizeLine; decide, fun p hp => q _ p upd_same⟩
end
theorem item {x : Int} (h : Codec.inInt 0 4294967295 x = true) : 0 ≤ x := by
  unfold Codec.inInt at h
  simp at h
  omega
theorem items {l : List Int} (h : l.all (Codec.inInt 0 4294967295) = true) : ∀ x ∈ l, 0 ≤ x := fun x hx => item (List.all_eq_true.mp h x hx)
/-! ### 6. What the top has written -/
theorem all_mk {P : Program} {w : World} {K : PySem.W.Frag} {h : Heap} {mg : Str → Option Value} {fa : Addr} (X : K.In h) (G : h.Ns mainGlobals mg) (hfa : mg "step" = some (.ref fa))
    {od1 an1 : Option Addr} {sl1 : Array (Option Value)} {oc1 kV1 dc1 pm1 cd1 ct1 : Value} {f1 : Addr}
    (a1 : PySem.W.nsIn K mainGlobals "step" = some (some (.ref f1))) (l1 : K.lookup f1 = some ⟨oc1, od1, .func (PySem.W.fnOf "step" "step" (defArgs S_step) (defBody S_step) (defScope S_step) .none kV1 dc1 pm1 an1 cd1 ct1), sl1⟩) (c1 : PySem.W.codeIn K cd1 "step" = true) (k1 : PySem.W.keepIn K (.ref f1) = true)
    {od2 an2 : Option Addr} {sl2 : Array (Option Value)} {oc2 kV2 dc2 pm2 cd2 ct2 : Value} {f2 : Addr}
    (a2 : PySem.W.nsIn K mainGlobals "count_points" = some (some (.ref f2))) (l2 : K.lookup f2 = some ⟨oc2, od2, .func (PySem.W.fnOf "count_points" "count_points" (defArgs S_count_points) (defBody S_count_points) (defScope S_count_points) .none kV2 dc2 pm2 an2 cd2 ct2), sl2⟩) (c2 : PySem.W.codeIn K cd2 "count_points" = true) (k2 : PySem.W.keepIn K (.ref f2) = true)
    {od3 an3 : Option Addr} {sl3 : Array (Option Value)} {oc3 kV3 dc3 pm3 cd3 ct3 : Value} {f3 : Addr}
    (a3 : PySem.W.nsIn K mainGlobals "said_next" = some (some (.ref f3))) (l3 : K.lookup f3 = some ⟨oc3, od3, .func (PySem.W.fnOf "said_next" "said_next" (defArgs S_said_next) (defBody S_said_next) (defScope S_said_next) .none kV3 dc3 pm3 an3 cd3 ct3), sl3⟩) (c3 : PySem.W.codeIn K cd3 "said_next" = true) (k3 : PySem.W.keepIn K (.ref f3) = true)
    {od4 an4 : Option Addr} {sl4 : Array (Option Value)} {oc4 kV4 dc4 pm4 cd4 ct4 : Value} {f4 : Addr}
    (a4 : PySem.W.nsIn K mainGlobals "said_before" = some (some (.ref f4))) (l4 : K.lookup f4 = some ⟨oc4, od4, .func (PySem.W.fnOf "said_before" "said_before" (defArgs S_said_before) (defBody S_said_before) (defScope S_said_before) .none kV4 dc4 pm4 an4 cd4 ct4), sl4⟩) (c4 : PySem.W.codeIn K cd4 "said_before" = true) (k4 : PySem.W.keepIn K (.ref f4) = true)
    {od5 an5 : Option Addr} {sl5 : Array (Option Value)} {oc5 kV5 dc5 pm5 cd5 ct5 : Value} {f5 : Addr}
    (a5 : PySem.W.nsIn K mainGlobals "step_on" = some (some (.ref f5))) (l5 : K.lookup f5 = some ⟨oc5, od5, .func (PySem.W.fnOf "step_on" "step_on" (defArgs S_step_on) (defBody S_step_on) (defScope S_step_on) .none kV5 dc5 pm5 an5 cd5 ct5), sl5⟩) (c5 : PySem.W.codeIn K cd5 "step_on" = true) (k5 : PySem.W.keepIn K (.ref f5) = true)
    {od6 an6 : Option Addr} {sl6 : Array (Option Value)} {oc6 kV6 dc6 pm6 cd6 ct6 : Value} {f6 : Addr}
    (a6 : PySem.W.nsIn K mainGlobals "step_back" = some (some (.ref f6))) (l6 : K.lookup f6 = some ⟨oc6, od6, .func (PySem.W.fnOf "step_back" "step_back" (defArgs S_step_back) (defBody S_step_back) (defScope S_step_back) .none kV6 dc6 pm6 an6 cd6 ct6), sl6⟩) (c6 : PySem.W.codeIn K cd6 "step_back" = true) (k6 : PySem.W.keepIn K (.ref f6) = true)
    {od7 an7 : Option Addr} {sl7 : Array (Option Value)} {oc7 kV7 dc7 pm7 cd7 ct7 : Value} {f7 : Addr}
    (a7 : PySem.W.nsIn K mainGlobals "list_fits" = some (some (.ref f7))) (l7 : K.lookup f7 = some ⟨oc7, od7, .func (PySem.W.fnOf "list_fits" "list_fits" (defArgs S_list_fits) (defBody S_list_fits) (defScope S_list_fits) .none kV7 dc7 pm7 an7 cd7 ct7), sl7⟩) (c7 : PySem.W.codeIn K cd7 "list_fits" = true) (k7 : PySem.W.keepIn K (.ref f7) = true)
    {od8 an8 : Option Addr} {sl8 : Array (Option Value)} {oc8 kV8 dc8 pm8 cd8 ct8 : Value} {f8 : Addr}
    (a8 : PySem.W.nsIn K mainGlobals "refusal_of_point" = some (some (.ref f8))) (l8 : K.lookup f8 = some ⟨oc8, od8, .func (PySem.W.fnOf "refusal_of_point" "refusal_of_point" (defArgs S_refusal_of_point) (defBody S_refusal_of_point) (defScope S_refusal_of_point) .none kV8 dc8 pm8 an8 cd8 ct8), sl8⟩) (c8 : PySem.W.codeIn K cd8 "refusal_of_point" = true) (k8 : PySem.W.keepIn K (.ref f8) = true)
    (z1 : PySem.W.nsIn K mainGlobals "len" = some none)
    (z2 : PySem.W.nsIn K mainGlobals "all" = some none)
    {t1 : Nat} (m1 : PySem.W.nsIn K mainGlobals "MOST_POINTS" = some (some (.int 400 t1)))
    {t2 : Nat} (m2 : PySem.W.nsIn K mainGlobals "LIST_REFUSED" = some (some (.int (-22) t2)))
    {t3 : Nat} (m3 : PySem.W.nsIn K mainGlobals "POINT_REFUSED" = some (some (.int (-2) t3))) :
    ∃ fd : FuncData, (∀ (s : Shared) (us : List Value), us.length = (["v", "l"] : List Str).length → BindsTo s fd ⟨us, []⟩ ((["v", "l"] : List Str).zip us)) ∧ ∀ base : Heap, K.In base → base.Ns mainGlobals mg → FnOk P w K mg base CX0 4 fa fd ["v", "l"] (spStep K) := by
  have e := hfa.symm.trans (PySem.W.mg_of X G a1)
  cases e
  have F1 := fun_mk (st := S_step) l1 c1 k1
  have F2 := fun_mk (st := S_count_points) l2 c2 k2
  have b2 := F2.binds (ps := ["l"]) fun _ _ _ _ _ _ us hl => match us, hl with | [_], _ => rfl
  have F3 := fun_mk (st := S_said_next) l3 c3 k3
  have b3 := F3.binds (ps := ["v", "l"]) fun _ _ _ _ _ _ us hl => match us, hl with | [_, _], _ => rfl
  have F4 := fun_mk (st := S_said_before) l4 c4 k4
  have b4 := F4.binds (ps := ["v", "l"]) fun _ _ _ _ _ _ us hl => match us, hl with | [_, _], _ => rfl
  have F5 := fun_mk (st := S_step_on) l5 c5 k5
  have b5 := F5.binds (ps := ["v", "l"]) fun _ _ _ _ _ _ us hl => match us, hl with | [_, _], _ => rfl
  have F6 := fun_mk (st := S_step_back) l6 c6 k6
  have b6 := F6.binds (ps := ["v", "l"]) fun _ _ _ _ _ _ us hl => match us, hl with | [_, _], _ => rfl
  have F7 := fun_mk (st := S_list_fits) l7 c7 k7
  have b7 := F7.binds (ps := ["l"]) fun _ _ _ _ _ _ us hl => match us, hl with | [_], _ => rfl
  have F8 := fun_mk (st := S_refusal_of_point) l8 c8 k8
  have b8 := F8.binds (ps := ["v", "l"]) fun _ _ _ _ _ _ us hl => match us, hl with | [_, _], _ => rfl
  have T : Txt K mg := {
    len := PySem.W.mg_none_of X G z1
    all := PySem.W.mg_none_of X G z2
    tMost := t1
    most := PySem.W.mg_of X G m1
    tList := t2
    listR := PySem.W.mg_of X G m2
    tPoint := t3
    pointR := PySem.W.mg_of X G m3
    f_count := f2
    fd_count := _
    d_count := ⟨F2, b2, PySem.W.mg_of X G a2⟩
    f_sn := f3
    fd_sn := _
    d_sn := ⟨F3, b3, PySem.W.mg_of X G a3⟩
    f_sb := f4
    fd_sb := _
    d_sb := ⟨F4, b4, PySem.W.mg_of X G a4⟩
    f_on := f5
    fd_on := _
    d_on := ⟨F5, b5, PySem.W.mg_of X G a5⟩
    f_bk := f6
    fd_bk := _
    d_bk := ⟨F6, b6, PySem.W.mg_of X G a6⟩
    f_fits := f7
    fd_fits := _
    d_fits := ⟨F7, b7, PySem.W.mg_of X G a7⟩
    f_rp := f8
    fd_rp := _
    d_rp := ⟨F8, b8, PySem.W.mg_of X G a8⟩
  }
  exact ⟨_, fun s us hu => match us, hu with | [_, _], _ => .of_eq rfl, fun base _ _ => ok_step F1 T⟩
end My
open PySem PySem.W PyProof.Rows
set_option maxRecDepth 100000 in
set_option maxHeartbeats 8000000 in
theorem PySem.Challenge.cw_otherend_s07_step_holds : PySem.Challenge.rw_otherend_s07_step.Holds := by
  w_on; k_headS; (case hw => exact ⟨[.int 0, .list []], by decide +kernel, by decide +kernel⟩)
  k_fillS
  refine L2.walk_specK (r := PySem.Challenge.rw_otherend_s07_step) (k := 4) (CX := L2.CX0) (ps := ["v", "l"]) (sp := My.spStep) (by decide +kernel) rfl rfl ⟨rfl, by decide, by decide⟩ (fun w h Y => PySem.W.kIn_of Y) ?F ?S (fun _ _ _ _ z => z)
  case F =>
    intro w mg fa h Y KX G hmg
    refine' My.all_mk KX G hmg ?a1 ?l1 ?c1 ?k1 ?a2 ?l2 ?c2 ?k2 ?a3 ?l3 ?c3 ?k3 ?a4 ?l4 ?c4 ?k4 ?a5 ?l5 ?c5 ?k5 ?a6 ?l6 ?c6 ?k6 ?a7 ?l7 ?c7 ?k7 ?a8 ?l8 ?c8 ?k8 ?z1 ?z2 ?m1 ?m2 ?m3
    (case a1 => k_is); (case l1 => k_is); (case c1 => k_is); (case k1 => k_is); (case a2 => k_is); (case l2 => k_is); (case c2 => k_is); (case k2 => k_is); (case a3 => k_is); (case l3 => k_is); (case c3 => k_is); (case k3 => k_is); (case a4 => k_is); (case l4 => k_is); (case c4 => k_is); (case k4 => k_is); (case a5 => k_is); (case l5 => k_is); (case c5 => k_is); (case k5 => k_is); (case a6 => k_is); (case l6 => k_is); (case c6 => k_is); (case k6 => k_is); (case a7 => k_is); (case l7 => k_is); (case c7 => k_is); (case k7 => k_is); (case a8 => k_is); (case l8 => k_is); (case c8 => k_is); (case k8 => k_is); (case z1 => k_is); (case z2 => k_is); (case m1 => k_is); (case m2 => k_is); (case m3 => k_is)
  case S =>
    intro K H xs a hO hwi hask hx
    cases hx with
    | cons h1 h2 =>
      cases h1
      cases h2 with
      | cons h3 h4 =>
      cases h4
      cases h3 with
      | lst hs ha =>
        have e := L2.ints_dw a.2.1 _ ha
        subst e
        have q : (Codec.inInt 0 4294967295 a.1 && ((Codec.inLen 0 800 a.2.1 && a.2.1.all (Codec.inInt 0 4294967295)) && true)) = true := hwi
        rw [Bool.and_eq_true, Bool.and_eq_true, Bool.and_eq_true] at q
        exact ⟨a.1, _, a.2.1, rfl, hs, (Codec.inNat_iff.mp q.2.1.1).2, My.item q.1, My.items q.2.1.2, fun H' p hp => .lst (L2.SqL.of hp) (L2.dw_ints _)⟩
#print axioms PySem.Challenge.cw_otherend_s07_step_holds
