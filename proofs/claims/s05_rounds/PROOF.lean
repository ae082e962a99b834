import PyProof.Rows.All
import Wide.All
import OpenK.AllK
import Wide.FinOn
import Open.SpecLaws
import KE.OsGo
import HandS.ForSpec
import HandS.Comp
import HandS.Dict
import PySem.Challenge.RW_otherend_s05_rounds
set_option Elab.async false
set_option linter.all false
set_option maxRecDepth 100000
set_option maxHeartbeats 2000000
namespace My
open Kzs1
/-! ### 1. The list and the lines that it tells -/
def nats (ns : List Int) : List Nat := ns.map Int.toNat
theorem read_even : ∀ (l : List Nat) (n : Nat), l.length = 2 * n → ∃ g, readLines l = some g ∧ g.nx.length = n ∧ g.bf.length = n ∧
    (∀ i, g.nx.getD i 0 = l.getD (2 * i) 0) ∧ (∀ i, g.bf.getD i 0 = l.getD (2 * i + 1) 0) ∧ (∀ x, x ∈ g.nx ++ g.bf ↔ x ∈ l)
  | [], n, h => by
    have : n = 0 := by simp at h; omega
    subst this
    exact ⟨⟨[], []⟩, rfl, rfl, rfl, fun i => by simp, fun i => by simp, fun x => by simp⟩
  | [a], n, h => by
    simp at h
    omega
  | a :: b :: l, n, h => by
    obtain ⟨m, rfl⟩ : ∃ m, n = m + 1 := ⟨n - 1, by simp at h; omega⟩
    obtain ⟨g, e, l1, l2, hn, hb, hm⟩ := read_even l m (by simp at h; omega)
    refine ⟨⟨a :: g.nx, b :: g.bf⟩, ?_, by simp [l1], by simp [l2], fun i => ?_, fun i => ?_, fun x => ?_⟩
    · unfold readLines
      rw [e]
      rfl
    · cases i with
      | zero => rfl
      | succ i =>
        show g.nx.getD i 0 = _
        rw [hn i, show 2 * (i + 1) = 2 * i + 2 from by omega]
        simp [List.getD]
    · cases i with
      | zero => rfl
      | succ i =>
        show g.bf.getD i 0 = _
        rw [hb i, show 2 * (i + 1) + 1 = 2 * i + 1 + 2 from by omega]
        simp [List.getD]
    · have := hm x
      simp only [List.mem_append, List.mem_cons] at this ⊢
      grind
theorem read_odd : ∀ (l : List Nat), l.length % 2 = 1 → readLines l = none
  | [], h => by simp at h
  | [a], _ => rfl
  | a :: b :: l, h => by
    unfold readLines
    rw [read_odd l (by simp at h; omega)]
    rfl
/-- what is asked of the list that is handed in -/
def fitsB (ns : List Int) : Bool := decide (ns.length % 2 = 0) && decide (ns.length / 2 ≤ 400) && ns.all fun x => decide (x ≤ ((ns.length / 2 : Nat) : Int))
/-- the list tells the lines g, and they are no refusal -/
structure Rd (ns : List Int) (g : Lines) : Prop where
  rd : readLines (nats ns) = some g
  ok : okLines g = true
  sz : size g = ns.length / 2
  ev : ns.length = 2 * size g
  le : size g ≤ 400
  nx : ∀ i, (g.nx.getD i 0 : Int) = ns.getD (2 * i) 0
  bf : ∀ i, (g.bf.getD i 0 : Int) = ns.getD (2 * i + 1) 0
  nl : ∀ i, g.nx.getD i 0 ≤ size g
  bl : ∀ i, g.bf.getD i 0 ≤ size g
theorem getD_nats {ns : List Int} (h0 : ∀ x ∈ ns, 0 ≤ x) (i : Nat) : (((nats ns).getD i 0 : Nat) : Int) = ns.getD i 0 := by
  unfold nats
  rw [List.getD_eq_getElem?_getD, List.getD_eq_getElem?_getD, List.getElem?_map]
  cases e : ns[i]? with
  | none => rfl
  | some x =>
    have := h0 x (List.mem_of_getElem? e)
    simp
    omega
theorem getD_le {l : List Nat} {n : Nat} (h : ∀ x ∈ l, x ≤ n) (i : Nat) : l.getD i 0 ≤ n := by
  rw [List.getD_eq_getElem?_getD]
  cases e : l[i]? with
  | none => simp
  | some x => exact h x (List.mem_of_getElem? e)
theorem fits_rd {ns : List Int} (h0 : ∀ x ∈ ns, 0 ≤ x) (h : fitsB ns = true) : ∃ g, Rd ns g := by
  unfold fitsB at h
  simp only [Bool.and_eq_true, decide_eq_true_eq, List.all_eq_true] at h
  obtain ⟨⟨h1, h2⟩, h3⟩ := h
  have hl : (nats ns).length = 2 * (ns.length / 2) := by
    unfold nats
    rw [List.length_map]
    omega
  obtain ⟨g, e, l1, l2, hn, hb, hm⟩ := read_even (nats ns) (ns.length / 2) hl
  have hmem : ∀ x ∈ g.nx ++ g.bf, x ≤ size g := fun x hx => by
    have hx := (hm x).mp hx
    unfold nats at hx
    obtain ⟨y, hy, rfl⟩ := List.mem_map.mp hx
    have := h3 y hy
    have := h0 y hy
    show y.toNat ≤ g.nx.length
    omega
  have hok : okLines g = true := by
    unfold okLines
    rw [Bool.and_eq_true, decide_eq_true_eq, List.all_eq_true]
    refine ⟨?_, fun x hx => decide_eq_true (hmem x hx)⟩
    show g.nx.length ≤ 400
    omega
  refine ⟨g, e, hok, l1, ?_, ?_, fun i => ?_, fun i => ?_, fun i => ?_, fun i => ?_⟩
  · show ns.length = 2 * g.nx.length
    omega
  · show g.nx.length ≤ 400
    omega
  · rw [hn i]
    exact getD_nats h0 _
  · rw [hb i]
    exact getD_nats h0 _
  · exact getD_le (fun x hx => hmem x (List.mem_append_left _ hx)) i
  · exact getD_le (fun x hx => hmem x (List.mem_append_right _ hx)) i
theorem Rd.with {ns : List Int} {g : Lines} (r : Rd ns g) (h : Lines → Ans) : withLines (Kzs1Neutral.natsOf ns) h = h g := by
  unfold withLines
  have e : readLines (Kzs1Neutral.natsOf ns) = some g := r.rd
  rw [e]
  show (if okLines g = true then h g else say (-22)) = h g
  rw [if_pos r.ok]
theorem unfit_with {ns : List Int} (h0 : ∀ x ∈ ns, 0 ≤ x) (hf : fitsB ns = false) (h : Lines → Ans) : withLines (Kzs1Neutral.natsOf ns) h = say (-22) := by
  unfold withLines
  show (match readLines (nats ns) with | none => say (-22) | some g => if okLines g then h g else say (-22)) = say (-22)
  rcases Nat.mod_two_eq_zero_or_one ns.length with e | e
  · have hl : (nats ns).length = 2 * (ns.length / 2) := by
      unfold nats
      rw [List.length_map]
      omega
    obtain ⟨g, eg, l1, l2, hn, hb, hm⟩ := read_even (nats ns) (ns.length / 2) hl
    rw [eg]
    show (if okLines g = true then h g else say (-22)) = say (-22)
    rw [if_neg]
    intro hok
    unfold okLines at hok
    rw [Bool.and_eq_true, decide_eq_true_eq, List.all_eq_true] at hok
    have hs : g.nx.length ≤ 400 := hok.1
    have : fitsB ns = true := by
      unfold fitsB
      simp only [Bool.and_eq_true, decide_eq_true_eq, List.all_eq_true]
      refine ⟨⟨e, by omega⟩, fun x hx => ?_⟩
      have hx2 : x.toNat ∈ g.nx ++ g.bf := (hm _).mpr (List.mem_map_of_mem hx)
      have h3 : x.toNat ≤ g.nx.length := of_decide_eq_true (hok.2 _ hx2)
      have := h0 x hx
      omega
    rw [this] at hf
    cases hf
  · rw [read_odd (nats ns) (by unfold nats; rw [List.length_map]; exact e)]
/-! ### 2. Steps -/
theorem next_some {g : Lines} {v w : Nat} (h : next g v = some w) : g.nx.getD v 0 = w + 1 ∧ g.bf.getD w 0 = v + 1 := by
  unfold next at h
  simp only at h
  split at h
  · cases h
  · split at h
    · have := Option.some.inj h
      subst this
      rename_i h1 h2
      exact ⟨by omega, h2⟩
    · cases h
theorem before_some {g : Lines} {v w : Nat} (h : before g v = some w) : g.bf.getD v 0 = w + 1 ∧ g.nx.getD w 0 = v + 1 := by
  unfold before at h
  simp only at h
  split at h
  · cases h
  · split at h
    · have := Option.some.inj h
      subst this
      rename_i h1 h2
      exact ⟨by omega, h2⟩
    · cases h
theorem next_of {g : Lines} {v w : Nat} (h1 : g.nx.getD v 0 = w + 1) (h2 : g.bf.getD w 0 = v + 1) : next g v = some w := by
  unfold next
  simp only
  rw [h1, if_neg (by omega), Nat.add_sub_cancel, if_pos h2]
theorem before_of {g : Lines} {v w : Nat} (h1 : g.bf.getD v 0 = w + 1) (h2 : g.nx.getD w 0 = v + 1) : before g v = some w := by
  unfold before
  simp only
  rw [h1, if_neg (by omega), Nat.add_sub_cancel, if_pos h2]
theorem next_before {g : Lines} {v w : Nat} : next g v = some w ↔ before g w = some v :=
  ⟨fun h => before_of (next_some h).2 (next_some h).1, fun h => next_of (before_some h).2 (before_some h).1⟩
/-- a step's number, as the program has it -/
theorem on_eq {ns : List Int} {g : Lines} (r : Rd ns g) (v : Nat) : oneMore (next g v) = if ns.getD (2 * v) 0 ≠ 0 ∧ ns.getD (2 * (ns.getD (2 * v) 0 - 1).toNat + 1) 0 = (v : Int) + 1 then ns.getD (2 * v) 0 else 0 := by
  have e1 := r.nx v
  unfold next
  simp only
  by_cases c : g.nx.getD v 0 = 0
  · rw [if_pos c, if_neg]
    · rfl
    · rw [← e1, c]
      intro h
      exact h.1 rfl
  · rw [if_neg c]
    have e2 : (ns.getD (2 * v) 0 - 1).toNat = g.nx.getD v 0 - 1 := by omega
    have e3 := r.bf (g.nx.getD v 0 - 1)
    rw [e2, ← e3, ← e1]
    by_cases d : g.bf.getD (g.nx.getD v 0 - 1) 0 = v + 1
    · rw [if_pos d, if_pos ⟨by omega, by omega⟩]
      show ((g.nx.getD v 0 - 1 + 1 : Nat) : Int) = _
      omega
    · rw [if_neg d, if_neg (fun h => d (by omega))]
      rfl
theorem back_eq {ns : List Int} {g : Lines} (r : Rd ns g) (v : Nat) : oneMore (before g v) = if ns.getD (2 * v + 1) 0 ≠ 0 ∧ ns.getD (2 * (ns.getD (2 * v + 1) 0 - 1).toNat) 0 = (v : Int) + 1 then ns.getD (2 * v + 1) 0 else 0 := by
  have e1 := r.bf v
  unfold before
  simp only
  by_cases c : g.bf.getD v 0 = 0
  · rw [if_pos c, if_neg]
    · rfl
    · rw [← e1, c]
      intro h
      exact h.1 rfl
  · rw [if_neg c]
    have e2 : (ns.getD (2 * v + 1) 0 - 1).toNat = g.bf.getD v 0 - 1 := by omega
    have e3 := r.nx (g.bf.getD v 0 - 1)
    rw [e2, ← e3, ← e1]
    by_cases d : g.nx.getD (g.bf.getD v 0 - 1) 0 = v + 1
    · rw [if_pos d, if_pos ⟨by omega, by omega⟩]
      show ((g.bf.getD v 0 - 1 + 1 : Nat) : Int) = _
      omega
    · rw [if_neg d, if_neg (fun h => d (by omega))]
      rfl
theorem next_lt {ns : List Int} {g : Lines} (r : Rd ns g) {v w : Nat} (h : next g v = some w) : w < size g := by
  have := (next_some h).1
  have := r.nl v
  omega
theorem before_lt {ns : List Int} {g : Lines} (r : Rd ns g) {v w : Nat} (h : before g v = some w) : w < size g := by
  have := (before_some h).1
  have := r.bl v
  omega
theorem oneMore_zero {o : Option Nat} : oneMore o = 0 ↔ o = none := by
  cases o with
  | none => exact ⟨fun _ => rfl, fun _ => rfl⟩
  | some w =>
    refine ⟨fun h => ?_, fun h => by cases h⟩
    have : ((w + 1 : Nat) : Int) = 0 := h
    omega
theorem oneMore_some {o : Option Nat} (h : oneMore o ≠ 0) : ∃ w, o = some w ∧ oneMore o = (w : Int) + 1 := by
  cases o with
  | none => exact absurd rfl h
  | some w => exact ⟨w, rfl, by show ((w + 1 : Nat) : Int) = _; omega⟩
theorem isSome_more (o : Option Nat) : o.isSome = decide (oneMore o ≠ 0) := by
  cases o with
  | none => rfl
  | some w =>
    show true = _
    rw [decide_eq_true]
    show ((w + 1 : Nat) : Int) ≠ 0
    omega
theorem isNone_more (o : Option Nat) : o.isNone = decide (oneMore o = 0) := by
  cases o with
  | none => rfl
  | some w =>
    show false = _
    rw [decide_eq_false]
    show ¬ ((w + 1 : Nat) : Int) = 0
    omega
/-! ### 3. From a point on, as long as there is a next one -/
theorem nodup_le : ∀ (n : Nat) (l : List Nat), l.Nodup → (∀ x ∈ l, x < n) → l.length ≤ n
  | 0, l, _, h => by
    cases l with
    | nil => simp
    | cons x r => exact absurd (h x (by simp)) (by omega)
  | n + 1, l, hd, h => by
    have h1 : (l.erase n).length ≤ n := nodup_le n _ (hd.erase n) fun x hx => by
      have := h x (List.mem_of_mem_erase hx)
      have : x ≠ n := fun e => by
        subst e
        exact (hd.not_mem_erase) hx
      omega
    have h2 := List.length_erase (a := n) (l := l)
    split at h2 <;> omega
/-- onward and backward are one walk -/
def walk (f : Nat → Option Nat) : Nat → Nat → List Nat
  | 0, v => [v]
  | k + 1, v => match f v with
    | some w => v :: walk f k w
    | none => [v]
theorem onward_walk (g : Lines) : ∀ k v, onward g k v = walk (next g) k v
  | 0, _ => rfl
  | k + 1, v => by
    unfold onward walk
    cases next g v with
    | none => rfl
    | some w => exact congrArg (List.cons v) (onward_walk g k w)
theorem backward_walk (g : Lines) : ∀ k v, backward g k v = walk (before g) k v
  | 0, _ => rfl
  | k + 1, v => by
    unfold backward walk
    cases before g v with
    | none => rfl
    | some w => exact congrArg (List.cons v) (backward_walk g k w)
theorem walk_some {f : Nat → Option Nat} {k v w : Nat} (h : f v = some w) : walk f (k + 1) v = v :: walk f k w := by
  rw [walk, h]
theorem walk_none {f : Nat → Option Nat} {k v : Nat} (h : f v = none) : walk f k v = [v] := by
  cases k with
  | zero => rfl
  | succ k => rw [walk, h]
/-- a way from v, told so far: pre, then u -/
structure Way (f : Nat → Option Nat) (n v : Nat) (pre : List Nat) (u : Nat) : Prop where
  nd : (pre ++ [u]).Nodup
  lt : ∀ x ∈ pre ++ [u], x < n
  fr : ∀ y ∈ pre ++ [u], y ≠ v → ∃ x ∈ pre, f x = some y
  hd : ∃ t, pre ++ [u] = v :: t
theorem Way.start {f : Nat → Option Nat} {n v : Nat} (h : v < n) : Way f n v [] v :=
  ⟨by simp, by simpa using h, fun y hy hn => absurd (by simpa using hy) hn, [], rfl⟩
theorem Way.fuel {f : Nat → Option Nat} {n v u : Nat} {pre : List Nat} (W : Way f n v pre u) : pre.length < n := by
  have := nodup_le n _ W.nd W.lt
  simp at this
  omega
/-- one step more, to another point than the first: no point comes twice -/
theorem Way.more {f : Nat → Option Nat} {n v u w : Nat} {pre : List Nat} (W : Way f n v pre u) (inj : ∀ a b c, f a = some c → f b = some c → a = b)
    (e : w ≠ v) (hw : w < n) (h : f u = some w) : Way f n v (pre ++ [u]) w := by
  have hn : w ∉ pre ++ [u] := fun hm => by
    obtain ⟨x, hx, hf⟩ := W.fr w hm e
    have := inj x u w hf h
    subst this
    have := W.nd
    rw [List.nodup_append] at this
    exact this.2.2 x hx x (by simp) rfl
  refine ⟨?_, ?_, ?_, ?_⟩
  · rw [List.nodup_append]
    refine ⟨W.nd, by simp, fun a ha b hb e => ?_⟩
    simp at hb
    subst e hb
    exact hn ha
  · intro x hx
    rcases List.mem_append.mp hx with hx | hx
    · exact W.lt x hx
    · simp at hx
      omega
  · intro y hy hne
    rcases List.mem_append.mp hy with hy | hy
    · obtain ⟨x, hx, hf⟩ := W.fr y hy hne
      exact ⟨x, List.mem_append_left _ hx, hf⟩
    · simp at hy
      subst hy
      exact ⟨u, by simp, h⟩
  · obtain ⟨t, ht⟩ := W.hd
    exact ⟨t ++ [w], by rw [ht]; rfl⟩
/-- from a point to which no step leads, no point comes twice -/
theorem Way.step {f : Nat → Option Nat} {n v u w : Nat} {pre : List Nat} (W : Way f n v pre u) (inj : ∀ a b c, f a = some c → f b = some c → a = b)
    (hv : ∀ a, f a ≠ some v) (hw : w < n) (h : f u = some w) : Way f n v (pre ++ [u]) w :=
  W.more inj (fun e => by subst e; exact hv u h) hw h
theorem next_inj {g : Lines} : ∀ a b c, next g a = some c → next g b = some c → a = b := fun a b c h1 h2 => by
  have := (next_some h1).2
  have := (next_some h2).2
  omega
theorem before_inj {g : Lines} : ∀ a b c, before g a = some c → before g b = some c → a = b := fun a b c h1 h2 => by
  have := (before_some h1).2
  have := (before_some h2).2
  omega
theorem begins_no {g : Lines} {v : Nat} (h : begins g v = true) : ∀ a, next g a ≠ some v := fun a ha => by
  unfold begins at h
  rw [next_before.mp ha] at h
  simp at h
theorem stops_no {g : Lines} {v : Nat} (h : stops g v = true) : ∀ a, before g a ≠ some v := fun a ha => by
  unfold stops at h
  rw [next_before.mpr ha] at h
  simp at h
/-- which way the line goes from v -/
def dir (g : Lines) (b : Bool) : Nat → Option Nat := if b = true then next g else before g
theorem line_walk (g : Lines) (v : Nat) : line g v = walk (dir g (begins g v)) (size g) v := by
  unfold line dir
  cases begins g v with
  | true => exact onward_walk g _ _
  | false => exact backward_walk g _ _
theorem dir_inj {g : Lines} {b : Bool} : ∀ a d c, dir g b a = some c → dir g b d = some c → a = d := by
  cases b with
  | true => exact next_inj
  | false => exact before_inj
theorem dir_no {g : Lines} {v : Nat} (h : isEnd g v = true) : ∀ a, dir g (begins g v) a ≠ some v := by
  unfold isEnd at h
  unfold dir
  cases c : begins g v with
  | true => exact begins_no c
  | false =>
    rw [c] at h
    exact stops_no h
theorem dir_lt {ns : List Int} {g : Lines} (r : Rd ns g) {b : Bool} {v w : Nat} (h : dir g b v = some w) : w < size g := by
  cases b with
  | true => exact next_lt r h
  | false => exact before_lt r h
/-! ### Rounds -/
theorem round_yes {g : Lines} {v u : Nat} {pre : List Nat} {k : Nat} (W : Way (next g) (size g) v pre u) (hk : pre.length + k = size g) (hl : onward g (size g) v = pre ++ walk (next g) k u) (h : next g u = some v) : round g v = pre ++ [u] := by
  have hf := W.fuel
  obtain ⟨j, rfl⟩ : ∃ j, k = j + 1 := ⟨k - 1, by omega⟩
  rw [walk_some h] at hl
  obtain ⟨t, ht⟩ := W.hd
  have hr : ∃ r, walk (next g) j v = v :: r := by
    cases j with
    | zero => exact ⟨[], rfl⟩
    | succ j =>
      unfold walk
      cases next g v with
      | none => exact ⟨_, rfl⟩
      | some w => exact ⟨_, rfl⟩
  obtain ⟨r, hr⟩ := hr
  have e : onward g (size g) v = v :: (t ++ v :: r) := by
    rw [hl, hr, show pre ++ u :: (v :: r) = (pre ++ [u]) ++ (v :: r) from by simp, ht]
    rfl
  have nt : ∀ x ∈ t, (x != v) = true := fun x hx => by
    have := W.nd
    rw [ht, List.nodup_cons] at this
    simp only [bne_iff_ne]
    exact fun e => this.1 (e ▸ hx)
  unfold round
  simp only
  rw [e, List.drop_succ_cons, List.drop_zero, if_pos, ht]
  · congr 1
    rw [List.takeWhile_append_of_pos nt, List.takeWhile_cons]
    simp
  · simp
theorem round_no {g : Lines} {v u : Nat} {pre : List Nat} {k : Nat} (W : Way (next g) (size g) v pre u) (hl : onward g (size g) v = pre ++ walk (next g) k u) (h : next g u = none) : round g v = [] := by
  rw [walk_none h] at hl
  obtain ⟨t, ht⟩ := W.hd
  unfold round
  simp only
  rw [hl, ht, List.drop_succ_cons, List.drop_zero, if_neg]
  have := W.nd
  rw [ht, List.nodup_cons] at this
  simpa using this.1
/-- from any point on: till it stops, or till the point comes again -/
theorem way_ends {ns : List Int} {g : Lines} (r : Rd ns g) {v : Nat} : ∀ (k : Nat) (pre : List Nat) (u : Nat), Way (next g) (size g) v pre u → pre.length + k = size g → onward g (size g) v = pre ++ walk (next g) k u →
    (∃ pre' u', Way (next g) (size g) v pre' u' ∧ next g u' = some v ∧ round g v = pre' ++ [u']) ∨ (∃ pre' u', Way (next g) (size g) v pre' u' ∧ next g u' = none ∧ round g v = [] ∧ onward g (size g) v = pre' ++ [u'])
  | 0, pre, u, W, hk, _ => by
    have := W.fuel
    omega
  | k + 1, pre, u, W, hk, hl => by
    cases h : next g u with
    | none => exact .inr ⟨pre, u, W, h, round_no W hl h, by rw [hl, walk_none h]⟩
    | some w =>
      by_cases e : w = v
      · subst e
        exact .inl ⟨pre, u, W, h, round_yes W hk hl h⟩
      · refine way_ends r k (pre ++ [u]) w (W.more next_inj e (next_lt r h) h) ?_ ?_
        · simp
          omega
        · rw [hl, walk_some h]
          simp
theorem way_all {ns : List Int} {g : Lines} (r : Rd ns g) {v : Nat} (hv : v < size g) :
    (∃ pre' u', Way (next g) (size g) v pre' u' ∧ next g u' = some v ∧ round g v = pre' ++ [u']) ∨ (∃ pre' u', Way (next g) (size g) v pre' u' ∧ next g u' = none ∧ round g v = [] ∧ onward g (size g) v = pre' ++ [u']) :=
  way_ends r (size g) [] v (Way.start hv) (Nat.zero_add _) (onward_walk g _ _)
/-! ### On one round -/
/-- one step or more lead from a to b -/
inductive Far (g : Lines) (a : Nat) : Nat → Prop
  | one {b : Nat} (h : next g a = some b) : Far g a b
  | more {b c : Nat} (h : Far g a b) (k : next g b = some c) : Far g a c
theorem Far.trans {g : Lines} {a b c : Nat} (h : Far g a b) (k : Far g b c) : Far g a c := by
  induction k with
  | one k => exact .more h k
  | more _ k ih => exact .more ih k
theorem walk_head (f : Nat → Option Nat) (k v : Nat) : ∃ r, walk f k v = v :: r := by
  cases k with
  | zero => exact ⟨[], rfl⟩
  | succ k =>
    unfold walk
    cases f v with
    | none => exact ⟨_, rfl⟩
    | some w => exact ⟨_, rfl⟩
/-- a walk that goes on behind its first point -/
theorem walk_cons {f : Nat → Option Nat} {k v a u : Nat} {pre r : List Nat} (h : walk f k v = a :: (pre ++ u :: r)) : a = v ∧ ∃ j w, f v = some w ∧ walk f j w = pre ++ u :: r := by
  cases k with
  | zero =>
    rw [walk] at h
    injection h with h1 h2
    exact absurd (congrArg List.length h2) (by simp)
  | succ k =>
    cases e : f v with
    | none =>
      rw [walk_none e] at h
      injection h with h1 h2
      exact absurd (congrArg List.length h2) (by simp)
    | some w =>
      rw [walk_some e] at h
      injection h with h1 h2
      exact ⟨h1.symm, k, w, rfl, h2⟩
theorem first_mem {a u : Nat} {pre r s : List Nat} (h : a :: s = pre ++ u :: r) : a ∈ pre ++ [u] := by
  cases pre with
  | nil =>
    injection h with h1 h2
    simp [h1]
  | cons b pre =>
    injection h with h1 h2
    simp [h1]
/-- where a step leads from a point of a walk -/
theorem walk_next {f : Nat → Option Nat} {u : Nat} {r : List Nat} : ∀ (pre : List Nat) (k v : Nat), walk f k v = pre ++ u :: r → ∀ y ∈ pre, ∀ w, f y = some w → w ∈ (pre ++ [u]).tail
  | [], _, _, _, y, hy, _, _ => by cases hy
  | a :: pre, k, v, h, y, hy, w, hw => by
    obtain ⟨rfl, j, z, e, hj⟩ := walk_cons (pre := pre) h
    show w ∈ pre ++ [u]
    rcases List.mem_cons.mp hy with rfl | hy
    · have : z = w := Option.some.inj (e.symm.trans hw)
      subst this
      obtain ⟨s, hs⟩ := walk_head f j z
      exact first_mem (hs.symm.trans hj)
    · exact List.mem_of_mem_tail (walk_next pre j z hj y hy w hw)
/-- from a point of a walk one comes to all that stand behind it -/
theorem walk_far {g : Lines} {u : Nat} {r : List Nat} : ∀ (pre : List Nat) (k v : Nat), walk (next g) k v = pre ++ u :: r → ∀ y ∈ pre, Far g y u
  | [], _, _, _, y, hy => by cases hy
  | a :: pre, k, v, h, y, hy => by
    obtain ⟨rfl, j, z, e, hj⟩ := walk_cons (pre := pre) h
    rcases List.mem_cons.mp hy with rfl | hy
    · cases pre with
      | nil =>
        obtain ⟨s, hs⟩ := walk_head (next g) j z
        have : z = u := by
          have q := hs.symm.trans hj
          injection q with q1 q2
        subst this
        exact .one e
      | cons b pre =>
        obtain ⟨q, -⟩ := walk_cons (pre := pre) hj
        subst q
        exact (Far.one e).trans (walk_far (b :: pre) j b hj b (by simp))
    · exact walk_far pre j z hj y hy
/-- .. and to these from the first one -/
theorem walk_far0 {g : Lines} : ∀ (t : List Nat) (k v : Nat), walk (next g) k v = v :: t → ∀ y ∈ t, Far g v y := fun t k v h y hy => by
  obtain ⟨p, q, rfl⟩ := List.append_of_mem hy
  exact walk_far (v :: p) k v h v (by simp)
theorem way_end {ns : List Int} {g : Lines} (r : Rd ns g) {v : Nat} : ∀ (k : Nat) (pre : List Nat) (u : Nat), Way (next g) (size g) v pre u → pre.length + k = size g → onward g (size g) v = pre ++ walk (next g) k u →
    ∃ pre' u' k', Way (next g) (size g) v pre' u' ∧ pre'.length + k' = size g ∧ onward g (size g) v = pre' ++ walk (next g) k' u' ∧ (next g u' = none ∨ next g u' = some v)
  | 0, pre, u, W, hk, _ => by
    have := W.fuel
    omega
  | k + 1, pre, u, W, hk, hl => by
    cases h : next g u with
    | none => exact ⟨pre, u, k + 1, W, hk, hl, .inl h⟩
    | some w =>
      by_cases e : w = v
      · subst e
        exact ⟨pre, u, k + 1, W, hk, hl, .inr h⟩
      · refine way_end r k (pre ++ [u]) w (W.more next_inj e (next_lt r h) h) ?_ ?_
        · simp
          omega
        · rw [hl, walk_some h]
          simp
theorem round_far {ns : List Int} {g : Lines} (r : Rd ns g) {v w : Nat} (hv : v < size g) : w ∈ round g v ↔ Far g v w ∧ Far g w v := by
  obtain ⟨pre, u, k, W, hk, hl, ho⟩ := way_end r (size g) [] v (Way.start hv) (Nat.zero_add _) (onward_walk g _ _)
  obtain ⟨t, ht⟩ := W.hd
  obtain ⟨s, hs⟩ := walk_head (next g) k u
  have hl2 : walk (next g) (size g) v = pre ++ u :: s := by rw [← onward_walk, hl, hs]
  have hl3 : walk (next g) (size g) v = v :: (t ++ s) := by
    rw [hl2, show pre ++ u :: s = (pre ++ [u]) ++ s from by simp, ht]
    rfl
  have hb : ∀ y, next g y = some v → ∀ x ∈ pre ++ [u], y = u → Far g x v := fun y hy x hx e => by
    subst e
    rcases List.mem_append.mp hx with hx | hx
    · exact .more (walk_far pre _ v hl2 x hx) hy
    · simp at hx
      subst hx
      exact .one hy
  rcases ho with ho | ho
  · rw [round_no W hl ho]
    refine ⟨fun h => (by cases h), fun ⟨h1, h2⟩ => ?_⟩
    have hin : ∀ y, Far g v y → y ∈ (pre ++ [u]).tail := fun y hy => by
      have key : ∀ x ∈ pre ++ [u], ∀ z, next g x = some z → z ∈ (pre ++ [u]).tail := fun x hx z hz => by
        rcases List.mem_append.mp hx with hx | hx
        · exact walk_next pre _ v hl2 x hx z hz
        · simp at hx
          subst hx
          rw [ho] at hz
          cases hz
      induction hy with
      | one h => exact key v (by rw [ht]; simp) _ h
      | more _ h ih => exact key _ (List.mem_of_mem_tail ih) _ h
    have h3 := hin v (h1.trans h2)
    have h4 := W.nd
    rw [ht] at h3 h4
    exact absurd h3 (List.nodup_cons.mp h4).1
  · rw [round_yes W hk hl ho]
    have hvv : Far g v v := hb u ho v (by rw [ht]; simp) rfl
    refine ⟨fun h => ⟨?_, hb u ho w h rfl⟩, fun ⟨h1, _⟩ => ?_⟩
    · rw [ht] at h
      rcases List.mem_cons.mp h with rfl | h
      · exact hvv
      · exact walk_far0 (t ++ s) _ v hl3 w (List.mem_append_left _ h)
    · have key : ∀ x ∈ pre ++ [u], ∀ z, next g x = some z → z ∈ pre ++ [u] := fun x hx z hz => by
        rcases List.mem_append.mp hx with hx | hx
        · exact List.mem_of_mem_tail (walk_next pre _ v hl2 x hx z hz)
        · simp at hx
          subst hx
          have : v = z := Option.some.inj (ho.symm.trans hz)
          subst this
          rw [ht]
          simp
      have hin : ∀ y, Far g v y → y ∈ pre ++ [u] := fun y hy => by
        induction hy with
        | one h => exact key v (by rw [ht]; simp) _ h
        | more _ h ih => exact key _ ih _ h
      exact hin w h1
theorem far_lt {ns : List Int} {g : Lines} (r : Rd ns g) {v w : Nat} (h : Far g v w) : w < size g := by
  cases h with
  | one h => exact next_lt r h
  | more _ h => exact next_lt r h
theorem round_lt {ns : List Int} {g : Lines} (r : Rd ns g) {v w : Nat} (hv : v < size g) (h : w ∈ round g v) : w < size g := far_lt r ((round_far r hv).mp h).1
theorem round_sym {ns : List Int} {g : Lines} (r : Rd ns g) {v w : Nat} (hv : v < size g) (h : w ∈ round g v) : v ∈ round g w :=
  (round_far r (round_lt r hv h)).mpr ((round_far r hv).mp h).symm
theorem round_trans {ns : List Int} {g : Lines} (r : Rd ns g) {v w x : Nat} (hv : v < size g) (h : w ∈ round g v) (k : x ∈ round g w) : x ∈ round g v := by
  have h1 := (round_far r hv).mp h
  have h2 := (round_far r (round_lt r hv h)).mp k
  exact (round_far r hv).mpr ⟨h1.1.trans h2.1, h2.2.trans h1.2⟩
/-- a point of the round of x stands below i: the points that are passed when i is come to -/
def low (g : Lines) (i x : Nat) : Prop := ∃ w ∈ round g x, w < i
theorem low_zero (g : Lines) (x : Nat) : ¬ low g 0 x := fun ⟨_, _, h⟩ => by omega
theorem low_mono {g : Lines} {i x : Nat} (h : low g i x) : low g (i + 1) x := by
  obtain ⟨w, h1, h2⟩ := h
  exact ⟨w, h1, by omega⟩
/-- the least points of rounds -/
def least (g : Lines) (v : Nat) : Bool := !(round g v).isEmpty && (round g v).all fun w => decide (v ≤ w)
theorem least_passed {g : Lines} {i : Nat} (h : low g i i) : least g i = false := by
  obtain ⟨w, h1, h2⟩ := h
  unfold least
  rw [show ((round g i).all fun w => decide (i ≤ w)) = false from by
    rw [List.all_eq_false]
    exact ⟨w, h1, by simp; omega⟩, Bool.and_false]
theorem least_new {g : Lines} {i : Nat} (h : ¬ low g i i) (e : (!(round g i).isEmpty) = true) : least g i = true := by
  unfold least
  rw [e, Bool.true_and, List.all_eq_true]
  intro w hw
  by_cases c : i ≤ w
  · exact decide_eq_true c
  · exact absurd ⟨w, hw, by omega⟩ h
theorem least_no {g : Lines} {i : Nat} (e : (!(round g i).isEmpty) = false) : least g i = false := by
  unfold least
  rw [e, Bool.false_and]
theorem low_passed {ns : List Int} {g : Lines} (r : Rd ns g) {i x : Nat} (hx : x < size g) (h : low g i i) : low g (i + 1) x ↔ low g i x := by
  refine ⟨fun ⟨w, h1, h2⟩ => ?_, low_mono⟩
  by_cases c : w = i
  · subst c
    obtain ⟨z, h3, h4⟩ := h
    exact ⟨z, round_trans r hx h1 h3, h4⟩
  · exact ⟨w, h1, by omega⟩
theorem low_no {ns : List Int} {g : Lines} (r : Rd ns g) {i x : Nat} (hx : x < size g) (e : (!(round g i).isEmpty) = false) : low g (i + 1) x ↔ low g i x := by
  refine ⟨fun ⟨w, h1, h2⟩ => ?_, low_mono⟩
  by_cases c : w = i
  · subst c
    have h3 := round_sym r hx h1
    have h4 : round g w = [] := by simpa using e
    rw [h4] at h3
    cases h3
  · exact ⟨w, h1, by omega⟩
theorem low_new {ns : List Int} {g : Lines} (r : Rd ns g) {i x : Nat} (hi : i < size g) (hx : x < size g) : low g (i + 1) x ↔ low g i x ∨ x ∈ round g i := by
  refine ⟨fun ⟨w, h1, h2⟩ => ?_, fun h => ?_⟩
  · by_cases c : w = i
    · subst c
      exact .inr (round_sym r hx h1)
    · exact .inl ⟨w, h1, by omega⟩
  · rcases h with h | h
    · exact low_mono h
    · exact ⟨i, round_sym r hi h, by omega⟩
end My
namespace My
open PySem PySem.Spec PyProof.Rows L2
open PySem.W (Codec)
/-! ### 4. The text -/
def topS (i : Nat) : Stmt := PySem.Challenge.pw_otherend_s05_rounds.main.body.getD i (.Pass ⟨0, 0, 0, 0⟩)
abbrev S_rounds : Stmt := topS 3
abbrev S_count_points : Stmt := topS 4
abbrev S_list_fits : Stmt := topS 5
abbrev S_said_next : Stmt := topS 6
abbrev S_said_before : Stmt := topS 7
abbrev S_step_on : Stmt := topS 8
abbrev S_step_back : Stmt := topS 9
abbrev S_is_on_round : Stmt := topS 10
abbrev S_step_along : Stmt := topS 11
abbrev S_points_along : Stmt := topS 12
abbrev S_least_of_rounds : Stmt := topS 13
/-- a def of the top: it stands, it binds, it has its name -/
structure Dn (K : PySem.W.Frag) (mg : Str → Option Value) (x : Str) (st : Stmt) (ps : List Str) (f : Addr) (fd : FuncData) : Prop where
  F : Fun K x x st f fd
  b : Binds K fd ps []
  g : mg x = some (.ref f)
structure Txt (K : PySem.W.Frag) (mg : Str → Option Value) where
  len : mg "len" = none
  all : mg "all" = none
  range : mg "range" = none
  tMost : Nat
  most : mg "MOST_POINTS" = some (.int 400 tMost)
  tList : Nat
  listR : mg "LIST_REFUSED" = some (.int (-22) tList)
  f_count : Addr
  fd_count : FuncData
  d_count : Dn K mg "count_points" S_count_points ["l"] f_count fd_count
  f_sn : Addr
  fd_sn : FuncData
  d_sn : Dn K mg "said_next" S_said_next ["v", "l"] f_sn fd_sn
  f_sb : Addr
  fd_sb : FuncData
  d_sb : Dn K mg "said_before" S_said_before ["v", "l"] f_sb fd_sb
  f_on : Addr
  fd_on : FuncData
  d_on : Dn K mg "step_on" S_step_on ["v", "l"] f_on fd_on
  f_bk : Addr
  fd_bk : FuncData
  d_bk : Dn K mg "step_back" S_step_back ["v", "l"] f_bk fd_bk
  f_fits : Addr
  fd_fits : FuncData
  d_fits : Dn K mg "list_fits" S_list_fits ["l"] f_fits fd_fits
  f_al : Addr
  fd_al : FuncData
  d_al : Dn K mg "step_along" S_step_along ["v", "l", "onward"] f_al fd_al
  f_pa : Addr
  fd_pa : FuncData
  d_pa : Dn K mg "points_along" S_points_along ["v", "l", "onward"] f_pa fd_pa
  f_or : Addr
  fd_or : FuncData
  d_or : Dn K mg "is_on_round" S_is_on_round ["v", "l"] f_or fd_or
  f_lr : Addr
  fd_lr : FuncData
  d_lr : Dn K mg "least_of_rounds" S_least_of_rounds ["l"] f_lr fd_lr
section
variable {P : Program} {w : World} {K : PySem.W.Frag} {mg : Str → Option Value} {base : Heap}
/-! ### 5. Promises and bodies -/
theorem same_upd {H : Hp} {p : Addr} {o : HO} (h : H p = none) : Same H (upd H p o) := fun b x e => by
  rw [upd_ne (ne_of_none e h)]
  exact e
theorem at_int {ns : List Int} {z : Int} (j : Nat) (e : z = (j : Int)) (h : j < ns.length) : atI (ns.map V.int) z = some (.int (ns.getD j 0)) := by
  rw [e]
  refine atI_nat ?_
  rw [List.getElem?_map, List.getElem?_eq_getElem h, List.getD_eq_getElem?_getD, List.getElem?_eq_getElem h]
  rfl
/-- the list that is handed in tells g, and v is a point of g -/
def spV (f : Kzs1.Lines → Nat → V) (K : PySem.W.Frag) : Sp := fun vs H Q _ => ∃ (v : Nat) (a : Addr) (ns : List Int) (g : Kzs1.Lines), vs = [.int (v : Int), .ref a] ∧ SqL K H a (ns.map V.int) ∧ Rd ns g ∧ v < Kzs1.size g ∧ Q (f g v) H
theorem spV_len {f : Kzs1.Lines → Nat → V} {vs : List V} {H : Hp} {Q : VK} {E : XK} (h : spV f K vs H Q E) : vs.length = (["v", "l"] : List Str).length := by
  obtain ⟨v, a, ns, g, rfl, _⟩ := h
  rfl
def vInt (f : Kzs1.Lines → Nat → Int) : Kzs1.Lines → Nat → V := fun g v => .int (f g v)
def vBl (f : Kzs1.Lines → Nat → Bool) : Kzs1.Lines → Nat → V := fun g v => .bl (f g v)
abbrev fSn : Kzs1.Lines → Nat → V := fun g v => .int (g.nx.getD v 0 : Nat)
abbrev fSb : Kzs1.Lines → Nat → V := fun g v => .int (g.bf.getD v 0 : Nat)
abbrev fOn : Kzs1.Lines → Nat → V := fun g v => .int (Kzs1.oneMore (Kzs1.next g v))
abbrev fBk : Kzs1.Lines → Nat → V := fun g v => .int (Kzs1.oneMore (Kzs1.before g v))
abbrev fBg : Kzs1.Lines → Nat → V := fun g v => .bl (Kzs1.begins g v)
abbrev fSt : Kzs1.Lines → Nat → V := fun g v => .bl (Kzs1.stops g v)
abbrev fIe : Kzs1.Lines → Nat → V := fun g v => .bl (Kzs1.isEnd g v)
theorem ifT {c : Bool} {A B : Prop} (hc : c = true) (h : A) : if c = true then A else B := by
  rw [if_pos hc]
  exact h
theorem ifF {c : Bool} {A B : Prop} (hc : c = false) (h : B) : if c = true then A else B := by
  rw [hc, if_neg Bool.false_ne_true]
  exact h
theorem neI_t {i j : Int} (h : i ≠ j) : (!decide (V.int i = V.int j)) = true := by
  rw [decide_eq_false (fun e => h (V.int.inj e))]
  rfl
theorem neI_f {i j : Int} (h : i = j) : (!decide (V.int i = V.int j)) = false := by
  rw [decide_eq_true (congrArg V.int h)]
  rfl
theorem eqI_t {i j : Int} (h : i = j) : decide (V.int i = V.int j) = true := decide_eq_true (congrArg V.int h)
theorem eqI_f {i j : Int} (h : i ≠ j) : decide (V.int i = V.int j) = false := decide_eq_false (fun e => h (V.int.inj e))
theorem eqI (i j : Int) : decide (V.int i = V.int j) = decide (i = j) := by
  by_cases h : i = j
  · rw [eqI_t h, decide_eq_true h]
  · rw [eqI_f h, decide_eq_false h]
theorem neI (i j : Int) : (!decide (V.int i = V.int j)) = decide (i ≠ j) := by
  by_cases h : i = j
  · rw [neI_f h, decide_eq_false (fun z => z h)]
  · rw [neI_t h, decide_eq_true h]
def spCount (K : PySem.W.Frag) : Sp := fun vs H Q _ => ∃ (a : Addr) (ns : List Int), vs = [.ref a] ∧ SqL K H a (ns.map V.int) ∧ Q (.int ((ns.length / 2 : Nat) : Int)) H
theorem sc_count : FnScope ["l"] ["l"] (defScope S_count_points) := ⟨rfl, rfl, rfl, by decide +kernel, rfl, by decide +kernel, by decide +kernel⟩
theorem ok_count (T : Txt K mg) : FnOk P w K mg base CX0 1 T.f_count T.fd_count ["l"] (spCount K) := by
  refine T.d_count.F.ok sc_count (fun vs H Q E h => ?_) (fun cdv A outer s H vs Q E hr h => ?_)
  · obtain ⟨a, ns, rfl, _⟩ := h
    rfl
  · obtain ⟨a, ns, rfl, hS, q⟩ := h
    refine ⟨_, pss_one (ps_ret (pe_op op_fdiv (pe_callB call_len_seq (by rfl) T.len PySem.boot_len (pa_cons (pv 0) pa_nil)) pe_int)), ?_⟩
    refine ⟨.ref a, rfl, a, _, rfl, .inl hS, _, _, rfl, rfl, ⟨by decide, by decide⟩, ?_⟩
    rw [List.length_map]
    exact q
theorem sc_sn : FnScope ["v", "l"] ["v", "l"] (defScope S_said_next) := ⟨rfl, rfl, rfl, by decide +kernel, rfl, by decide +kernel, by decide +kernel⟩
theorem ok_sn (T : Txt K mg) : FnOk P w K mg base CX0 1 T.f_sn T.fd_sn ["v", "l"] (spV fSn K) := by
  refine T.d_sn.F.ok sc_sn (fun vs H Q E h => spV_len h) (fun cdv A outer s H vs Q E hr h => ?_)
  obtain ⟨v, a, ns, g, rfl, hS, r, hv, q⟩ := h
  have hev := r.ev
  refine ⟨_, pss_one (ps_ret (pe_ix ix_list (pv 1) (pe_op op_mul pe_int (pv 0)) (fun _ _ => rfl))), ?_⟩
  refine ⟨_, rfl, _, rfl, _, _, rfl, rfl, .inl ⟨by decide, by decide⟩, a, _, _, _, rfl, rfl, hS, at_int (2 * v) (by omega) (by omega), ?_⟩
  rw [← r.nx v]
  exact q
theorem sc_sb : FnScope ["v", "l"] ["v", "l"] (defScope S_said_before) := ⟨rfl, rfl, rfl, by decide +kernel, rfl, by decide +kernel, by decide +kernel⟩
theorem ok_sb (T : Txt K mg) : FnOk P w K mg base CX0 1 T.f_sb T.fd_sb ["v", "l"] (spV fSb K) := by
  refine T.d_sb.F.ok sc_sb (fun vs H Q E h => spV_len h) (fun cdv A outer s H vs Q E hr h => ?_)
  obtain ⟨v, a, ns, g, rfl, hS, r, hv, q⟩ := h
  have hev := r.ev
  refine ⟨_, pss_one (ps_ret (pe_ix ix_list (pv 1) (pe_op op_add (pe_op op_mul pe_int (pv 0)) pe_int) (fun _ _ => rfl))), ?_⟩
  refine ⟨_, rfl, _, rfl, _, _, rfl, rfl, .inl ⟨by decide, by decide⟩, _, _, rfl, rfl, a, _, _, _, rfl, rfl, hS, at_int (2 * v + 1) (by omega) (by omega), ?_⟩
  rw [← r.bf v]
  exact q
theorem sc_on : FnScope ["v", "l", "there"] ["v", "l"] (defScope S_step_on) := ⟨rfl, rfl, rfl, by decide +kernel, rfl, by decide +kernel, by decide +kernel⟩
theorem ok_on (T : Txt K mg) : FnOk P w K mg base CX0 2 T.f_on T.fd_on ["v", "l"] (spV fOn K) := by
  have G1 : FnOk P w K mg base CX0 1 T.f_sn T.fd_sn ["v", "l"] (spV fSn K) := ok_sn T
  have G2 : FnOk P w K mg base CX0 1 T.f_sb T.fd_sb ["v", "l"] (spV fSb K) := ok_sb T
  refine T.d_on.F.ok sc_on (fun vs H Q E h => spV_len h) (fun cdv A outer s H vs Q E hr h => ?_)
  obtain ⟨v, a, ns, g, rfl, hS, r, hv, q⟩ := h
  refine ⟨_, pss_cons (ps_set (i := 2) sc_on.nd rfl (.inl rfl) (pe_call G1 hr (by rfl) T.d_sn.g T.d_sn.F.kp T.d_sn.b .nil pass0 (pa_cons (pv 0) (pa_cons (pv 1) pa_nil))))
    (pss_cons (ps_if (PW.pt (pw_and (pt_cmpR op_ne (pv 2) pe_int (nomark _)) (pw_and1 (pt_cmpR op_eq (pe_call G2 hr (by rfl) T.d_sb.g T.d_sb.F.kp T.d_sb.b .nil pass0 (pa_cons (pe_op op_sub (pv 2) pe_int) (pa_cons (pv 1) pa_nil))) (pe_op op_add (pv 0) pe_int) (nomark _)))))
      (pss_one (ps_ret (pv 2))) pss_nil)
    (pss_one (ps_ret pe_int))), ?_⟩
  refine ⟨_, rfl, _, rfl, v, a, ns, g, rfl, hS, r, hv, ?_⟩
  refine ⟨_, rfl, rfl, _, rfl, ?_⟩
  have hl := r.nl v
  by_cases c : g.nx.getD v 0 = 0
  · refine ifF (neI_f (by omega)) (iteF ?_)
    have e : Kzs1.next g v = none := by
      unfold Kzs1.next
      simp only
      rw [if_pos c]
    show Q _ H
    rw [fOn, e] at q
    exact q
  · refine ifT (neI_t (by omega)) ?_
    refine ⟨_, rfl, _, _, rfl, rfl, _, rfl, g.nx.getD v 0 - 1, a, ns, g, ?_, hS, r, by omega, _, rfl, _, _, rfl, rfl, rfl, _, rfl, ?_⟩
    · rw [show ((g.nx.getD v 0 - 1 : Nat) : Int) = (g.nx.getD v 0 : Int) - 1 from by omega]
      rfl
    by_cases d : g.bf.getD (g.nx.getD v 0 - 1) 0 = v + 1
    · refine ifT (eqI_t (by omega)) ?_
      refine ⟨_, rfl, ?_⟩
      have e : Kzs1.next g v = some (g.nx.getD v 0 - 1) := next_of (by omega) d
      rw [fOn, e] at q
      show Q (.int (g.nx.getD v 0 : Nat)) H
      rw [show ((g.nx.getD v 0 : Nat) : Int) = Kzs1.oneMore (some (g.nx.getD v 0 - 1)) from by
        show _ = ((g.nx.getD v 0 - 1 + 1 : Nat) : Int)
        omega]
      exact q
    · refine ifF (eqI_f (by omega)) ?_
      have e : Kzs1.next g v = none := by
        unfold Kzs1.next
        simp only
        rw [if_neg c, if_neg d]
      show Q _ H
      rw [fOn, e] at q
      exact q
theorem sc_bk : FnScope ["v", "l", "there"] ["v", "l"] (defScope S_step_back) := ⟨rfl, rfl, rfl, by decide +kernel, rfl, by decide +kernel, by decide +kernel⟩
theorem ok_bk (T : Txt K mg) : FnOk P w K mg base CX0 2 T.f_bk T.fd_bk ["v", "l"] (spV fBk K) := by
  have G1 : FnOk P w K mg base CX0 1 T.f_sb T.fd_sb ["v", "l"] (spV fSb K) := ok_sb T
  have G2 : FnOk P w K mg base CX0 1 T.f_sn T.fd_sn ["v", "l"] (spV fSn K) := ok_sn T
  refine T.d_bk.F.ok sc_bk (fun vs H Q E h => spV_len h) (fun cdv A outer s H vs Q E hr h => ?_)
  obtain ⟨v, a, ns, g, rfl, hS, r, hv, q⟩ := h
  refine ⟨_, pss_cons (ps_set (i := 2) sc_bk.nd rfl (.inl rfl) (pe_call G1 hr (by rfl) T.d_sb.g T.d_sb.F.kp T.d_sb.b .nil pass0 (pa_cons (pv 0) (pa_cons (pv 1) pa_nil))))
    (pss_cons (ps_if (PW.pt (pw_and (pt_cmpR op_ne (pv 2) pe_int (nomark _)) (pw_and1 (pt_cmpR op_eq (pe_call G2 hr (by rfl) T.d_sn.g T.d_sn.F.kp T.d_sn.b .nil pass0 (pa_cons (pe_op op_sub (pv 2) pe_int) (pa_cons (pv 1) pa_nil))) (pe_op op_add (pv 0) pe_int) (nomark _)))))
      (pss_one (ps_ret (pv 2))) pss_nil)
    (pss_one (ps_ret pe_int))), ?_⟩
  refine ⟨_, rfl, _, rfl, v, a, ns, g, rfl, hS, r, hv, ?_⟩
  refine ⟨_, rfl, rfl, _, rfl, ?_⟩
  have hl := r.bl v
  by_cases c : g.bf.getD v 0 = 0
  · refine ifF (neI_f (by omega)) (iteF ?_)
    have e : Kzs1.before g v = none := by
      unfold Kzs1.before
      simp only
      rw [if_pos c]
    show Q _ H
    rw [fBk, e] at q
    exact q
  · refine ifT (neI_t (by omega)) ?_
    refine ⟨_, rfl, _, _, rfl, rfl, _, rfl, g.bf.getD v 0 - 1, a, ns, g, ?_, hS, r, by omega, _, rfl, _, _, rfl, rfl, rfl, _, rfl, ?_⟩
    · rw [show ((g.bf.getD v 0 - 1 : Nat) : Int) = (g.bf.getD v 0 : Int) - 1 from by omega]
      rfl
    by_cases d : g.nx.getD (g.bf.getD v 0 - 1) 0 = v + 1
    · refine ifT (eqI_t (by omega)) ?_
      refine ⟨_, rfl, ?_⟩
      have e : Kzs1.before g v = some (g.bf.getD v 0 - 1) := before_of (by omega) d
      rw [fBk, e] at q
      show Q (.int (g.bf.getD v 0 : Nat)) H
      rw [show ((g.bf.getD v 0 : Nat) : Int) = Kzs1.oneMore (some (g.bf.getD v 0 - 1)) from by
        show _ = ((g.bf.getD v 0 - 1 + 1 : Nat) : Int)
        omega]
      exact q
    · refine ifF (eqI_f (by omega)) ?_
      have e : Kzs1.before g v = none := by
        unfold Kzs1.before
        simp only
        rw [if_neg c, if_neg d]
      show Q _ H
      rw [fBk, e] at q
      exact q
def spFits (K : PySem.W.Frag) : Sp := fun vs H Q _ => ∃ (a : Addr) (ns : List Int), vs = [.ref a] ∧ SqL K H a (ns.map V.int) ∧ ns.length ≤ 1000 ∧ ∀ H', Same H H' → Q (.bl (fitsB ns)) H'
theorem sc_fits : FnScope ["l", "number"] ["l"] (defScope S_list_fits) := ⟨rfl, rfl, rfl, by decide +kernel, rfl, by decide +kernel, by decide +kernel⟩
theorem ok_fits (T : Txt K mg) : FnOk P w K mg base CX0 2 T.f_fits T.fd_fits ["l"] (spFits K) := by
  have G1 : FnOk P w K mg base CX0 1 T.f_count T.fd_count ["l"] (spCount K) := ok_count T
  refine T.d_fits.F.ok sc_fits (fun vs H Q E h => ?_) (fun cdv A outer s H vs Q E hr h => ?_)
  · obtain ⟨a, ns, rfl, _⟩ := h
    rfl
  obtain ⟨a, ns, rfl, hS, hlen, q⟩ := h
  refine ⟨_, pss_cons (ps_if (PW.pt (pw_or (pt_cmpR op_ne (pe_op op_mod (pe_callB call_len_seq (by rfl) T.len PySem.boot_len (pa_cons (pv 0) pa_nil)) pe_int) pe_int (nomark _))
      (pw_or1 (pt_cmpR op_gt (pe_call G1 hr (by rfl) T.d_count.g T.d_count.F.kp T.d_count.b .nil pass0 (pa_cons (pv 0) pa_nil)) (pe_glob (v := .int 400) rfl T.most ⟨_, rfl⟩) (nomark _)))))
      (pss_one (ps_ret pe_bl)) pss_nil)
    (pss_one (ps_ret (pe_callB (cr_all rfl) (by rfl) T.all (by decide +kernel) (pa_cons
      (pe_lc (own := [("number", 1)]) (g := gName 1) (tt := tYes) (by rfl) sc_fits.nd (pi_list (pv 0)) (blkOk_by (own := [("number", 1)]) (N := ["l", "number"]) (sc := defScope S_list_fits) (by decide +kernel))
        (fun _ _ _ _ _ => pg_name (i := 1) sc_fits.nd rfl (Or.inl rfl)) (fun _ _ _ _ _ => pts_nil)
        (fun _ _ _ _ _ => pe_cmpR op_le (pv 1) (pe_call G1 hr (by rfl) T.d_count.g T.d_count.F.kp T.d_count.b .nil pass0 (pa_cons (pv 0) pa_nil)) (nomark _))) pa_nil)))), ?_⟩
  refine ⟨_, rfl, a, _, rfl, .inl hS, _, _, rfl, rfl, (by show (0 : Int) < 2; decide), rfl, _, rfl, ?_⟩
  rw [List.length_map]
  by_cases c1 : ns.length % 2 = 0
  · refine ifF (neI_f (by omega)) ?_
    refine ⟨_, rfl, a, ns, rfl, hS, _, _, rfl, rfl, _, rfl, ?_⟩
    by_cases c2 : ns.length / 2 ≤ 400
    · refine ifF (decide_eq_false (by omega)) ?_
      refine ⟨_, rfl, a, rfl, ⟨_, hS⟩, fun D hD => ?_⟩
      refine lc_list (K := K) (a := a) (xs := ns.map V.int) (fun i H' => H' D = some (.lst (((ns.take i).map fun x => decide (x ≤ ((ns.length / 2 : Nat) : Int))).map V.bl)) ∧ Same H H') ⟨upd_same, same_upd hD⟩ (fun i H' _ p => p.2.seq hS) ?_ ?_
      · rintro i x H' hi ⟨p1, p2⟩
        obtain ⟨z, hz, rfl⟩ : ∃ z, ns[i]? = some z ∧ V.int z = x := by
          rw [List.getElem?_map] at hi
          exact Option.map_eq_some_iff.mp hi
        have hl : i < ns.length := (List.getElem?_eq_some_iff.mp hz).1
        refine ⟨rfl, ?_⟩
        refine ⟨_, rfl, _, rfl, a, ns, rfl, p2.seq hS, _, _, rfl, rfl, _, p1, ?_, ?_, ?_⟩
        · rw [List.length_map, List.length_map, List.length_take]
          exact small1000 (by omega)
        · rw [upd_same, List.take_add_one, hz, List.map_append, List.map_append]
          rfl
        · intro b o e
          rw [upd_ne (ne_of_none e hD)]
          exact p2 b o e
      · rintro H' ⟨p1, p2⟩
        rw [List.length_map, List.take_length] at p1
        refine ⟨D, _, rfl, SqL.of p1, ?_⟩
        have e : fitsB ns = (ns.map fun x => decide (x ≤ ((ns.length / 2 : Nat) : Int))).all id := by
          unfold fitsB
          rw [decide_eq_true c1, decide_eq_true c2, List.all_map]
          rfl
        rw [← e]
        exact q H' p2
    · refine ifT (decide_eq_true (by omega)) ?_
      have e : fitsB ns = false := by
        unfold fitsB
        rw [decide_eq_false c2, Bool.and_false, Bool.false_and]
      rw [e] at q
      exact q H (Same.refl H)
  · refine ifT (neI_t (by omega)) (iteT ?_)
    have e : fitsB ns = false := by
      unfold fitsB
      rw [decide_eq_false c1, Bool.false_and, Bool.false_and]
    rw [e] at q
    exact q H (Same.refl H)
def spAl (K : PySem.W.Frag) : Sp := fun vs H Q _ => ∃ (v : Nat) (a : Addr) (b : Bool) (ns : List Int) (g : Kzs1.Lines), vs = [.int (v : Int), .ref a, .bl b] ∧ SqL K H a (ns.map V.int) ∧ Rd ns g ∧ v < Kzs1.size g ∧ Q (.int (Kzs1.oneMore (dir g b v))) H
theorem sc_al : FnScope ["v", "l", "onward"] ["v", "l", "onward"] (defScope S_step_along) := ⟨rfl, rfl, rfl, by decide +kernel, rfl, by decide +kernel, by decide +kernel⟩
theorem ok_al (T : Txt K mg) : FnOk P w K mg base CX0 3 T.f_al T.fd_al ["v", "l", "onward"] (spAl K) := by
  have G1 : FnOk P w K mg base CX0 2 T.f_on T.fd_on ["v", "l"] (spV fOn K) := ok_on T
  have G2 : FnOk P w K mg base CX0 2 T.f_bk T.fd_bk ["v", "l"] (spV fBk K) := ok_bk T
  refine T.d_al.F.ok sc_al (fun vs H Q E h => ?_) (fun cdv A outer s H vs Q E hr h => ?_)
  · obtain ⟨v, a, b, ns, g, rfl, _⟩ := h
    rfl
  obtain ⟨v, a, b, ns, g, rfl, hS, r, hv, q⟩ := h
  refine ⟨_, pss_one (ps_ret (pe_ifExp (pt_val (pv 2)) (pe_call G1 hr (by rfl) T.d_on.g T.d_on.F.kp T.d_on.b .nil pass0 (pa_cons (pv 0) (pa_cons (pv 1) pa_nil)))
    (pe_call G2 hr (by rfl) T.d_bk.g T.d_bk.F.kp T.d_bk.b .nil pass0 (pa_cons (pv 0) (pa_cons (pv 1) pa_nil))))), ?_⟩
  refine ⟨_, rfl, _, rfl, ?_⟩
  cases b with
  | true =>
    refine iteT ?_
    exact ⟨_, rfl, _, rfl, v, a, ns, g, rfl, hS, r, hv, q⟩
  | false =>
    refine iteF ?_
    exact ⟨_, rfl, _, rfl, v, a, ns, g, rfl, hS, r, hv, q⟩
abbrev vN (l : List Nat) : List V := l.map fun (x : Nat) => V.int (x : Int)
/-- the points from v, one way: till no step leads further, or till one leads to v -/
def spPa (K : PySem.W.Frag) : Sp := fun vs H Q _ => ∃ (v : Nat) (a : Addr) (b : Bool) (ns : List Int) (g : Kzs1.Lines), vs = [.int (v : Int), .ref a, .bl b] ∧ SqL K H a (ns.map V.int) ∧ Rd ns g ∧ v < Kzs1.size g ∧
  ∀ (H' : Hp) (p : Addr) (pre : List Nat) (u k : Nat), Same H H' → H p = none → H' p = some (.lst (vN (pre ++ [u]))) → Way (dir g b) (Kzs1.size g) v pre u → pre.length + k = Kzs1.size g →
    walk (dir g b) (Kzs1.size g) v = pre ++ walk (dir g b) k u → (dir g b u = none ∨ dir g b u = some v) → Q (.ref p) H'
theorem sc_pa : FnScope ["v", "l", "onward", "points", "there"] ["v", "l", "onward"] (defScope S_points_along) := ⟨rfl, rfl, rfl, by decide +kernel, rfl, by decide +kernel, by decide +kernel⟩
theorem ok_pa (T : Txt K mg) : FnOk P w K mg base CX0 4 T.f_pa T.fd_pa ["v", "l", "onward"] (spPa K) := by
  have G2 : FnOk P w K mg base CX0 3 T.f_al T.fd_al ["v", "l", "onward"] (spAl K) := ok_al T
  refine T.d_pa.F.ok sc_pa (fun vs H Q E h => ?_) (fun cdv A outer s H vs Q E hr h => ?_)
  · obtain ⟨v, a, b, ns, g, rfl, _⟩ := h
    rfl
  obtain ⟨v, a, b, ns, g, rfl, hS, r, hv, q⟩ := h
  refine ⟨_, pss_cons (ps_set (i := 3) sc_pa.nd rfl (.inl rfl) (pe_lst (pa_cons (pv 0) pa_nil)))
    (pss_cons (ps_set (i := 4) sc_pa.nd rfl (.inl rfl) (pe_call G2 hr (by rfl) T.d_al.g T.d_al.F.kp T.d_al.b .nil pass0 (pa_cons (pv 0) (pa_cons (pv 1) (pa_cons (pv 2) pa_nil)))))
    (pss_cons (ps_while PassesOwn.never (PW.pt (pw_and (pt_cmpR op_ne (pv 4) pe_int (nomark _)) (pw_and1 (pt_cmpR op_ne (pv 4) (pe_op op_add (pv 0) pe_int) (nomark _)))))
      (pss_cons (ps_expr (pe_bm PySem.F.plainAttrs_list PySem.F.slot_list_append PySem.F.type_list_append mt_append (pv 3) (pa_cons (pe_op op_sub (pv 4) pe_int) pa_nil)))
      (pss_one (ps_set (i := 4) sc_pa.nd rfl (.inl rfl) (pe_call G2 hr (by rfl) T.d_al.g T.d_al.F.kp T.d_al.b .nil pass0 (pa_cons (pe_op op_sub (pv 4) pe_int) (pa_cons (pv 1) (pa_cons (pv 2) pa_nil))))))))
    (pss_one (ps_ret (pv 3))))), ?_⟩
  refine ⟨_, rfl, by show 1 ≤ sizeLine; decide, fun p hp => ?_⟩
  have s1 : Same H (upd H p (.lst [V.int (v : Int)])) := same_upd hp
  refine ⟨_, rfl, _, rfl, _, rfl, v, a, b, ns, g, rfl, s1.seq hS, r, hv, ?_⟩
  have hle := r.le
  refine ⟨fun k σ H' => ∃ pre u, σ = [some (.int (v : Int)), some (.ref a), some (.bl b), some (.ref p), some (.int (Kzs1.oneMore (dir g b u)))] ∧ Same H H' ∧
      H' p = some (.lst (vN (pre ++ [u]))) ∧ Way (dir g b) (Kzs1.size g) v pre u ∧ pre.length + k = Kzs1.size g ∧ walk (dir g b) (Kzs1.size g) v = pre ++ walk (dir g b) k u,
    ⟨Kzs1.size g, [], v, rfl, s1, upd_same, Way.start hv, Nat.zero_add _, rfl⟩, ?_⟩
  rintro k σ H' ⟨pre, u, rfl, s5, hp5, W, hk, hl⟩
  have hfu := W.fuel
  refine ⟨_, rfl, rfl, _, rfl, ?_⟩
  cases d : dir g b u with
  | none =>
    refine ifF (neI_f rfl) (iteF ?_)
    exact ⟨_, rfl, q H' p pre u k s5 hp hp5 W hk hl (.inl d)⟩
  | some w =>
    have hw := dir_lt r d
    have eo : Kzs1.oneMore (some w) = (w : Int) + 1 := by
      show ((w + 1 : Nat) : Int) = _
      omega
    rw [eo]
    refine ifT (neI_t (by omega)) ?_
    refine ⟨_, rfl, _, rfl, _, _, rfl, rfl, rfl, _, rfl, ?_⟩
    by_cases e : w = v
    · subst e
      refine ifF (neI_f rfl) ?_
      exact ⟨_, rfl, q H' p pre u k s5 hp hp5 W hk hl (.inr d)⟩
    refine ifT (neI_t (by omega)) ?_
    obtain ⟨k, rfl⟩ : ∃ j, k = j + 1 := ⟨k - 1, by omega⟩
    rw [walk_some d] at hl
    refine ⟨fun σ H' => ∃ pre u, σ = [some (.int (v : Int)), some (.ref a), some (.bl b), some (.ref p), some (.int (Kzs1.oneMore (dir g b u)))] ∧ Same H H' ∧
      H' p = some (.lst (vN (pre ++ [u]))) ∧ Way (dir g b) (Kzs1.size g) v pre u ∧ pre.length + k = Kzs1.size g ∧ walk (dir g b) (Kzs1.size g) v = pre ++ walk (dir g b) k u,
      fun σ' H2 h => ⟨k, Nat.lt_succ_self k, h⟩, ?_⟩
    refine ⟨_, rfl, .inl ⟨rfl, _, SqL.of hp5⟩, _, rfl, _, _, rfl, rfl, p, _, _, rfl, rfl, hp5, ?_, ?_⟩
    · rw [List.length_map, List.length_append, List.length_singleton]
      exact small1000 (by omega)
    have s6 : Same H (upd H' p (.lst (vN (pre ++ [u]) ++ [V.int ((w : Int) + 1 - 1)]))) := fun b o e => by
      rw [upd_ne (ne_of_none e hp)]
      exact s5 b o e
    refine ⟨_, rfl, _, _, rfl, rfl, _, rfl, _, rfl, w, a, b, ns, g, ?_, s6.seq hS, r, hw, ?_⟩
    · show [V.int ((w : Int) + 1 - 1), V.ref a, V.bl b] = _
      rw [show (w : Int) + 1 - 1 = (w : Int) from by omega]
    refine ⟨pre ++ [u], w, rfl, s6, ?_, W.more dir_inj e hw d, ?_, ?_⟩
    · rw [upd_same]
      show some (HO.lst (vN (pre ++ [u]) ++ [V.int ((w : Int) + 1 - 1)])) = _
      rw [show (w : Int) + 1 - 1 = (w : Int) from by omega]
      show _ = some (HO.lst (List.map _ (pre ++ [u] ++ [w])))
      rw [List.map_append (l₂ := [w])]
      rfl
    · rw [List.length_append, List.length_singleton]
      omega
    · rw [hl, List.append_assoc]
      rfl
def onR (g : Kzs1.Lines) (v : Nat) : Bool := !(Kzs1.round g v).isEmpty
def spOr (K : PySem.W.Frag) : Sp := fun vs H Q _ => ∃ (v : Nat) (a : Addr) (ns : List Int) (g : Kzs1.Lines), vs = [.int (v : Int), .ref a] ∧ SqL K H a (ns.map V.int) ∧ Rd ns g ∧ v < Kzs1.size g ∧
  ∀ H', Same H H' → Q (.bl (onR g v)) H'
theorem sc_or : FnScope ["v", "l", "last"] ["v", "l"] (defScope S_is_on_round) := ⟨rfl, rfl, rfl, by decide +kernel, rfl, by decide +kernel, by decide +kernel⟩
theorem ok_or (T : Txt K mg) : FnOk P w K mg base CX0 5 T.f_or T.fd_or ["v", "l"] (spOr K) := by
  have G1 : FnOk P w K mg base CX0 2 T.f_on T.fd_on ["v", "l"] (spV fOn K) := ok_on T
  have G2 : FnOk P w K mg base CX0 4 T.f_pa T.fd_pa ["v", "l", "onward"] (spPa K) := ok_pa T
  refine T.d_or.F.ok sc_or (fun vs H Q E h => ?_) (fun cdv A outer s H vs Q E hr h => ?_)
  · obtain ⟨v, a, ns, g, rfl, _⟩ := h
    rfl
  obtain ⟨v, a, ns, g, rfl, hS, r, hv, q⟩ := h
  refine ⟨_, pss_cons (ps_set (i := 2) sc_or.nd rfl (.inl rfl) (pe_ix ix_list (pe_call G2 hr (by rfl) T.d_pa.g T.d_pa.F.kp T.d_pa.b .nil pass0 (pa_cons (pv 0) (pa_cons (pv 1) (pa_cons pe_bl pa_nil)))) (pe_un un_neg pe_int) (fun _ _ => rfl)))
    (pss_one (ps_ret (pe_cmpR op_ne (pe_call G1 (hr.mono (by decide)) (by rfl) T.d_on.g T.d_on.F.kp T.d_on.b .nil pass0 (pa_cons (pv 2) (pa_cons (pv 1) pa_nil))) pe_int (nomark _)))), ?_⟩
  refine ⟨_, rfl, _, rfl, v, a, true, ns, g, rfl, hS, r, hv, fun H1 p pre u k s1 hp hp1 W hk hl ho => ?_⟩
  have W2 : Way (Kzs1.next g) (Kzs1.size g) v pre u := W
  have hl2 : Kzs1.onward g (Kzs1.size g) v = pre ++ walk (Kzs1.next g) k u := (onward_walk g _ _).trans hl
  have hu : u < Kzs1.size g := W.lt u (by simp)
  have hat : atI (vN (pre ++ [u])) (-1) = some (V.int (u : Int)) := by
    show atI (List.map _ (pre ++ [u])) (-1) = _
    rw [List.map_append]
    exact atI_last _ _
  refine ⟨1, rfl, p, _, -1, _, rfl, rfl, SqL.of hp1, hat, ?_⟩
  refine ⟨_, rfl, _, rfl, u, a, ns, g, rfl, s1.seq hS, r, hu, rfl, ?_⟩
  rw [neI]
  have q1 := q H1 s1
  unfold onR at q1
  rcases ho with ho | ho
  · have ho : Kzs1.next g u = none := ho
    rw [round_no W2 hl2 ho] at q1
    rw [ho]
    exact q1
  · have ho : Kzs1.next g u = some v := ho
    rw [round_yes W2 hk hl2 ho] at q1
    rw [ho, decide_eq_true (by show ((v + 1 : Nat) : Int) ≠ 0; omega)]
    rw [show (pre ++ [u]).isEmpty = false from by simp] at q1
    exact q1
/-- what points_along gives of a point on a round is the round -/
theorem round_on {g : Kzs1.Lines} {v u k : Nat} {pre : List Nat} (d : onR g v = true) (W : Way (dir g true) (Kzs1.size g) v pre u) (hk : pre.length + k = Kzs1.size g)
    (hl : walk (dir g true) (Kzs1.size g) v = pre ++ walk (dir g true) k u) (ho : dir g true u = none ∨ dir g true u = some v) : Kzs1.round g v = pre ++ [u] := by
  have W2 : Way (Kzs1.next g) (Kzs1.size g) v pre u := W
  have hl2 : Kzs1.onward g (Kzs1.size g) v = pre ++ walk (Kzs1.next g) k u := (onward_walk g _ _).trans hl
  rcases ho with ho | ho
  · have ho : Kzs1.next g u = none := ho
    unfold onR at d
    rw [round_no W2 hl2 ho] at d
    cases d
  · exact round_yes W2 hk hl2 ho
def spLr (K : PySem.W.Frag) : Sp := fun vs H Q _ => ∃ (a : Addr) (ns : List Int) (g : Kzs1.Lines), vs = [.ref a] ∧ SqL K H a (ns.map V.int) ∧ Rd ns g ∧
  ∀ (H' : Hp) (p : Addr), Same H H' → H p = none → H' p = some (.lst (vN (Kzs1.rounds g))) → (Kzs1.rounds g).length ≤ 400 → Q (.ref p) H'
theorem least_len (g : Kzs1.Lines) (i : Nat) : ((List.range i).filter (least g)).length ≤ i := by
  have := List.length_filter_le (least g) (List.range i)
  rw [List.length_range] at this
  exact this
theorem least_add {g : Kzs1.Lines} {i : Nat} (h : least g i = true) : (List.range (i + 1)).filter (least g) = (List.range i).filter (least g) ++ [i] := by
  rw [List.range_succ, List.filter_append, List.filter_cons, h]
  rfl
theorem least_same {g : Kzs1.Lines} {i : Nat} (h : least g i = false) : (List.range (i + 1)).filter (least g) = (List.range i).filter (least g) := by
  rw [List.range_succ, List.filter_append, List.filter_cons, h]
  exact List.append_nil _
theorem sc_lr : FnScope ["l", "found", "passed", "point", "there"] ["l"] (defScope S_least_of_rounds) := ⟨rfl, rfl, rfl, by decide +kernel, rfl, by decide +kernel, by decide +kernel⟩
theorem ok_lr (T : Txt K mg) : FnOk P w K mg base CX0 6 T.f_lr T.fd_lr ["l"] (spLr K) := by
  have G1 : FnOk P w K mg base CX0 1 T.f_count T.fd_count ["l"] (spCount K) := ok_count T
  have G2 : FnOk P w K mg base CX0 5 T.f_or T.fd_or ["v", "l"] (spOr K) := ok_or T
  have G3 : FnOk P w K mg base CX0 4 T.f_pa T.fd_pa ["v", "l", "onward"] (spPa K) := ok_pa T
  refine T.d_lr.F.ok sc_lr (fun vs H Q E h => ?_) (fun cdv A outer s H vs Q E hr h => ?_)
  · obtain ⟨a, ns, g, rfl, _⟩ := h
    rfl
  obtain ⟨a, ns, g, rfl, hS, r, q⟩ := h
  have hu := hu_of hr
  refine ⟨_, pss_cons (ps_set (i := 1) sc_lr.nd rfl (.inl rfl) (pe_lst pa_nil))
    (pss_cons (ps_set (i := 2) sc_lr.nd rfl (.inl rfl) pe_dnewK)
    (pss_cons (ps_for PassesOwn.never rfl (pi_range1 (by rfl) T.range (pa_cons (pe_call G1 (hr.mono (by decide)) (by rfl) T.d_count.g T.d_count.F.kp T.d_count.b .nil pass0 (pa_cons (pv 0) pa_nil)) pa_nil)) (pg_name (i := 3) sc_lr.nd rfl (Or.inl rfl))
      (pss_one (ps_if (PW.pt (pw_and (pt_cmp (pc_dnotin hu (pv 3) (pv 2))) (pw_and1 (pt_val (pe_call G2 hr (by rfl) T.d_or.g T.d_or.F.kp T.d_or.b .nil pass0 (pa_cons (pv 3) (pa_cons (pv 0) pa_nil)))))))
        (pss_cons (ps_expr (pe_bm PySem.F.plainAttrs_list PySem.F.slot_list_append PySem.F.type_list_append mt_append (pv 1) (pa_cons (pv 3) pa_nil)))
        (pss_one (ps_for PassesOwn.never rfl (pi_list (pe_call G3 (hr.mono (by decide)) (by rfl) T.d_pa.g T.d_pa.F.kp T.d_pa.b .nil pass0 (pa_cons (pv 3) (pa_cons (pv 0) (pa_cons pe_bl pa_nil))))) (pg_name (i := 4) sc_lr.nd rfl (Or.inl rfl))
          (pss_one (ps_dput hu (pv 2) (pv 4) pe_bl rfl)))))
        pss_nil)))
    (pss_one (ps_ret (pv 1))))), ?_⟩
  have hle := r.le
  have hsz := r.sz
  refine ⟨by show 0 ≤ sizeLine; decide, fun f hf => ?_⟩
  intro d hd
  have s1 : Same H (upd H f (.lst [])) := same_upd hf
  have hd0 : H d = none := s1.free hd
  have nfd : f ≠ d := ne_of_none upd_same hd
  have s2 : Same H (upd (upd H f (.lst [])) d (.dK [])) := s1.trans (same_upd hd)
  refine ⟨_, rfl, a, ns, rfl, s2.seq hS, _, rfl, by omega, by omega, ?_⟩
  rw [← hsz]
  refine for_range (lo := 0) (n := Kzs1.size g) (fun i σ H' => ∃ (kvs : List (Key × V)) (v3 v4 : Option V), σ = [some (.ref a), some (.ref f), some (.ref d), v3, v4] ∧ Same H H' ∧
      H' f = some (.lst (vN ((List.range i).filter (least g)))) ∧ H' d = some (.dK kvs) ∧ kvs.length ≤ i * 400 ∧ ∀ x, x < Kzs1.size g → ((valV kvs (Sum.inl (x : Int) : Key)).isSome = true ↔ low g i x))
    ⟨[], none, none, rfl, s2, (upd_ne nfd).trans upd_same, upd_same, Nat.zero_le _, fun x _ => ⟨fun z => (by cases z), fun z => absurd z (low_zero g x)⟩⟩ ?_ ?_
  · rintro i σ H2 hi ⟨kvs, v3, v4, rfl, s3, hf3, hd3, hk, hx⟩
    rw [Int.zero_add]
    refine ⟨_, rfl, _, rfl, d, _, rfl, DGet.k (k := Sum.inl (i : Int)) hd3, _, rfl, ?_⟩
    cases e : valV kvs (Sum.inl (i : Int) : Key) with
    | some y =>
      have lo : low g i i := (hx i hi).mp (by rw [e]; rfl)
      refine iteF (iteF ?_)
      refine ⟨kvs, _, _, rfl, s3, ?_, hd3, by omega, fun x hxs => (hx x hxs).trans (low_passed r hxs lo).symm⟩
      rw [least_same (least_passed lo)]
      exact hf3
    | none =>
      have lo : ¬ low g i i := fun z => by
        have := (hx i hi).mpr z
        rw [e] at this
        cases this
      refine iteT ?_
      refine ⟨_, rfl, _, rfl, i, a, ns, g, rfl, s3.seq hS, r, hi, fun H3 s4 => ⟨_, rfl, ?_⟩⟩
      have hf4 := s4 f _ hf3
      have hd4 := s4 d _ hd3
      cases c : onR g i with
      | false =>
        refine iteF ?_
        refine ⟨kvs, _, _, rfl, s3.trans s4, ?_, hd4, by omega, fun x hxs => (hx x hxs).trans (low_no r hxs c).symm⟩
        rw [least_same (least_no c)]
        exact hf4
      | true =>
        refine iteT ?_
        have hll := least_len g i
        refine ⟨_, rfl, .inl ⟨rfl, _, SqL.of hf4⟩, _, rfl, f, _, _, rfl, rfl, hf4, ?_, ?_⟩
        · rw [List.length_map]
          exact small1000 (by omega)
        have s5 : Same H (upd H3 f (.lst (vN ((List.range i).filter (least g)) ++ [V.int (i : Int)]))) := fun b o z => by
          rw [upd_ne (ne_of_none z hf)]
          exact (s3.trans s4) b o z
        refine ⟨_, rfl, _, rfl, i, a, true, ns, g, rfl, s5.seq hS, r, hi, fun H5 p pre u k s6 hp hp5 W hk5 hl ho => ?_⟩
        have hrd := round_on c W hk5 hl ho
        have hfu := W.fuel
        have hf5 := s6 f _ upd_same
        have hd5 := s6 d _ ((upd_ne nfd.symm).trans hd4)
        have npd : p ≠ d := fun z => by
          subst z
          rw [upd_ne nfd.symm, hd4] at hp
          cases hp
        have hp0 : H p = none := s5.free hp
        have ef : vN ((List.range i).filter (least g)) ++ [V.int (i : Int)] = vN ((List.range (i + 1)).filter (least g)) := by
          rw [least_add (least_new lo c)]
          show _ = List.map _ (_ ++ [i])
          rw [List.map_append]
          rfl
        rw [ef] at hf5
        refine ⟨p, rfl, ⟨_, SqL.of hp5⟩, for_list (K := K) (a := p) (xs := vN (pre ++ [u])) (fun j σ H' => ∃ (kvs' : List (Key × V)) (v4 : Option V), σ = [some (.ref a), some (.ref f), some (.ref d), some (.int (i : Int)), v4] ∧ Same H H' ∧
            H' p = some (.lst (vN (pre ++ [u]))) ∧ H' f = some (.lst (vN ((List.range (i + 1)).filter (least g)))) ∧ H' d = some (.dK kvs') ∧ kvs'.length ≤ i * 400 + j ∧
            ∀ x, x < Kzs1.size g → ((valV kvs' (Sum.inl (x : Int) : Key)).isSome = true ↔ low g i x ∨ x ∈ (pre ++ [u]).take j))
          ⟨kvs, _, rfl, s5.trans s6, hp5, hf5, hd5, hk, fun x hxs => (hx x hxs).trans ⟨.inl, fun z => z.resolve_right (by simp)⟩⟩ (fun j σ H' _ ⟨_, _, _, _, z, _⟩ => SqL.of z) ?_ ?_⟩
        · rintro j y σ H6 hj ⟨kvs', v4, rfl, s7, hp7, hf7, hd7, hk7, hx7⟩
          obtain ⟨z, hz, rfl⟩ : ∃ z, (pre ++ [u])[j]? = some z ∧ V.int (z : Int) = y := by
            rw [List.getElem?_map] at hj
            exact Option.map_eq_some_iff.mp hj
          have hjl : j < (pre ++ [u]).length := (List.getElem?_eq_some_iff.mp hz).1
          rw [List.length_append, List.length_singleton] at hjl
          refine ⟨_, rfl, _, rfl, d, _, rfl, DPut.k (k := Sum.inl (z : Int)) hd7 (by rw [sizeLine_eq]; omega), ?_⟩
          refine ⟨_, _, rfl, fun b o w => (upd_ne (ne_of_none w hd0)).trans (s7 b o w), (upd_ne npd).trans hp7, (upd_ne nfd).trans hf7, upd_same, ?_, fun x hxs => ?_⟩
          · have := length_putK kvs' (Sum.inl (z : Int) : Key) (V.bl true)
            omega
          · rw [valV_put, List.take_add_one, hz]
            by_cases t : x = z
            · subst t
              rw [if_pos rfl]
              simp
            · rw [if_neg (fun w => t (by injection w with w; omega)), hx7 x hxs]
              simp [t]
        · rintro σ H6 ⟨kvs', v4, rfl, s7, hp7, hf7, hd7, hk7, hx7⟩
          rw [List.length_map] at hk7 hx7
          rw [List.take_length] at hx7
          refine ⟨kvs', _, _, rfl, s7, hf7, hd7, ?_, fun x hxs => ?_⟩
          · rw [List.length_append, List.length_singleton] at hk7
            omega
          · rw [hx7 x hxs, low_new r hi hxs, hrd]
  · rintro σ H2 ⟨kvs, v3, v4, rfl, s3, hf3, hd3, hk, hx⟩
    have hll := least_len g (Kzs1.size g)
    exact ⟨_, rfl, q H2 f s3 hf hf3 (by show ((List.range (Kzs1.size g)).filter (least g)).length ≤ 400; omega)⟩
def spRounds (K : PySem.W.Frag) : Sp := fun vs H Q _ => ∃ (a : Addr) (ns : List Int), vs = [.ref a] ∧ SqL K H a (ns.map V.int) ∧ ns.length ≤ 800 ∧ (∀ x ∈ ns, 0 ≤ x) ∧
  ∀ (H' : Hp) (p : Addr), H' p = some (.lst ((PyKzs1.rounds ns).map V.int)) → Q (.ref p) H'
theorem rounds_unfit {ns : List Int} (h0 : ∀ x ∈ ns, 0 ≤ x) (h : fitsB ns = false) : PyKzs1.rounds ns = [-22] := by
  show (Kzs1.answer (.rounds (Kzs1Neutral.natsOf ns))).value :: (Kzs1.answer (.rounds (Kzs1Neutral.natsOf ns))).nums = _
  unfold Kzs1.answer
  simp only
  rw [unfit_with h0 h]
  rfl
theorem rounds_fit {ns : List Int} {g : Kzs1.Lines} (r : Rd ns g) : PyKzs1.rounds ns = (((Kzs1.rounds g).length : Nat) : Int) :: (Kzs1.rounds g).map fun (x : Nat) => (x : Int) := by
  show (Kzs1.answer (.rounds (Kzs1Neutral.natsOf ns))).value :: (Kzs1.answer (.rounds (Kzs1Neutral.natsOf ns))).nums = _
  unfold Kzs1.answer
  simp only
  rw [r.with]
  show (((Kzs1.ints (Kzs1.rounds g)).length : Nat) : Int) :: Kzs1.ints (Kzs1.rounds g) = _
  unfold Kzs1.ints
  rw [List.length_map]
theorem sc_rounds : FnScope ["l", "found"] ["l"] (defScope S_rounds) := ⟨rfl, rfl, rfl, by decide +kernel, rfl, by decide +kernel, by decide +kernel⟩
theorem ok_rounds {f : Addr} {fd : FuncData} (F : Fun K "rounds" "rounds" S_rounds f fd) (T : Txt K mg) : FnOk P w K mg base CX0 7 f fd ["l"] (spRounds K) := by
  have G1 : FnOk P w K mg base CX0 2 T.f_fits T.fd_fits ["l"] (spFits K) := ok_fits T
  have G2 : FnOk P w K mg base CX0 6 T.f_lr T.fd_lr ["l"] (spLr K) := ok_lr T
  refine F.ok sc_rounds (fun vs H Q E h => ?_) (fun cdv A outer s H vs Q E hr h => ?_)
  · obtain ⟨a, ns, rfl, _⟩ := h
    rfl
  obtain ⟨a, ns, rfl, hS, hlen, h0, q⟩ := h
  refine ⟨_, pss_cons (ps_if (pt_not (pt_val (pe_call G1 (hr.mono (by decide)) (by rfl) T.d_fits.g T.d_fits.F.kp T.d_fits.b .nil pass0 (pa_cons (pv 0) pa_nil))))
      (pss_one (ps_ret (pe_lst (pa_cons (pe_glob (v := .int (-22)) rfl T.listR ⟨_, rfl⟩) pa_nil)))) pss_nil)
    (pss_cons (ps_set (i := 1) sc_rounds.nd rfl (.inl rfl) (pe_call G2 hr (by rfl) T.d_lr.g T.d_lr.F.kp T.d_lr.b .nil pass0 (pa_cons (pv 0) pa_nil)))
    (pss_one (ps_ret (pe_op op_cat (pe_lst (pa_cons (pe_callB call_len_seq (by rfl) T.len PySem.boot_len (pa_cons (pv 1) pa_nil)) pa_nil)) (pv 1))))), ?_⟩
  refine ⟨_, rfl, a, ns, rfl, hS, by omega, fun H1 s1 => ⟨_, rfl, ?_⟩⟩
  cases c : fitsB ns with
  | false =>
    rw [rounds_unfit h0 c] at q
    refine iteT ?_
    exact ⟨by decide, fun p hp => q _ p upd_same⟩
  | true =>
    obtain ⟨g, r⟩ := fits_rd h0 c
    rw [rounds_fit r] at q
    refine iteF ?_
    refine ⟨_, rfl, a, ns, g, rfl, s1.seq hS, r, fun H2 p s2 hp hp2 hle => ?_⟩
    refine ⟨_, rfl, p, _, rfl, .inl (SqL.of hp2), by show 1 ≤ sizeLine; decide, fun p3 hp3 => ?_⟩
    refine ⟨_, rfl, p3, p, _, _, rfl, rfl, upd_same, (upd_ne (ne_of_none hp2 hp3)).trans hp2, ?_, fun p4 hp4 => ?_⟩
    · rw [List.length_map]
      exact Nat.le_of_lt (small1000 (by rw [List.length_singleton]; omega))
    · refine q _ p4 ?_
      rw [upd_same, List.length_map, List.map_cons, List.map_map]
      rfl
end
theorem item {x : Int} (h : Codec.inInt 0 4294967295 x = true) : 0 ≤ x := by
  unfold Codec.inInt at h
  simp at h
  omega
theorem items {l : List Int} (h : l.all (Codec.inInt 0 4294967295) = true) : ∀ x ∈ l, 0 ≤ x := fun x hx => item (List.all_eq_true.mp h x hx)
/-! ### 6. What the top has written -/
theorem all_mk {P : Program} {w : World} {K : PySem.W.Frag} {h : Heap} {mg : Str → Option Value} {fa : Addr} (X : K.In h) (G : h.Ns mainGlobals mg) (hfa : mg "rounds" = some (.ref fa))
    {od1 an1 : Option Addr} {sl1 : Array (Option Value)} {oc1 kV1 dc1 pm1 cd1 ct1 : Value} {f1 : Addr}
    (a1 : PySem.W.nsIn K mainGlobals "rounds" = some (some (.ref f1))) (l1 : K.lookup f1 = some ⟨oc1, od1, .func (PySem.W.fnOf "rounds" "rounds" (defArgs S_rounds) (defBody S_rounds) (defScope S_rounds) .none kV1 dc1 pm1 an1 cd1 ct1), sl1⟩) (c1 : PySem.W.codeIn K cd1 "rounds" = true) (k1 : PySem.W.keepIn K (.ref f1) = true)
    {od2 an2 : Option Addr} {sl2 : Array (Option Value)} {oc2 kV2 dc2 pm2 cd2 ct2 : Value} {f2 : Addr}
    (a2 : PySem.W.nsIn K mainGlobals "count_points" = some (some (.ref f2))) (l2 : K.lookup f2 = some ⟨oc2, od2, .func (PySem.W.fnOf "count_points" "count_points" (defArgs S_count_points) (defBody S_count_points) (defScope S_count_points) .none kV2 dc2 pm2 an2 cd2 ct2), sl2⟩) (c2 : PySem.W.codeIn K cd2 "count_points" = true) (k2 : PySem.W.keepIn K (.ref f2) = true)
    {od3 an3 : Option Addr} {sl3 : Array (Option Value)} {oc3 kV3 dc3 pm3 cd3 ct3 : Value} {f3 : Addr}
    (a3 : PySem.W.nsIn K mainGlobals "said_next" = some (some (.ref f3))) (l3 : K.lookup f3 = some ⟨oc3, od3, .func (PySem.W.fnOf "said_next" "said_next" (defArgs S_said_next) (defBody S_said_next) (defScope S_said_next) .none kV3 dc3 pm3 an3 cd3 ct3), sl3⟩) (c3 : PySem.W.codeIn K cd3 "said_next" = true) (k3 : PySem.W.keepIn K (.ref f3) = true)
    {od4 an4 : Option Addr} {sl4 : Array (Option Value)} {oc4 kV4 dc4 pm4 cd4 ct4 : Value} {f4 : Addr}
    (a4 : PySem.W.nsIn K mainGlobals "said_before" = some (some (.ref f4))) (l4 : K.lookup f4 = some ⟨oc4, od4, .func (PySem.W.fnOf "said_before" "said_before" (defArgs S_said_before) (defBody S_said_before) (defScope S_said_before) .none kV4 dc4 pm4 an4 cd4 ct4), sl4⟩) (c4 : PySem.W.codeIn K cd4 "said_before" = true) (k4 : PySem.W.keepIn K (.ref f4) = true)
    {od5 an5 : Option Addr} {sl5 : Array (Option Value)} {oc5 kV5 dc5 pm5 cd5 ct5 : Value} {f5 : Addr}
    (a5 : PySem.W.nsIn K mainGlobals "step_on" = some (some (.ref f5))) (l5 : K.lookup f5 = some ⟨oc5, od5, .func (PySem.W.fnOf "step_on" "step_on" (defArgs S_step_on) (defBody S_step_on) (defScope S_step_on) .none kV5 dc5 pm5 an5 cd5 ct5), sl5⟩) (c5 : PySem.W.codeIn K cd5 "step_on" = true) (k5 : PySem.W.keepIn K (.ref f5) = true)
    {od6 an6 : Option Addr} {sl6 : Array (Option Value)} {oc6 kV6 dc6 pm6 cd6 ct6 : Value} {f6 : Addr}
    (a6 : PySem.W.nsIn K mainGlobals "step_back" = some (some (.ref f6))) (l6 : K.lookup f6 = some ⟨oc6, od6, .func (PySem.W.fnOf "step_back" "step_back" (defArgs S_step_back) (defBody S_step_back) (defScope S_step_back) .none kV6 dc6 pm6 an6 cd6 ct6), sl6⟩) (c6 : PySem.W.codeIn K cd6 "step_back" = true) (k6 : PySem.W.keepIn K (.ref f6) = true)
    {od7 an7 : Option Addr} {sl7 : Array (Option Value)} {oc7 kV7 dc7 pm7 cd7 ct7 : Value} {f7 : Addr}
    (a7 : PySem.W.nsIn K mainGlobals "list_fits" = some (some (.ref f7))) (l7 : K.lookup f7 = some ⟨oc7, od7, .func (PySem.W.fnOf "list_fits" "list_fits" (defArgs S_list_fits) (defBody S_list_fits) (defScope S_list_fits) .none kV7 dc7 pm7 an7 cd7 ct7), sl7⟩) (c7 : PySem.W.codeIn K cd7 "list_fits" = true) (k7 : PySem.W.keepIn K (.ref f7) = true)
    {od8 an8 : Option Addr} {sl8 : Array (Option Value)} {oc8 kV8 dc8 pm8 cd8 ct8 : Value} {f8 : Addr}
    (a8 : PySem.W.nsIn K mainGlobals "step_along" = some (some (.ref f8))) (l8 : K.lookup f8 = some ⟨oc8, od8, .func (PySem.W.fnOf "step_along" "step_along" (defArgs S_step_along) (defBody S_step_along) (defScope S_step_along) .none kV8 dc8 pm8 an8 cd8 ct8), sl8⟩) (c8 : PySem.W.codeIn K cd8 "step_along" = true) (k8 : PySem.W.keepIn K (.ref f8) = true)
    {od9 an9 : Option Addr} {sl9 : Array (Option Value)} {oc9 kV9 dc9 pm9 cd9 ct9 : Value} {f9 : Addr}
    (a9 : PySem.W.nsIn K mainGlobals "points_along" = some (some (.ref f9))) (l9 : K.lookup f9 = some ⟨oc9, od9, .func (PySem.W.fnOf "points_along" "points_along" (defArgs S_points_along) (defBody S_points_along) (defScope S_points_along) .none kV9 dc9 pm9 an9 cd9 ct9), sl9⟩) (c9 : PySem.W.codeIn K cd9 "points_along" = true) (k9 : PySem.W.keepIn K (.ref f9) = true)
    {od10 an10 : Option Addr} {sl10 : Array (Option Value)} {oc10 kV10 dc10 pm10 cd10 ct10 : Value} {f10 : Addr}
    (a10 : PySem.W.nsIn K mainGlobals "is_on_round" = some (some (.ref f10))) (l10 : K.lookup f10 = some ⟨oc10, od10, .func (PySem.W.fnOf "is_on_round" "is_on_round" (defArgs S_is_on_round) (defBody S_is_on_round) (defScope S_is_on_round) .none kV10 dc10 pm10 an10 cd10 ct10), sl10⟩) (c10 : PySem.W.codeIn K cd10 "is_on_round" = true) (k10 : PySem.W.keepIn K (.ref f10) = true)
    {od11 an11 : Option Addr} {sl11 : Array (Option Value)} {oc11 kV11 dc11 pm11 cd11 ct11 : Value} {f11 : Addr}
    (a11 : PySem.W.nsIn K mainGlobals "least_of_rounds" = some (some (.ref f11))) (l11 : K.lookup f11 = some ⟨oc11, od11, .func (PySem.W.fnOf "least_of_rounds" "least_of_rounds" (defArgs S_least_of_rounds) (defBody S_least_of_rounds) (defScope S_least_of_rounds) .none kV11 dc11 pm11 an11 cd11 ct11), sl11⟩) (c11 : PySem.W.codeIn K cd11 "least_of_rounds" = true) (k11 : PySem.W.keepIn K (.ref f11) = true)
    (z1 : PySem.W.nsIn K mainGlobals "len" = some none)
    (z2 : PySem.W.nsIn K mainGlobals "all" = some none)
    (z3 : PySem.W.nsIn K mainGlobals "range" = some none)
    {t1 : Nat} (m1 : PySem.W.nsIn K mainGlobals "MOST_POINTS" = some (some (.int 400 t1)))
    {t2 : Nat} (m2 : PySem.W.nsIn K mainGlobals "LIST_REFUSED" = some (some (.int (-22) t2))) :
    ∃ fd : FuncData, (∀ (s : Shared) (us : List Value), us.length = (["l"] : List Str).length → BindsTo s fd ⟨us, []⟩ ((["l"] : List Str).zip us)) ∧ ∀ base : Heap, K.In base → base.Ns mainGlobals mg → FnOk P w K mg base CX0 7 fa fd ["l"] (spRounds K) := by
  have e := hfa.symm.trans (PySem.W.mg_of X G a1)
  cases e
  have F1 := fun_mk (st := S_rounds) l1 c1 k1
  have F2 := fun_mk (st := S_count_points) l2 c2 k2
  have b2 := F2.binds (ps := ["l"]) fun _ _ _ _ _ _ us hl => match us, hl with | [_], _ => rfl
  have F3 := fun_mk (st := S_said_next) l3 c3 k3
  have b3 := F3.binds (ps := ["v", "l"]) fun _ _ _ _ _ _ us hl => match us, hl with | [_, _], _ => rfl
  have F4 := fun_mk (st := S_said_before) l4 c4 k4
  have b4 := F4.binds (ps := ["v", "l"]) fun _ _ _ _ _ _ us hl => match us, hl with | [_, _], _ => rfl
  have F5 := fun_mk (st := S_step_on) l5 c5 k5
  have b5 := F5.binds (ps := ["v", "l"]) fun _ _ _ _ _ _ us hl => match us, hl with | [_, _], _ => rfl
  have F6 := fun_mk (st := S_step_back) l6 c6 k6
  have b6 := F6.binds (ps := ["v", "l"]) fun _ _ _ _ _ _ us hl => match us, hl with | [_, _], _ => rfl
  have F7 := fun_mk (st := S_list_fits) l7 c7 k7
  have b7 := F7.binds (ps := ["l"]) fun _ _ _ _ _ _ us hl => match us, hl with | [_], _ => rfl
  have F8 := fun_mk (st := S_step_along) l8 c8 k8
  have b8 := F8.binds (ps := ["v", "l", "onward"]) fun _ _ _ _ _ _ us hl => match us, hl with | [_, _, _], _ => rfl
  have F9 := fun_mk (st := S_points_along) l9 c9 k9
  have b9 := F9.binds (ps := ["v", "l", "onward"]) fun _ _ _ _ _ _ us hl => match us, hl with | [_, _, _], _ => rfl
  have F10 := fun_mk (st := S_is_on_round) l10 c10 k10
  have b10 := F10.binds (ps := ["v", "l"]) fun _ _ _ _ _ _ us hl => match us, hl with | [_, _], _ => rfl
  have F11 := fun_mk (st := S_least_of_rounds) l11 c11 k11
  have b11 := F11.binds (ps := ["l"]) fun _ _ _ _ _ _ us hl => match us, hl with | [_], _ => rfl
  have T : Txt K mg := {
    len := PySem.W.mg_none_of X G z1
    all := PySem.W.mg_none_of X G z2
    range := PySem.W.mg_none_of X G z3
    tMost := t1
    most := PySem.W.mg_of X G m1
    tList := t2
    listR := PySem.W.mg_of X G m2
    f_count := f2
    fd_count := _
    d_count := ⟨F2, b2, PySem.W.mg_of X G a2⟩
    f_sn := f3
    fd_sn := _
    d_sn := ⟨F3, b3, PySem.W.mg_of X G a3⟩
    f_sb := f4
    fd_sb := _
    d_sb := ⟨F4, b4, PySem.W.mg_of X G a4⟩
    f_on := f5
    fd_on := _
    d_on := ⟨F5, b5, PySem.W.mg_of X G a5⟩
    f_bk := f6
    fd_bk := _
    d_bk := ⟨F6, b6, PySem.W.mg_of X G a6⟩
    f_fits := f7
    fd_fits := _
    d_fits := ⟨F7, b7, PySem.W.mg_of X G a7⟩
    f_al := f8
    fd_al := _
    d_al := ⟨F8, b8, PySem.W.mg_of X G a8⟩
    f_pa := f9
    fd_pa := _
    d_pa := ⟨F9, b9, PySem.W.mg_of X G a9⟩
    f_or := f10
    fd_or := _
    d_or := ⟨F10, b10, PySem.W.mg_of X G a10⟩
    f_lr := f11
    fd_lr := _
    d_lr := ⟨F11, b11, PySem.W.mg_of X G a11⟩
  }
  exact ⟨_, fun s us hu => match us, hu with | [_], _ => .of_eq rfl, fun base _ _ => ok_rounds F1 T⟩
end My
open PySem PySem.W PyProof.Rows
set_option maxRecDepth 100000 in
set_option maxHeartbeats 8000000 in
theorem PySem.Challenge.cw_otherend_s05_rounds_holds : PySem.Challenge.rw_otherend_s05_rounds.Holds := by
  w_on; k_headS; (case hw => exact ⟨[.list []], by decide +kernel, by decide +kernel⟩)
  k_fillS
  refine L2.walk_specK (r := PySem.Challenge.rw_otherend_s05_rounds) (k := 7) (CX := L2.CX0) (ps := ["l"]) (sp := My.spRounds) (by decide +kernel) rfl rfl ⟨rfl, by decide, by decide⟩ (fun w h Y => PySem.W.kIn_of Y) ?F ?S (fun _ _ _ _ z => z)
  case F =>
    intro w mg fa h Y KX G hmg
    refine' My.all_mk KX G hmg ?a1 ?l1 ?c1 ?k1 ?a2 ?l2 ?c2 ?k2 ?a3 ?l3 ?c3 ?k3 ?a4 ?l4 ?c4 ?k4 ?a5 ?l5 ?c5 ?k5 ?a6 ?l6 ?c6 ?k6 ?a7 ?l7 ?c7 ?k7 ?a8 ?l8 ?c8 ?k8 ?a9 ?l9 ?c9 ?k9 ?a10 ?l10 ?c10 ?k10 ?a11 ?l11 ?c11 ?k11 ?z1 ?z2 ?z3 ?m1 ?m2
    (case a1 => k_is); (case l1 => k_is); (case c1 => k_is); (case k1 => k_is); (case a2 => k_is); (case l2 => k_is); (case c2 => k_is); (case k2 => k_is); (case a3 => k_is); (case l3 => k_is); (case c3 => k_is); (case k3 => k_is); (case a4 => k_is); (case l4 => k_is); (case c4 => k_is); (case k4 => k_is); (case a5 => k_is); (case l5 => k_is); (case c5 => k_is); (case k5 => k_is); (case a6 => k_is); (case l6 => k_is); (case c6 => k_is); (case k6 => k_is); (case a7 => k_is); (case l7 => k_is); (case c7 => k_is); (case k7 => k_is); (case a8 => k_is); (case l8 => k_is); (case c8 => k_is); (case k8 => k_is); (case a9 => k_is); (case l9 => k_is); (case c9 => k_is); (case k9 => k_is); (case a10 => k_is); (case l10 => k_is); (case c10 => k_is); (case k10 => k_is); (case a11 => k_is); (case l11 => k_is); (case c11 => k_is); (case k11 => k_is); (case z1 => k_is); (case z2 => k_is); (case z3 => k_is); (case m1 => k_is); (case m2 => k_is)
  case S =>
    intro K H xs a hO hwi hask hx
    cases hx with
    | cons h1 h2 =>
      cases h2
      cases h1 with
      | lst hs ha =>
        have e := L2.ints_dw a.1 _ ha
        subst e
        have q : ((Codec.inLen 0 800 a.1 && a.1.all (Codec.inInt 0 4294967295)) && true) = true := hwi
        rw [Bool.and_eq_true, Bool.and_eq_true] at q
        exact ⟨_, a.1, rfl, hs, (Codec.inNat_iff.mp q.1.1).2, My.items q.1.2, fun H' p hp => .lst (L2.SqL.of hp) (L2.dw_ints _)⟩
#print axioms PySem.Challenge.cw_otherend_s05_rounds_holds
