/- Names in order: impl.unitsFit, impl.Glob. Names in order: what the program's Glob and Starts answer, in every world that has its tables. The walks of the exact laws of Starts and Glob, given the program's answers. The walks of the exact laws of Starts and Glob, given the program's answers. Names in order: rows of names with their keys: how they lie; a row behind a row. -/
import Derived.Test.YtlkemmdcjnaepaaDoorRows
import Derived.Test.YtlkemmdcjnaepaaDoorG34
import Derived.Test.YtlkemmdcjnaepaaDoorG36
import Derived.Test.YtlkemmdcjnaepaaDoorG31
import Derived.Test.YtlkemmdcjnaepaaDoorG27
import Derived.Test.YtlkemmdcjnaepaaDoorG26
import Derived.Test.YtlkemmdcjnaepaaDoorG24
import Derived.Test.YtlkemmdcjnaepaaDoorG00
import Derived.Laws.AppendOwnNone
namespace Go.Proofs.YtlkemmdcjnaepaaDoor

section
open Go.RowKit Go.Sort

theorem fit_all (h : Nat) (w0 : World) (ap au : Option Addr) (cp cu : Nat) (P U : List ByteArray) (hz : w0.heap.size = h) (hP : TxtsAt w0 (.slice ap P.length cp) P) (hU : TxtsAt w0 (.slice au U.length cu) U) (hPl : P.length ≤ 1048576) (hUl : U.length ≤ 1048576) :
    ∀ d p u, p ≤ P.length → u ≤ U.length → (P.length - p) + (U.length - u) ≤ d → FitC h w0 (.slice ap P.length cp) (.slice au U.length cu) P U p u := by
  intro d
  induction d with
  | zero =>
    intro p u hp hu hd
    obtain rfl : p = P.length := by omega
    exact fit_end h w0 ap au cp cu P U u hu
  | succ d ih =>
    intro p u hp hu hd
    by_cases e : p = P.length
    · subst e
      exact fit_end h w0 ap au cp cu P U u hu
    · by_cases hs : P[p]! = starT
      · exact fit_star h w0 ap au cp cu P U hz hP hPl hUl p u (by omega) hs hu (ih (p + 1) u (by omega) hu (by omega)) (fun hl => ih p (u + 1) hp (by omega) (by omega))
      · by_cases hl : u < U.length
        · by_cases hq : P[p]! = anyT ∨ P[p]! = U[u]!
          · exact fit_go h w0 ap au cp cu P U hz hP hU hPl hUl p u (by omega) hs hl hq (ih (p + 1) (u + 1) (by omega) (by omega) (by omega))
          · exact fit_no h w0 ap au cp cu P U hz hP hU p u (by omega) hs (.inr ⟨hl, fun h => hq (.inl h), fun h => hq (.inr h)⟩)
        · exact fit_no h w0 ap au cp cu P U hz hP hU p u (by omega) hs (.inl (by omega))

/-- what the closure begins with -/
theorem fit_start (w : World) (vp vu F : Value) (hF : F = .func (.func 67) #[] #[.pointer (some ⟨w.heap.size, 0, none⟩), .pointer (some ⟨w.heap.size + 1, 0, none⟩), .pointer (some ⟨w.heap.size + 4, 0, none⟩), .pointer (some ⟨w.heap.size + 3, 0, none⟩)]) :
    FitSt w.heap.size w vp vu (((((w.alloc (.cells #[vp] 24)).alloc (.cells #[vu] 24)).alloc (.map #[] 0)).alloc (.cells #[.map (some (w.heap.size + 2))] 75)).alloc (.cells #[F] 76)) (fun _ _ => False) := by
  subst hF
  refine ⟨?_, ?_, ?_, ?_, ?_, ?_⟩
  · refine Below.alloc (Below.alloc (Below.alloc (Below.alloc (Below.alloc (Below.refl _ _) ?_ _) ?_ _) ?_ _) ?_ _) ?_ _ <;> (first | omega | (simp only [hs_alloc]; omega))
  · rw [heap_alloc_old _ _ (by first | omega | (simp only [hs_alloc]; omega)), heap_alloc_old _ _ (by first | omega | (simp only [hs_alloc]; omega)), heap_alloc_old _ _ (by first | omega | (simp only [hs_alloc]; omega)), heap_alloc_old _ _ (by first | omega | (simp only [hs_alloc]; omega)), heap_alloc_new]
  · rw [heap_alloc_old _ _ (by first | omega | (simp only [hs_alloc]; omega)), heap_alloc_old _ _ (by first | omega | (simp only [hs_alloc]; omega)), heap_alloc_old _ _ (by first | omega | (simp only [hs_alloc]; omega))]
    have := heap_alloc_new (w.alloc (.cells #[vp] 24)) (.cells #[vu] 24)
    rwa [hs_alloc] at this
  · have := QMap.made ((w.alloc (.cells #[vp] 24)).alloc (.cells #[vu] 24))
    rw [hs_alloc, hs_alloc] at this
    have e1 : w.heap.size + 1 + 1 < (((w.alloc (.cells #[vp] 24)).alloc (.cells #[vu] 24)).alloc (.map #[] 0)).heap.size := by simp only [hs_alloc]; omega
    exact (this.kept (heap_alloc_old _ _ e1)).kept (heap_alloc_old _ _ (by rw [hs_alloc]; omega))
  · rw [heap_alloc_old _ _ (by first | omega | (simp only [hs_alloc]; omega))]
    have := heap_alloc_new (((w.alloc (.cells #[vp] 24)).alloc (.cells #[vu] 24)).alloc (.map #[] 0)) (.cells #[.map (some (w.heap.size + 2))] 75)
    rwa [hs_alloc, hs_alloc, hs_alloc] at this
  · have := heap_alloc_new ((((w.alloc (.cells #[vp] 24)).alloc (.cells #[vu] 24)).alloc (.map #[] 0)).alloc (.cells #[.map (some (w.heap.size + 2))] 75)) (.cells #[.func (.func 67) #[] #[.pointer (some ⟨w.heap.size, 0, none⟩), .pointer (some ⟨w.heap.size + 1, 0, none⟩), .pointer (some ⟨w.heap.size + 4, 0, none⟩), .pointer (some ⟨w.heap.size + 3, 0, none⟩)]] 76)
    rwa [hs_alloc, hs_alloc, hs_alloc, hs_alloc] at this

set_option maxRecDepth 100000 in
set_option maxHeartbeats 2000000 in
theorem unitsFit_any (ap au : Option Addr) (cp cu : Nat) (P U : List ByteArray) (w : World) (hP : TxtsAt w (.slice ap P.length cp) P) (hU : TxtsAt w (.slice au U.length cu) U) (hPl : P.length ≤ 1048576) (hUl : U.length ≤ 1048576) :
    Calls Tryd.prog 46 #[.slice ap P.length cp, .slice au U.length cu] w fun e w' => e = .returned (.bool (fitT P U)) ∧ Below w.heap.size w w' := by
  have hmf : ∀ (fn : Fn) (first cap : Array Value) (w : World), (Instr.makeFunc fn first cap).run Tryd.prog w = .ok (.func fn first cap) w := fun _ _ _ _ => rfl
  have hmk := fun W => run_makeMap (P := Tryd.prog) 75 W
  have st := fit_start w (.slice ap P.length cp) (.slice au U.length cu) _ rfl
  have hC := fun W (s : FitSt w.heap.size w (.slice ap P.length cp) (.slice au U.length cu) W (fun _ _ => False)) => fit_all w.heap.size w ap au cp cu P U rfl hP hU hPl hUl _ 0 0 (Nat.zero_le _) (Nat.zero_le _) (Nat.le_refl _) W (fun _ _ => False) 0 0 rfl rfl s (fun _ _ h => h.elim)
  have hR : fitA P U 0 0 = fitT P U := by unfold fitA; rw [List.drop_zero, List.drop_zero]
  rw [hR] at hC
  obtain ⟨-, -, c4⟩ := st.cells
  have HCC := hC _ st
  have HST : Hid (∀ r e W, FitSays w.heap.size w (.slice ap P.length cp) (.slice au U.length cu) P U (fun _ _ => False) r e W → e = .returned (.bool r) ∧ Below w.heap.size w W) := fun r e W hh => by
    obtain ⟨T, h1, h2, -⟩ := hh
    exact ⟨h1, h2.bel⟩
  generalize fitT P U = r at HCC ⊢
  clear hC hR st hP hU hPl hUl
  generalize P.length = n at *
  generalize U.length = m at *
  go_enter Tryd.func46, Tryd.ntmps46
  go_wp2_with fail
  refine HCC.mono ?_
  rintro e w2 hs
  obtain ⟨rfl, hb⟩ := HST.out _ _ _ hs
  clear hs HCC HST
  go_wp2
  go_ret
  exact ⟨rfl, hb⟩

theorem glob_enc {p n : ByteArray} (hp : (nameL p).isSome = true) (hn : (nameL n).isSome = true) : globN p n = fitT (unT p) (unT n) := by
  unfold globN
  rw [hp, hn, unT_yes hp, unT_yes hn, fit_enc _ _ (un14_sgn hp) (un14_sgn hn)]
  rfl
set_option maxRecDepth 100000 in
set_option maxHeartbeats 2000000 in
theorem iGlob (a b : ByteArray) (w : World) (hT : Tabs w) (ha : a.size ≤ 1048576) (hb : b.size ≤ 1048576) :
    Calls Tryd.prog 21 #[.string a, .string b] w fun e w' => e = .returned (.bool (globN a b)) ∧ Below w.heap.size w w' := by
  have U1 := unitsOfName_any a w hT ha
  have U2 := fun W (h : Below w.heap.size w W) => unitsOfName_any b W (hT.below h) hb
  have hla := unT_len a ha
  have hlb := unT_len b hb
  have HN1 : Hid ((nameL a).isSome = false → globN a b = false) := fun h => by unfold globN; rw [h]; rfl
  have HN2 : Hid ((nameL b).isSome = false → globN a b = false) := fun h => by unfold globN; rw [h, Bool.false_and, Bool.and_false]
  have HEN : Hid ((nameL a).isSome = true → (nameL b).isSome = true → globN a b = fitT (unT a) (unT b)) := fun h1 h2 => glob_enc h1 h2
  generalize globN a b = r at HN1 HN2 HEN ⊢
  generalize (nameL a).isSome = qa at U1 HN1 HEN
  generalize (nameL b).isSome = qb at U2 HN2 HEN
  generalize unT a = A at U1 HEN hla
  generalize unT b = B at U2 HEN hlb
  unfold UnSays at U1 U2
  go_enter Tryd.func21, Tryd.ntmps21
  go_wp2_with fail
  refine U1.mono ?_
  rintro e w1 ⟨a1, c1, rfl, r1, b1⟩
  go_wp2_with fail
  refine (U2 w1 b1).mono ?_
  rintro e w2 ⟨a2, c2, rfl, r2, b2⟩
  have B2 := b1.trans (b2.mono b1.size)
  have t1 := (TxtRow.below r1 b2).at
  have t2 := r2.at
  clear U1 U2 r1 r2 b1 b2
  cases qa
  · obtain rfl := HN1.out rfl
    go_wp2
    go_ret
    exact ⟨rfl, B2⟩
  cases qb
  · obtain rfl := HN2.out rfl
    go_wp2
    go_ret
    exact ⟨rfl, B2⟩
  have HR := HEN.out rfl rfl
  have HF := unitsFit_any a1 a2 c1 c2 A B w2 t1 t2 hla hlb
  rw [← HR] at HF
  clear HR HEN HN1 HN2 t1 t2
  go_wp2_with fail
  refine HF.mono ?_
  rintro e w3 ⟨rfl, b3⟩
  go_wp2
  go_ret
  exact ⟨rfl, B2.trans (b3.mono B2.size)⟩
end

section
open Go.RowKit

theorem glImpl (w0 : World) (hT : Tabs w0) : GlImpl w0 := ⟨fun a b w hb ha hbz => iGlob a b w (hT.below hb) ha hbz, fun a b w hb ha hbz => iStarts a b w (hT.below hb) ha hbz⟩
end

section
open Go.RowKit

set_option maxRecDepth 100000 in
theorem wGlob (a b : ByteArray) (w : World) (ha : a.size ≤ 9223372036854775807) (hb : b.size ≤ 9223372036854775807)
    (hI : a.size ≤ 1048576 → b.size ≤ 1048576 → ∀ w', Below w.heap.size w w' → Calls Tryd.prog 21 #[.string a, .string b] w' fun e w'' => e = .returned (.bool (globN a b)) ∧ Below w'.heap.size w' w'') :
    Calls Tryd.prog 8 #[.string a, .string b] w fun e w' => e = .returned (.bool true) ∧ Below w.heap.size w w' := by
  by_cases h1 : (1048576 : Int) < a.size
  · go_enter Tryd.func8, Tryd.ntmps8
    go_wp2
    go_ret
    exact ⟨rfl, Below.refl _ _⟩
  by_cases h2 : (1048576 : Int) < b.size
  · go_enter Tryd.func8, Tryd.ntmps8
    go_wp2
    go_ret
    exact ⟨rfl, Below.refl _ _⟩
  have hS := sGlob a b w (by omega) (by omega)
  have hI' := hI (by omega) (by omega)
  generalize globN a b = r at hS hI'
  have hr : (r == r) = true := by simp
  go_enter Tryd.func8, Tryd.ntmps8
  go_wp2_with fail
  refine hS.mono ?_
  rintro e w1 ⟨rfl, b1⟩
  go_wp2_with fail
  refine (hI' w1 b1).mono ?_
  rintro e w2 ⟨rfl, b2⟩
  go_wp2
  go_ret
  exact ⟨rfl, b1.trans (b2.mono b1.size)⟩
end

section
open Go.RowKit

set_option maxRecDepth 100000 in
theorem wStarts (a b : ByteArray) (w : World) (ha : a.size ≤ 9223372036854775807) (hb : b.size ≤ 9223372036854775807)
    (hI : a.size ≤ 1048576 → b.size ≤ 1048576 → ∀ w', Below w.heap.size w w' → Calls Tryd.prog 25 #[.string a, .string b] w' fun e w'' => e = .returned (.bool (startsN a b)) ∧ Below w'.heap.size w' w'') :
    Calls Tryd.prog 7 #[.string a, .string b] w fun e w' => e = .returned (.bool true) ∧ Below w.heap.size w w' := by
  by_cases h1 : (1048576 : Int) < a.size
  · go_enter Tryd.func7, Tryd.ntmps7
    go_wp2
    go_ret
    exact ⟨rfl, Below.refl _ _⟩
  by_cases h2 : (1048576 : Int) < b.size
  · go_enter Tryd.func7, Tryd.ntmps7
    go_wp2
    go_ret
    exact ⟨rfl, Below.refl _ _⟩
  have hS := sStarts a b w (by omega) (by omega)
  have hI' := hI (by omega) (by omega)
  generalize startsN a b = r at hS hI'
  have hr : (r == r) = true := by simp
  go_enter Tryd.func7, Tryd.ntmps7
  go_wp2_with fail
  refine hS.mono ?_
  rintro e w1 ⟨rfl, b1⟩
  go_wp2_with fail
  refine (hI' w1 b1).mono ?_
  rintro e w2 ⟨rfl, b2⟩
  go_wp2
  go_ret
  exact ⟨rfl, b1.trans (b2.mono b1.size)⟩
end

section
open Go.RowKit

structure Kn where
  key : ByteArray
  name : ByteArray
  deriving Inhabited
/-- a name's cells -/
def encKn (e : Kn) : List Value := [.string e.key, .string e.name]
theorem encKn_len (e : Kn) : (encKn e).length = 2 := rfl
theorem encKn_one (e : Kn) : ∀ v ∈ encKn e, v.oneCell' = true := by
  intro v hv
  simp only [encKn, List.mem_cons, List.not_mem_nil, or_false] at hv
  rcases hv with rfl | rfl <;> rfl
def flatKn (l : List Kn) : List Value := l.flatMap encKn
theorem flatKn_len (l : List Kn) : (flatKn l).length = l.length * 2 := by
  unfold flatKn
  induction l with
  | nil => rfl
  | cons c l ih => rw [List.flatMap_cons, List.length_append, ih, encKn_len, List.length_cons]; omega
theorem flatKn_append (l m : List Kn) : flatKn (l ++ m) = flatKn l ++ flatKn m := by simp [flatKn]
theorem flatKn_cons (e : Kn) (l : List Kn) : flatKn (e :: l) = encKn e ++ flatKn l := by simp [flatKn]
theorem flatKn_one (e : Kn) : flatKn [e] = encKn e := by simp [flatKn]
theorem flatKn_cell (l : List Kn) (v : Value) (hv : v ∈ flatKn l) : v.oneCell' = true := by
  unfold flatKn at hv
  obtain ⟨e, _, he⟩ := List.mem_flatMap.1 hv
  exact encKn_one e v he
/-- the cells of name e at place o -/
structure CellsKn (w : World) (b o : Nat) (e : Kn) : Prop where
  c0 : w.cell? ⟨b, o, none⟩ = some (.string e.key)
  c1 : w.cell? ⟨b, o + 1, none⟩ = some (.string e.name)
theorem flatKn_at : ∀ (l : List Kn) (j : Nat), j < l.length → ∀ t, t < 2 → (flatKn l)[j * 2 + t]? = (encKn l[j]!)[t]?
  | [], j, h, _, _ => by simp at h
  | e :: l, 0, _, t, ht => by
    rw [flatKn_cons, List.getElem?_append_left (by rw [encKn_len]; omega), Nat.zero_mul, Nat.zero_add]; rfl
  | e :: l, j + 1, h, t, ht => by
    have ih := flatKn_at l j (by simpa using h) t ht
    rw [flatKn_cons, List.getElem?_append_right (by rw [encKn_len]; omega), encKn_len, show (j + 1) * 2 + t - 2 = j * 2 + t by omega, ih]
    rfl

/-- the slice v reads as the names l -/
def KnsAt (w : World) (v : Value) (l : List Kn) : Prop :=
  ∃ a cap, v = .slice a l.length cap ∧ (a = none → cap = 0) ∧ ∀ t, t < l.length → ∃ b off, a = some ⟨b, off, none⟩ ∧ b < w.heap.size ∧ CellsKn w b (off + t * 2) l[t]!

/-- the slice v is a row of names that lies from block base on and is the call's own -/
def KnRow (w : World) (base : Nat) (v : Value) (l : List Kn) : Prop := w.ownsRow base 70 2 v l.length (flatKn l)

theorem KnRow.at {w : World} {base : Nat} {v : Value} {l : List Kn} (h : KnRow w base v l) : KnsAt w v l := by
  rcases h.2 with ⟨rfl, h0⟩ | ⟨g, cap, cur, rfl, hg, hh, hnc, hcp, hcs, htake⟩
  · exact ⟨none, 0, by rw [h0], fun _ => rfl, fun t ht => by omega⟩
  · refine ⟨some ⟨g, 0, none⟩, cap, rfl, fun h => (by cases h), fun t ht => ⟨g, 0, rfl, lt_of_block hh, ?_⟩⟩
    have key : ∀ s, s < 2 → w.cell? ⟨g, 0 + t * 2 + s, none⟩ = (encKn l[t]!)[s]? := fun s hs => by
      rw [Nat.zero_add, World.ownsRow.cellAt h _ (by omega), flatKn_at l t ht s hs]
    exact ⟨key 0 (by omega), key 1 (by omega)⟩
theorem CellsKn.below {w w' : World} {b o : Nat} {e : Kn} (h : CellsKn w b o e) (hl : b < w.heap.size) (hb : Below w.heap.size w w') : CellsKn w' b o e :=
  ⟨(hb.cell (p := ⟨b, o, none⟩) hl).trans h.c0, (hb.cell (p := ⟨b, o + 1, none⟩) hl).trans h.c1⟩
theorem KnsAt.below {w w' : World} {v : Value} {l : List Kn} (h : KnsAt w v l) (b : Below w.heap.size w w') : KnsAt w' v l := by
  obtain ⟨a, cap, rfl, hn, hc⟩ := h
  refine ⟨a, cap, rfl, hn, fun t ht => ?_⟩
  obtain ⟨bb, off, h1, h2, h3⟩ := hc t ht
  exact ⟨bb, off, h1, Nat.lt_of_lt_of_le h2 b.size, h3.below h2 b⟩
theorem KnRow.below {w w' : World} {base : Nat} {v : Value} {l : List Kn} (h : KnRow w base v l) (b : Below w.heap.size w w') : KnRow w' base v l :=
  ⟨h.1, by
    rcases h.2 with h0 | ⟨g, cap, cur, e, hg, hh, r⟩
    · exact .inl h0
    · exact .inr ⟨g, cap, cur, e, hg, (b.block g (lt_of_block hh)).trans hh, r⟩⟩
theorem KnRow.mono {w : World} {base base' : Nat} {v : Value} {l : List Kn} (h : KnRow w base v l) (hb : base' ≤ base) : KnRow w base' v l :=
  ⟨h.1, by
    rcases h.2 with h0 | ⟨g, cap, cur, e, hg, r⟩
    · exact .inl h0
    · exact .inr ⟨g, cap, cur, e, Nat.le_trans hb hg, r⟩⟩

theorem Tryd.infoKn : (Tryd.prog.info? 70).map (fun i => (i.zero, i.size, i.bytes)) = some (some (.agg #[.string ⟨#[]⟩, .string ⟨#[]⟩]), 2, 32) := by kernel_rfl

/-- a new row that is empty, as the walk has it -/
theorem lit_kns (w : World) : KnRow (w.alloc (.cells #[] 70)) w.heap.size (.slice (some ⟨w.heap.size, 0, none⟩) 0 0) [] :=
  World.ownsRow_lit (base := w.heap.size) (e := 70) (size := 2) w #[] 0 (Nat.le_refl _) (by unfold maxLen; omega) rfl
/-- a new block with one name -/
theorem one_kn (w : World) (e : Kn) : KnsAt (w.alloc (.cells #[.string e.key, .string e.name] 70)) (.slice (some ⟨w.heap.size, 0, none⟩) 1 1) [e] := by
  refine ⟨_, _, rfl, fun h => (by cases h), fun t ht => ⟨w.heap.size, 0, rfl, by simp, ?_⟩⟩
  obtain rfl : t = 0 := by simpa using ht
  refine ⟨?_, ?_⟩ <;> rw [World.cell?_alloc_mark] <;> rfl

/-- 'append(out, x...)', out a row of the call's own, x any row of names -/
theorem append_kns (w : World) {ops : Array Oper} {rest : List Oper} {o : Oper} {a : Act} {Q : Exit → Act → World → Prop} (hgd : o.guard = none) (s x : Operand)
    (ho : o.op = .call { callee := .builtin .append, args := #[s, x], argTypes := #[43, 43] }) (base : Nat)
    (v u : Value) (l m : List Kn) (hl : l.length + m.length ≤ 1099511627776) (hown : KnRow w base v l) (hu : KnsAt w u m) (hs : a.eval s = v) (hx : a.eval x = u)
    (hbase : base ≤ w.heap.size)
    (h : ∀ v' w', KnRow w' base v' (l ++ m) → Below base w w' → wpList Tryd.prog ops Q rest (a.put o.dst v') w') :
    wpList Tryd.prog ops Q (o :: rest) a w := by
  obtain ⟨i0, hi, hz0, hz1, hz2⟩ := info_parts Tryd.infoKn
  obtain ⟨ad, cap, rfl, hn, hc⟩ := hu
  cases ad with
  | none =>
    have hc0 := hn rfl
    have hm : m = [] := by
      cases m with
      | nil => rfl
      | cons e m => obtain ⟨b, off, h1, _⟩ := hc 0 (by simp); cases h1
    subst hm hc0
    refine wpList_append_own_none hgd s x 43 ho base 70 i0 2 Tryd.underlying43 hi v l.length (flatKn l) hs hown hx ?_
    refine h v w (by rw [List.append_nil]; exact hown) (Below.refl _ _)
  | some ad =>
    have hcl : ∀ j y, (flatKn m)[j]? = some y → w.cell? (ad.add j) = some y := by
      intro j y hy
      have hj : j < m.length * 2 := by
        have := (List.getElem?_eq_some_iff.1 hy).1
        rwa [flatKn_len] at this
      obtain ⟨b1, off1, e, _, hcj⟩ := hc (j / 2) (by omega)
      cases e
      have hjj : j = j / 2 * 2 + j % 2 := by omega
      have h4 := flatKn_at m (j / 2) (by omega) (j % 2) (by omega)
      rw [← hjj, hy] at h4
      rw [Addr.add_lit, hjj, ← Nat.add_assoc]
      have : j % 2 < 2 := by omega
      generalize j % 2 = s at *
      rcases s with _ | _ | s
      · exact hcj.c0.trans h4.symm
      · exact hcj.c1.trans h4.symm
      · omega
    refine wpList_append_own _ hgd s x 43 ho base 70 i0 _ 2 32 Tryd.underlying43 hi hz0 hz1 hz2 rfl (by decide) v l.length (flatKn l) hs hown ad m.length cap (flatKn m) hx (flatKn_len m) hcl (flatKn_cell m) (by unfold maxLen; omega) (by omega) hbase ?_
    intro v' w' hown' hgrow _
    refine h v' w' ?_ ?_
    · unfold KnRow
      rw [flatKn_append, List.length_append]
      exact hown'
    · refine (Below.refl base w).grown hgrow hbase ?_
      intro k hk
      exact (World.ownsRow.lt hown k hk).1
end

end Go.Proofs.YtlkemmdcjnaepaaDoor
