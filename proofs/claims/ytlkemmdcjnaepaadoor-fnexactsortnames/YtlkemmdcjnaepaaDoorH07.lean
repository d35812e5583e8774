/- Names in order: slices.SortFunc at places: a row of places put in order; a row of none. Names in order: the places of a row of names, held against each other by the names; what the sort leaves. Names in order: what SortFunc leaves of the places. -/
import Derived.Test.YtlkemmdcjnaepaaDoorRows
import Derived.Test.YtlkemmdcjnaepaaDoorH06
import Derived.Test.YtlkemmdcjnaepaaDoorShelf
import Derived.Test.YtlkemmdcjnaepaaDoorH00
import Derived.Test.YtlkemmdcjnaepaaDoorG38
import Derived.Test.YtlkemmdcjnaepaaDoorG00
namespace Go.Proofs.YtlkemmdcjnaepaaDoor

section
open Go.RowKit Go.Sort Go.Shelf Go.Lib

theorem bla_le : ∀ f x, Lib.bitLenAux f x ≤ f
  | 0, _ => Nat.le_refl _
  | f + 1, x => by
    unfold Lib.bitLenAux
    split
    · omega
    · have := bla_le f (x / 2)
      omega
set_option maxRecDepth 100000 in
set_option maxHeartbeats 2000000 in
theorem sortF_any {m : Nat} {w0 : World} {blk off : Nat} {d0 : Array (Fin (m + 1))} {rv : Value} {cf : Fin (m + 1) → Fin (m + 1) → Int} (S : Sby m w0 blk off d0 rv cf) (hO : SWO (ltOf cf)) (cap : Nat) (w : World) (hw : SW encF w0 blk off d0 w) :
    Calls Tryd.prog 35 #[.slice (some ⟨blk, off, none⟩) d0.size cap, .func (.func 37) #[rv] #[]] w fun e w' => PdqF w0 blk off 0 d0.size (ltOf cf) d0 e w' := by
  have hsz := S.hs
  have HB := fun W => Tryd.bits_Len (d0.size : Int) W (by omega) (by omega)
  have HB : ∀ W, Calls Tryd.prog 57 #[.int .u64 (d0.size : Int)] W fun e w' => e = .returned (.int .i64 ((Lib.bitLen d0.size : Nat) : Int)) ∧ w' = W := HB
  have hbl : Lib.bitLen d0.size ≤ 64 := bla_le 64 _
  have HP := pdq_any S hO cap d0.size 0 d0.size (Lib.bitLen d0.size) d0 w (by omega) hbl ⟨rfl, hw, Nat.zero_le _, Nat.le_refl _, .inl rfl⟩
  have HP : Calls Tryd.prog 56 #[.slice (some ⟨blk, off, none⟩) d0.size cap, .int .i64 0, .int .i64 (d0.size : Int), .int .i64 ((Lib.bitLen d0.size : Nat) : Int), .func (.func 37) #[rv] #[]] w fun e w' => PdqF w0 blk off 0 d0.size (ltOf cf) d0 e w' := HP
  have HE : Hid (∀ e w', PdqF w0 blk off 0 d0.size (ltOf cf) d0 e w' → e = .returned (.tuple #[]) ∧ PdqF w0 blk off 0 d0.size (ltOf cf) d0 (.returned (.tuple #[])) w') := fun e w' h => ⟨h.1, by have h1 := h.1; subst h1; exact h⟩
  clear hw S hO hbl
  generalize Lib.bitLen d0.size = q at *
  generalize d0.size = n at *
  have hu : IntKind.u64.wrap (n : Int) = (n : Int) := by rw [IntKind.wrap_u64]; omega
  go_enter Tryd.func35, Tryd.ntmps35
  go_wp2_with fail
  refine (HB _).mono ?_
  rintro e w1 ⟨rfl, rfl⟩
  clear HB
  go_wp2_with fail
  refine HP.mono ?_
  intro e w2 h2
  obtain ⟨rfl, h3⟩ := HE.out _ _ h2
  have H3 : Hid (PdqF w0 blk off 0 n (ltOf cf) d0 (.returned (.tuple #[])) w2) := h3
  clear h2 h3 HE HP
  go_wp2
  go_end0
  exact H3.out

set_option maxRecDepth 100000 in
set_option maxHeartbeats 1000000 in
theorem ins_none (a : Option Addr) (cap : Nat) (fv : Value) (w : World) :
    Calls Tryd.prog 72 #[.slice a 0 cap, .int .i64 0, .int .i64 0, fv] w fun e w' => e = .returned (.tuple #[]) ∧ w' = w := by
  go_enter Tryd.func72, Tryd.ntmps72
  go_wp2
  go_loopw [8] (fun vi wr => vi = .int .i64 1 ∧ wr = w) (fun _ _ => 0)
  case atStart => exact ⟨by go_num, rfl⟩
  case round =>
    obtain ⟨rfl, rfl⟩ := hrel
    go_wp2
    go_end0
    exact ⟨rfl, rfl⟩
set_option maxRecDepth 100000 in
set_option maxHeartbeats 1000000 in
theorem pdq_none (a : Option Addr) (cap : Nat) (fv : Value) (w : World) :
    Calls Tryd.prog 56 #[.slice a 0 cap, .int .i64 0, .int .i64 0, .int .i64 0, fv] w fun e w' => e = .returned (.tuple #[]) ∧ w' = w := by
  have HI := ins_none a cap fv w
  go_enter Tryd.func56, Tryd.ntmps56
  go_wp2
  go_loopw [1, 2, 3, 10, 11] (fun av bv lv wbv wpv wr => av = .int .i64 0 ∧ bv = .int .i64 0 ∧ lv = .int .i64 0 ∧ wbv = .bool true ∧ wpv = .bool true ∧ wr = w) (fun _ _ _ _ _ _ => 0)
  case atStart => exact ⟨rfl, rfl, rfl, rfl, rfl, rfl⟩
  case round =>
    obtain ⟨rfl, rfl, rfl, rfl, rfl, rfl⟩ := hrel
    go_wp2_with fail
    refine HI.mono ?_
    rintro e w2 ⟨rfl, rfl⟩
    go_wp2
    first
      | go_end0
      | ((try simp only [Exit.inBlock, Exit.then]); refine bodyPost_ret (results_none rfl _ _ _) rfl ?_)
    exact ⟨rfl, rfl⟩
set_option maxRecDepth 100000 in
set_option maxHeartbeats 1000000 in
theorem sortF_none (a : Option Addr) (cap : Nat) (fv : Value) (w : World) :
    Calls Tryd.prog 35 #[.slice a 0 cap, fv] w fun e w' => e = .returned (.tuple #[]) ∧ w' = w := by
  have HB := fun W => Tryd.bits_Len 0 W (by omega) (by omega)
  have HB : ∀ W, Calls Tryd.prog 57 #[.int .u64 0] W fun e w' => e = .returned (.int .i64 0) ∧ w' = W := HB
  have HP := pdq_none a cap fv w
  have hu : IntKind.u64.wrap 0 = 0 := by rw [IntKind.wrap_u64]; omega
  go_enter Tryd.func35, Tryd.ntmps35
  go_wp2_with fail
  refine (HB _).mono ?_
  rintro e w1 ⟨rfl, rfl⟩
  clear HB
  go_wp2_with fail
  refine HP.mono ?_
  rintro e w2 ⟨rfl, rfl⟩
  go_wp2
  go_end0
  exact ⟨rfl, rfl⟩
end

section
open Go.RowKit Go.Sort Go.Shelf Go.Lib

def cfN {m : Nat} (l : List ByteArray) (x y : Fin (m + 1)) : Int := ordN l[x.val]! l[y.val]!
theorem lt_cfN {m : Nat} (l : List ByteArray) (x y : Fin (m + 1)) : ltOf (cfN l) x y = lt14 l[x.val]! l[y.val]! := by
  show decide (ordN _ _ < 0) = _
  rw [Bool.eq_iff_iff, decide_eq_true_eq]
  exact ord_neg _ _
theorem swo_cfN {m : Nat} (l : List ByteArray) : SWO (ltOf (cfN (m := m) l)) :=
  ⟨fun x => by rw [lt_cfN]; exact lt14_irr _, fun x y z h1 h2 => by rw [lt_cfN] at *; exact lt14_trans h1 h2, fun x y z h1 h2 => by rw [lt_cfN] at *; exact le14_trans h2 h1⟩
def plc (m : Nat) : Array (Fin (m + 1)) := Array.ofFn fun i => i
theorem plc_size (m : Nat) : (plc m).size = m + 1 := by simp [plc]
theorem plc_get (m i : Nat) (h : i < m + 1) : ((plc m)[i]!).val = i := by
  rw [getElem!_pos (plc m) i (by rw [plc_size]; exact h)]
  simp [plc]
theorem plc_texts (m : Nat) (l : List ByteArray) (h : l.length = m + 1) : (plc m).toList.map (fun x => l[x.val]!) = l := by
  apply List.ext_getElem
  · simp [plc, h]
  · intro i h1 h2
    rw [List.getElem_map, Array.getElem_toList]
    unfold plc
    rw [Array.getElem_ofFn]
    exact getElem!_pos l i h2
/-- the places as a row of integers -/
def upto (k : Nat) : List Int := (List.range k).map fun i : Nat => (i : Int)
theorem upto_len (k : Nat) : (upto k).length = k := by simp [upto]
theorem upto_succ (k : Nat) : upto (k + 1) = upto k ++ [(k : Int)] := by simp [upto, List.range_succ]
theorem upto_get (k i : Nat) (h : i < k) : (upto k).getD i 0 = (i : Int) := by
  simp [upto, List.getD, h]

/-- the world that the sort leaves, away from the row -/
theorem SW.heap_other {m : Nat} {w0 W : World} {blk off : Nat} {dk : Array (Fin (m + 1))} (h : SW encF w0 blk off dk W) (k : Nat) (hk : k < w0.heap.size) (hne : k ≠ blk) : W.heap[k]? = w0.heap[k]? := by
  obtain ⟨n, os, rfl⟩ := h
  unfold sortWorld
  rw [heap_grow_old _ _ (by rw [size_putRow]; exact hk)]
  show (w0.heap.modify blk _)[k]? = _
  rw [Array.getElem?_modify, if_neg (Ne.symm hne)]
theorem SW.below {m : Nat} {w0 W : World} {blk off B : Nat} {dk : Array (Fin (m + 1))} (h : SW encF w0 blk off dk W) (hB : B ≤ blk) (hb : blk < w0.heap.size) : Below B w0 W := by
  have hh := fun k (hk : k < B) => SW.heap_other h k (by omega) (by omega)
  obtain ⟨n, os, rfl⟩ := h
  exact ⟨rfl, rfl, rfl, by unfold sortWorld; rw [size_grow, size_putRow]; exact Nat.le_add_right _ _, hh⟩
theorem SW.cell_other {m : Nat} {w0 W : World} {blk off : Nat} {dk : Array (Fin (m + 1))} (h : SW encF w0 blk off dk W) (b o : Nat) (hk : b < w0.heap.size) (hne : b ≠ blk) : W.cell? ⟨b, o, none⟩ = w0.cell? ⟨b, o, none⟩ :=
  World.cell?_of_block (w := w0) (SW.heap_other h b hk hne)

/-- what SortFunc is told -/
theorem sby_names {m : Nat} (l : List ByteArray) (w0 : World) (hl : l.length = m + 1) (hm : l.length ≤ 1048576) (base blk cap : Nat) (rv : Value) (hbb : blk < base) (hbs : base ≤ w0.heap.size) (h1 : ∃ B, IntRow w0 B (.slice (some ⟨blk, 0, none⟩) (m + 1) cap) (upto (m + 1))) (h2 : KnRow w0 base rv (rowK l)) :
    Sby m w0 blk 0 (plc m) rv (cfN l) ∧ SW encF w0 blk 0 (plc m) w0 := by
  have hH : Holds (encF (m := m)) w0 blk 0 (plc m) := by
    obtain ⟨B, h1⟩ := h1
    intro j hj
    rw [plc_size] at hj
    have hat := h1.at
    obtain ⟨a, c, e, hc⟩ := hat
    obtain ⟨bb, off, e2, hb, hcc⟩ := hc j (by rw [upto_len]; exact hj)
    rw [upto_len] at e
    cases e
    cases e2
    refine ⟨?_, ?_⟩
    · rw [hcc, upto_get _ _ hj]
      unfold encF
      rw [plc_get m j hj]
    · rcases h1.2 with ⟨e, _⟩ | ⟨g, c2, cur, e, hg, hh, -⟩
      · cases e
      · rw [upto_len] at e
        cases e
        exact frozen_of_row _ _ _ _ _ hh
  have hblk : blk < w0.heap.size := by omega
  refine ⟨⟨⟨encF_one, hH, hblk⟩, fun dk W hs hW x y => ?_, by rw [plc_size, ← hl]; exact hm⟩, SW.start hH⟩
  have hK : KnsAt W rv (rowK l) := by
    have hr := h2
    obtain ⟨a, c, e, hnn, hx⟩ := hr.at
    refine ⟨a, c, e, hnn, fun t ht => ?_⟩
    obtain ⟨b, o, e2, hb, hc⟩ := hx t ht
    have hbase : base ≤ b := by
      rcases h2.2 with ⟨e3, h0⟩ | ⟨g, c3, cur, e3, hg, -⟩
      · rw [h0] at ht; omega
      · rw [e3] at e
        cases e
        cases e2
        exact hg
    refine ⟨b, o, e2, Nat.lt_of_lt_of_le hb (SW.le hW), ⟨?_, ?_⟩⟩
    · rw [SW.cell_other hW b _ hb (by omega)]; exact hc.c0
    · rw [SW.cell_other hW b _ hb (by omega)]; exact hc.c1
  have hxl : x.val < l.length := by rw [hl]; exact x.isLt
  have hyl : y.val < l.length := by rw [hl]; exact y.isLt
  have := stand_any rv (rowK l) x.val y.val _ _ rfl rfl W hK (by rw [rowK_len]; exact hxl) (by rw [rowK_len]; exact hyl)
  rw [rowK_get l _ hxl, rowK_get l _ hyl, std_ord] at this
  exact this

/-- the places in order: the names in order -/
theorem sorted_names {m : Nat} (l : List ByteArray) (hl : l.length = m + 1) (d' : Array (Fin (m + 1))) (hp : PermIn 0 (plc m).size (plc m) d') (hs : SortedIn (ltOf (cfN l)) 0 (plc m).size d') : d'.toList.map (fun x => l[x.val]!) = sort14 l := by
  have hsz : d'.size = m + 1 := by rw [hp.1, plc_size]
  refine sort14_is ⟨?_, ?_⟩
  · have h1 := hp.2.2
    rw [← hp.1] at h1
    rw [Array.extract_size, hp.1, Array.extract_size] at h1
    have h2 := h1.map fun x => l[x.val]!
    rw [plc_texts m l hl] at h2
    exact h2
  · rw [List.pairwise_map, List.pairwise_iff_getElem]
    intro i j hi hj hij
    have hj' : j < d'.size := by simpa using hj
    have := hs i j (Nat.zero_le _) hij (by rw [plc_size, ← hsz]; exact hj')
    rw [lt_cfN, getElem!_pos d' i (by omega), getElem!_pos d' j hj'] at this
    simpa using this
end

section
open Go.RowKit Go.Sort Go.Shelf Go.Lib

/-- what SortFunc leaves of the places -/
def Plcd (l : List ByteArray) (B : Nat) (W : World) (v : Value) (w' : World) : Prop :=
  Below B W w' ∧ ∃ P : List Nat, P.length = l.length ∧ (∀ t, t < P.length → P[t]! < l.length) ∧ P.map (fun t => l[t]!) = sort14 l ∧ IntsAt w' v (P.map fun t : Nat => (t : Int))

theorem sortPlaces_any (l : List ByteArray) (hl : l.length ≤ 1048576) (w2 W : World) (B : Nat) (v rv : Value) (h0 : IntRow w2 B v (upto l.length)) (hb : Below w2.heap.size w2 W) (h2 : KnRow W w2.heap.size rv (rowK l)) :
    Calls Tryd.prog 35 #[v, .func (.func 37) #[rv] #[]] W fun e w' => e = .returned (.tuple #[]) ∧ Plcd l B W v w' := by
  have h1 := h0.below hb
  cases hn : l.length with
  | zero =>
    have hl0 : l = [] := List.length_eq_zero_iff.1 hn
    subst hl0
    have hat := h1.at
    obtain ⟨a, c, rfl, -⟩ := id hat
    refine (sortF_none a c _ W).mono ?_
    rintro e w' ⟨rfl, rfl⟩
    exact ⟨rfl, Below.refl _ _, [], rfl, fun t ht => by simp at ht, rfl, hat⟩
  | succ m =>
    rw [hn] at h1 h0
    obtain ⟨blk, cap, rfl, hg, hgw⟩ : ∃ blk cap, v = .slice (some ⟨blk, 0, none⟩) (m + 1) cap ∧ B ≤ blk ∧ blk < w2.heap.size := by
      rcases h0.2 with ⟨e, h⟩ | ⟨g, c2, cur, e, hg, hh, -⟩
      · rw [upto_len] at h; omega
      · rw [upto_len] at e
        exact ⟨g, c2, e, hg, lt_of_block hh⟩
    obtain ⟨S, hS⟩ := sby_names l W hn hl w2.heap.size blk cap rv hgw hb.size ⟨B, h1⟩ h2
    have H := sortF_any S (swo_cfN l) cap W hS
    rw [plc_size] at H
    refine H.mono ?_
    rintro e w' ⟨rfl, d', hp, hs, hw⟩
    have hsz : d'.size = m + 1 := by rw [hp.1, plc_size]
    refine ⟨rfl, SW.below hw hg (Nat.lt_of_lt_of_le hgw hb.size), d'.toList.map (fun x => x.val), by simp [hsz, hn], fun t ht => ?_, ?_, _, cap, by simp [hsz], fun t ht => ⟨blk, 0, rfl, Nat.lt_of_lt_of_le (Nat.lt_of_lt_of_le hgw hb.size) (SW.le hw), ?_⟩⟩
    · have ht' : t < d'.size := by simpa using ht
      rw [getElem!_pos _ t ht, hn]
      simp
    · rw [List.map_map, ← sorted_names l hn d' (by rw [plc_size]; exact hp) (by rw [plc_size]; exact hs)]
      rfl
    · have ht' : t < d'.size := by simpa using ht
      have := hw.c1 S.R (by rw [hsz, plc_size]) t ht'
      rw [this]
      unfold encF
      simp [List.getD, ht']
end

end Go.Proofs.YtlkemmdcjnaepaaDoor
