/- spec: Var and l7Piece as texts; a text behind a row of texts. impl: Var and pieceOf as texts. Texts that are too long: impl.tooLong; slices.ContainsFunc of it. -/
import Derived.Test.YtpijjinoeghgoaaGreatDoorRows
import Derived.Test.YtpijjinoeghgoaaGreatDoorMvr
import Derived.Test.YtpijjinoeghgoaaGreatDoorQa
import Derived.Test.YtpijjinoeghgoaaGreatDoorMa
import Derived.Lib.SmallJoins
import Derived.Deep.QuietTactic
import Derived.BigQuiet
import Derived.Lib.QuietBelow
import Derived.Deep.RegionHeld3
namespace Go.Proofs.YtpijjinoeghgoaaGreatDoor

section
open Go.RowKit Go.Sort

theorem sVarT (n : Int) (w : World) : Calls Tryz.prog 44 #[.int .i64 n] w fun e w' => e = .returned (.string (varT n)) ∧ Below w.heap.size w w' := by
  unfold varT
  cases h : inB n 0 562949953421311 with
  | false => exact (sVar_no n w h).mono fun e w' h => ⟨h.1, by rw [← h.2]; exact Below.refl _ _⟩
  | true => exact (sVar_yes n w h).mono fun e w' h => h

theorem sVarT_re (n : Int) (w : World) (dd : Nat) (os : Array Obj) : Calls Tryz.prog 44 #[.int .i64 n] (grow (redrawn w dd) os) fun e w'' => e = .returned (.string (varT n)) ∧ ∃ p : Regrown, w'' = grow (redrawn w p.d) p.os := Calls.regrown_of (sVarT n _)

set_option maxRecDepth 100000 in
set_option maxHeartbeats 1000000 in
theorem sPiece (s : ByteArray) (w : World) (hs : s.size ≤ 1048576) : Calls Tryz.prog 45 #[.string s] w fun e w' => e = .returned (.string (pieceT s)) ∧ Below w.heap.size w w' := by
  unfold pieceT
  have HV := fun w' => sVarT s.size w'
  have hz := varT_size s.size
  generalize varT s.size = t at HV hz
  go_enter Tryz.func45, Tryz.ntmps45
  go_wp2_with (go_at_call 44; refine (HV _).mono ?_; rintro e w1 ⟨rfl, b1⟩)
  go_ret
  exact ⟨rfl, b1⟩

theorem sPiece_re (s : ByteArray) (w : World) (hs : s.size ≤ 1048576) (dd : Nat) (os : Array Obj) : Calls Tryz.prog 45 #[.string s] (grow (redrawn w dd) os) fun e w'' => e = .returned (.string (pieceT s)) ∧ ∃ p : Regrown, w'' = grow (redrawn w p.d) p.os := Calls.regrown_of (sPiece s _ hs)

theorem cell_one_txt (w : World) (u : Value) : ∀ j y, [u][j]? = some y → (w.alloc (.cells #[u] 9)).cell? ((⟨w.heap.size, 0, none⟩ : Addr).add j) = some y := by
  intro j y h
  rw [Addr.add_lit, Nat.zero_add, World.cell?_alloc_mark]
  simpa using h

/-- 'append(out, x)', out a row of texts of the call's own -/
theorem append_txt (w : World) {ops : Array Oper} {rest : List Oper} {o : Oper} {a : Act} {Q : Exit → Act → World → Prop} (hgd : o.guard = none) (s x : Operand)
    (ho : o.op = .call { callee := .builtin .append, args := #[s, x], argTypes := #[22, 22] }) (base : Nat)
    (v : Value) (l : List ByteArray) (X : ByteArray) (hl : l.length + 1 ≤ 1099511627776) (hown : TxtRow w base v l) (hs : a.eval s = v) (hx : a.eval x = .slice (some ⟨w.heap.size, 0, none⟩) 1 1)
    (hbase : base ≤ w.heap.size)
    (h : ∀ v' w', TxtRow w' base v' (l ++ [X]) → Below base w w' → wpList Tryz.prog ops Q rest (a.put o.dst v') w') :
    wpList Tryz.prog ops Q (o :: rest) a (w.alloc (.cells #[.string X] 9)) := by
  obtain ⟨i0, hi, hz0, hz1, hz2⟩ := info_parts Tryz.infoTxt
  refine wpList_append_own _ hgd s x 22 ho base 9 i0 (.string ⟨#[]⟩) 1 16 Tryz.underlying22 hi hz0 hz1 hz2 rfl (by decide) v l.length (strsV l) hs (World.ownsRow.alloc hown _) ⟨w.heap.size, 0, none⟩ 1 1 [.string X] hx rfl (cell_one_txt _ _) ?_ (by unfold maxLen; omega) (by omega) (by simp; omega) ?_
  · intro u hu; simp at hu; subst hu; rfl
  · intro v' w' hown' hgrow _
    refine h v' w' ?_ ?_
    · unfold TxtRow
      rw [strsV_append, List.length_append]
      exact hown'
    · refine ((Below.refl base w).alloc hbase _).grown hgrow (by simp; omega) ?_
      intro k hk
      rcases hown.2 with ⟨rfl, _⟩ | ⟨g, cap, cur, rfl, hg, _⟩
      · simp [Value.ownBlock] at hk
      · simp [Value.ownBlock] at hk; omega
theorem head_row (w : World) (t : ByteArray) (base : Nat) (hb : base ≤ w.heap.size) : TxtRow (w.alloc (.cells #[.string t] 9)) base (.slice (some ⟨w.heap.size, 0, none⟩) 1 1) [t] :=
  World.ownsRow_lit (base := base) (e := 9) (size := 1) w #[.string t] 1 hb (by unfold maxLen; omega) rfl
end

section
open Go.RowKit Go.Sort

theorem iVarT (n : Int) (w : World) : Calls Tryz.prog 72 #[.int .i64 n] w fun e w' => e = .returned (.string (varT n)) ∧ Below w.heap.size w w' := by
  unfold varT
  cases h : inB n 0 562949953421311 with
  | false => exact (iVar_no n w h).mono fun e w' h => ⟨h.1, by rw [← h.2]; exact Below.refl _ _⟩
  | true => exact (iVar_yes n w h).mono fun e w' h => h

theorem iVarT_re (n : Int) (w : World) (dd : Nat) (os : Array Obj) : Calls Tryz.prog 72 #[.int .i64 n] (grow (redrawn w dd) os) fun e w'' => e = .returned (.string (varT n)) ∧ ∃ p : Regrown, w'' = grow (redrawn w p.d) p.os := Calls.regrown_of (iVarT n _)

set_option maxRecDepth 100000 in
set_option maxHeartbeats 1000000 in
theorem iPiece (s : ByteArray) (w : World) (hs : s.size ≤ 1048576) : Calls Tryz.prog 82 #[.string s] w fun e w' => e = .returned (.string (pieceT s)) ∧ Below w.heap.size w w' := by
  unfold pieceT
  have HV := fun w' => iVarT s.size w'
  have hz := varT_size s.size
  generalize varT s.size = t at HV hz
  go_enter Tryz.func82, Tryz.ntmps82
  go_wp2_with (go_at_call 72; refine (HV _).mono ?_; rintro e w1 ⟨rfl, b1⟩)
  go_ret
  exact ⟨rfl, b1⟩

theorem iPiece_re (s : ByteArray) (w : World) (hs : s.size ≤ 1048576) (dd : Nat) (os : Array Obj) : Calls Tryz.prog 82 #[.string s] (grow (redrawn w dd) os) fun e w'' => e = .returned (.string (pieceT s)) ∧ ∃ p : Regrown, w'' = grow (redrawn w p.d) p.os := Calls.regrown_of (iPiece s _ hs)
end

section
open Go.RowKit Go.Sort

set_option maxRecDepth 100000 in
theorem fit_one (s : ByteArray) (w : World) : Calls Tryz.prog 51 #[.string s] w fun e w' => e = .returned (.bool (decide (4000 < s.size))) ∧ w = w' := by
  go_enter Tryz.func51, Tryz.ntmps51
  go_wp2
  go_ret
  exact ⟨ret_bool (by simp; omega), rfl⟩

set_option maxRecDepth 100000 in
set_option maxHeartbeats 1000000 in
theorem indexFit (v : Value) (L : List ByteArray) (w : World) (hl : L.length ≤ 9223372036854775807) (hv : TxtsAt w v L) :
    Calls Tryz.prog 74 #[v, .func (.func 51) #[] #[]] w fun e w' => ∃ z : Int, e = .returned (.int .i64 z) ∧ Hid (0 ≤ z ↔ ∃ t ∈ L, 4000 < t.size) ∧ w = w' := by
  obtain ⟨a, ca, rfl, -, hva⟩ := hv
  have HEND : Hid ((∀ t, t < L.length → ¬ 4000 < L[t]!.size) → ((0 : Int) ≤ -1 ↔ ∃ t ∈ L, 4000 < t.size)) := fun h => ⟨fun h2 => by omega, fun ⟨t, ht, h2⟩ => by
    obtain ⟨i, hi, rfl⟩ := List.getElem_of_mem ht
    have := h i hi
    rw [getElem!_pos L i hi] at this
    exact absurd h2 this⟩
  have HYES : Hid (∀ k : Nat, k < L.length → 4000 < L[k]!.size → ((0 : Int) ≤ k ↔ ∃ t ∈ L, 4000 < t.size)) := fun k hk h => ⟨fun _ => ⟨L[k]!, by rw [getElem!_pos L k hk]; exact List.getElem_mem hk, h⟩, fun _ => by omega⟩
  obtain ⟨n, HN⟩ : ∃ n, Hid (n = L.length) := ⟨_, rfl⟩
  rw [← HN.out] at hva hl HEND HYES ⊢
  go_enter Tryz.func74, Tryz.ntmps74
  go_wp2
  go_loopw [8] (fun i wr => ∃ k : Nat, k ≤ n ∧ i = .int .i64 k ∧ Hid (∀ t, t < k → ¬ 4000 < L[t]!.size) ∧ w = wr) (fun i _ => n - (intOf i).toNat)
  case atStart => exact ⟨0, Nat.zero_le _, rfl, fun t ht => by omega, rfl⟩
  case round =>
    obtain ⟨k, hk, rfl, HK, rfl⟩ := hrel
    by_cases hlt : k < n
    · obtain ⟨b1, o1, rfl, hb1, hc1⟩ := hva k hlt
      have HF := fun w' => fit_one L[k]! w'
      have HY := HYES.out k hlt
      have HX : Hid (¬ 4000 < L[k]!.size → ∀ t, t < k + 1 → ¬ 4000 < L[t]!.size) := fun h t ht => by
        by_cases e : t = k
        · rw [e]; exact h
        · exact HK.out t (by omega)
      have hkn : (k : Int) < (n : Int) := by omega
      have hk0 : (0 : Int) ≤ (k : Int) := by omega
      generalize L[k]! = s at *
      by_cases hs : 4000 < s.size
      · have HY : Hid _ := HY hs
        rw [decide_eq_true hs] at HF
        clear HX hs hva
        go_wp2_with (go_at_call 51; refine (HF _).mono ?_; rintro e w' ⟨rfl, rfl⟩)
        go_ret
        exact ⟨_, rfl, HY, rfl⟩
      · have HX : Hid _ := HX.out hs
        rw [decide_eq_false hs] at HF
        clear HY hs hva
        go_wp2_with (go_at_call 51; refine (HF _).mono ?_; rintro e w' ⟨rfl, rfl⟩)
        go_roundw
        case rel => exact ⟨k + 1, by omega, by go_num, HX, trivial⟩
        case measure => simp [intOf]; omega
    · obtain rfl : k = n := by omega
      have HE : Hid _ := HEND.out HK.out
      go_wp2
      go_ret
      exact ⟨-1, rfl, HE, rfl⟩

set_option maxRecDepth 100000 in
set_option maxHeartbeats 1000000 in
theorem containsFit (v : Value) (L : List ByteArray) (w : World) (hl : L.length ≤ 9223372036854775807) (hv : TxtsAt w v L) :
    Calls Tryz.prog 55 #[v, .func (.func 51) #[] #[]] w fun e w' => e = .returned (.bool (L.any fun t => decide (4000 < t.size))) ∧ w = w' := by
  have HI := indexFit v L w hl hv
  obtain ⟨a, ca, rfl, -, -⟩ := hv
  have HB : Hid (∀ z : Int, (0 ≤ z ↔ ∃ t ∈ L, 4000 < t.size) → decide (0 ≤ z) = L.any fun t => decide (4000 < t.size)) := fun z h => by
    rw [Bool.eq_iff_iff, decide_eq_true_eq, h]; simp
  generalize (L.any fun t => decide (4000 < t.size)) = r at *
  go_enter Tryz.func55, Tryz.ntmps55
  go_wp2_with (go_at_call 74; refine HI.mono ?_; rintro e w' ⟨z, rfl, HZ, rfl⟩)
  go_ret
  exact ⟨ret_bool (HB.out z HZ.out), rfl⟩
end

end Go.Proofs.YtpijjinoeghgoaaGreatDoor
