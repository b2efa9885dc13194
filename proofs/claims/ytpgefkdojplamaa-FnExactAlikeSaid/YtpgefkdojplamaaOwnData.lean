/- The document's data as a call owns it, by program (tools/gendeep.py). -/
import Derived.Test.YtpgefkdojplamaaData
import Derived.Test.YtpgefkdojplamaaOwnDeep
namespace Go.Proofs.Ytpgefkdojplamaa
set_option linter.unusedVariables false
set_option maxRecDepth 100000
open Go.ChangeShapes Go.WideShapes Go.ChangeAt Go.RowKit
theorem int_loc {w w' : World} {b o d : Nat} {x : Int} (h : w'.cell? ⟨b, o + d, none⟩ = w.cell? ⟨b, o + d, none⟩) (k : IntEl w b (o + d) x) : IntEl w' b (o + d) x := by unfold IntEl; rw [h]; exact k
theorem one_hc {w w' : World} {b p : Nat} (h : w'.cell? ⟨b, p, none⟩ = w.cell? ⟨b, p, none⟩) : ∀ j, j < 1 → w'.cell? ⟨b, p + j, none⟩ = w.cell? ⟨b, p + j, none⟩ := fun j hj => by
  obtain rfl : j = 0 := by omega
  exact h
theorem str_loc {w w' : World} {b o d : Nat} {x : ByteArray} (h : w'.cell? ⟨b, o + d, none⟩ = w.cell? ⟨b, o + d, none⟩) (k : StrEl w b (o + d) x) : StrEl w' b (o + d) x := by unfold StrEl; rw [h]; exact k
theorem bool_loc {w w' : World} {b o d : Nat} {x : Bool} (h : w'.cell? ⟨b, o + d, none⟩ = w.cell? ⟨b, o + d, none⟩) (k : BoolEl w b (o + d) x) : BoolEl w' b (o + d) x := by unfold BoolEl; rw [h]; exact k
theorem i64_nat (m : Nat) (h : m ≤ 1000000000000) : I64 (m : Int) := ⟨by omega, by omega⟩
theorem int_el {w : World} {b o : Nat} {a c : Int} (h : w.cell? ⟨b, o, none⟩ = some (.int .i64 a)) (e : a = c) (hb : I64 c) : IntEl w b o c := by subst e; exact ⟨h, hb⟩
theorem str_el {w : World} {b o : Nat} {a c : ByteArray} (h : w.cell? ⟨b, o, none⟩ = some (.string a)) (e : a = c) (hb : c.size ≤ maxLen) : StrEl w b o c := by subst e; exact ⟨h, hb⟩
theorem bool_el {w : World} {b o : Nat} {a c : Bool} (h : w.cell? ⟨b, o, none⟩ = some (.bool a)) (e : a = c) : BoolEl w b o c := by subst e; exact h
theorem RowOwn.set {α : Type} {n : Nat} {E : OwnRd α} (hE : Loc n E) (hZ : Sized E) {w : World} {v : Value} {l : List α} {F : List Nat} (h : RowOwn n E w v l F) {g : Nat} (o : Nat) (u : Value) (hg : g ∉ F) : RowOwn n E (w.setCell ⟨g, o, none⟩ u) v l F :=
  h.loc hE (by simp [World.setCell]) fun k hk => by rw [Below.heap_setCell _ _ _ _ (fun e => hg (by rw [show g = k from e.symm]; exact hk))]
def TokOwn : OwnRd Tok_ := Flat TokEl
theorem TokOwn.loc : Loc 4 TokOwn := fun w w' b o x F hs hc hF ⟨h, h0, h1, h2, h3⟩ => ⟨h, int_loc (d := 0) (hc 0 (by omega)) h0, int_loc (d := 1) (hc 1 (by omega)) h1, str_loc (d := 2) (hc 2 (by omega)) h2, int_loc (d := 3) (hc 3 (by omega)) h3⟩
theorem TokOwn.sized : Sized TokOwn := Flat.sized _
theorem TokOwn.reads : OwnReads TokOwn TokEl := Flat.reads _
def TyIOwn : OwnRd TyI := Flat TyIEl
theorem TyIOwn.loc : Loc 3 TyIOwn := fun w w' b o x F hs hc hF ⟨h, h0, h1, h2⟩ => ⟨h, int_loc (d := 0) (hc 0 (by omega)) h0, str_loc (d := 1) (hc 1 (by omega)) h1, int_loc (d := 2) (hc 2 (by omega)) h2⟩
theorem TyIOwn.sized : Sized TyIOwn := Flat.sized _
theorem TyIOwn.reads : OwnReads TyIOwn TyIEl := Flat.reads _
def TyOwn : OwnRd (List TyI) := RowElOwn 3 TyIOwn
theorem TyOwn.loc : Loc 1 TyOwn := RowElOwn.loc TyIOwn.loc
theorem TyOwn.sized : Sized TyOwn := RowElOwn.sized TyIOwn.sized
theorem TyOwn.reads : OwnReads TyOwn TyEl := RowElOwn.reads TyIOwn.reads
def PNOwn : OwnRd PN := fun w b o x F => ∃ F3, F = F3 ∧ IntEl w b o x.kind ∧ IntEl w b (o + 1) x.n ∧ StrEl w b (o + 2) x.s ∧ RowElOwn 1 (Flat IntEl) w b (o + 3) x.kids F3
theorem PNOwn.loc : Loc 4 PNOwn := fun w w' b o x F hs hc hF ⟨F3, e, h0, h1, h2, h3⟩ => by
  subst e
  exact ⟨_, rfl, int_loc (d := 0) (hc 0 (by omega)) h0, int_loc (d := 1) (hc 1 (by omega)) h1, str_loc (d := 2) (hc 2 (by omega)) h2, (RowElOwn.loc IntFlat.loc) w w' b (o + 3) _ _ hs (one_hc (hc 3 (by omega))) (fun k hk => hF k (hk)) h3⟩
theorem PNOwn.sized : Sized PNOwn := fun w b o x F ⟨F3, e, h0, h1, h2, h3⟩ k hk => by
  subst e
  exact (RowElOwn.sized (Flat.sized IntEl)) w b _ _ _ h3 k hk
theorem PNOwn.reads : OwnReads PNOwn PNEl := fun w b o x F ⟨F3, e, h0, h1, h2, h3⟩ => ⟨h0, h1, h2, (RowElOwn.reads (Flat.reads IntEl)) w b _ _ _ h3⟩
def PatOwn : OwnRd (List PN) := RowElOwn 4 PNOwn
theorem PatOwn.loc : Loc 1 PatOwn := RowElOwn.loc PNOwn.loc
theorem PatOwn.sized : Sized PatOwn := RowElOwn.sized PNOwn.sized
theorem PatOwn.reads : OwnReads PatOwn PatEl := RowElOwn.reads PNOwn.reads
def CnOwn : OwnRd Cn := fun w b o x F => ∃ F2, F = F2 ∧ StrEl w b o x.name ∧ BoolEl w b (o + 1) x.has ∧ TyOwn w b (o + 2) x.arg F2
theorem CnOwn.loc : Loc 3 CnOwn := fun w w' b o x F hs hc hF ⟨F2, e, h0, h1, h2⟩ => by
  subst e
  exact ⟨_, rfl, str_loc (d := 0) (hc 0 (by omega)) h0, bool_loc (d := 1) (hc 1 (by omega)) h1, TyOwn.loc w w' b (o + 2) _ _ hs (one_hc (hc 2 (by omega))) (fun k hk => hF k (hk)) h2⟩
theorem CnOwn.sized : Sized CnOwn := fun w b o x F ⟨F2, e, h0, h1, h2⟩ k hk => by
  subst e
  exact TyOwn.sized w b _ _ _ h2 k hk
theorem CnOwn.reads : OwnReads CnOwn CnEl := fun w b o x F ⟨F2, e, h0, h1, h2⟩ => ⟨h0, h1, TyOwn.reads w b _ _ _ h2⟩
def TpOwn : OwnRd Tp := fun w b o x F => ∃ F2, F = F2 ∧ StrEl w b o x.name ∧ IntEl w b (o + 1) x.params ∧ RowElOwn 3 CnOwn w b (o + 2) x.cons F2
theorem TpOwn.loc : Loc 3 TpOwn := fun w w' b o x F hs hc hF ⟨F2, e, h0, h1, h2⟩ => by
  subst e
  exact ⟨_, rfl, str_loc (d := 0) (hc 0 (by omega)) h0, int_loc (d := 1) (hc 1 (by omega)) h1, (RowElOwn.loc CnOwn.loc) w w' b (o + 2) _ _ hs (one_hc (hc 2 (by omega))) (fun k hk => hF k (hk)) h2⟩
theorem TpOwn.sized : Sized TpOwn := fun w b o x F ⟨F2, e, h0, h1, h2⟩ k hk => by
  subst e
  exact (RowElOwn.sized CnOwn.sized) w b _ _ _ h2 k hk
theorem TpOwn.reads : OwnReads TpOwn TpEl := fun w b o x F ⟨F2, e, h0, h1, h2⟩ => ⟨h0, h1, (RowElOwn.reads CnOwn.reads) w b _ _ _ h2⟩
def NdOwn : OwnRd Nd := fun w b o x F => ∃ F4 F5, F = F4 ++ F5 ∧ IntEl w b o x.kind ∧ IntEl w b (o + 1) x.at_ ∧ IntEl w b (o + 2) x.n ∧ StrEl w b (o + 3) x.s ∧ RowElOwn 1 (Flat IntEl) w b (o + 4) x.kids F4 ∧ RowElOwn 1 PatOwn w b (o + 5) x.pats F5
theorem NdOwn.loc : Loc 6 NdOwn := fun w w' b o x F hs hc hF ⟨F4, F5, e, h0, h1, h2, h3, h4, h5⟩ => by
  subst e
  exact ⟨_, _, rfl, int_loc (d := 0) (hc 0 (by omega)) h0, int_loc (d := 1) (hc 1 (by omega)) h1, int_loc (d := 2) (hc 2 (by omega)) h2, str_loc (d := 3) (hc 3 (by omega)) h3, (RowElOwn.loc IntFlat.loc) w w' b (o + 4) _ _ hs (one_hc (hc 4 (by omega))) (fun k hk => hF k (List.mem_append_left _ hk)) h4, (RowElOwn.loc PatOwn.loc) w w' b (o + 5) _ _ hs (one_hc (hc 5 (by omega))) (fun k hk => hF k (List.mem_append_right _ hk)) h5⟩
theorem NdOwn.sized : Sized NdOwn := fun w b o x F ⟨F4, F5, e, h0, h1, h2, h3, h4, h5⟩ k hk => by
  subst e
  exact (List.mem_append.1 hk).elim (fun hk => (RowElOwn.sized (Flat.sized IntEl)) w b _ _ _ h4 k hk) (fun hk => (RowElOwn.sized PatOwn.sized) w b _ _ _ h5 k hk)
theorem NdOwn.reads : OwnReads NdOwn NdEl := fun w b o x F ⟨F4, F5, e, h0, h1, h2, h3, h4, h5⟩ => ⟨h0, h1, h2, h3, (RowElOwn.reads (Flat.reads IntEl)) w b _ _ _ h4, (RowElOwn.reads PatOwn.reads) w b _ _ _ h5⟩
def PgOwn : OwnRd Pg := fun w b o x F => ∃ F0 F1, F = F0 ++ F1 ∧ RowElOwn 3 TpOwn w b o x.types F0 ∧ RowElOwn 6 NdOwn w b (o + 1) x.nodes F1
theorem PgOwn.loc : Loc 2 PgOwn := fun w w' b o x F hs hc hF ⟨F0, F1, e, h0, h1⟩ => by
  subst e
  exact ⟨_, _, rfl, (RowElOwn.loc TpOwn.loc) w w' b (o + 0) _ _ hs (one_hc (hc 0 (by omega))) (fun k hk => hF k (List.mem_append_left _ hk)) h0, (RowElOwn.loc NdOwn.loc) w w' b (o + 1) _ _ hs (one_hc (hc 1 (by omega))) (fun k hk => hF k (List.mem_append_right _ hk)) h1⟩
theorem PgOwn.sized : Sized PgOwn := fun w b o x F ⟨F0, F1, e, h0, h1⟩ k hk => by
  subst e
  exact (List.mem_append.1 hk).elim (fun hk => (RowElOwn.sized TpOwn.sized) w b _ _ _ h0 k hk) (fun hk => (RowElOwn.sized NdOwn.sized) w b _ _ _ h1 k hk)
theorem PgOwn.reads : OwnReads PgOwn PgEl := fun w b o x F ⟨F0, F1, e, h0, h1⟩ => ⟨(RowElOwn.reads TpOwn.reads) w b _ _ _ h0, (RowElOwn.reads NdOwn.reads) w b _ _ _ h1⟩
def SbOwn : OwnRd Sb := fun w b o x F => ∃ F1, F = F1 ∧ IntEl w b o x.var ∧ TyOwn w b (o + 1) x.ty F1
theorem SbOwn.loc : Loc 2 SbOwn := fun w w' b o x F hs hc hF ⟨F1, e, h0, h1⟩ => by
  subst e
  exact ⟨_, rfl, int_loc (d := 0) (hc 0 (by omega)) h0, TyOwn.loc w w' b (o + 1) _ _ hs (one_hc (hc 1 (by omega))) (fun k hk => hF k (hk)) h1⟩
theorem SbOwn.sized : Sized SbOwn := fun w b o x F ⟨F1, e, h0, h1⟩ k hk => by
  subst e
  exact TyOwn.sized w b _ _ _ h1 k hk
theorem SbOwn.reads : OwnReads SbOwn SbEl := fun w b o x F ⟨F1, e, h0, h1⟩ => ⟨h0, TyOwn.reads w b _ _ _ h1⟩
def DNOwn : OwnRd DN := fun w b o x F => ∃ F3, F = F3 ∧ IntEl w b o x.kind ∧ IntEl w b (o + 1) x.n ∧ StrEl w b (o + 2) x.s ∧ RowElOwn 1 (Flat IntEl) w b (o + 3) x.kids F3
theorem DNOwn.loc : Loc 4 DNOwn := fun w w' b o x F hs hc hF ⟨F3, e, h0, h1, h2, h3⟩ => by
  subst e
  exact ⟨_, rfl, int_loc (d := 0) (hc 0 (by omega)) h0, int_loc (d := 1) (hc 1 (by omega)) h1, str_loc (d := 2) (hc 2 (by omega)) h2, (RowElOwn.loc IntFlat.loc) w w' b (o + 3) _ _ hs (one_hc (hc 3 (by omega))) (fun k hk => hF k (hk)) h3⟩
theorem DNOwn.sized : Sized DNOwn := fun w b o x F ⟨F3, e, h0, h1, h2, h3⟩ k hk => by
  subst e
  exact (RowElOwn.sized (Flat.sized IntEl)) w b _ _ _ h3 k hk
theorem DNOwn.reads : OwnReads DNOwn DNEl := fun w b o x F ⟨F3, e, h0, h1, h2, h3⟩ => ⟨h0, h1, h2, (RowElOwn.reads (Flat.reads IntEl)) w b _ _ _ h3⟩
def DataOwn : OwnRd (List DN) := RowElOwn 4 DNOwn
theorem DataOwn.loc : Loc 1 DataOwn := RowElOwn.loc DNOwn.loc
theorem DataOwn.sized : Sized DataOwn := RowElOwn.sized DNOwn.sized
theorem DataOwn.reads : OwnReads DataOwn DataEl := RowElOwn.reads DNOwn.reads
def OcOwn : OwnRd Oc := fun w b o x F => ∃ F2, F = F2 ∧ IntEl w b o x.kind ∧ IntEl w b (o + 1) x.n ∧ RowElOwn 1 (Flat StrEl) w b (o + 2) x.trace F2 ∧ IntEl w b (o + 3) x.steps
theorem OcOwn.loc : Loc 4 OcOwn := fun w w' b o x F hs hc hF ⟨F2, e, h0, h1, h2, h3⟩ => by
  subst e
  exact ⟨_, rfl, int_loc (d := 0) (hc 0 (by omega)) h0, int_loc (d := 1) (hc 1 (by omega)) h1, (RowElOwn.loc StrFlat.loc) w w' b (o + 2) _ _ hs (one_hc (hc 2 (by omega))) (fun k hk => hF k (hk)) h2, int_loc (d := 3) (hc 3 (by omega)) h3⟩
theorem OcOwn.sized : Sized OcOwn := fun w b o x F ⟨F2, e, h0, h1, h2, h3⟩ k hk => by
  subst e
  exact (RowElOwn.sized (Flat.sized StrEl)) w b _ _ _ h2 k hk
theorem OcOwn.reads : OwnReads OcOwn OcEl := fun w b o x F ⟨F2, e, h0, h1, h2, h3⟩ => ⟨h0, h1, (RowElOwn.reads (Flat.reads StrEl)) w b _ _ _ h2, h3⟩
def InsOwn : OwnRd Ins_ := Flat InsEl
theorem InsOwn.loc : Loc 4 InsOwn := fun w w' b o x F hs hc hF ⟨h, h0, h1, h2, h3⟩ => ⟨h, int_loc (d := 0) (hc 0 (by omega)) h0, int_loc (d := 1) (hc 1 (by omega)) h1, int_loc (d := 2) (hc 2 (by omega)) h2, str_loc (d := 3) (hc 3 (by omega)) h3⟩
theorem InsOwn.sized : Sized InsOwn := Flat.sized _
theorem InsOwn.reads : OwnReads InsOwn InsEl := Flat.reads _
def CdOwn : OwnRd Cd := fun w b o x F => ∃ F0 F1, F = F0 ++ F1 ∧ RowElOwn 4 InsOwn w b o x.ins F0 ∧ RowElOwn 1 PatOwn w b (o + 1) x.pats F1
theorem CdOwn.loc : Loc 2 CdOwn := fun w w' b o x F hs hc hF ⟨F0, F1, e, h0, h1⟩ => by
  subst e
  exact ⟨_, _, rfl, (RowElOwn.loc InsOwn.loc) w w' b (o + 0) _ _ hs (one_hc (hc 0 (by omega))) (fun k hk => hF k (List.mem_append_left _ hk)) h0, (RowElOwn.loc PatOwn.loc) w w' b (o + 1) _ _ hs (one_hc (hc 1 (by omega))) (fun k hk => hF k (List.mem_append_right _ hk)) h1⟩
theorem CdOwn.sized : Sized CdOwn := fun w b o x F ⟨F0, F1, e, h0, h1⟩ k hk => by
  subst e
  exact (List.mem_append.1 hk).elim (fun hk => (RowElOwn.sized InsOwn.sized) w b _ _ _ h0 k hk) (fun hk => (RowElOwn.sized PatOwn.sized) w b _ _ _ h1 k hk)
theorem CdOwn.reads : OwnReads CdOwn CdEl := fun w b o x F ⟨F0, F1, e, h0, h1⟩ => ⟨(RowElOwn.reads InsOwn.reads) w b _ _ _ h0, (RowElOwn.reads PatOwn.reads) w b _ _ _ h1⟩
def VlOwn : OwnRd Vl := Flat VlEl
theorem VlOwn.loc : Loc 3 VlOwn := fun w w' b o x F hs hc hF ⟨h, h0, h1, h2⟩ => ⟨h, int_loc (d := 0) (hc 0 (by omega)) h0, int_loc (d := 1) (hc 1 (by omega)) h1, str_loc (d := 2) (hc 2 (by omega)) h2⟩
theorem VlOwn.sized : Sized VlOwn := Flat.sized _
theorem VlOwn.reads : OwnReads VlOwn VlEl := Flat.reads _
def CeOwn : OwnRd Ce := Flat CeEl
theorem CeOwn.loc : Loc 9 CeOwn := fun w w' b o x F hs hc hF ⟨h, h0, h1, h2, h3, h6⟩ => ⟨h, int_loc (d := 0) (hc 0 (by omega)) h0, int_loc (d := 1) (hc 1 (by omega)) h1, str_loc (d := 2) (hc 2 (by omega)) h2, (VlOwn.loc w w' b (o + 3) x.a [] hs (fun j hj => by have := hc (3 + j) (by omega); rwa [← Nat.add_assoc] at this) (by simp) ⟨rfl, h3⟩).2, (VlOwn.loc w w' b (o + 6) x.b [] hs (fun j hj => by have := hc (6 + j) (by omega); rwa [← Nat.add_assoc] at this) (by simp) ⟨rfl, h6⟩).2⟩
theorem CeOwn.sized : Sized CeOwn := Flat.sized _
theorem CeOwn.reads : OwnReads CeOwn CeEl := Flat.reads _
def AkOwn : OwnRd Ak := fun w b o x F => ∃ F1, F = F1 ∧ IntEl w b o x.arm ∧ RowElOwn 1 (Flat IntEl) w b (o + 1) x.path F1 ∧ IntEl w b (o + 2) x.kind ∧ IntEl w b (o + 3) x.n ∧ StrEl w b (o + 4) x.s ∧ BoolEl w b (o + 5) x.has ∧ IntEl w b (o + 6) x.yes ∧ IntEl w b (o + 7) x.no
theorem AkOwn.loc : Loc 8 AkOwn := fun w w' b o x F hs hc hF ⟨F1, e, h0, h1, h2, h3, h4, h5, h6, h7⟩ => by
  subst e
  exact ⟨_, rfl, int_loc (d := 0) (hc 0 (by omega)) h0, (RowElOwn.loc IntFlat.loc) w w' b (o + 1) _ _ hs (one_hc (hc 1 (by omega))) (fun k hk => hF k (hk)) h1, int_loc (d := 2) (hc 2 (by omega)) h2, int_loc (d := 3) (hc 3 (by omega)) h3, str_loc (d := 4) (hc 4 (by omega)) h4, bool_loc (d := 5) (hc 5 (by omega)) h5, int_loc (d := 6) (hc 6 (by omega)) h6, int_loc (d := 7) (hc 7 (by omega)) h7⟩
theorem AkOwn.sized : Sized AkOwn := fun w b o x F ⟨F1, e, h0, h1, h2, h3, h4, h5, h6, h7⟩ k hk => by
  subst e
  exact (RowElOwn.sized (Flat.sized IntEl)) w b _ _ _ h1 k hk
theorem AkOwn.reads : OwnReads AkOwn AkEl := fun w b o x F ⟨F1, e, h0, h1, h2, h3, h4, h5, h6, h7⟩ => ⟨h0, (RowElOwn.reads (Flat.reads IntEl)) w b _ _ _ h1, h2, h3, h4, h5, h6, h7⟩
def AsksOwn : OwnRd (List Ak) := RowElOwn 8 AkOwn
theorem AsksOwn.loc : Loc 1 AsksOwn := RowElOwn.loc AkOwn.loc
theorem AsksOwn.sized : Sized AsksOwn := RowElOwn.sized AkOwn.sized
theorem AsksOwn.reads : OwnReads AsksOwn AsksEl := RowElOwn.reads AkOwn.reads
def PoOwn : OwnRd Po := fun w b o x F => ∃ F0 F1, F = F0 ++ F1 ∧ RowElOwn 9 CeOwn w b o x.cells F0 ∧ RowElOwn 1 (Flat IntEl) w b (o + 1) x.free F1
theorem PoOwn.loc : Loc 2 PoOwn := fun w w' b o x F hs hc hF ⟨F0, F1, e, h0, h1⟩ => by
  subst e
  exact ⟨_, _, rfl, (RowElOwn.loc CeOwn.loc) w w' b (o + 0) _ _ hs (one_hc (hc 0 (by omega))) (fun k hk => hF k (List.mem_append_left _ hk)) h0, (RowElOwn.loc IntFlat.loc) w w' b (o + 1) _ _ hs (one_hc (hc 1 (by omega))) (fun k hk => hF k (List.mem_append_right _ hk)) h1⟩
theorem PoOwn.sized : Sized PoOwn := fun w b o x F ⟨F0, F1, e, h0, h1⟩ k hk => by
  subst e
  exact (List.mem_append.1 hk).elim (fun hk => (RowElOwn.sized CeOwn.sized) w b _ _ _ h0 k hk) (fun hk => (RowElOwn.sized (Flat.sized IntEl)) w b _ _ _ h1 k hk)
theorem PoOwn.reads : OwnReads PoOwn PoEl := fun w b o x F ⟨F0, F1, e, h0, h1⟩ => ⟨(RowElOwn.reads CeOwn.reads) w b _ _ _ h0, (RowElOwn.reads (Flat.reads IntEl)) w b _ _ _ h1⟩
def CsOwn : OwnRd Cs := fun w b o x F => ∃ F1 F2 F3, F = F1 ++ (F2 ++ F3) ∧ StrEl w b o x.name ∧ RowElOwn 1 (Flat StrEl) w b (o + 1) x.lines F1 ∧ RowElOwn 1 (Flat IntEl) w b (o + 2) x.inputs F2 ∧ RowElOwn 1 (Flat StrEl) w b (o + 3) x.want F3
theorem CsOwn.loc : Loc 4 CsOwn := fun w w' b o x F hs hc hF ⟨F1, F2, F3, e, h0, h1, h2, h3⟩ => by
  subst e
  exact ⟨_, _, _, rfl, str_loc (d := 0) (hc 0 (by omega)) h0, (RowElOwn.loc StrFlat.loc) w w' b (o + 1) _ _ hs (one_hc (hc 1 (by omega))) (fun k hk => hF k (List.mem_append_left _ hk)) h1, (RowElOwn.loc IntFlat.loc) w w' b (o + 2) _ _ hs (one_hc (hc 2 (by omega))) (fun k hk => hF k (List.mem_append_right _ (List.mem_append_left _ hk))) h2, (RowElOwn.loc StrFlat.loc) w w' b (o + 3) _ _ hs (one_hc (hc 3 (by omega))) (fun k hk => hF k (List.mem_append_right _ (List.mem_append_right _ hk))) h3⟩
theorem CsOwn.sized : Sized CsOwn := fun w b o x F ⟨F1, F2, F3, e, h0, h1, h2, h3⟩ k hk => by
  subst e
  exact (List.mem_append.1 hk).elim (fun hk => (RowElOwn.sized (Flat.sized StrEl)) w b _ _ _ h1 k hk) (fun hk => (List.mem_append.1 hk).elim (fun hk => (RowElOwn.sized (Flat.sized IntEl)) w b _ _ _ h2 k hk) (fun hk => (RowElOwn.sized (Flat.sized StrEl)) w b _ _ _ h3 k hk))
theorem CsOwn.reads : OwnReads CsOwn CsEl := fun w b o x F ⟨F1, F2, F3, e, h0, h1, h2, h3⟩ => ⟨h0, (RowElOwn.reads (Flat.reads StrEl)) w b _ _ _ h1, (RowElOwn.reads (Flat.reads IntEl)) w b _ _ _ h2, (RowElOwn.reads (Flat.reads StrEl)) w b _ _ _ h3⟩
def TaOwn : OwnRd Ta := fun w b o x F => ∃ F0 F1, F = F0 ++ F1 ∧ RowElOwn 1 (Flat StrEl) w b o x.types F0 ∧ RowElOwn 1 (Flat StrEl) w b (o + 1) x.defs F1
theorem TaOwn.loc : Loc 2 TaOwn := fun w w' b o x F hs hc hF ⟨F0, F1, e, h0, h1⟩ => by
  subst e
  exact ⟨_, _, rfl, (RowElOwn.loc StrFlat.loc) w w' b (o + 0) _ _ hs (one_hc (hc 0 (by omega))) (fun k hk => hF k (List.mem_append_left _ hk)) h0, (RowElOwn.loc StrFlat.loc) w w' b (o + 1) _ _ hs (one_hc (hc 1 (by omega))) (fun k hk => hF k (List.mem_append_right _ hk)) h1⟩
theorem TaOwn.sized : Sized TaOwn := fun w b o x F ⟨F0, F1, e, h0, h1⟩ k hk => by
  subst e
  exact (List.mem_append.1 hk).elim (fun hk => (RowElOwn.sized (Flat.sized StrEl)) w b _ _ _ h0 k hk) (fun hk => (RowElOwn.sized (Flat.sized StrEl)) w b _ _ _ h1 k hk)
theorem TaOwn.reads : OwnReads TaOwn TaEl := fun w b o x F ⟨F0, F1, e, h0, h1⟩ => ⟨(RowElOwn.reads (Flat.reads StrEl)) w b _ _ _ h0, (RowElOwn.reads (Flat.reads StrEl)) w b _ _ _ h1⟩
end Go.Proofs.Ytpgefkdojplamaa
