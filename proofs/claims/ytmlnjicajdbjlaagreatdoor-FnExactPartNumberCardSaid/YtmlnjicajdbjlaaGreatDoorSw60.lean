import Derived.Test.YtmlnjicajdbjlaaGreatDoorSw53
set_option linter.unusedVariables false
set_option linter.unusedSimpArgs false
namespace Go.Sw
open Go Go.RowKit Go.ChangeShapes Go.WideShapes Go.ChangeAt
section
variable {H : Type} {enc : TypeId × Value → H} {P : Program} {w w' : World}
theorem vars_again (hl:laidOutB P=true)(hm:mapsRowed P=true)(hz:((List.range P.types.size).all fun t=>match P.underlying t with | some (.slice e)=>decide (0<P.cellsOf e) | _=>true)=true)
    {sp:Nat→Bool} (hx:Ext w w'):∀ (ns:List String) (gs:List (DataW H)) (q:List MemPlace),DataW.TrodVars enc P w (fun _=>true) ns gs q→(∀ n∈ns,∀ g t,P.globalNamed n=some g→(P.globals[g]?).map (·.type)=some t→t<P.types.size)→
    (∀ p∈q,p.block<w.heap.size)→(∀ p∈q,sp p.block=true)→DataW.TrodVars enc P w' sp ns gs q
  | [],[],q,h,_,_,_=>h
  | [],_::_,q,h,_,_,_=>h.elim
  | _::_,[],q,h,_,_,_=>h.elim
  | n :: ns, d :: ds, q, h, hT, hlt, hsp => by
    obtain ⟨g,t,cs,fuel,p,q2,h1,h2,h3,h4,h5,rfl⟩:=h
    refine ⟨g,t,cs,fuel,p,q2,h1,h2,var_ext h1 h3 hx,DataW.trod_carry fuel _ _ _ (DataW.trod_respare (kids_rows hl hm) (fun t e ht hu=>slices_full_of P hz t e ht hu) fuel t cs.toList (d,p) (hT n (List.mem_cons_self ..) g t h1 h2) h4 (fun y hy=>hsp y (List.mem_append_left _ (List.mem_append_right _ hy)))) (fun y hy=>sameAt_ext hx (hlt y (List.mem_append_left _ (List.mem_append_right _ hy)))),?_,rfl⟩
    exact vars_again hl hm hz hx ns ds q2 h5 (fun m hm2=>hT m (List.mem_cons_of_mem _ hm2)) (fun y hy=>hlt y (List.mem_append_right _ hy)) (fun y hy=>hsp y (List.mem_append_right _ hy))
theorem vars_two {n1 n2:String}{gs:List (DataW H)}{q:List MemPlace}{sp:Nat→Bool}(h:DataW.TrodVars enc P w sp [n1,n2] gs q):∃ g1 g2,gs=[g1,g2]:=by
  rcases gs with _ | ⟨a,_ | ⟨b,_ | ⟨c,r⟩⟩⟩
  · exact h.elim
  · obtain ⟨_,_,_,_,_,_,_,_,_,_,h5,_⟩:=h;exact h5.elim
  · exact ⟨a,b,rfl⟩
  · obtain ⟨_,_,_,_,_,_,_,_,_,_,h5,_⟩:=h
    obtain ⟨_,_,_,_,_,_,_,_,_,_,h6,_⟩:=h5;exact h6.elim
theorem laid_tail {x:String×DataW Unit}{r:List (String×DataW Unit)}(h:laidMet P (x::r) w):laidMet P r w:=by
  obtain ⟨ps,⟨g0,t0,cs0,f0,p0,q0,hg0,ht0,hv0,hd0,hr,e0⟩,hnd,hrows⟩:=h;subst e0;exact ⟨q0,hr,(List.nodup_append.1 hnd).2.1,fun b off hm=>hrows b off (List.mem_append_right _ hm)⟩
end
end Go.Sw
